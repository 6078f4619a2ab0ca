/- What the package of tables of two levels does at the end: all its frames given back; and a table that is gone: contracts, for any table in any frames of bytes, in any world. -/
import Derived.Test.YtpjmcdlkockbdaaTbG
import Derived.StillTailTactics
namespace Go.Proofs.Ytpjmcdlkockbdaa
open Go.RowKit Go.Shelf
set_option linter.unusedVariables false
set_option maxRecDepth 100000
attribute [local go_sem] Oper.semAt_some
/-- frames given back, each of which was had once -/
def giv (rs : List Int) (l : List Nat) : List Int := l.foldl (fun r x => r.set x 0) rs
theorem giv_push (rs : List Int) (l : List Nat) (x : Nat) : giv rs (l ++ [x]) = (giv rs l).set x 0 := by simp [giv]
theorem giv_len (rs : List Int) (l : List Nat) : (giv rs l).length = rs.length := by
  induction l generalizing rs with
  | nil => rfl
  | cons x l ih => show (giv (rs.set x 0) l).length = _; rw [ih]; simp
theorem giv_get (rs : List Int) (l : List Nat) (j : Nat) : (giv rs l).getD j 0 = if j ∈ l then 0 else rs.getD j 0 := by
  induction l generalizing rs with
  | nil => simp [giv]
  | cons x l ih =>
    show (giv (rs.set x 0) l).getD j 0 = _
    rw [ih]
    by_cases c : j ∈ l
    · rw [if_pos c, if_pos (List.mem_cons_of_mem _ c)]
    · rw [if_neg c]
      by_cases d : j = x
      · subst d
        rw [if_pos (List.mem_cons_self)]
        by_cases e : j < rs.length
        · rw [getD_set _ _ _ _ e, if_pos rfl]
        · exact getD_out _ _ (by simp; omega)
      · rw [if_neg (by simp [d, c])]
        by_cases e : x < rs.length
        · rw [getD_set _ _ _ _ e, if_neg d]
        · rw [List.set_eq_of_length_le (by omega)]
theorem giv_same (rs : List Int) {l m : List Nat} (h : ∀ j, j ∈ l ↔ j ∈ m) : giv rs l = giv rs m := by
  apply ext_getD (by rw [giv_len, giv_len])
  intro j _
  rw [giv_get, giv_get]
  by_cases c : j ∈ l
  · rw [if_pos c, if_pos ((h j).1 c)]
  · rw [if_neg c, if_neg (fun d => c ((h j).2 d))]
theorem ups_pre {bs : List Int} {t k : Nat} {pre : List (Nat × Nat)} {x : Nat × Nat} (h : pre ++ [x] <+: ups bs t k) : pre = ups bs t x.1 ∧ x ∈ ups bs t k := by
  refine ⟨?_, h.subset (by simp)⟩
  induction k with
  | zero => have := h.length_le; simp [ups] at this
  | succ k ih =>
    by_cases d : nm bs t k = 0
    · rw [ups_skip d] at h; exact ih h
    · rw [ups_push d] at h
      rcases List.prefix_concat_iff.1 h with e | e
      · obtain ⟨e1, e2⟩ := List.append_inj' e rfl
        simp at e2
        subst e2
        exact e1
      · exact ih e
/-- all frames of a table -/
def own (bs : List Int) (t : Nat) : List Nat := (ups bs t 64).map (·.2) ++ [t]
section
variable {w : World} {tb fb rb mb qb t many n : Nat} {rs bs : List Int} {v : Value}
theorem Fr.cel {B : Nat} {W W' : World} (h : Fr W fb rb rs) (k : Cel B W W') : Fr W' fb rb rs := ⟨h.1, h.2.1, Box.cel h.boxes.1 k, Box.cel h.boxes.2 k⟩
theorem Ph.cel {B : Nat} {W W' : World} (h : Ph W mb qb many bs) (k : Cel B W W') : Ph W' mb qb many bs := ⟨h.1, h.2.1, h.2.2.1, h.2.2.2.1, h.2.2.2.2.1, Box.cel h.boxes.1 k, Box.cel h.boxes.2 k⟩
theorem tpages_gone (h : Gone w v) : Calls Try.prog 16 #[v] w (Said (.slice none 0 0) w) := by
  refine (callsIn_wide (n := 3)).1 ?_
  obtain ⟨p, rfl⟩ : ∃ p, v = .pointer p := by
    rcases h with rfl | ⟨tb, rfl, _⟩
    · exact ⟨_, rfl⟩
    · exact ⟨_, rfl⟩
  have hmf : ∀ (fn : Fn) (first cap : Array Value) (w : World), (Instr.makeFunc fn first cap).run Try.prog w = .ok (.func fn first cap) w := fun _ _ _ _ => rfl
  have nn : New w ((w.alloc (.cells #[.pointer p] 32)).alloc (.cells #[.slice none 0 0] 22)) := ((New.refl w).alloc _ _).alloc _ _
  have HI := Lib.hid (uppers_gone (h.new nn) w.heap.size w.heap.size)
  refine callsIn_of_wp_marks Try.func16 rfl trivial ?_ rfl
  simp only [Try.ntmps16, List.size_toArray, List.length_cons, List.length_nil, Nat.reduceAdd, Nat.reduceSub, Array.replicate_succ, Array.replicate_zero, List.push_toArray, List.append_toArray, List.nil_append, List.cons_append]
  gi_wp2
  refine range_all (gf := 24) (fs := #[.pointer p]) rfl (enters_of Try.func24 (by kernel_rfl) rfl) HI.out (by simp; omega) (fun _ => rfl)
    (fun pre W => Box W (w.heap.size + 1) #[.slice none 0 0] 22 ∧ New w W)
    (fun pre W W' hi hc => ⟨hi.1.cel hc, hi.2.cel hc (by simp; omega)⟩) ⟨Box.here _ _ _ _ (by simp), nn⟩
    (fun x => { tmps := #[.pointer p, .pointer (some ⟨w.heap.size, 0, none⟩), .slice none 0 0, .pointer (some ⟨w.heap.size + 1, 0, none⟩), .int .i64 x.1, .int .i64 x.2, undef, undef, undef, .pointer p, .func (.func 24) #[.pointer p] #[], .int .i64 x.1, .int .i64 x.2,
      undef, undef, undef, undef, undef, undef, undef, undef, undef, undef, undef, undef, undef, undef, undef, undef, undef, undef, undef, undef], defers := [] }) ?assign ?body ?done
  case assign =>
    intro l x W K hK
    gi_wp2
    simpa using hK
  case body =>
    rintro l pre x W hI hx hz
    have := hx.length_le
    simp at this
  case done =>
    rintro D W hD ⟨hb, hw⟩ hK
    have hc := hb.one
    gi_wp2
    refine ⟨by simp, .inl ⟨_, _, rfl, run_takeDeferred hK, ?_⟩⟩
    exact ⟨.slice none 0 0, by simp [results, Try.results16, go_sem], rfl, hw.cel (Cel.put (B := w.heap.size) _ (by simp at hD; omega) hK rfl) (Nat.le_refl _)⟩
/-- what Free leaves -/
def Freed (tb fb rb mb qb many : Nat) (rs bs : List Int) (w : World) (e : Ending) (w' : World) : Prop := e = .returned (.tuple #[]) ∧ Tb0 w' tb ∧ Fr w' fb rb rs ∧ Ph w' mb qb many bs ∧ But (fun k => k = rb ∨ k = tb) w w'
/-- between two rounds of Free -/
def Giv (w : World) (tb fb rb mb qb t many : Nat) (rs bs : List Int) (W : World) : Prop :=
  Fr W fb rb rs ∧ Tb W tb fb mb t ∧ Ph W mb qb many bs ∧ Box W w.heap.size #[.pointer (some ⟨tb, 0, none⟩)] 32 ∧ But (fun k => k = rb) w W
end
end Go.Proofs.Ytpjmcdlkockbdaa
