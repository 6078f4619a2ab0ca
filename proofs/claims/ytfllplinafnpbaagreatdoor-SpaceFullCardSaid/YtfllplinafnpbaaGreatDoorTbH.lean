/- What the package of tables of two levels does at the end: all its frames given back; and a table that is gone: contracts, for any table in any frames of bytes, in any world. -/
import Derived.Test.YtfllplinafnpbaaGreatDoorTbG
import Derived.StillTailTactics
namespace Go.Proofs.YtfllplinafnpbaaGreatDoor
open Go.RowKit Go.Shelf
set_option linter.unusedVariables false
set_option maxRecDepth 100000
attribute [local go_sem] Oper.semAt_some
/-- frames given back, each of which was had once -/
def giv (rs : List Int) (l : List Nat) : List Int := l.foldl (fun r x => r.set x 0) rs
theorem giv_push (rs : List Int) (l : List Nat) (x : Nat) : giv rs (l ++ [x]) = (giv rs l).set x 0 := by simp [giv]
theorem giv_len (rs : List Int) (l : List Nat) : (giv rs l).length = rs.length := by
  induction l generalizing rs with
  | nil => rfl
  | cons x l ih => show (giv (rs.set x 0) l).length = _; rw [ih]; simp
theorem giv_get (rs : List Int) (l : List Nat) (j : Nat) : (giv rs l).getD j 0 = if j ∈ l then 0 else rs.getD j 0 := by
  induction l generalizing rs with
  | nil => simp [giv]
  | cons x l ih =>
    show (giv (rs.set x 0) l).getD j 0 = _
    rw [ih]
    by_cases c : j ∈ l
    · rw [if_pos c, if_pos (List.mem_cons_of_mem _ c)]
    · rw [if_neg c]
      by_cases d : j = x
      · subst d
        rw [if_pos (List.mem_cons_self)]
        by_cases e : j < rs.length
        · rw [getD_set _ _ _ _ e, if_pos rfl]
        · exact getD_out _ _ (by simp; omega)
      · rw [if_neg (by simp [d, c])]
        by_cases e : x < rs.length
        · rw [getD_set _ _ _ _ e, if_neg d]
        · rw [List.set_eq_of_length_le (by omega)]
theorem giv_same (rs : List Int) {l m : List Nat} (h : ∀ j, j ∈ l ↔ j ∈ m) : giv rs l = giv rs m := by
  apply ext_getD (by rw [giv_len, giv_len])
  intro j _
  rw [giv_get, giv_get]
  by_cases c : j ∈ l
  · rw [if_pos c, if_pos ((h j).1 c)]
  · rw [if_neg c, if_neg (fun d => c ((h j).2 d))]
theorem ups_pre {bs : List Int} {t k : Nat} {pre : List (Nat × Nat)} {x : Nat × Nat} (h : pre ++ [x] <+: ups bs t k) : pre = ups bs t x.1 ∧ x ∈ ups bs t k := by
  refine ⟨?_, h.subset (by simp)⟩
  induction k with
  | zero => have := h.length_le; simp [ups] at this
  | succ k ih =>
    by_cases d : nm bs t k = 0
    · rw [ups_skip d] at h; exact ih h
    · rw [ups_push d] at h
      rcases List.prefix_concat_iff.1 h with e | e
      · obtain ⟨e1, e2⟩ := List.append_inj' e rfl
        simp at e2
        subst e2
        exact e1
      · exact ih e
/-- all frames of a table -/
def own (bs : List Int) (t : Nat) : List Nat := (ups bs t 64).map (·.2) ++ [t]
section
variable {w : World} {tb fb rb mb qb t many n : Nat} {rs bs : List Int} {v : Value}
theorem Fr.cel {B : Nat} {W W' : World} (h : Fr W fb rb rs) (k : Cel B W W') : Fr W' fb rb rs := ⟨h.1, h.2.1, Box.cel h.boxes.1 k, Box.cel h.boxes.2 k⟩
theorem Ph.cel {B : Nat} {W W' : World} (h : Ph W mb qb many bs) (k : Cel B W W') : Ph W' mb qb many bs := ⟨h.1, h.2.1, h.2.2.1, h.2.2.2.1, h.2.2.2.2.1, Box.cel h.boxes.1 k, Box.cel h.boxes.2 k⟩
theorem tfree_gone (h : Gone w v) : Calls Tryz.prog 34 #[v] w fun e w' => e = .returned (.tuple #[]) ∧ New w w' := by
  have X := fun W (k : New w W) => isgone_yes (h.new k)
  obtain ⟨p, rfl⟩ : ∃ p, v = .pointer p := by
    rcases h with rfl | ⟨tb, rfl, _⟩
    · exact ⟨_, rfl⟩
    · exact ⟨_, rfl⟩
  have n0 := (New.refl w).alloc #[.pointer p] 75
  have Y := X _ n0
  clear h X
  go_enter Tryz.func34, Tryz.ntmps34
  go_wp2_with (go_at_call 69; (with_reducible refine (Y).mono ?_); rintro e w' ⟨rfl, rfl⟩)
  refine bodyPost_ret (results_none rfl _ _ _) rfl ?_
  exact ⟨rfl, n0⟩
theorem tpages_gone (h : Gone w v) : Calls Tryz.prog 29 #[v] w (Said (.slice none 0 0) w) := by
  refine (callsIn_wide (n := 3)).1 ?_
  obtain ⟨p, rfl⟩ : ∃ p, v = .pointer p := by
    rcases h with rfl | ⟨tb, rfl, _⟩
    · exact ⟨_, rfl⟩
    · exact ⟨_, rfl⟩
  have hmf : ∀ (fn : Fn) (first cap : Array Value) (w : World), (Instr.makeFunc fn first cap).run Tryz.prog w = .ok (.func fn first cap) w := fun _ _ _ _ => rfl
  have nn : New w ((w.alloc (.cells #[.pointer p] 75)).alloc (.cells #[.slice none 0 0] 43)) := ((New.refl w).alloc _ _).alloc _ _
  have HI := Lib.hid (uppers_gone (h.new nn) w.heap.size w.heap.size)
  refine callsIn_of_wp_marks Tryz.func29 rfl trivial ?_ rfl
  simp only [Tryz.ntmps29, List.size_toArray, List.length_cons, List.length_nil, Nat.reduceAdd, Nat.reduceSub, Array.replicate_succ, Array.replicate_zero, List.push_toArray, List.append_toArray, List.nil_append, List.cons_append]
  gi_wp2
  refine range_all (gf := 63) (fs := #[.pointer p]) rfl (enters_of Tryz.func63 (by kernel_rfl) rfl) HI.out (by simp; omega) (fun _ => rfl)
    (fun pre W => Box W (w.heap.size + 1) #[.slice none 0 0] 43 ∧ New w W)
    (fun pre W W' hi hc => ⟨hi.1.cel hc, hi.2.cel hc (by simp; omega)⟩) ⟨Box.here _ _ _ _ (by simp), nn⟩
    (fun x => { tmps := #[.pointer p, .pointer (some ⟨w.heap.size, 0, none⟩), .slice none 0 0, .pointer (some ⟨w.heap.size + 1, 0, none⟩), .int .i64 x.1, .int .i64 x.2, undef, undef, undef, .pointer p, .func (.func 63) #[.pointer p] #[], .int .i64 x.1, .int .i64 x.2,
      undef, undef, undef, undef, undef, undef, undef, undef, undef, undef, undef, undef, undef, undef, undef, undef, undef, undef, undef, undef], defers := [] }) ?assign ?body ?done
  case assign =>
    intro l x W K hK
    gi_wp2
    simpa using hK
  case body =>
    rintro l pre x W hI hx hz
    have := hx.length_le
    simp at this
  case done =>
    rintro D W hD ⟨hb, hw⟩ hK
    have hc := hb.one
    gi_wp2
    refine ⟨by simp, .inl ⟨_, _, rfl, run_takeDeferred hK, ?_⟩⟩
    exact ⟨.slice none 0 0, by simp [results, Tryz.results29, go_sem], rfl, hw.cel (Cel.put (B := w.heap.size) _ (by simp at hD; omega) hK rfl) (Nat.le_refl _)⟩
/-- what Free leaves -/
def Freed (tb fb rb mb qb many : Nat) (rs bs : List Int) (w : World) (e : Ending) (w' : World) : Prop := e = .returned (.tuple #[]) ∧ Tb0 w' tb ∧ Fr w' fb rb rs ∧ Ph w' mb qb many bs ∧ But (fun k => k = rb ∨ k = tb) w w'
/-- between two rounds of Free -/
def Giv (w : World) (tb fb rb mb qb t many : Nat) (rs bs : List Int) (W : World) : Prop :=
  Fr W fb rb rs ∧ Tb W tb fb mb t ∧ Ph W mb qb many bs ∧ Box W w.heap.size #[.pointer (some ⟨tb, 0, none⟩)] 75 ∧ But (fun k => k = rb) w W
set_option maxHeartbeats 2000000 in
theorem tfree_any (h : Tb w tb fb mb t) (h1 : Fr w fb rb rs) (h2 : Ph w mb qb many bs) (hm : rs.length ≤ many) (hg : Good rs.length (fun i => rs.getD i 0 = 1) bs t) :
    Calls Tryz.prog 34 #[.pointer (some ⟨tb, 0, none⟩)] w (Freed tb fb rb mb qb many (giv rs (own bs t)) bs w) := by
  refine (callsIn_wide (n := 3)).1 ?_
  have A := ap_of h h1 h2
  have l1 := Box.lt h
  have l2 := h2.lt
  have l3 := h1.lt
  have hmf : ∀ (fn : Fn) (first cap : Array Value) (w : World), (Instr.makeFunc fn first cap).run Tryz.prog w = .ok (.func fn first cap) w := fun _ _ _ _ => rfl
  have nn : New w (w.alloc (.cells #[.pointer (some ⟨tb, 0, none⟩)] 75)) := (New.refl w).alloc _ _
  have HI := Lib.hid (uppers_iter (h.new nn) (h2.new nn) hg hm rb w.heap.size (by simp) l1 l2.1 l2.2 A.1 A.2.2.2.2.2.2.1 (Ne.symm A.2.2.2.2.2.2.2.2))
  have G := isgone_no (h.new nn)
  have HG := Lib.hid hg
  have hstart : Giv w tb fb rb mb qb t many (giv rs []) bs (w.alloc (.cells #[.pointer (some ⟨tb, 0, none⟩)] 75)) := ⟨h1.new nn, h.new nn, h2.new nn, Box.here _ _ _ _ rfl, But.of_new _ nn⟩
  clear h h1 h2 hg
  refine callsIn_of_wp_marks Tryz.func34 rfl trivial ?_ rfl
  simp only [Tryz.ntmps34, List.size_toArray, List.length_cons, List.length_nil, Nat.reduceAdd, Nat.reduceSub, Array.replicate_succ, Array.replicate_zero, List.push_toArray, List.append_toArray, List.nil_append, List.cons_append]
  gi_wp2_with (refine ⟨trivial, ?_⟩; gi_at_call 69; refine (callsIn_wide.2 G).mono ?_; rintro e w' ⟨rfl, rfl⟩)
  refine range_all (gf := 63) (fs := #[.pointer (some ⟨tb, 0, none⟩)]) rfl (enters_of Tryz.func63 (by kernel_rfl) rfl) HI.out (by simp) (fun _ => rfl)
    (fun (pre : List (Nat × Nat)) W => Giv w tb fb rb mb qb t many (giv rs (pre.map (fun x : Nat × Nat => x.2))) bs W)
    (fun pre W W' hi hc => ⟨hi.1.cel hc, Box.cel hi.2.1 hc, hi.2.2.1.cel hc, hi.2.2.2.1.cel hc, hi.2.2.2.2.cel hc (by simp)⟩) hstart
    (fun x => { tmps := #[.pointer (some ⟨tb, 0, none⟩), .pointer (some ⟨w.heap.size, 0, none⟩), undef, .int .i64 x.2, .pointer (some ⟨tb, 0, none⟩), .bool false, .pointer (some ⟨tb, 0, none⟩), .func (.func 63) #[.pointer (some ⟨tb, 0, none⟩)] #[], .int .i64 x.1, .int .i64 x.2,
      undef, undef, undef, undef, undef, undef, undef, undef, undef, undef, undef, undef, undef, undef, undef, undef, undef, undef], defers := [] }) ?assign ?body ?done
  case assign =>
    intro l x W K hK
    gi_wp2
    simpa using hK
  case body =>
    rintro l pre x W ⟨i1, i2, i3, i4, i5⟩ hx hz
    obtain ⟨e1, hmem⟩ := ups_pre hx
    obtain ⟨m1, m2, m3⟩ := ups_mem hmem
    obtain ⟨g1, g2, g3, g4⟩ := HG.out.frame m1 m2
    rw [← m3] at g1 g2 g3
    have hne : x.2 ∉ pre.map (·.2) := by
      intro hc
      obtain ⟨y, hy, ey⟩ := List.mem_map.1 hc
      rw [e1] at hy
      obtain ⟨y1, y2, y3⟩ := ups_mem hy
      have := HG.out.apart (u := y.1) (s := x.1) (by omega) m1 y2 m2 (by rw [← y3, ← m3]; exact ey)
      omega
    have hone : (giv rs (pre.map (·.2))).getD x.2 0 = 1 := by rw [giv_get, if_neg hne]; exact g2
    have X := did_unref x.2 i1 (by rw [giv_len]; exact g1) (by omega)
    rw [hone] at X
    have hset : giv rs ((pre ++ [x]).map (·.2)) = (giv rs (pre.map (·.2))).set x.2 (1 - 1) := by rw [List.map_append, List.map_singleton, giv_push]; rfl
    have HS := Lib.hid hset
    obtain ⟨u0, u1, u2⟩ := i2.cells
    have v0 := i4.one
    have I2 := Lib.hid i2
    have I3 := Lib.hid i3
    have I4 := Lib.hid i4
    have hbx := i1.boxes.2
    clear hset hone hne e1 g1 g2 g3 g4 m2 m3 hmem hx i1 i2 i3 i4
    gi_wp2_with (refine ⟨trivial, ?_⟩; gi_at_call 67; refine (CallsIn.inRound l (callsIn_wide.2 X)).mono ?_; rintro e w1 ⟨rfl, r1, f1⟩)
    have b1 : But (fun k => k = rb) W w1 := But.of_far f1 rfl
    refine ⟨keeps_far f1 ⟨_, hbx, rfl⟩, b1.mono (fun i _ hi => .inl hi), ?_⟩
    show Giv w tb fb rb mb qb t many (giv rs ((pre ++ [x]).map (·.2))) bs w1
    rw [HS.out]
    exact ⟨r1, Box.but I2.out b1 A.1, I3.out.but b1 A.2.2.2.2.2.2.1 (Ne.symm A.2.2.2.2.2.2.2.2), I4.out.but b1 (by omega), i5.trans b1⟩
  case done =>
    rintro D W hD ⟨i1, i2, i3, i4, i5⟩ hK
    have hg := HG.out
    have hne : t ∉ (ups bs t 64).map (·.2) := by
      intro hc
      obtain ⟨y, hy, ey⟩ := List.mem_map.1 hc
      obtain ⟨y1, y2, y3⟩ := ups_mem hy
      exact (hg.frame y1 y2).2.2.1 (by rw [← y3]; exact ey)
    have hone : (giv rs ((ups bs t 64).map (·.2))).getD t 0 = 1 := by rw [giv_get, if_neg hne]; exact hg.mine
    have X := fun W' (k : New W W') => did_unref t (i1.new k) (by rw [giv_len]; exact hg.lt) (by omega)
    rw [hone] at X
    have hset : giv rs (own bs t) = (giv rs ((ups bs t 64).map (·.2))).set t (1 - 1) := by rw [own, giv_push]; rfl
    rw [← hset] at X
    obtain ⟨u0, u1, u2⟩ := i2.cells
    have v0 := i4.one
    have HX := Lib.hid X
    clear hset hone hne hg X
    gi_wp2
    refine wpIn_wide.2 ?_
    go_still_tail 8, (by kernel_rfl)
    change wpList _ _ _ _ _ W.drew
    have nD : New W W.drew := (New.refl W).drew
    have Y := HX.out _ nD
    have I2 := Lib.hid (i2.new nD)
    have I3 := Lib.hid (i3.new nD)
    have I4 := Lib.hid (i4.new nD)
    have b0 : But (fun k => k = rb ∨ k = tb) w W.drew := (i5.mono (fun i _ hi => .inl hi)).trans (But.of_new _ nD)
    have K0 : W.drew.heap[D]? = some (.deferred (some [])) := hK
    have hbx := (i1.new nD).boxes.2
    have hsz : w.heap.size ≤ W.drew.heap.size := b0.size
    clear i1 i2 i3 i4 i5 hK u0 u1 u2 v0 HX nD
    generalize W.drew = W2 at *
    go_wp2_with (go_at_call 67; refine Y.mono ?_; rintro e w1 ⟨rfl, r1, f1⟩; have b1 : But (fun k => k = rb) W2 w1 := But.of_far f1 rfl; have t1 := Box.but I2.out b1 A.1; have p1 := I3.out.but b1 A.2.2.2.2.2.2.1 (Ne.symm A.2.2.2.2.2.2.2.2); have x1 := I4.out.but b1 (by omega); have v1 := x1.one; obtain ⟨s1, c0, c1, c2, q0, q1, q2⟩ := Box.three' t1)
    have K1 := (keeps_far f1 ⟨_, hbx, rfl⟩).same D _ K0 rfl
    have K2 := (((KeepsOthers.setCell w1 ⟨tb, 0, none⟩ (.pointer none)).trans (KeepsOthers.setCell _ ⟨tb, 1, none⟩ (.pointer none))).trans (KeepsOthers.setCell _ ⟨tb, 2, none⟩ (.int .i64 0))).same D _ K1 rfl
    have T2 := ((Box.set t1 0 (.pointer none)).set 1 (.pointer none)).set 2 (.int .i64 0)
    have f2 : But (fun k => k = tb) w1 (((w1.setCell ⟨tb, 0, none⟩ (.pointer none)).setCell ⟨tb, 1, none⟩ (.pointer none)).setCell ⟨tb, 2, none⟩ (.int .i64 0)) :=
      ((But.of_far (S := fun k => k = tb) (Far.set w1 tb 0 _) rfl).trans (But.of_far (S := fun k => k = tb) (Far.set _ tb 1 _) rfl)).trans (But.of_far (S := fun k => k = tb) (Far.set _ tb 2 _) rfl)
    have bb := (b0.trans (b1.mono (fun i _ hi => .inl hi))).trans (f2.mono (fun i _ hi => .inr hi))
    have R2 := Fr.but r1 f2 (Ne.symm A.2.2.1) (Ne.symm A.1)
    have P2 := p1.but f2 (Ne.symm A.2.2.2.1) (Ne.symm A.2.1)
    clear b0 b1 f2 r1 p1 t1 x1
    gi_wp2
    refine ⟨by simp, .inl ⟨_, _, rfl, run_takeDeferred K2, ?_⟩⟩
    have hce := Cel.put (B := w.heap.size) (.deferred none) (by simp at hD; omega) K2 rfl
    exact ⟨_, results_none rfl _ _ _, rfl, Box.cel T2 hce, R2.cel hce, P2.cel hce, bb.cel hce (Nat.le_refl _)⟩
end
end Go.Proofs.YtfllplinafnpbaaGreatDoor
