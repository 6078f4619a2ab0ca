/- What the laws that ask a table without the document's list lean on: frames, bytes and a table of which all that is taken is its own; an entry laid down, or none where no frame is free. -/
import Derived.Test.YtajhlmiobibhjaaDoorTbJ
import Derived.Test.YtajhlmiobibhjaaDoorMixRows
import Derived.BigRegion
namespace Go.Proofs.YtajhlmiobibhjaaDoor
open Go.RowKit
set_option linter.unusedVariables false
set_option maxRecDepth 100000
/-- all that is taken is the table's, and counted -/
structure Inv (w : World) (k tb fb rb mb qb t : Nat) (rs bs : List Int) : Prop where
  st : St w k tb fb rb mb qb t rs bs
  cnt : (tk rs k).length = 1 + nup bs t 64
  just : Just k t rs bs
section
variable {w w' : World} {k tb fb rb mb qb t p : Nat} {rs bs : List Int}
theorem Inv.new (h : Inv w k tb fb rb mb qb t rs bs) (n : New w w') : Inv w' k tb fb rb mb qb t rs bs := ⟨h.st.new n, h.cnt, h.just⟩
theorem Inv.le (h : Inv w k tb fb rb mb qb t rs bs) : (tk rs k).length ≤ k := tk_len rs k
/-- an entry laid down, or none where no frame is free -/
def InvSet (k tb fb rb mb qb t p : Nat) (v : Int) (rs bs : List Int) (w : World) (e : Ending) (w' : World) : Prop :=
  (∃ qs cs, e = .returned .nilIface ∧ Inv w' k tb fb rb mb qb t qs cs ∧ But (fun j => j = rb ∨ j = qb) w w' ∧ (∀ q, q < 4096 → pgn cs t q = if q = p then v else pgn bs t q) ∧
      ((nup cs t 64 = nup bs t 64 ∧ nm bs t (p / 64) ≠ 0) ∨ (nup cs t 64 = nup bs t 64 + 1 ∧ nm bs t (p / 64) = 0)) ∧ (∀ u, u < 64 → (nm cs t u ≠ 0 ↔ u = p / 64 ∨ nm bs t u ≠ 0))) ∨
  (e = .returned (.iface 73 (.int .i64 12)) ∧ Inv w' k tb fb rb mb qb t rs bs ∧ New w w' ∧ (tk rs k).length = k ∧ nm bs t (p / 64) = 0)
theorem Laid1.there {qs cs : List Int} (h : Laid1 k t p rs bs qs cs) : ∀ u, u < 64 → (nm cs t u ≠ 0 ↔ u = p / 64 ∨ nm bs t u ≠ 0) := by
  intro u hu
  cases h with
  | old h0 hk =>
    rw [hk u hu]
    exact ⟨.inr, fun h => h.elim (fun e => e ▸ h0) id⟩
  | more i h0 hi hn hz hk =>
    rw [hk u hu]
    split
    · have := upn_pos i
      exact ⟨fun _ => .inl (by assumption), fun _ => by omega⟩
    · exact ⟨.inr, fun h => h.elim (fun e => absurd e (by assumption)) id⟩
theorem inv_set (p : Nat) (g q : Int) (c : Bool) (h : Inv w k tb fb rb mb qb t rs bs) (hp : p < 4096) (g0 : 0 ≤ g) (g1 : g < 1024) (q0 : 0 ≤ q) (q1 : q ≤ 7) :
    Calls Tryd.prog 7 #[.pointer (some ⟨tb, 0, none⟩), .int .i64 p, .agg #[.int .i64 g, .int .u8 q, .bool c]] w (InvSet k tb fb rb mb qb t p (ennum g q c) rs bs w) := by
  have done : ∀ e w', SetDone k tb fb rb mb qb t p (ennum g q c) rs bs w e w' → InvSet k tb fb rb mb qb t p (ennum g q c) rs bs w e w' := by
    rintro e w' ⟨qs, cs, rfl, s, b, l, pg⟩
    have hc := h.cnt
    rcases l.counts hp h.st.len with ⟨c1, c2, c3⟩ | ⟨c1, c2, c3⟩
    · exact .inl ⟨qs, cs, rfl, ⟨s, by rw [c1, c2]; exact hc, l.just hp h.st.len h.just⟩, b, pg, .inl ⟨c2, c3⟩, l.there⟩
    · exact .inl ⟨qs, cs, rfl, ⟨s, by rw [c1, c2, hc, Nat.add_assoc], l.just hp h.st.len h.just⟩, b, pg, .inr ⟨c2, c3⟩, l.there⟩
  by_cases h0 : nm bs t (p / 64) = 0
  · rcases free_or rs k with hn | ⟨i, hi, hn, hz⟩
    · refine (set_full p g q c h.st hp g0 g1 q0 q1 h0 hn).mono ?_
      rintro e w' ⟨rfl, n⟩
      exact .inr ⟨rfl, h.new n, n, tk_full h.st.fr.1 k hn, h0⟩
    · exact (set_new p i g q c h.st hp g0 g1 q0 q1 h0 hi hn hz).mono done
  · exact (set_old p g q c h.st hp g0 g1 q0 q1 h0).mono done
/-- an entry taken away -/
def InvClear (k tb fb rb mb qb t p : Nat) (rs bs : List Int) (w : World) (e : Ending) (w' : World) : Prop :=
  ∃ cs, e = .returned .nilIface ∧ Inv w' k tb fb rb mb qb t rs cs ∧ But (fun j => j = rb ∨ j = qb) w w' ∧ (∀ q, q < 4096 → pgn cs t q = if q = p then 0 else pgn bs t q) ∧ nup cs t 64 = nup bs t 64 ∧ ∀ u, u < 64 → nm cs t u = nm bs t u
theorem inv_clear (p : Nat) (h : Inv w k tb fb rb mb qb t rs bs) (hp : p < 4096) :
    Calls Tryd.prog 8 #[.pointer (some ⟨tb, 0, none⟩), .int .i64 p] w (InvClear k tb fb rb mb qb t p rs bs w) := by
  refine (clear_done p h.st hp).mono ?_
  rintro e w' ⟨cs, rfl, s, b, u, pg⟩
  have e1 : nup cs t 64 = nup bs t 64 := by unfold nup; rw [ups_congr 64 u]
  exact ⟨cs, rfl, ⟨s, by rw [e1]; exact h.cnt, h.just.clear u⟩, b, pg, e1, u⟩
theorem inv_free (h : Inv w k tb fb rb mb qb t rs bs) : Calls Tryd.prog 37 #[.pointer (some ⟨fb, 0, none⟩)] w (IntN (k - (1 + nup bs t 64 : Nat)) w) := by
  have X := free_done h.st; rw [h.cnt] at X; exact X
theorem inv_frames (h : Inv w k tb fb rb mb qb t rs bs) : Calls Tryd.prog 10 #[.pointer (some ⟨tb, 0, none⟩)] w (IntN (1 + nup bs t 64 : Nat) w) := by
  have X := frames_done h.st
  rwa [show ((1 + nup bs t 64 : Nat) : Int) = 1 + (nup bs t 64 : Int) from by omega]
theorem Inv.start {cs : List Int} (h : St w k tb fb rb mb qb 0 ((List.replicate k 0).set 0 1) cs) (h0 : ∀ u, u < 64 → nm cs 0 u = 0) : Inv w k tb fb rb mb qb 0 ((List.replicate k 0).set 0 1) cs :=
  ⟨h, by rw [tk_start k h.bd.1, nup_zero h0], Just.start k h.bd.1⟩
/-- all gone, and all free -/
def InvGone (k tb fb rb : Nat) (w : World) (e : Ending) (w' : World) : Prop := e = .returned (.tuple #[]) ∧ Tb0 w' tb ∧ Fr w' fb rb (List.replicate k 0) ∧ But (fun j => j = rb ∨ j = tb) w w'
theorem inv_gone (h : Inv w k tb fb rb mb qb t rs bs) : Calls Tryd.prog 5 #[.pointer (some ⟨tb, 0, none⟩)] w (InvGone k tb fb rb w) := by
  refine (tfree_any h.st.tb h.st.fr h.st.ph (by rw [h.st.len]; exact Nat.le_refl _) h.st.good').mono ?_
  rintro e w' ⟨rfl, h1, h2, h3, h4⟩
  rw [h.just.freed h.st.len] at h2
  exact ⟨rfl, h1, h2, h4⟩
theorem free_all (h : Fr w fb rb (List.replicate k 0)) : Calls Tryd.prog 37 #[.pointer (some ⟨fb, 0, none⟩)] w (IntN k w) := by
  have X := free_any w h
  rw [List.length_replicate, tk_zeros] at X
  refine X.mono ?_
  rintro e w' ⟨rfl, n⟩
  exact ⟨ret_int (by simp), n⟩
/-- what a page's number answers, part by part -/
theorem inv_get (p : Nat) (h : Inv w k tb fb rb mb qb t rs bs) (hp : p < 4096) :
    Calls Tryd.prog 4 #[.pointer (some ⟨tb, 0, none⟩), .int .i64 p] w (Said (gotE (pgn bs t p) .nilIface) w) := get_done p h.st hp
theorem gotE_ennum (g q : Int) (c : Bool) (g0 : 0 ≤ g) (g1 : g < 1024) (q0 : 0 ≤ q) (q1 : q ≤ 7) (er : Value) : gotE (ennum g q c) er = .tuple #[.agg #[.int .i64 g, .int .u8 q, .bool c], .bool true, er] := by
  obtain ⟨h1, h2, h3, h4, h5, h6⟩ := ennum_is g q c g0 g1 q0 q1
  have := ennum_pn g q c g0 g1 q0 q1
  rw [gotE_is this.2.1 h1, h4, h5, h6]
theorem gotE_form (v : Int) : ∃ x y z b, ∀ er, gotE v er = .tuple #[.agg #[.int .i64 x, .int .u8 y, .bool z], .bool b, er] := ⟨_, _, _, _, fun _ => rfl⟩
/-- variables that hold entries -/
def Bs (w : World) (l : List (Nat × Value × Value × Value)) : Prop := ∀ x ∈ l, Box w x.1 #[x.2.1, x.2.2.1, x.2.2.2] 25
theorem Bs.nil (w : World) : Bs w [] := fun x hx => by cases hx
theorem Bs.new {l : List (Nat × Value × Value × Value)} (h : Bs w l) (n : New w w') : Bs w' l := fun x hx => (h x hx).new n
theorem Bs.put {l : List (Nat × Value × Value × Value)} (h : Bs w l) (a b c : Value) : Bs (w.alloc (.cells #[a, b, c] 25)) ((w.heap.size, a, b, c) :: l) := fun x hx => by
  rcases List.mem_cons.1 hx with rfl | hx
  · exact Box.here w _ _ _ rfl
  · exact (h x hx).alloc _
theorem Bs.but {l : List (Nat × Value × Value × Value)} (h : Bs w l) (i : Inv w k tb fb rb mb qb t rs bs) (n : But (fun j => j = rb ∨ j = qb) w w') : Bs w' l := fun x hx =>
  (h x hx).but n (by
    rintro (e | e)
    · exact Box.ne (h x hx) i.st.fr.boxes.2 (by decide) e
    · exact Box.ne (h x hx) i.st.ph.boxes.2 (by decide) e)
theorem Bs.get {l : List (Nat × Value × Value × Value)} (h : Bs w l) (n : Nat) (a b c : Value) (hx : (n, a, b, c) ∈ l) : n < w.heap.size ∧ w.cell? ⟨n, 0, none⟩ = some a ∧ w.cell? ⟨n, 1, none⟩ = some b ∧ w.cell? ⟨n, 2, none⟩ = some c :=
  ⟨(h _ hx).lt, (h _ hx).three⟩
/-- the next page but some, round -/
theorem round_page (p : Nat) (v : Int) (hp : p < 4096) (hv : 0 ≤ v) : ∃ r : Nat, ((p : Int) + 1 + v % 70) % 4096 = (r : Int) ∧ r < 4096 ∧ r ≠ p :=
  ⟨(((p : Int) + 1 + v % 70) % 4096).toNat, by omega, by omega, by omega⟩
/-- the next page but some, round -/
theorem next_page (p m : Nat) (hp : p < 4096) (hm : m < 70) : ((p + 1 + m) % 4096 : Nat) ≠ p ∧ (p + 1 + m) % 4096 < 4096 := by omega
end
end Go.Proofs.YtajhlmiobibhjaaDoor
