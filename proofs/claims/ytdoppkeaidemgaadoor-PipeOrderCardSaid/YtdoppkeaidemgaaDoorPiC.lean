/- Pipes: what the program's functions and the document's answer, in one form; the law's own 'same'. -/
import Derived.Test.YtdoppkeaidemgaaDoorPiV
import Derived.Test.YtdoppkeaidemgaaDoorNum
namespace Go.Proofs.YtdoppkeaidemgaaDoor
open Go.RowKit
set_option linter.unusedVariables false
set_option maxRecDepth 100000
section
variable {w w' : World} {u : Value} {p : Pp}
/-- what lies in a new block, or in that of another value -/
def Fra (w : World) (u v : Value) : Prop := ∀ g, v.ownBlock = some g → w.heap.size ≤ g ∨ u.ownBlock = some g
def ReadD (u : Value) (p : Pp) (n : Int) (w : World) (e : Ending) (w' : World) : Prop := ∃ vo vr, e = .returned (.tuple #[vo, PpV vr (prP p n), erN (prE p n)]) ∧ Byts w' vo (prO p n) ∧ Byts w' vr (prP p n).l ∧ Fra w u vo ∧ Fra w u vr ∧ New w w'
def WriteD (u v : Value) (p : Pp) (b : List Int) (w : World) (e : Ending) (w' : World) : Prop := ∃ vr, e = .returned (.tuple #[.int .i64 (pwK p b), PpV vr (pwP p b), erN (pwE p b)]) ∧ Byts w' vr (pwP p b).l ∧ (∀ g, vr.ownBlock = some g → w.heap.size ≤ g ∨ u.ownBlock = some g ∨ v.ownBlock = some g) ∧ New w w'
def TurnD (u : Value) (p : Pp) (wt : Bool) (c : Int) (w : World) (e : Ending) (w' : World) : Prop := ∃ vr, e = .returned (.tuple #[PpV vr (ptP p wt c), erN (ptE p wt c)]) ∧ Byts w' vr (ptP p wt c).l ∧ Fra w u vr ∧ New w w'
theorem rread_any (h : Byts w u p.l) (n : Int) (hn9 : n ≤ 9223372036854775807) : Calls Tryd.prog 8 #[PpV u p, .int .i64 n] w fun e w' => ∃ vo vr, e = .returned (.tuple #[vo, PpV vr (prP p n), .int .i64 (prE p n)]) ∧ Byts w' vo (prO p n) ∧ Byts w' vr (prP p n).l ∧ New w w' := by
  by_cases he : prE p n = 0
  · refine (rpread_ok h n he hn9).mono ?_
    rintro e w1 ⟨vo, vr, rfl, t, k⟩
    rw [he]
    exact ⟨vo, vr, rfl, t.1.byts, t.2.1.byts, k⟩
  · refine (rpread_no h n he).mono ?_
    rintro e w1 ⟨rfl, k⟩
    have e1 : prO p n = [] := by unfold prO; rw [if_neg he]
    have e2 : prP p n = Pp.zero := by unfold prP; rw [if_neg he]
    rw [e1, e2]
    exact ⟨_, _, rfl, Byts.nil _, Byts.nil _, k⟩
theorem rwrite_any (h : Byts w u p.l) {v : Value} {b : List Int} (hb : Byts w v b) (hb9 : b.length ≤ 1000000) : Calls Tryd.prog 10 #[PpV u p, v] w fun e w' => ∃ vr, e = .returned (.tuple #[.int .i64 (pwK p b), PpV vr (pwP p b), .int .i64 (pwE p b)]) ∧ Byts w' vr (pwP p b).l ∧ New w w' := by
  by_cases he : pwE p b = 0
  · refine (rpwrite_ok h hb he hb9).mono ?_
    rintro e w1 ⟨vr, rfl, t, k⟩
    rw [he]
    exact ⟨vr, rfl, t.byts, k⟩
  · refine (rpwrite_no h hb he).mono ?_
    rintro e w1 ⟨rfl, k⟩
    have e1 : pwK p b = 0 := by unfold pwK; rw [if_neg he]
    have e2 : pwP p b = Pp.zero := by unfold pwP; rw [if_neg he]
    rw [e1, e2]
    exact ⟨_, rfl, Byts.nil _, k⟩
set_option maxHeartbeats 1000000 in
theorem psame_any {v : Value} (h : Byts w u p.l) (k : Byts w v p.l) : Calls Tryd.prog 11 #[PpV u p, PpV v p] w fun e w' => e = .returned (.bool true) ∧ New w w' := by
  have h0 := Lib.hid h
  have k0 := Lib.hid k
  obtain ⟨q, cap, rfl⟩ := h.shape
  obtain ⟨q2, cap2, rfl⟩ := k.shape
  obtain ⟨l, r, s⟩ := p
  unfold PpV
  dsimp only at *
  obtain ⟨E, hE⟩ : ∃ E, E = (w.alloc (.cells #[.slice q l.length cap, .int .i64 r, .int .i64 s] 26)).alloc (.cells #[.slice q2 l.length cap2, .int .i64 r, .int .i64 s] 24) := ⟨_, rfl⟩
  have n0 : New w E := by rw [hE]; exact ((New.refl w).alloc _ _).alloc _ _
  have s1 := str_of (h.new n0)
  have s2 := str_of (k.new n0)
  have n0 := Lib.hid n0
  rw [hE] at s1 s2
  clear h k
  generalize strOfNums l = st at *
  generalize l.length = n at *
  go_enter Tryd.func11, Tryd.ntmps11
  go_wp2
  go_ret
  exact ⟨rfl, by rw [← hE]; exact n0.out⟩
end
end Go.Proofs.YtdoppkeaidemgaaDoor
