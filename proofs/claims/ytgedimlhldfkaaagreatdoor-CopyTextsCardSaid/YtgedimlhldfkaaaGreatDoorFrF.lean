/- What the package of frames does, the world behind a call as an unknown one of which this is known: the row of the frames, and that nothing else has changed. And what the statements of this layer ask at their ends: sure. -/
import Derived.Test.YtgedimlhldfkaaaGreatDoorFrB
import Derived.Test.YtgedimlhldfkaaaGreatDoorNumF
namespace Go.Proofs.YtgedimlhldfkaaaGreatDoor
open Go.RowKit
set_option linter.unusedVariables false
theorem Own.keep {base rb : Nat} {w w' : World} {v : Value} {l : List Int} (h : Own base w v l) (k : Far rb w w') (hr : rb < base) : Own base w' v l := by
  refine ⟨h.1, ?_⟩
  rcases h.2 with hn | ⟨g, cap, cur, rfl, hb, hg, rest⟩
  · exact .inl hn
  · exact .inr ⟨g, cap, cur, rfl, hb, by rw [k.2.2.2.2 g (Array.getElem?_eq_some_iff.1 hg).1 (by omega)]; exact hg, rest⟩
/-- an answer, the row then, and nothing else has changed -/
def Did (fb rb : Nat) (rs : List Int) (v : Value) (w : World) (e : Ending) (w' : World) : Prop := e = .returned v ∧ Fr w' fb rb rs ∧ Far rb w w'
section
variable {w : World} {fb rb : Nat} {rs : List Int}
theorem did_alloc (i : Nat) (h : Fr w fb rb rs) (hi : i < rs.length) (hn : NoFree rs i) (hz : rs.getD i 0 = 0) :
    Calls Tryz.prog 132 #[.pointer (some ⟨fb, 0, none⟩)] w (Did fb rb (rs.set i 1) (.tuple #[.int .i64 i, .nilIface]) w) :=
  (alloc_hit i w h hi hn hz).mono fun e w' ⟨h1, h2⟩ => ⟨h1, by rw [h2]; exact h.set i 1 (by omega) (by omega), by rw [h2]; exact Far.set _ _ _ _⟩
theorem did_alloc_no (h : Fr w fb rb rs) (hn : NoFree rs rs.length) :
    Calls Tryz.prog 132 #[.pointer (some ⟨fb, 0, none⟩)] w (Did fb rb rs (.tuple #[.int .i64 0, .iface 98 (.int .i64 12)]) w) :=
  (alloc_none w h hn).mono fun e w' ⟨h1, h2⟩ => ⟨h1, by rw [← h2]; exact h, by rw [← h2]; exact Far.refl _ _⟩
theorem did_ref (j : Nat) (h : Fr w fb rb rs) (hj : j < rs.length) (h1 : 0 < rs.getD j 0) (h2 : rs.getD j 0 < 1073741824) :
    Calls Tryz.prog 91 #[.pointer (some ⟨fb, 0, none⟩), .int .i64 j] w (Did fb rb (rs.set j (rs.getD j 0 + 1)) .nilIface w) :=
  (ref_yes j w h hj h1 h2).mono fun e w' ⟨k1, k2⟩ => ⟨k1, by rw [k2]; exact h.set j _ (by omega) (by omega), by rw [k2]; exact Far.set _ _ _ _⟩
theorem did_ref_no (m : Int) (h : Fr w fb rb rs) (h1 : rfs rs m = 0 ∨ rfs rs m = 1073741824) :
    Calls Tryz.prog 91 #[.pointer (some ⟨fb, 0, none⟩), .int .i64 m] w (Did fb rb rs (.iface 98 (.int .i64 22)) w) :=
  (ref_no m w h h1).mono fun e w' ⟨k1, k2⟩ => ⟨k1, by rw [← k2]; exact h, by rw [← k2]; exact Far.refl _ _⟩
theorem did_unref (j : Nat) (h : Fr w fb rb rs) (hj : j < rs.length) (h1 : 0 < rs.getD j 0) :
    Calls Tryz.prog 92 #[.pointer (some ⟨fb, 0, none⟩), .int .i64 j] w (Did fb rb (rs.set j (rs.getD j 0 - 1)) (.tuple #[.bool (rs.getD j 0 == 1), .nilIface]) w) :=
  (unref_yes j w h hj h1).mono fun e w' ⟨k1, k2⟩ => ⟨k1, by rw [k2]; have := h.1.2.2 j; exact h.set j _ (by omega) (by omega), by rw [k2]; exact Far.set _ _ _ _⟩
theorem did_unref_no (m : Int) (h : Fr w fb rb rs) (h1 : rfs rs m = 0) :
    Calls Tryz.prog 92 #[.pointer (some ⟨fb, 0, none⟩), .int .i64 m] w (Did fb rb rs (.tuple #[.bool false, .iface 98 (.int .i64 22)]) w) :=
  (unref_no m w h h1).mono fun e w' ⟨k1, k2⟩ => ⟨k1, by rw [← k2]; exact h, by rw [← k2]; exact Far.refl _ _⟩
theorem did_free (h : Fr w fb rb rs) :
    Calls Tryz.prog 25 #[.pointer (some ⟨fb, 0, none⟩)] w (Did fb rb rs (.int .i64 (rs.length - (tk rs rs.length).length)) w) :=
  (free_any w h).mono fun e w' ⟨k1, k2⟩ => ⟨k1, h.new k2, Far.of_new rb k2⟩
end
theorem made_two (w : World) : Calls Tryz.prog 60 #[.int .i64 2] w (Made 2 w) := made_any 2 w (by omega) (by omega)
theorem sure_1 {w : World} {fb rb : Nat} (h : Fr w fb rb [0, 0]) : Calls Tryz.prog 132 #[.pointer (some ⟨fb, 0, none⟩)] w (Did fb rb [1, 0] (.tuple #[.int .i64 0, .nilIface]) w) := did_alloc 0 h (by simp) (NoFree.zero _) rfl
theorem nofree_of {rs : List Int} {k : Nat} (h : (List.range k).all (fun j => rs.getD j 0 != 0) = true) : NoFree rs k := by
  intro j hj e
  have := List.all_eq_true.1 h j (List.mem_range.2 hj)
  rw [e] at this
  exact absurd this (by decide)
theorem sure_2 {w : World} {fb rb : Nat} (h : Fr w fb rb [1, 0]) : Calls Tryz.prog 132 #[.pointer (some ⟨fb, 0, none⟩)] w (Did fb rb [1, 1] (.tuple #[.int .i64 1, .nilIface]) w) := did_alloc 1 h (by simp) (nofree_of rfl) rfl
theorem sure_3 {w : World} {fb rb : Nat} (h : Fr w fb rb [1, 1]) : Calls Tryz.prog 132 #[.pointer (some ⟨fb, 0, none⟩)] w (Did fb rb [1, 1] (.tuple #[.int .i64 0, .iface 98 (.int .i64 12)]) w) := did_alloc_no h (nofree_of rfl)
theorem sure_4 {w : World} {fb rb : Nat} (h : Fr w fb rb [1, 1]) : Calls Tryz.prog 91 #[.pointer (some ⟨fb, 0, none⟩), .int .i64 1] w (Did fb rb [1, 2] .nilIface w) := did_ref 1 h (by simp) (by simp) (by simp)
theorem sure_5 {w : World} {fb rb : Nat} (h : Fr w fb rb [1, 2]) : Calls Tryz.prog 134 #[.pointer (some ⟨fb, 0, none⟩), .int .i64 1] w fun e w' => e = .returned (.int .i64 2) ∧ w = w' := refs_any 1 w h
theorem sure_6 {w : World} {fb rb : Nat} (h : Fr w fb rb [1, 2]) : Calls Tryz.prog 25 #[.pointer (some ⟨fb, 0, none⟩)] w (IntN 0 w) := free_any w h
theorem sure_7 {w : World} {fb rb : Nat} (h : Fr w fb rb [1, 2]) : Calls Tryz.prog 71 #[.pointer (some ⟨fb, 0, none⟩)] w (LenN 2 w) := taken_len w h
end Go.Proofs.YtgedimlhldfkaaaGreatDoor
