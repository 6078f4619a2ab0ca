/- What the statements on the entries of page tables ask at their ends: sure. Contracts that hold for every entry and every number, in one form for right and wrong ones. -/
import Derived.Test.YtgofkdcmcchomaaDoorEnB
namespace Go.Proofs.YtgofkdcmcchomaaDoor
open Go.RowKit
set_option linter.unusedVariables false
theorem ensure_any (w : World) : Calls Tryd.prog 13 #[] w fun e w' => e = .returned (.bool true) ∧ New w w' := by
  have h1 := fun w => encode_ok 1 1 false w (by omega) (by omega) (by omega) (by omega)
  have e1 : ennum 1 1 false = 385 := by simp [ennum, cwn]
  rw [e1] at h1
  have h2 := fun w => decode_ok 385 w (by omega) (by omega) (by unfold EnNum; omega)
  have e2 : cwb 385 = false := by simp [cwb]
  rw [e2, show (385 : Int) / 256 = 1 from rfl, show (385 : Int) % 8 = 1 from rfl] at h2
  have h3 := fun w => may_ok 1 1 false w 1 (by omega) (by omega) (by omega) (by omega) (by omega)
  have e3 : usb 1 1 = true := by simp [usb]
  rw [e3] at h3
  have h4 := fun w => may_ok 1 1 false w 2 (by omega) (by omega) (by omega) (by omega) (by omega)
  have e4 : usb 1 2 = false := by simp [usb]
  rw [e4] at h4
  clear e1 e2 e3 e4
  go_enter Tryd.func13, Tryd.ntmps13
  go_wp2_with fail
  refine (h1 _).mono ?_
  rintro e w1 ⟨rfl, n1⟩
  obtain ⟨hc1, hf1⟩ := n1.bcell
  go_wp2_with fail
  refine (h2 _).mono ?_
  rintro e w2 ⟨rfl, n2⟩
  obtain ⟨hc2, hf2⟩ := n2.bcell
  go_wp2_with fail
  refine (h3 _).mono ?_
  rintro e w3 ⟨rfl, n3⟩
  obtain ⟨hc3, hf3⟩ := n3.bcell
  have z1 := n1.size
  have z2 := n2.size
  have z3 := n3.size
  simp at z3
  go_wp2_with fail
  refine (h4 _).mono ?_
  rintro e w4 ⟨rfl, n4⟩
  go_wp2_with fail
  go_ret
  exact ⟨rfl, ((n1.trans n2).trans (New.alloc (New.refl _) _ _)).trans (n3.trans n4)⟩
end Go.Proofs.YtgofkdcmcchomaaDoor
