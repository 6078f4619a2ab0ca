/- Pipes: the plain facts of the law on ends. -/
import Derived.Test.YtdoppkeaidemgaaDoorPiC
namespace Go.Proofs.YtdoppkeaidemgaaDoor
open Go.RowKit
set_option linter.unusedVariables false
section
variable {b : List Int}
theorem pe1 : ptE Pp.zero false 1 = 0 ∧ ptP Pp.zero false 1 = ⟨[], 1, 0⟩ := ⟨by decide, rfl⟩
theorem pe2 : ptE ⟨[], 1, 0⟩ true 1 = 0 ∧ ptP ⟨[], 1, 0⟩ true 1 = ⟨[], 1, 1⟩ := ⟨by decide, rfl⟩
theorem ok_b (h : b.length ≤ 64) {r w : Int} (hr : 0 ≤ r ∧ r ≤ 1048576) (hw : 0 ≤ w ∧ w ≤ 1048576) : piOk b r w := ⟨h, hr.1, hr.2, hw.1, hw.2⟩
theorem pe3 (h : b.length ≤ 64) : pwE ⟨[], 1, 1⟩ b = 0 ∧ pwK ⟨[], 1, 1⟩ b = b.length ∧ pwP ⟨[], 1, 1⟩ b = ⟨b, 1, 1⟩ := by
  have e : pwE ⟨[], 1, 1⟩ b = 0 := by
    unfold pwE
    rw [if_neg (by decide), if_neg (by decide), if_neg (by rintro ⟨-, h⟩; cases h)]
  have e2 : pwB ⟨[], 1, 1⟩ b = b := by unfold pwB; exact List.take_of_length_le (by simpa using h)
  refine ⟨e, ?_, ?_⟩
  · unfold pwK; rw [if_pos e, e2]
  · unfold pwP; rw [if_pos e, e2]; rfl
theorem pe4 (h : b.length ≤ 64) : ptE ⟨b, 1, 1⟩ true (-1) = 0 ∧ ptP ⟨b, 1, 1⟩ true (-1) = ⟨b, 1, 0⟩ := by
  have ea : ptA ⟨b, 1, 1⟩ true (-1) = ⟨b, 1, 0⟩ := rfl
  have e : ptE ⟨b, 1, 1⟩ true (-1) = 0 := by
    unfold ptE
    rw [ea, if_neg (fun c => c (ok_b h (by dsimp only; omega) (by dsimp only; omega))), if_neg (fun c => c (ok_b h (by dsimp only; omega) (by dsimp only; omega)))]
  exact ⟨e, by unfold ptP; rw [if_pos e, ea]⟩
theorem pe5 (h : b.length ≤ 64) : prE ⟨b, 1, 0⟩ 64 = 0 ∧ prO ⟨b, 1, 0⟩ 64 = b ∧ prP ⟨b, 1, 0⟩ 64 = ⟨[], 1, 0⟩ := by
  have e : prE ⟨b, 1, 0⟩ 64 = 0 := by
    unfold prE
    rw [if_neg (by rintro (c | c); exact c (ok_b h (by dsimp only; omega) (by dsimp only; omega)); omega), if_neg (by rintro ⟨-, -, c⟩; dsimp only at c; omega)]
  refine ⟨e, ?_, ?_⟩
  · unfold prO; rw [if_pos e]; exact List.take_of_length_le h
  · unfold prP; rw [if_pos e]
    have : b.drop (Int.toNat 64) = [] := List.drop_eq_nil_of_le h
    rw [this]
theorem pe6 : prE ⟨[], 1, 0⟩ 64 = 0 ∧ prO ⟨[], 1, 0⟩ 64 = [] ∧ prP ⟨[], 1, 0⟩ 64 = ⟨[], 1, 0⟩ := ⟨by decide, by decide, rfl⟩
theorem pe7 (h : b.length ≤ 64) : ptE ⟨b, 1, 1⟩ false (-1) = 0 ∧ ptP ⟨b, 1, 1⟩ false (-1) = ⟨[], 0, 1⟩ := by
  have ea : ptA ⟨b, 1, 1⟩ false (-1) = ⟨[], 0, 1⟩ := rfl
  have e : ptE ⟨b, 1, 1⟩ false (-1) = 0 := by
    unfold ptE
    rw [ea, if_neg (fun c => c (ok_b h (by dsimp only; omega) (by dsimp only; omega))), if_neg (by decide)]
  exact ⟨e, by unfold ptP; rw [if_pos e, ea]⟩
theorem pe8 : pwE ⟨[], 0, 1⟩ [1] = 32 ∧ pwK ⟨[], 0, 1⟩ [1] = 0 ∧ pwP ⟨[], 0, 1⟩ [1] = Pp.zero := ⟨by decide, by decide, rfl⟩
end
end Go.Proofs.YtdoppkeaidemgaaDoor
