/- What the statements on instructions as numbers ask at their ends: sure. And contracts in one form for right and wrong instructions and numbers. -/
import Derived.Test.YtlpjegclpilaaaaGreatDoorIsA
namespace Go.Proofs.YtlpjegclpilaaaaGreatDoor
open Go.RowKit
set_option linter.unusedVariables false
theorem ic_cases (o a b m : Int) : (InOk o a b m ∧ icv o a b m = innum o a b m ∧ ice o a b m = 0) ∨ (¬ InOk o a b m ∧ icv o a b m = 0 ∧ ice o a b m = 22) := by
  unfold icv ice
  by_cases h : InOk o a b m
  · exact .inl ⟨h, if_pos h, if_pos h⟩
  · exact .inr ⟨h, if_neg h, if_neg h⟩
section
variable (o a b m : Int) (w : World)
theorem icheck_any : Calls Tryz.prog 28 #[.agg #[.int .i64 o, .int .i64 a, .int .i64 b, .int .i64 m]] w fun e w' => e = .returned (erN (ice o a b m)) ∧ New w w' := by
  rcases ic_cases o a b m with ⟨k, e1, e2⟩ | ⟨k, e1, e2⟩
  · rw [e2, erN_zero]; exact icheck_ok o a b m w k
  · rw [e2, erN_pos (by decide)]; exact icheck_no o a b m w k
theorem iencode_any : Calls Tryz.prog 17 #[.agg #[.int .i64 o, .int .i64 a, .int .i64 b, .int .i64 m]] w fun e w' => e = .returned (.tuple #[.int .u32 (icv o a b m), erN (ice o a b m)]) ∧ New w w' := by
  rcases ic_cases o a b m with ⟨k, e1, e2⟩ | ⟨k, e1, e2⟩
  · rw [e1, e2, erN_zero]; exact iencode_ok o a b m w k
  · rw [e1, e2, erN_pos (by decide)]; exact iencode_no o a b m w k
end
end Go.Proofs.YtlpjegclpilaaaaGreatDoor
