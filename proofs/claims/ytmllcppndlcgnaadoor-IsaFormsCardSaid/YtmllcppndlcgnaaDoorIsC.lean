/- What the statements on instructions as numbers ask at their ends: sure. And contracts in one form for right and wrong instructions and numbers. -/
import Derived.Test.YtmllcppndlcgnaaDoorIsA
namespace Go.Proofs.YtmllcppndlcgnaaDoor
open Go.RowKit
set_option linter.unusedVariables false
theorem isure_any (w : World) : Calls Tryd.prog 11 #[] w fun e w' => e = .returned (.bool true) ∧ New w w' := by
  have h1 := fun w => iencode_ok 1 1 0 5 w (by unfold InOk; omega)
  have e1 : innum 1 1 0 5 = 17825797 := by simp [innum]
  rw [e1] at h1
  have h2 := fun w => idecode_ok 17891327 w (by omega) (by omega) (by omega)
  have e2 : imv 17891327 = -1 := by simp [imv]
  rw [e2, show (17891327 : Int) / 16777216 = 1 from rfl, show (17891327 : Int) / 1048576 % 16 = 1 from rfl, show (17891327 : Int) / 65536 % 16 = 0 from rfl] at h2
  clear e1 e2
  go_enter Tryd.func11, Tryd.ntmps11
  go_wp2_with fail
  refine (h1 _).mono ?_
  rintro e w1 ⟨rfl, n1⟩
  go_wp2_with fail
  refine (h2 _).mono ?_
  rintro e w2 ⟨rfl, n2⟩
  go_wp2_with fail
  go_ret
  exact ⟨rfl, (n1.trans n2).alloc _ _⟩
theorem ic_cases (o a b m : Int) : (InOk o a b m ∧ icv o a b m = innum o a b m ∧ ice o a b m = 0) ∨ (¬ InOk o a b m ∧ icv o a b m = 0 ∧ ice o a b m = 22) := by
  unfold icv ice
  by_cases h : InOk o a b m
  · exact .inl ⟨h, if_pos h, if_pos h⟩
  · exact .inr ⟨h, if_neg h, if_neg h⟩
section
variable (o a b m : Int) (w : World)
theorem icheck_any : Calls Tryd.prog 9 #[.agg #[.int .i64 o, .int .i64 a, .int .i64 b, .int .i64 m]] w fun e w' => e = .returned (erN (ice o a b m)) ∧ New w w' := by
  rcases ic_cases o a b m with ⟨k, e1, e2⟩ | ⟨k, e1, e2⟩
  · rw [e2, erN_zero]; exact icheck_ok o a b m w k
  · rw [e2, erN_pos (by decide)]; exact icheck_no o a b m w k
theorem iencode_any : Calls Tryd.prog 5 #[.agg #[.int .i64 o, .int .i64 a, .int .i64 b, .int .i64 m]] w fun e w' => e = .returned (.tuple #[.int .u32 (icv o a b m), erN (ice o a b m)]) ∧ New w w' := by
  rcases ic_cases o a b m with ⟨k, e1, e2⟩ | ⟨k, e1, e2⟩
  · rw [e1, e2, erN_zero]; exact iencode_ok o a b m w k
  · rw [e1, e2, erN_pos (by decide)]; exact iencode_no o a b m w k
end
theorem idecode_any (v : Int) (w : World) (h0 : 0 ≤ v) (h1 : v ≤ 4294967295) :
    Calls Tryd.prog 7 #[.int .u32 v] w fun e w' => e = .returned (.tuple #[.agg #[.int .i64 (idn v (v / 16777216)), .int .i64 (idn v (v / 1048576 % 16)), .int .i64 (idn v (v / 65536 % 16)), .int .i64 (idn v (imv v))], erN (ide v)]) ∧ New w w' := by
  unfold idn ide
  by_cases k : v / 16777216 ≤ 41
  · simp only [if_pos k]; rw [erN_zero]; exact idecode_ok v w h0 h1 k
  · simp only [if_neg k]; rw [erN_pos (by decide)]; exact idecode_no v w h0 h1 (by omega)
end Go.Proofs.YtmllcppndlcgnaaDoor
