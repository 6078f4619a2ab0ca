/- What the document's own root of any binary64 number is; a contract, for all bits, in any world, behind which there are new blocks. -/
import Derived.Test.YtgkonjgalpchoaaSoftX
namespace Go.Proofs.Ytgkonjgalpchoaa
open Go.RowKit
set_option linter.unusedVariables false
theorem u64_of' {x y : Int} (h : x = y) : Value.int .u64 x = .int .u64 y := by rw [h]
theorem tmod2 (n : Int) : (n.tmod 2 != 0) = (n % 2 != 0) := by
  have h := Int.tmod_eq_emod (a := n) (b := 2)
  rw [Bool.eq_iff_iff]; simp only [bne_iff_ne, ne_eq]
  rw [h, show Int.natAbs 2 = 2 from rfl]; split <;> omega
theorem tdiv2 (n : Int) (h : n % 2 = 0) : n.tdiv 2 = n / 2 := by
  rw [Int.tdiv_eq_ediv, if_pos (Or.inr (Int.dvd_of_emod_eq_zero h))]; omega
def rXm (M i : Nat) : Nat := rX M (min i 27)
theorem rXm_low (M i : Nat) (h : i ≤ 27) : rXm M i = rX M i := by unfold rXm; rw [Nat.min_eq_left h]
theorem rXm_high (M i : Nat) (h : 27 ≤ i) : rXm M (i + 1) = rXm M i := by unfold rXm; rw [Nat.min_eq_right (by omega), Nat.min_eq_right h]
end Go.Proofs.Ytgkonjgalpchoaa
