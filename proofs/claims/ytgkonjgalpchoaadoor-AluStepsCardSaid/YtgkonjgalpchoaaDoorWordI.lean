/- What quotients by 0 answer, and what the document's own quotient with signs does: contracts, in any world. -/
import Derived.Test.YtgkonjgalpchoaaDoorWordD
namespace Go.Proofs.YtgkonjgalpchoaaDoor
open Go.RowKit
set_option linter.unusedVariables false
theorem wdiv_zero (a : Int) (w : World) :
    Calls Tryd.prog 69 #[.int .u32 a, .int .u32 0] w fun e w' => e = .returned (.tuple #[.int .u32 0, .int .u32 0, .iface 61 (.int .i64 22)]) ∧ w = w' := by
  go_enter Tryd.func69, Tryd.ntmps69
  go_wp2
  go_ret3
  exact ⟨rfl, rfl⟩
theorem quo_signs (x y : Int) (hy : y ≠ 0) :
    (0 ≤ x → 0 < y → x.tdiv y = x / y ∧ x.tmod y = x % y) ∧ (0 ≤ x → y < 0 → x.tdiv y = -(x / -y) ∧ x.tmod y = x % -y) ∧
    (x < 0 → 0 < y → x.tdiv y = -(-x / y) ∧ x.tmod y = -(-x % y)) ∧ (x < 0 → y < 0 → x.tdiv y = -x / -y ∧ x.tmod y = -(-x % -y)) := by
  refine ⟨fun h g => ⟨Int.tdiv_eq_ediv_of_nonneg h, Int.tmod_eq_emod_of_nonneg h⟩, fun h g => ⟨?_, ?_⟩, fun h g => ⟨?_, ?_⟩, fun h g => ⟨?_, ?_⟩⟩
  · rw [← Int.tdiv_eq_ediv_of_nonneg h, Int.tdiv_neg, Int.neg_neg]
  · rw [← Int.tmod_eq_emod_of_nonneg h, Int.tmod_neg]
  · rw [← Int.tdiv_eq_ediv_of_nonneg (show 0 ≤ -x by omega), Int.neg_tdiv, Int.neg_neg]
  · rw [← Int.tmod_eq_emod_of_nonneg (show 0 ≤ -x by omega), Int.neg_tmod, Int.neg_neg]
  · rw [← Int.tdiv_eq_ediv_of_nonneg (show 0 ≤ -x by omega), Int.tdiv_neg, Int.neg_tdiv, Int.neg_neg]
  · rw [← Int.tmod_eq_emod_of_nonneg (show 0 ≤ -x by omega), Int.tmod_neg, Int.neg_tmod, Int.neg_neg]
theorem quo_bd (x y : Int) (hx : 0 ≤ x) (hx' : x ≤ 2147483648) (hy : 1 ≤ y) : 0 ≤ x / y ∧ x / y ≤ 2147483648 ∧ 0 ≤ x % y ∧ x % y ≤ 2147483648 := by
  have h1 := Int.ediv_nonneg hx (show 0 ≤ y by omega)
  have h2 := Int.ediv_le_self y hx
  have h3 := Int.emod_nonneg x (show y ≠ 0 by omega)
  have h4 := Int.mul_ediv_add_emod x y
  have h5 := Int.mul_nonneg (show 0 ≤ y by omega) h1
  omega
end Go.Proofs.YtgkonjgalpchoaaDoor
