/- What the document's own quotient of any two binary64 numbers is; a contract, for all bits, in any world, behind which there are new blocks. -/
import Derived.Test.YtgkonjgalpchoaaSoftX
namespace Go.Proofs.Ytgkonjgalpchoaa
open Go.RowKit
set_option linter.unusedVariables false
def so_dq (X Y i : Nat) : Nat := X * 2^i / Y
def dr (X Y i : Nat) : Nat := X * 2^i % Y
theorem u64_val {x y : Int} (h : x = y) : Value.int .u64 x = .int .u64 y := by rw [h]
theorem dq_succ (X Y i : Nat) (h : 0 < Y) : 2 * so_dq X Y i + 2 * dr X Y i / Y = so_dq X Y (i+1) ∧ 2 * dr X Y i % Y = dr X Y (i+1) := div_step X Y i h
theorem so_dq_bd (X Y i : Nat) (hX : X < 9007199254740992) (hY : 4503599627370496 ≤ Y) (hi : i ≤ 60) : so_dq X Y i ≤ 2305843009213693952 ∧ dr X Y i < Y := by
  refine ⟨?_, Nat.mod_lt _ (by omega)⟩
  unfold so_dq
  have h1 : 2^i ≤ 2^60 := Nat.pow_le_pow_right (by decide) hi
  have h2 : X * 2^i ≤ 9007199254740992 * 2^60 := Nat.mul_le_mul (by omega) h1
  have h3 : X * 2^i / Y ≤ 9007199254740992 * 2^60 / 4503599627370496 := Nat.div_le_div h2 hY (by decide)
  omega
theorem dq_zero (X Y : Nat) : so_dq X Y 0 = X / Y ∧ dr X Y 0 = X % Y := by unfold so_dq dr; simp
theorem dq_low (X Y : Nat) (hX : 4503599627370496 ≤ X) (hY : 0 < Y) (hY' : Y < 9007199254740992) : 4503599627370496 ≤ so_dq X Y 60 := by
  unfold so_dq; rw [Nat.le_div_iff_mul_le hY]; omega
end Go.Proofs.Ytgkonjgalpchoaa
