/- What the document's own product of any two binary64 numbers is; a contract, for all bits, in any world, behind which there are new blocks. -/
import Derived.Test.YtgkonjgalpchoaaSoftW
namespace Go.Proofs.Ytgkonjgalpchoaa
open Go.RowKit
set_option linter.unusedVariables false
def mulx (m i : Nat) : Nat := m * 2^i
theorem mulx_succ (m i : Nat) : mulx m (i+1) = 2 * mulx m i := by unfold mulx; rw [Nat.pow_succ]; ac_rfl
end Go.Proofs.Ytgkonjgalpchoaa
