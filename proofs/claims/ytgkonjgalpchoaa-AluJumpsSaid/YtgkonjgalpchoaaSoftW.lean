/- What the document's own product, quotient and root of binary64 numbers do in part: products of whole numbers by pieces; contracts, in any world, which stays. -/
import Derived.Test.YtgkonjgalpchoaaSoftT
import Derived.Test.YtgkonjgalpchoaaSoftMore
import Derived.Deep.DeepCutAuto
import Derived.Deep.CutBlock
import Derived.Deep.LoopGhost
namespace Go.Proofs.Ytgkonjgalpchoaa
open Go.RowKit
set_option linter.unusedVariables false
theorem ret_uu {a b c d : Int} (h : a = b) (h' : c = d) : Ending.returned (.tuple #[.int .u64 a, .int .u64 c]) = .returned (.tuple #[.int .u64 b, .int .u64 d]) := by rw [h, h']
def phi (x y : Nat) : Nat := x * y / 18014398509481984
def plo (x y : Nat) : Nat := x * y % 18014398509481984
end Go.Proofs.Ytgkonjgalpchoaa
