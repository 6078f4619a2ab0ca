/- What the document's own sum of any two binary64 numbers is, in all cases, and their difference; contracts, for all bits, in any world, behind which there are new blocks. -/
import Derived.Test.YtgkonjgalpchoaaSoftU
namespace Go.Proofs.Ytgkonjgalpchoaa
open Go.RowKit
set_option linter.unusedVariables false
theorem wd0I (n : Bool) : ((so_wd n 0 : Nat) : Int) = wdI n 0 := wd_int n 0
end Go.Proofs.Ytgkonjgalpchoaa
