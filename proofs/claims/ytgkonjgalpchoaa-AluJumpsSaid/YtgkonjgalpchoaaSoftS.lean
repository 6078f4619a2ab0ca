/- What the document's own rounding of binary64 numbers does, also of 0, and what it makes of whole numbers with their signs; contracts, in any world, behind which there are new blocks. -/
import Derived.Test.YtgkonjgalpchoaaSoftR
namespace Go.Proofs.Ytgkonjgalpchoaa
open Go.RowKit
set_option linter.unusedVariables false
end Go.Proofs.Ytgkonjgalpchoaa
