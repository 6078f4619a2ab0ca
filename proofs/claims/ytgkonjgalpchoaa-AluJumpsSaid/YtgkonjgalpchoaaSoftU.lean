/- What the document's own sum of binary64 numbers is: a contract, for all bits, in any world, behind which there are new blocks. -/
import Derived.Test.YtgkonjgalpchoaaSoftT
import Derived.Test.YtgkonjgalpchoaaSoftMore
import Derived.Deep.DeepCutAuto
import Derived.Deep.CutBlock
import Derived.Deep.LoopGhost
namespace Go.Proofs.Ytgkonjgalpchoaa
open Go.RowKit
set_option linter.unusedVariables false
end Go.Proofs.Ytgkonjgalpchoaa
