/- What the functions of sums, differences and products do, of the package of numbers of 32 bits and of the document's own answers: contracts, for all numbers of 32 bits, in any world, which stays. -/
import Derived.Test.YtealjgfijlencaaDoorBase
import Derived.Test.YtealjgfijlencaaDoorWordMath
import Derived.WalkKit
import Derived.ProofKit
import Derived.OpenShut
import Derived.Handy
import Derived.Outline
import Derived.WalkLawsBesides
import Derived.WalkSpells
import Derived.Lib.Hide
import Derived.Deep.Draws
namespace Go.Proofs.YtealjgfijlencaaDoor
open Go.RowKit
set_option linter.unusedVariables false
end Go.Proofs.YtealjgfijlencaaDoor
