/- What a statement's own function num makes of an error: 0 of nil, the number of one of the project's errors; in any world in which the library's one variable holds what its text lays. Behind it there are new blocks, and no other cell is changed. -/
import Derived.Test.YtbjpflomibcenaaBase
import Derived.Test.YtbjpflomibcenaaAs
import Derived.Deep.Draws
import Derived.Handy
namespace Go.Proofs.Ytbjpflomibcenaa
open Go.RowKit Go.Extern.Stop Go.Stop Go.Extern
set_option linter.unusedVariables false
end Go.Proofs.Ytbjpflomibcenaa
