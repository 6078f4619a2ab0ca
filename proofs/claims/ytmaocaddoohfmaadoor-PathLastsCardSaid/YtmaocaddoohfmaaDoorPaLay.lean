/- The world's shape gives what the walks on paths ask of the library's one number. -/
import Derived.Test.YtmaocaddoohfmaaDoorPaB
import Derived.Shelf.Vars
namespace Go.Proofs.YtmaocaddoohfmaaDoor
open Go.RowKit
set_option linter.unusedVariables false
theorem mx_of {W : World} (hs : W.ShapedOpen Tryd.prog) : Mx W :=
  Go.Proofs.cell_of_shapedOpen_int (P := Tryd.prog) (t := 3) (zero := #[.int .i64 0]) (k := .i64) hs (by rw [show Tryd.prog.globals.size = 4 by kernel_rfl]; decide) (by kernel_rfl) rfl (by kernel_rfl) (by kernel_rfl) Tryd.underlying3
end Go.Proofs.YtmaocaddoohfmaaDoor
