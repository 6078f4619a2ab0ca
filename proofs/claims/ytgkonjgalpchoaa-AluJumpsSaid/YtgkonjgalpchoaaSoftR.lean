/- What the document's own rounding of binary64 numbers does: a contract, for all whole numbers below 2^63 times a power of two, in any world; behind it there are new blocks. -/
import Derived.Test.YtgkonjgalpchoaaSoftB
import Derived.LoopTactic
import Derived.Deep.LoopGhost
import Derived.Deep.QuietTactic
import Derived.BigQuiet
import Derived.RegionTactic
import Derived.Deep.DeepCutAuto
import Derived.Deep.CutBlock
namespace Go.Proofs.Ytgkonjgalpchoaa
open Go.RowKit
set_option linter.unusedVariables false
theorem u64_of {a b : Nat} (h : a = b) : Value.int .u64 (a : Int) = Value.int .u64 (b : Int) := by rw [h]
theorem par_of (m : Nat) : ((m : Int) % 2 == 1) = (m % 2 == 1) := by
  rw [Bool.eq_iff_iff]; simp; omega
end Go.Proofs.Ytgkonjgalpchoaa
