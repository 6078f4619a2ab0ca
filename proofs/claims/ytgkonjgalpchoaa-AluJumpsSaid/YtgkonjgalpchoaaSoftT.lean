/- What the document's own answers on binary64 numbers do with the parts of a number, and whole numbers to and fro; contracts, in any world, behind which there are new blocks. -/
import Derived.Test.YtgkonjgalpchoaaSoftS
namespace Go.Proofs.Ytgkonjgalpchoaa
open Go.RowKit
set_option linter.unusedVariables false
/-- a number as the document's answers have it -/
def numv (neg : Bool) (m : Nat) (p : Int) (more : Bool) : Value := .agg #[.bool neg, .int .u64 m, .int .i64 p, .bool more]
theorem pattern_of (n : Int) (w : World) : Calls Try.prog 30 #[.float .f64 (floatOfInt .f64 n)] w fun e w' => e = .returned (.int .u64 (ofi n)) ∧ w = w' := by
  have e : floatOfInt .f64 n = ofi n := nearest_rnd _ _ _
  rw [e]
  have h := ofi_ok n
  have hp : pat (ofi n) = ofi n := by unfold pat; rw [if_neg h.2]
  exact (pattern_any (ofi n) w h.1).mono fun e w' ⟨h1, h2⟩ => ⟨by rw [h1, hp], h2⟩
end Go.Proofs.Ytgkonjgalpchoaa
