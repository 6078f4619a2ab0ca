/- What the small functions on binary64 numbers by their bits do, of the package and of the document's own answers: kinds, signs, places in the row of all bits. Contracts, for all bits, in any world, which stays. -/
import Derived.Test.YtgkonjgalpchoaaBase
import Derived.Test.YtgkonjgalpchoaaSoftMath
import Derived.RowKit
import Derived.IntWalk
import Derived.WalkKit
import Derived.ProofKit
import Derived.OpenShut
import Derived.Handy
import Derived.Outline
import Derived.WalkLawsBesides
import Derived.WalkSpells
import Derived.Lib.Hide
import Derived.Deep.Draws
import Derived.Laws.BitsAllLaws
namespace Go.Proofs.Ytgkonjgalpchoaa
open Go.RowKit
set_option linter.unusedVariables false
theorem land_ex (a : Nat) (h : U a) : bits .and .u64 (a : Int) 9218868437227405312 = ((ex a * 4503599627370496 : Nat) : Int) := by
  unfold U at h
  rw [← and_ex, ← u64_and_nat a 9218868437227405312 (by omega) (by omega)]; rfl
theorem land_fr (a : Nat) (h : U a) : bits .and .u64 (a : Int) 4503599627370495 = ((fr a : Nat) : Int) := by
  unfold U at h
  rw [← and_fr, ← u64_and_nat a 4503599627370495 (by omega) (by omega)]; rfl
theorem land_sign (a : Nat) (h : U a) : bits .and .u64 (a : Int) 9223372036854775808 = ((if sgn a then 9223372036854775808 else 0 : Nat) : Int) := by
  rw [← and_sign a h]
  unfold U at h
  rw [← u64_and_nat a 9223372036854775808 (by omega) (by omega)]; rfl
theorem lor_sign (a : Nat) (h : a < 9223372036854775808) : bits .or .u64 (a : Int) 9223372036854775808 = ((a + 9223372036854775808 : Nat) : Int) := by
  rw [← or_sign a h, ← u64_or_nat a 9223372036854775808 (by omega) (by omega)]; rfl
theorem lnot_all (a : Nat) (h : U a) : bits .xor .u64 IntKind.u64.max (a : Int) = ((18446744073709551615 - a : Nat) : Int) := by
  rw [← xor_all a h]
  unfold U at h
  rw [← u64_xor_nat 18446744073709551615 a (by omega) (by omega)]; rfl
end Go.Proofs.Ytgkonjgalpchoaa
