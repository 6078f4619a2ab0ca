/- What quotients, shifts, turns and counts of numbers of 32 bits do: contracts, for all numbers, in any world. -/
import Derived.Test.YtgkonjgalpchoaaWordB
import Derived.Deep.QuietTactic
import Derived.BigQuiet
import Derived.Lib.BitFns
namespace Go.Proofs.Ytgkonjgalpchoaa
open Go.RowKit
set_option linter.unusedVariables false
theorem tdiv_bd (x y : Int) (hx : -2147483648 ≤ x) (hx' : x ≤ 2147483647) (hy : y ≠ 0) : -2147483648 ≤ x.tdiv y ∧ x.tdiv y ≤ 2147483648 ∧ -2147483648 ≤ x.tmod y ∧ x.tmod y ≤ 2147483647 := by
  have h1 := Int.natAbs_tdiv_le_natAbs x y
  have h2 := Int.tmod_eq_emod (a := x) (b := y)
  have h3 : (x.tmod y).natAbs ≤ x.natAbs := by rw [Int.natAbs_tmod]; exact Nat.mod_le _ _
  have h4 : 0 ≤ x → 0 ≤ x.tmod y := fun h => Int.tmod_nonneg _ h
  have h5 : x ≤ 0 → x.tmod y ≤ 0 := fun h => by
    have := Int.tmod_nonneg (a := -x) y (by omega)
    rw [Int.neg_tmod] at this; omega
  omega
set_option maxHeartbeats 400000 in
theorem wdiv_any (a b : Int) (w : World) (h0 : 0 ≤ a) (h1 : a ≤ 4294967295) (g0 : 1 ≤ b) (g1 : b ≤ 4294967295) :
    Calls Try.prog 29 #[.int .u32 a, .int .u32 b] w fun e w' => e = .returned (.tuple #[.int .u32 (a / b), .int .u32 (a % b), .nilIface]) ∧ ∃ n, w' = w.drewN n := by
  have hb1 : (b == 0) = false := by simp; omega
  have hd : 0 ≤ a / b ∧ a / b ≤ a := ⟨Int.ediv_nonneg h0 (by omega), Int.ediv_le_self _ h0⟩
  go_enter Try.func29, Try.ntmps29
  go_wp2
  go_quiet (fail)
  go_wp2
  go_ret3
  exact ⟨rfl, _, rfl⟩
/-- how many of the highest bits are not set -/
def zs (v : Int) : Int := 32 - (Lib.bitLen v.toNat : Nat)
theorem bitLen_bd (x : Int) (h0 : 0 ≤ x) (h1 : x ≤ 4294967295) : Lib.bitLen x.toNat ≤ 32 := Lib.bitLen_le x.toNat 32 (by omega) (by omega)
end Go.Proofs.Ytgkonjgalpchoaa
