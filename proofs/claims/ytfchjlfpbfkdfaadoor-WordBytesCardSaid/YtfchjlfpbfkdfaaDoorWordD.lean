/- What quotients, shifts, turns and counts of numbers of 32 bits do: contracts, for all numbers, in any world. -/
import Derived.Test.YtfchjlfpbfkdfaaDoorWordB
import Derived.Deep.QuietTactic
import Derived.BigQuiet
import Derived.Lib.BitFns
namespace Go.Proofs.YtfchjlfpbfkdfaaDoor
open Go.RowKit
set_option linter.unusedVariables false
theorem tdiv_bd (x y : Int) (hx : -2147483648 ≤ x) (hx' : x ≤ 2147483647) (hy : y ≠ 0) : -2147483648 ≤ x.tdiv y ∧ x.tdiv y ≤ 2147483648 ∧ -2147483648 ≤ x.tmod y ∧ x.tmod y ≤ 2147483647 := by
  have h1 := Int.natAbs_tdiv_le_natAbs x y
  have h2 := Int.tmod_eq_emod (a := x) (b := y)
  have h3 : (x.tmod y).natAbs ≤ x.natAbs := by rw [Int.natAbs_tmod]; exact Nat.mod_le _ _
  have h4 : 0 ≤ x → 0 ≤ x.tmod y := fun h => Int.tmod_nonneg _ h
  have h5 : x ≤ 0 → x.tmod y ≤ 0 := fun h => by
    have := Int.tmod_nonneg (a := -x) y (by omega)
    rw [Int.neg_tmod] at this; omega
  omega
set_option maxHeartbeats 400000 in
theorem wsigned_any (a b : Int) (w : World) (h0 : 0 ≤ a) (h1 : a ≤ 4294967295) (g0 : 1 ≤ b) (g1 : b ≤ 4294967295) :
    Calls Tryd.prog 12 #[.int .u32 a, .int .u32 b] w fun e w' => e = .returned (.tuple #[.int .u32 (m32 ((sg a).tdiv (sg b))), .int .u32 (m32 ((sg a).tmod (sg b))), .nilIface]) ∧ ∃ n, w' = w.drewN n := by
  have ha := sg_bd a h0 h1
  have hb := sg_bd b (by omega) g1
  have hb0 : sg b ≠ 0 := by unfold sg; split <;> omega
  have hd := tdiv_bd (sg a) (sg b) ha.1 ha.2 hb0
  have hb1 : (b == 0) = false := by simp; omega
  have hb2 : (sg b == 0) = false := by simp; omega
  go_enter Tryd.func12, Tryd.ntmps12
  go_wp2_with (go_at_call 19; (with_reducible refine (signed_any _ _ (by omega) (by omega)).mono ?_); rintro e w' ⟨rfl, rfl⟩)
  go_quiet (fail)
  go_wp2
  go_ret3
  exact ⟨rfl, _, rfl⟩
set_option maxHeartbeats 400000 in
theorem wdiv_any (a b : Int) (w : World) (h0 : 0 ≤ a) (h1 : a ≤ 4294967295) (g0 : 1 ≤ b) (g1 : b ≤ 4294967295) :
    Calls Tryd.prog 11 #[.int .u32 a, .int .u32 b] w fun e w' => e = .returned (.tuple #[.int .u32 (a / b), .int .u32 (a % b), .nilIface]) ∧ ∃ n, w' = w.drewN n := by
  have hb1 : (b == 0) = false := by simp; omega
  have hd : 0 ≤ a / b ∧ a / b ≤ a := ⟨Int.ediv_nonneg h0 (by omega), Int.ediv_le_self _ h0⟩
  go_enter Tryd.func11, Tryd.ntmps11
  go_wp2
  go_quiet (fail)
  go_wp2
  go_ret3
  exact ⟨rfl, _, rfl⟩
set_option maxHeartbeats 4000000 in
set_option maxRecDepth 100000 in
theorem len32_any (x : Int) (w : World) (h0 : 0 ≤ x) (h1 : x ≤ 4294967295) :
    Calls Tryd.prog 32 #[.int .u32 x] w fun e w' => e = .returned (.int .i64 (Lib.bitLen x.toNat)) ∧ w = w' := by
  by_cases c1 : x ≤ 255
  · have e := Lib.len8_of x h0 c1
    have l := Lib.bitLen_le8' x h0 c1
    have E : Hid (Lib.len8 x = (Lib.bitLen x.toNat : Int)) := Lib.hid e
    clear e
    go_enter Tryd.func32, Tryd.ntmps32
    go_wp2
    go_ret
    exact ⟨ret_int (by rw [E.out]; unfold wrap64; omega), rfl⟩
  · by_cases c2 : x ≤ 65535
    · have k0 : 0 ≤ x / 256 := by omega
      have k1 : x / 256 ≤ 255 := by omega
      have e := Lib.len8_of (x / 256) k0 k1
      have l := Lib.bitLen_le8' (x / 256) k0 k1
      have s := Lib.bitLen_shift8 x.toNat (by omega) (by omega)
      rw [show x.toNat / 256 = (x / 256).toNat from by omega] at s
      have E : Hid (Lib.len8 (x / 256) = (Lib.bitLen (x / 256).toNat : Int)) := Lib.hid e
      have F : Hid (Lib.bitLen x.toNat = 8 + Lib.bitLen (x / 256).toNat) := Lib.hid s
      clear e s
      go_enter Tryd.func32, Tryd.ntmps32
      go_wp2
      go_ret
      exact ⟨ret_int (by rw [E.out, F.out]; unfold wrap64; omega), rfl⟩
    · by_cases c3 : x ≤ 16777215
      · have k0 : 0 ≤ x / 65536 := by omega
        have k1 : x / 65536 ≤ 255 := by omega
        have e := Lib.len8_of (x / 65536) k0 k1
        have l := Lib.bitLen_le8' (x / 65536) k0 k1
        have s := Lib.bitLen_shift16 x.toNat (by omega) (by omega)
        rw [show x.toNat / 65536 = (x / 65536).toNat from by omega] at s
        have E : Hid (Lib.len8 (x / 65536) = (Lib.bitLen (x / 65536).toNat : Int)) := Lib.hid e
        have F : Hid (Lib.bitLen x.toNat = 16 + Lib.bitLen (x / 65536).toNat) := Lib.hid s
        clear e s
        go_enter Tryd.func32, Tryd.ntmps32
        go_wp2
        go_ret
        exact ⟨ret_int (by rw [E.out, F.out]; unfold wrap64; omega), rfl⟩
      · have k0 : 0 ≤ x / 65536 / 256 := by omega
        have k1 : x / 65536 / 256 ≤ 255 := by omega
        have e := Lib.len8_of (x / 65536 / 256) k0 k1
        have l := Lib.bitLen_le8' (x / 65536 / 256) k0 k1
        have s := Lib.bitLen_shift24 x.toNat (by omega) (by omega)
        rw [show x.toNat / 16777216 = (x / 65536 / 256).toNat from by omega] at s
        have E : Hid (Lib.len8 (x / 65536 / 256) = (Lib.bitLen (x / 65536 / 256).toNat : Int)) := Lib.hid e
        have F : Hid (Lib.bitLen x.toNat = 24 + Lib.bitLen (x / 65536 / 256).toNat) := Lib.hid s
        clear e s
        go_enter Tryd.func32, Tryd.ntmps32
        go_wp2
        go_ret
        exact ⟨ret_int (by rw [E.out, F.out]; unfold wrap64; omega), rfl⟩
/-- how many of the highest bits are not set -/
def zs (v : Int) : Int := 32 - (Lib.bitLen v.toNat : Nat)
theorem bitLen_bd (x : Int) (h0 : 0 ≤ x) (h1 : x ≤ 4294967295) : Lib.bitLen x.toNat ≤ 32 := Lib.bitLen_le x.toNat 32 (by omega) (by omega)
theorem lz32_any (x : Int) (w : World) (h0 : 0 ≤ x) (h1 : x ≤ 4294967295) :
    Calls Tryd.prog 28 #[.int .u32 x] w fun e w' => e = .returned (.int .i64 (zs x)) ∧ w = w' := by
  have hb := bitLen_bd x h0 h1
  go_enter Tryd.func28, Tryd.ntmps28
  go_wp2_with (go_at_call 32; (with_reducible refine (len32_any _ _ (by omega) (by omega)).mono ?_); rintro e w' ⟨rfl, rfl⟩)
  go_ret
  exact ⟨rfl, rfl⟩
theorem zeros_any (x : Int) (w : World) (h0 : 0 ≤ x) (h1 : x ≤ 4294967295) :
    Calls Tryd.prog 17 #[.int .u32 x] w fun e w' => e = .returned (.int .i64 (zs x)) ∧ w = w' := by
  go_enter Tryd.func17, Tryd.ntmps17
  go_wp2_with (go_at_call 28; (with_reducible refine (lz32_any _ _ (by omega) (by omega)).mono ?_); rintro e w' ⟨rfl, rfl⟩)
  go_ret
  exact ⟨rfl, rfl⟩
end Go.Proofs.YtfchjlfpbfkdfaaDoor
