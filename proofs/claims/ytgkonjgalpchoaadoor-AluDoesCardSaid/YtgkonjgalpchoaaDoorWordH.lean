/- What the document's own shifts, turns, spreads and counts of numbers of 32 bits do: contracts, for all numbers, in any world, which stays. -/
import Derived.Test.YtgkonjgalpchoaaDoorWordB
import Derived.Lib.BitFns
namespace Go.Proofs.YtgkonjgalpchoaaDoor
open Go.RowKit
set_option linter.unusedVariables false
theorem rlow_any (n : Int) (w : World) (h1 : -9223372036854775808 ≤ n) (h2 : n ≤ 9223372036854775807) :
    Calls Tryd.prog 54 #[.int .i64 n] w fun e w' => e = .returned (.int .i64 (lo n)) ∧ w = w' := by
  have hl := lo_eq n
  by_cases h : 0 ≤ n
  · have HL := Lib.hid hl
    clear hl
    go_enter Tryd.func54, Tryd.ntmps54
    go_wp2
    go_ret
    exact ⟨ret_int (by rw [HL.out]), rfl⟩
  · by_cases h0 : n % 32 = 0
    · have e := tmod32_neg0 n (by omega) h0
      have HL := Lib.hid (show (lo n : Int) = 0 by omega)
      clear h0 hl
      go_enter Tryd.func54, Tryd.ntmps54
      go_wp2
      go_ret
      exact ⟨ret_int (by rw [HL.out]), rfl⟩
    · have e := tmod32_neg n (by omega) h0
      have HL := Lib.hid hl
      clear hl
      go_enter Tryd.func54, Tryd.ntmps54
      go_wp2
      go_ret
      exact ⟨ret_int (by rw [HL.out]), rfl⟩
set_option maxHeartbeats 400000 in
theorem rsar_any (v n : Int) (w : World) (h0 : 0 ≤ v) (h1 : v ≤ 4294967295) (g1 : -9223372036854775808 ≤ n) (g2 : n ≤ 9223372036854775807) :
    Calls Tryd.prog 28 #[.int .u32 v, .int .i64 n] w fun e w' => e = .returned (.int .u32 (sar v (lo n))) ∧ w = w' := by
  have hl := lo_lt n
  go_enter Tryd.func28, Tryd.ntmps28
  go_wp2
  go_loop [0, 5] (fun x i => ∃ k : Nat, k ≤ lo n ∧ i = .int .i64 k ∧ x = .int .u32 (sar v k)) (fun _ i => 32 - (intOf i).toNat)
  case atStart => exact ⟨0, Nat.zero_le _, rfl, by rw [sar_zero v h0 h1]⟩
  case round =>
    obtain ⟨k, hk, rfl, rfl⟩ := hrel
    have hb := sar_bd v k
    by_cases hlt : k < lo n
    · have hs := sar_step v k (by omega) h0 h1
      have HS := Lib.hid hs
      have hb2 := sar_bd v (k + 1)
      clear hs
      go_wp2_with (go_at_call 54; (with_reducible refine (rlow_any _ _ (by omega) (by omega)).mono ?_); rintro e w' ⟨rfl, rfl⟩)
      go_round
      case rel => exact ⟨k + 1, by omega, by go_num, by rw [← HS.out]; try (congr 1; omega)⟩
      case measure => simp [intOf]; omega
    · obtain rfl : k = lo n := by omega
      go_wp2_with (go_at_call 54; (with_reducible refine (rlow_any _ _ (by omega) (by omega)).mono ?_); rintro e w' ⟨rfl, rfl⟩)
      go_ret
      exact ⟨rfl, rfl⟩
theorem rpower' (k : Nat) (w : World) (h : k ≤ 62) :
    Calls Tryd.prog 27 #[.int .i64 k] w fun e w' => e = .returned (.int .i64 (pw k)) ∧ w = w' := by
  have h := rpower_any k w (by omega) (by omega)
  rw [Int.toNat_natCast] at h; exact h
theorem lo_neg (n : Int) (h : n < 0) : ((lo (-n) : Nat) : Int) = (32 - (lo n : Int)) % 32 := by unfold lo; omega
/-- how many of the highest bits are not set -/
def zr (v : Int) : Int := 32 - (Lib.bitLen v.toNat : Nat)
theorem zr_step (v : Int) (h : 0 < v) (h1 : v ≤ 4294967295) : zr (v / 2) = zr v + 1 := by
  have e := Lib.bitLen_half v.toNat (by omega) (by omega)
  unfold zr; rw [e, show (v / 2).toNat = v.toNat / 2 from by omega]; omega
theorem zr_zero : zr 0 = 32 := by decide +kernel
theorem zr_bd (v : Int) (h0 : 0 ≤ v) (h1 : v ≤ 4294967295) : 0 ≤ zr v ∧ zr v ≤ 32 := by
  have := Lib.bitLen_le v.toNat 32 (by omega) (by omega)
  unfold zr; omega
end Go.Proofs.YtgkonjgalpchoaaDoor
