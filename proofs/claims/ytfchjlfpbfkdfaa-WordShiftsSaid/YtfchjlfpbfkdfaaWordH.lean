/- What the document's own shifts, turns, spreads and counts of numbers of 32 bits do: contracts, for all numbers, in any world, which stays. -/
import Derived.Test.YtfchjlfpbfkdfaaWordB
import Derived.Lib.BitFns
namespace Go.Proofs.Ytfchjlfpbfkdfaa
open Go.RowKit
set_option linter.unusedVariables false
theorem rlow_any (n : Int) (w : World) (h1 : -9223372036854775808 ≤ n) (h2 : n ≤ 9223372036854775807) :
    Calls Try.prog 37 #[.int .i64 n] w fun e w' => e = .returned (.int .i64 (lo n)) ∧ w = w' := by
  have hl := lo_eq n
  by_cases h : 0 ≤ n
  · have HL := Lib.hid hl
    clear hl
    go_enter Try.func37, Try.ntmps37
    go_wp2
    go_ret
    exact ⟨ret_int (by rw [HL.out]), rfl⟩
  · by_cases h0 : n % 32 = 0
    · have e := tmod32_neg0 n (by omega) h0
      have HL := Lib.hid (show (lo n : Int) = 0 by omega)
      clear h0 hl
      go_enter Try.func37, Try.ntmps37
      go_wp2
      go_ret
      exact ⟨ret_int (by rw [HL.out]), rfl⟩
    · have e := tmod32_neg n (by omega) h0
      have HL := Lib.hid hl
      clear hl
      go_enter Try.func37, Try.ntmps37
      go_wp2
      go_ret
      exact ⟨ret_int (by rw [HL.out]), rfl⟩
set_option maxHeartbeats 400000 in
theorem rturn_any (v n : Int) (w : World) (h0 : 0 ≤ v) (h1 : v ≤ 4294967295) (g1 : -9223372036854775808 ≤ n) (g2 : n ≤ 9223372036854775807) :
    Calls Try.prog 20 #[.int .u32 v, .int .i64 n] w fun e w' => e = .returned (.int .u32 (rot v (lo n))) ∧ w = w' := by
  have hl := lo_lt n
  go_enter Try.func20, Try.ntmps20
  go_wp2
  go_loop [0, 5] (fun x i => ∃ k : Nat, k ≤ lo n ∧ i = .int .i64 k ∧ x = .int .u32 (rot v k)) (fun _ i => 32 - (intOf i).toNat)
  case atStart => exact ⟨0, Nat.zero_le _, rfl, by rw [rot_zero v h0 h1]⟩
  case round =>
    obtain ⟨k, hk, rfl, rfl⟩ := hrel
    have hb := rot_bd v k (by omega) h0 h1
    by_cases hlt : k < lo n
    · have hs := rot_succ v k (by omega) h0 h1
      have HS := Lib.hid hs
      have hb2 := rot_bd v (k + 1) (by omega) h0 h1
      have HM := Lib.hid (m32_of (rot v (k + 1)) hb2.1 hb2.2)
      clear hs
      go_wp2_with (first | (go_at_call 37; (with_reducible refine (rlow_any _ _ (by omega) (by omega)).mono ?_); rintro e w' ⟨rfl, rfl⟩) | (go_at_call 32; (with_reducible refine (rof_any _ _ (by omega) (by omega)).mono ?_); rintro e w' ⟨rfl, rfl⟩))
      go_round
      case rel => exact ⟨k + 1, by omega, by go_num, by rw [HS.out, HM.out]⟩
      case measure => simp [intOf]; omega
    · obtain rfl : k = lo n := by omega
      go_wp2_with (go_at_call 37; (with_reducible refine (rlow_any _ _ (by omega) (by omega)).mono ?_); rintro e w' ⟨rfl, rfl⟩)
      go_ret
      exact ⟨rfl, rfl⟩
set_option maxHeartbeats 400000 in
theorem rsar_any (v n : Int) (w : World) (h0 : 0 ≤ v) (h1 : v ≤ 4294967295) (g1 : -9223372036854775808 ≤ n) (g2 : n ≤ 9223372036854775807) :
    Calls Try.prog 18 #[.int .u32 v, .int .i64 n] w fun e w' => e = .returned (.int .u32 (sar v (lo n))) ∧ w = w' := by
  have hl := lo_lt n
  go_enter Try.func18, Try.ntmps18
  go_wp2
  go_loop [0, 5] (fun x i => ∃ k : Nat, k ≤ lo n ∧ i = .int .i64 k ∧ x = .int .u32 (sar v k)) (fun _ i => 32 - (intOf i).toNat)
  case atStart => exact ⟨0, Nat.zero_le _, rfl, by rw [sar_zero v h0 h1]⟩
  case round =>
    obtain ⟨k, hk, rfl, rfl⟩ := hrel
    have hb := sar_bd v k
    by_cases hlt : k < lo n
    · have hs := sar_step v k (by omega) h0 h1
      have HS := Lib.hid hs
      have hb2 := sar_bd v (k + 1)
      clear hs
      go_wp2_with (go_at_call 37; (with_reducible refine (rlow_any _ _ (by omega) (by omega)).mono ?_); rintro e w' ⟨rfl, rfl⟩)
      go_round
      case rel => exact ⟨k + 1, by omega, by go_num, by rw [← HS.out]; try (congr 1; omega)⟩
      case measure => simp [intOf]; omega
    · obtain rfl : k = lo n := by omega
      go_wp2_with (go_at_call 37; (with_reducible refine (rlow_any _ _ (by omega) (by omega)).mono ?_); rintro e w' ⟨rfl, rfl⟩)
      go_ret
      exact ⟨rfl, rfl⟩
theorem rpower' (k : Nat) (w : World) (h : k ≤ 62) :
    Calls Try.prog 36 #[.int .i64 k] w fun e w' => e = .returned (.int .i64 (pw k)) ∧ w = w' := by
  have h := rpower_any k w (by omega) (by omega)
  rw [Int.toNat_natCast] at h; exact h
theorem lo_neg (n : Int) (h : n < 0) : ((lo (-n) : Nat) : Int) = (32 - (lo n : Int)) % 32 := by unfold lo; omega
theorem rshift_up (v n : Int) (w : World) (h0 : 0 ≤ v) (h1 : v ≤ 4294967295) (hn : 0 ≤ n) (hn' : n ≤ 9223372036854775807) :
    Calls Try.prog 16 #[.int .u32 v, .int .i64 n] w fun e w' => e = .returned (.int .u32 (up v (lo n))) ∧ w = w' := by
  have hl := lo_lt n
  have hb := rot_bd v (lo n) hl h0 h1
  obtain ⟨e, e2, e3⟩ := up_rot v (lo n) hl h0 h1
  have hp := pw_pos (lo n)
  have hq : pw (lo n) ≤ 2147483648 := by rw [← pw31]; exact pw_le (by omega)
  go_enter Try.func16, Try.ntmps16
  go_wp2_with (first | (go_at_call 20; (with_reducible refine (rturn_any _ _ _ (by omega) (by omega) (by omega) (by omega)).mono ?_); rintro e w' ⟨rfl, rfl⟩) | (go_at_call 37; (with_reducible refine (rlow_any _ _ (by omega) (by omega)).mono ?_); rintro e w' ⟨rfl, rfl⟩) | (go_at_call 36; (with_reducible refine (rpower' _ _ (by omega)).mono ?_); rintro e w' ⟨rfl, rfl⟩))
  go_ret
  exact ⟨rfl, rfl⟩
theorem rshift_down (v n : Int) (w : World) (h0 : 0 ≤ v) (h1 : v ≤ 4294967295) (hn : n < 0) (hn' : -9223372036854775808 ≤ n) :
    Calls Try.prog 16 #[.int .u32 v, .int .i64 n] w fun e w' => e = .returned (.int .u32 (v / pw (lo (-n)))) ∧ w = w' := by
  have hl := lo_lt n
  have hm := lo_lt (-n)
  have e := lo_neg n hn
  have e' := e.symm
  generalize hk : lo (-n) = k at *
  clear e
  have hp := pw_pos k
  have hd := div_bd v k h0
  go_enter Try.func16, Try.ntmps16
  go_wp2_with (first | (go_at_call 37; (with_reducible refine (rlow_any _ _ (by omega) (by omega)).mono ?_); rintro e w' ⟨rfl, rfl⟩) | (go_at_call 36; (with_reducible refine (rpower' _ _ (by omega)).mono ?_); rintro e w' ⟨rfl, rfl⟩))
  go_ret
  exact ⟨rfl, rfl⟩
theorem rsext_in (v n : Int) (w : World) (h0 : 0 ≤ v) (h1 : v ≤ 4294967295) (hn : 1 ≤ n) (hn' : n ≤ 31) :
    Calls Try.prog 22 #[.int .u32 v, .int .i64 n] w fun e w' => e = .returned (.int .u32 (sx v n.toNat)) ∧ w = w' := by
  obtain ⟨k, rfl⟩ := Int.eq_ofNat_of_zero_le (show 0 ≤ n by omega)
  rw [Int.toNat_natCast]
  obtain ⟨j, hj⟩ : ∃ j, j = k - 1 := ⟨_, rfl⟩
  have e : (k : Int) - 1 = j := by omega
  have hj2 : j ≤ 31 := by omega
  have hp := pw_pos k
  have hp' := pw_pos j
  have hq : pw k ≤ 2147483648 := by rw [← pw31]; exact pw_le (by omega)
  have hm := mod_bd v k h0
  have es : sx v k = m32 (if v % pw k < pw j then v % pw k else v % pw k - pw k) := by rw [hj]; rfl
  clear hj
  by_cases c : v % pw k < pw j
  · rw [if_pos c] at es
    have ES := Lib.hid es
    clear es
    go_enter Try.func22, Try.ntmps22
    go_wp2_with (first | (go_at_call 36; (with_reducible refine (rpower' _ _ (by omega)).mono ?_); rintro e w' ⟨rfl, rfl⟩) | (go_at_call 32; (with_reducible refine (rof_any _ _ (by omega) (by omega)).mono ?_); rintro e w' ⟨rfl, rfl⟩))
    go_ret
    exact ⟨ret_int (by rw [ES.out]), rfl⟩
  · rw [if_neg c] at es
    have ES := Lib.hid es
    clear es
    go_enter Try.func22, Try.ntmps22
    go_wp2_with (first | (go_at_call 36; (with_reducible refine (rpower' _ _ (by omega)).mono ?_); rintro e w' ⟨rfl, rfl⟩) | (go_at_call 32; (with_reducible refine (rof_any _ _ (by omega) (by omega)).mono ?_); rintro e w' ⟨rfl, rfl⟩))
    go_ret
    exact ⟨ret_int (by rw [ES.out]), rfl⟩
theorem rsext_out (v n : Int) (w : World) (h0 : 0 ≤ v) (h1 : v ≤ 4294967295) (hn : n < 1 ∨ 31 < n) :
    Calls Try.prog 22 #[.int .u32 v, .int .i64 n] w fun e w' => e = .returned (.int .u32 v) ∧ w = w' := by
  by_cases c : n < 1
  · go_enter Try.func22, Try.ntmps22
    go_wp2
    go_ret
    exact ⟨rfl, rfl⟩
  · have c' : 31 < n := by omega
    clear hn
    go_enter Try.func22, Try.ntmps22
    go_wp2
    go_ret
    exact ⟨rfl, rfl⟩
/-- how many of the highest bits are not set -/
def zr (v : Int) : Int := 32 - (Lib.bitLen v.toNat : Nat)
theorem zr_step (v : Int) (h : 0 < v) (h1 : v ≤ 4294967295) : zr (v / 2) = zr v + 1 := by
  have e := Lib.bitLen_half v.toNat (by omega) (by omega)
  unfold zr; rw [e, show (v / 2).toNat = v.toNat / 2 from by omega]; omega
theorem zr_zero : zr 0 = 32 := by decide +kernel
theorem zr_bd (v : Int) (h0 : 0 ≤ v) (h1 : v ≤ 4294967295) : 0 ≤ zr v ∧ zr v ≤ 32 := by
  have := Lib.bitLen_le v.toNat 32 (by omega) (by omega)
  unfold zr; omega
theorem rzeros_any (v : Int) (w : World) (h0 : 0 ≤ v) (h1 : v ≤ 4294967295) :
    Calls Try.prog 24 #[.int .u32 v] w fun e w' => e = .returned (.int .i64 (zr v)) ∧ w = w' := by
  have HV := Lib.hid zr_zero
  go_enter Try.func24, Try.ntmps24
  go_wp2
  go_loop [0, 3] (fun x i => ∃ y n : Int, 0 ≤ y ∧ y ≤ 4294967295 ∧ x = .int .u32 y ∧ i = .int .i64 n ∧ 0 ≤ n ∧ n ≤ 32 ∧ n = 32 + zr v - zr y) (fun x _ => (intOf x).toNat)
  case atStart => exact ⟨v, 32, h0, h1, rfl, rfl, by omega, by omega, by omega⟩
  case round =>
    obtain ⟨y, n, y0, y1, rfl, rfl, n0, n1, hn⟩ := hrel
    have HN := Lib.hid hn
    clear hn
    have hb := zr_bd y y0 y1
    have hv := zr_bd v h0 h1
    by_cases hlt : 0 < y
    · have HS := Lib.hid (zr_step y hlt y1)
      go_wp2
      go_round
      case rel => exact ⟨y / 2, n - 1, by omega, by omega, rfl, rfl, by have := HN.out; have := HS.out; have := zr_bd (y / 2) (by omega) (by omega); omega, by omega, by have := HN.out; have := HS.out; omega⟩
      case measure => simp [intOf]; omega
    · obtain rfl : y = 0 := by omega
      go_wp2
      go_ret
      exact ⟨ret_int (by have := HN.out; have := HV.out; omega), rfl⟩
end Go.Proofs.Ytfchjlfpbfkdfaa
