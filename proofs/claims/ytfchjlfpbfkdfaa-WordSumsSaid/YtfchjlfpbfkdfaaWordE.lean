/- What spreading, shifting and turning bits of numbers of 32 bits does: contracts, for all numbers, in any world. -/
import Derived.Test.YtfchjlfpbfkdfaaWordD
import Derived.Laws.ShiftsVar
namespace Go.Proofs.Ytfchjlfpbfkdfaa
open Go.RowKit
set_option linter.unusedVariables false
theorem sext_in (v n : Int) (w : World) (h0 : 0 ≤ v) (h1 : v ≤ 4294967295) (hn : 1 ≤ n) (hn' : n ≤ 31) :
    Calls Try.prog 21 #[.int .u32 v, .int .i64 n] w fun e w' => e = .returned (.int .u32 (sx v n.toNat)) ∧ w = w' := by
  obtain ⟨k, rfl⟩ := Int.eq_ofNat_of_zero_le (show 0 ≤ n by omega)
  rw [Int.toNat_natCast]
  have e := sx_eq v k (by omega) (by omega) h0 h1
  rw [← up_eq v (32 - k) (by omega) h0 h1] at e
  have E := Lib.hid e
  have b1 : ((k : Int) < 1) = False := by simp; omega
  have b2 : ((31 : Int) < k) = False := by simp; omega
  clear e
  go_enter Try.func21, Try.ntmps21
  go_wp2
  go_ret
  refine ⟨ret_int ?_, rfl⟩
  rw [← E.out]
  generalize hx : v * 2 ^ (32 - k) % 4294967296 = x
  have : sg x = wrap32 x := by unfold sg wrap32; split <;> omega
  rw [this]; rfl
theorem sext_out (v n : Int) (w : World) (h0 : 0 ≤ v) (h1 : v ≤ 4294967295) (hn : n < 1 ∨ 31 < n) :
    Calls Try.prog 21 #[.int .u32 v, .int .i64 n] w fun e w' => e = .returned (.int .u32 v) ∧ w = w' := by
  by_cases c : n < 1
  · go_enter Try.func21, Try.ntmps21
    go_wp2
    go_ret
    exact ⟨rfl, rfl⟩
  · have c' : 31 < n := by omega
    clear hn
    go_enter Try.func21, Try.ntmps21
    go_wp2
    go_ret
    exact ⟨rfl, rfl⟩
theorem shift_up (v n : Int) (w : World) (h0 : 0 ≤ v) (h1 : v ≤ 4294967295) (hn : 0 ≤ n) (hn' : n ≤ 9223372036854775807) :
    Calls Try.prog 15 #[.int .u32 v, .int .i64 n] w fun e w' => e = .returned (.int .u32 (up v (lo n))) ∧ w = w' := by
  have hA := and31_i64 n
  rw [← lo_eq] at hA
  have hl := lo_lt n
  have e := up_eq v (lo n) hl h0 h1
  generalize lo n = k at *
  have E := Lib.hid e
  clear e
  go_enter Try.func15, Try.ntmps15
  go_wp2
  go_ret
  exact ⟨ret_int (by rw [← E.out]), rfl⟩
theorem shift_down (v n : Int) (w : World) (h0 : 0 ≤ v) (h1 : v ≤ 4294967295) (hn : n < 0) (hn' : -9223372036854775808 ≤ n) :
    Calls Try.prog 15 #[.int .u32 v, .int .i64 n] w fun e w' => e = .returned (.int .u32 (v / pw (lo (-n)))) ∧ w = w' := by
  have hA := and31_i64 (wrap64 (-n))
  rw [show wrap64 (-n) % 32 = (-n) % 32 from by unfold wrap64; omega, ← lo_eq] at hA
  have hl := lo_lt (-n)
  generalize lo (-n) = k at *
  go_enter Try.func15, Try.ntmps15
  go_wp2
  go_ret
  exact ⟨rfl, rfl⟩
theorem sar_any (v n : Int) (w : World) (h0 : 0 ≤ v) (h1 : v ≤ 4294967295) :
    Calls Try.prog 17 #[.int .u32 v, .int .i64 n] w fun e w' => e = .returned (.int .u32 (sar v (lo n))) ∧ w = w' := by
  have hA := and31_i64 n
  rw [← lo_eq] at hA
  have hl := lo_lt n
  generalize lo n = k at *
  go_enter Try.func17, Try.ntmps17
  go_wp2
  go_ret
  refine ⟨ret_int ?_, rfl⟩
  have : sg v = wrap32 v := by unfold sg wrap32; split <;> omega
  unfold sar; rw [this]; rfl
theorem rotl_any (v n : Int) (w : World) (h0 : 0 ≤ v) (h1 : v ≤ 4294967295) (hn : 0 ≤ n) (hn' : n ≤ 31) :
    Calls Try.prog 38 #[.int .u32 v, .int .i64 n] w fun e w' => e = .returned (.int .u32 (rot v n.toNat)) ∧ w = w' := by
  obtain ⟨k, rfl⟩ := Int.eq_ofNat_of_zero_le hn
  rw [Int.toNat_natCast]
  have hA := and31_u64 k
  rw [show (k : Int) % 32 = k from by omega] at hA
  have e := rot_or v k (by omega) h0 h1
  rw [← up_eq v k (by omega) h0 h1] at e
  have E := Lib.hid e
  clear e
  go_enter Try.func38, Try.ntmps38
  go_wp2
  go_ret
  refine ⟨ret_int ?_, rfl⟩
  rw [← E.out]; rfl
theorem turn_any (v n : Int) (w : World) (h0 : 0 ≤ v) (h1 : v ≤ 4294967295) :
    Calls Try.prog 19 #[.int .u32 v, .int .i64 n] w fun e w' => e = .returned (.int .u32 (rot v (lo n))) ∧ w = w' := by
  have hA := and31_i64 n
  rw [← lo_eq] at hA
  have hl := lo_lt n
  generalize lo n = k at *
  go_enter Try.func19, Try.ntmps19
  go_wp2_with (go_at_call 38; (with_reducible refine (rotl_any _ _ _ (by omega) (by omega) (by omega) (by omega)).mono ?_); rintro e w' ⟨rfl, rfl⟩)
  go_ret
  exact ⟨rfl, rfl⟩
theorem lo_cast (k : Nat) (h : k < 32) : lo k = k := by unfold lo; omega
theorem shift_up' (v : Int) (k : Nat) (w : World) (h0 : 0 ≤ v) (h1 : v ≤ 4294967295) (hk : k < 32) :
    Calls Try.prog 15 #[.int .u32 v, .int .i64 k] w fun e w' => e = .returned (.int .u32 (up v k)) ∧ w = w' := by
  have h := shift_up v k w h0 h1 (by omega) (by omega)
  rw [lo_cast k hk] at h; exact h
theorem shift_down' (v : Int) (k : Nat) (w : World) (h0 : 0 ≤ v) (h1 : v ≤ 4294967295) (hk : 1 ≤ k) (hk' : k < 32) :
    Calls Try.prog 15 #[.int .u32 v, .int .i64 (-(k : Int))] w fun e w' => e = .returned (.int .u32 (v / pw k)) ∧ w = w' := by
  have h := shift_down v (-(k : Int)) w h0 h1 (by omega) (by omega)
  rw [Int.neg_neg, lo_cast k hk'] at h; exact h
theorem sar' (v : Int) (k : Nat) (w : World) (h0 : 0 ≤ v) (h1 : v ≤ 4294967295) (hk : k < 32) :
    Calls Try.prog 17 #[.int .u32 v, .int .i64 k] w fun e w' => e = .returned (.int .u32 (sar v k)) ∧ w = w' := by
  have h := sar_any v k w h0 h1
  rw [lo_cast k hk] at h; exact h
theorem turn' (v : Int) (k : Nat) (w : World) (h0 : 0 ≤ v) (h1 : v ≤ 4294967295) (hk : k < 32) :
    Calls Try.prog 19 #[.int .u32 v, .int .i64 k] w fun e w' => e = .returned (.int .u32 (rot v k)) ∧ w = w' := by
  have h := turn_any v k w h0 h1
  rw [lo_cast k hk] at h; exact h
theorem sext' (v : Int) (k : Nat) (w : World) (h0 : 0 ≤ v) (h1 : v ≤ 4294967295) (hk : 1 ≤ k) (hk' : k < 32) :
    Calls Try.prog 21 #[.int .u32 v, .int .i64 k] w fun e w' => e = .returned (.int .u32 (sx v k)) ∧ w = w' := by
  have h := sext_in v k w h0 h1 (by omega) (by omega)
  rw [Int.toNat_natCast] at h; exact h
theorem turn0 (v : Int) (w : World) (h0 : 0 ≤ v) (h1 : v ≤ 4294967295) :
    Calls Try.prog 19 #[.int .u32 v, .int .i64 0] w fun e w' => e = .returned (.int .u32 v) ∧ w = w' := by
  have h := turn_any v 0 w h0 h1
  rw [show lo 0 = 0 from rfl, rot_zero v h0 h1] at h; exact h
theorem turn32 (v : Int) (w : World) (h0 : 0 ≤ v) (h1 : v ≤ 4294967295) :
    Calls Try.prog 19 #[.int .u32 v, .int .i64 32] w fun e w' => e = .returned (.int .u32 v) ∧ w = w' := by
  have h := turn_any v 32 w h0 h1
  rw [show lo 32 = 0 from rfl, rot_zero v h0 h1] at h; exact h
end Go.Proofs.Ytfchjlfpbfkdfaa
