/- What spreading, shifting and turning bits of numbers of 32 bits does: contracts, for all numbers, in any world. -/
import Derived.Test.YtfchjlfpbfkdfaaDoorWordD
import Derived.Laws.ShiftsVar
namespace Go.Proofs.YtfchjlfpbfkdfaaDoor
open Go.RowKit
set_option linter.unusedVariables false
theorem sext_in (v n : Int) (w : World) (h0 : 0 ≤ v) (h1 : v ≤ 4294967295) (hn : 1 ≤ n) (hn' : n ≤ 31) :
    Calls Tryd.prog 18 #[.int .u32 v, .int .i64 n] w fun e w' => e = .returned (.int .u32 (sx v n.toNat)) ∧ w = w' := by
  obtain ⟨k, rfl⟩ := Int.eq_ofNat_of_zero_le (show 0 ≤ n by omega)
  rw [Int.toNat_natCast]
  have e := sx_eq v k (by omega) (by omega) h0 h1
  rw [← up_eq v (32 - k) (by omega) h0 h1] at e
  have E := Lib.hid e
  have b1 : ((k : Int) < 1) = False := by simp; omega
  have b2 : ((31 : Int) < k) = False := by simp; omega
  clear e
  go_enter Tryd.func18, Tryd.ntmps18
  go_wp2
  go_ret
  refine ⟨ret_int ?_, rfl⟩
  rw [← E.out]
  generalize hx : v * 2 ^ (32 - k) % 4294967296 = x
  have : sg x = wrap32 x := by unfold sg wrap32; split <;> omega
  rw [this]; rfl
theorem sext_out (v n : Int) (w : World) (h0 : 0 ≤ v) (h1 : v ≤ 4294967295) (hn : n < 1 ∨ 31 < n) :
    Calls Tryd.prog 18 #[.int .u32 v, .int .i64 n] w fun e w' => e = .returned (.int .u32 v) ∧ w = w' := by
  by_cases c : n < 1
  · go_enter Tryd.func18, Tryd.ntmps18
    go_wp2
    go_ret
    exact ⟨rfl, rfl⟩
  · have c' : 31 < n := by omega
    clear hn
    go_enter Tryd.func18, Tryd.ntmps18
    go_wp2
    go_ret
    exact ⟨rfl, rfl⟩
theorem lo_cast (k : Nat) (h : k < 32) : lo k = k := by unfold lo; omega
theorem sext' (v : Int) (k : Nat) (w : World) (h0 : 0 ≤ v) (h1 : v ≤ 4294967295) (hk : 1 ≤ k) (hk' : k < 32) :
    Calls Tryd.prog 18 #[.int .u32 v, .int .i64 k] w fun e w' => e = .returned (.int .u32 (sx v k)) ∧ w = w' := by
  have h := sext_in v k w h0 h1 (by omega) (by omega)
  rw [Int.toNat_natCast] at h; exact h
end Go.Proofs.YtfchjlfpbfkdfaaDoor
