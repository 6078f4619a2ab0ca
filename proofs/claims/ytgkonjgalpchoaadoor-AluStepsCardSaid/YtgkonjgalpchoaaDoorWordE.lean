/- What spreading, shifting and turning bits of numbers of 32 bits does: contracts, for all numbers, in any world. -/
import Derived.Test.YtgkonjgalpchoaaDoorWordD
import Derived.Laws.ShiftsVar
namespace Go.Proofs.YtgkonjgalpchoaaDoor
open Go.RowKit
set_option linter.unusedVariables false
theorem shift_up (v n : Int) (w : World) (h0 : 0 ≤ v) (h1 : v ≤ 4294967295) (hn : 0 ≤ n) (hn' : n ≤ 9223372036854775807) :
    Calls Tryd.prog 50 #[.int .u32 v, .int .i64 n] w fun e w' => e = .returned (.int .u32 (up v (lo n))) ∧ w = w' := by
  have hA := and31_i64 n
  rw [← lo_eq] at hA
  have hl := lo_lt n
  have e := up_eq v (lo n) hl h0 h1
  generalize lo n = k at *
  have E := Lib.hid e
  clear e
  go_enter Tryd.func50, Tryd.ntmps50
  go_wp2
  go_ret
  exact ⟨ret_int (by rw [← E.out]), rfl⟩
theorem shift_down (v n : Int) (w : World) (h0 : 0 ≤ v) (h1 : v ≤ 4294967295) (hn : n < 0) (hn' : -9223372036854775808 ≤ n) :
    Calls Tryd.prog 50 #[.int .u32 v, .int .i64 n] w fun e w' => e = .returned (.int .u32 (v / pw (lo (-n)))) ∧ w = w' := by
  have hA := and31_i64 (wrap64 (-n))
  rw [show wrap64 (-n) % 32 = (-n) % 32 from by unfold wrap64; omega, ← lo_eq] at hA
  have hl := lo_lt (-n)
  generalize lo (-n) = k at *
  go_enter Tryd.func50, Tryd.ntmps50
  go_wp2
  go_ret
  exact ⟨rfl, rfl⟩
theorem sar_any (v n : Int) (w : World) (h0 : 0 ≤ v) (h1 : v ≤ 4294967295) :
    Calls Tryd.prog 51 #[.int .u32 v, .int .i64 n] w fun e w' => e = .returned (.int .u32 (sar v (lo n))) ∧ w = w' := by
  have hA := and31_i64 n
  rw [← lo_eq] at hA
  have hl := lo_lt n
  generalize lo n = k at *
  go_enter Tryd.func51, Tryd.ntmps51
  go_wp2
  go_ret
  refine ⟨ret_int ?_, rfl⟩
  have : sg v = wrap32 v := by unfold sg wrap32; split <;> omega
  unfold sar; rw [this]; rfl
theorem lo_cast (k : Nat) (h : k < 32) : lo k = k := by unfold lo; omega
theorem shift_up' (v : Int) (k : Nat) (w : World) (h0 : 0 ≤ v) (h1 : v ≤ 4294967295) (hk : k < 32) :
    Calls Tryd.prog 50 #[.int .u32 v, .int .i64 k] w fun e w' => e = .returned (.int .u32 (up v k)) ∧ w = w' := by
  have h := shift_up v k w h0 h1 (by omega) (by omega)
  rw [lo_cast k hk] at h; exact h
theorem shift_down' (v : Int) (k : Nat) (w : World) (h0 : 0 ≤ v) (h1 : v ≤ 4294967295) (hk : 1 ≤ k) (hk' : k < 32) :
    Calls Tryd.prog 50 #[.int .u32 v, .int .i64 (-(k : Int))] w fun e w' => e = .returned (.int .u32 (v / pw k)) ∧ w = w' := by
  have h := shift_down v (-(k : Int)) w h0 h1 (by omega) (by omega)
  rw [Int.neg_neg, lo_cast k hk'] at h; exact h
theorem sar' (v : Int) (k : Nat) (w : World) (h0 : 0 ≤ v) (h1 : v ≤ 4294967295) (hk : k < 32) :
    Calls Tryd.prog 51 #[.int .u32 v, .int .i64 k] w fun e w' => e = .returned (.int .u32 (sar v k)) ∧ w = w' := by
  have h := sar_any v k w h0 h1
  rw [lo_cast k hk] at h; exact h
end Go.Proofs.YtgkonjgalpchoaaDoor
