/- What the package of sets of signals does with one signal: contracts, for all sets and all numbers, in any world, which stays. -/
import Derived.Test.YtfhoonjofphddaaDoorBase
import Derived.Test.YtfhoonjofphddaaDoorSetMath
import Derived.Lib.Tables
import Derived.Laws.Bits64b
import Derived.Deep.QuietTactic
import Derived.BigQuiet
namespace Go.Proofs.YtfhoonjofphddaaDoor
open Go.RowKit
set_option linter.unusedVariables false
theorem one_any (n : Int) (w : World) (h1 : -9223372036854775808 ≤ n) (h2 : n ≤ 9223372036854775807) :
    Calls Tryd.prog 14 #[.int .i64 n] w fun e w' => e = .returned (.int .u32 (one n)) ∧ w = w' := by
  by_cases c : 1 ≤ n ∧ n ≤ 31
  · obtain ⟨c1, c2⟩ := c
    have f1 : decide (n < 1) = false := by simpa using c1
    have f2 : decide (31 < n) = false := by simpa using c2
    have E := Lib.hid (show one n = 2 ^ (n - 1).toNat from by unfold one; rw [if_pos ⟨c1, c2⟩])
    have b := one_bd n
    go_enter Tryd.func14, Tryd.ntmps14
    go_wp2
    go_ret
    refine ⟨ret_int ?_, rfl⟩
    have e := E.out
    rw [show (n - 1).toNat = n.toNat - 1 from by omega] at e
    rw [← e]; omega
  · have e : one n = 0 := by unfold one; rw [if_neg c]
    have E := Lib.hid e
    clear e
    by_cases d : n < 1
    · clear c
      go_enter Tryd.func14, Tryd.ntmps14
      go_wp2
      go_ret
      exact ⟨ret_int (by rw [E.out]), rfl⟩
    · have d' : 31 < n := by omega
      clear c
      go_enter Tryd.func14, Tryd.ntmps14
      go_wp2
      go_ret
      exact ⟨ret_int (by rw [E.out]), rfl⟩
theorem add_any (x n : Int) (w : World) (h : 0 ≤ x) (h' : x ≤ 4294967295) (h1 : -9223372036854775808 ≤ n) (h2 : n ≤ 9223372036854775807) :
    Calls Tryd.prog 8 #[.int .u32 x, .int .i64 n] w fun e w' => e = .returned (.int .u32 (addS x n)) ∧ w = w' := by
  have E := Lib.hid (low_and x h h')
  go_enter Tryd.func8, Tryd.ntmps8
  go_wp2_with (go_at_call 14; (with_reducible refine (one_any _ _ (by omega) (by omega)).mono ?_); rintro e w' ⟨rfl, rfl⟩)
  go_ret
  exact ⟨ret_int (by rw [E.out]; rfl), rfl⟩
theorem del_any (x n : Int) (w : World) (h : 0 ≤ x) (h' : x ≤ 4294967295) (h1 : -9223372036854775808 ≤ n) (h2 : n ≤ 9223372036854775807) :
    Calls Tryd.prog 10 #[.int .u32 x, .int .i64 n] w fun e w' => e = .returned (.int .u32 (delS x n)) ∧ w = w' := by
  have E := Lib.hid (low_and x h h')
  go_enter Tryd.func10, Tryd.ntmps10
  go_wp2_with (go_at_call 14; (with_reducible refine (one_any _ _ (by omega) (by omega)).mono ?_); rintro e w' ⟨rfl, rfl⟩)
  go_ret
  exact ⟨ret_int (by rw [E.out]; rfl), rfl⟩
theorem has_any (x n : Int) (w : World) (h : 0 ≤ x) (h' : x ≤ 4294967295) (h1 : -9223372036854775808 ≤ n) (h2 : n ≤ 9223372036854775807) :
    Calls Tryd.prog 12 #[.int .u32 x, .int .i64 n] w fun e w' => e = .returned (.bool (hasS x n)) ∧ w = w' := by
  have E := Lib.hid (has_and x n h h')
  go_enter Tryd.func12, Tryd.ntmps12
  go_wp2_with (go_at_call 14; (with_reducible refine (one_any _ _ (by omega) (by omega)).mono ?_); rintro e w' ⟨rfl, rfl⟩)
  go_ret
  exact ⟨ret_bool (by rw [← E.out]), rfl⟩
theorem and255 (x : Int) (h : 0 ≤ x) (h' : x ≤ 4294967295) : bits .and .u32 x 255 = x % 256 := by
  rw [u32_and x 255 h (by omega) (by omega) (by omega)]
  have e : x.toNat &&& (255 : Int).toNat = x.toNat % 256 := Nat.and_two_pow_sub_one_eq_mod x.toNat 8
  rw [e]; omega
theorem pop8_bd (x : Int) (h : 0 ≤ x) (h' : x ≤ 255) : 0 ≤ Lib.pop8 x ∧ Lib.pop8 x ≤ 8 := by
  have e := Lib.pop8_eq ⟨x.toNat, by omega⟩
  have l := Lib.onesCount_le8 ⟨x.toNat, by omega⟩
  simp only [Int.toNat_of_nonneg h] at e
  rw [e]
  simp only at l
  omega
set_option maxHeartbeats 1000000 in
set_option maxRecDepth 100000 in
theorem ones_any (x : Int) (w : World) (h : 0 ≤ x) (h' : x ≤ 2147483647) :
    Calls Tryd.prog 26 #[.int .u32 x] w fun e w' => e = .returned (.int .i64 (cnt x)) ∧ ∃ n, w' = w.drewN n := by
  have E := Lib.hid (cnt_pop x h h')
  have F := Lib.hid (cnt_bd x)
  have k3 : x / 16777216 ≤ 255 ∧ 0 ≤ x / 16777216 := by omega
  have k2 : x / 65536 % 256 ≤ 255 ∧ 0 ≤ x / 65536 % 256 := by omega
  have k1 : x / 256 % 256 ≤ 255 ∧ 0 ≤ x / 256 % 256 := by omega
  have k0 : x % 256 ≤ 255 ∧ 0 ≤ x % 256 := by omega
  have m2 : bits .and .u32 (x / 65536) 255 = x / 65536 % 256 := and255 _ (by omega) (by omega)
  have m1 : bits .and .u32 (x / 256) 255 = x / 256 % 256 := and255 _ (by omega) (by omega)
  have m0 : bits .and .u32 x 255 = x % 256 := and255 _ (by omega) (by omega)
  go_enter Tryd.func26, Tryd.ntmps26
  go_wp2
  go_quiet (fail)
  go_wp2
  go_ret
  refine ⟨ret_int ?_, _, rfl⟩
  have p3 := pop8_bd _ k3.2 k3.1
  have p2 := pop8_bd _ k2.2 k2.1
  have p1 := pop8_bd _ k1.2 k1.1
  have p0 := pop8_bd _ k0.2 k0.1
  rw [E.out]; first | omega | (simp only [IntKind.wrap_u8', wrap64]; omega)
theorem count_any (x : Int) (w : World) (h : 0 ≤ x) (h' : x ≤ 4294967295) :
    Calls Tryd.prog 18 #[.int .u32 x] w fun e w' => e = .returned (.int .i64 (cnt x)) ∧ ∃ n, w' = w.drewN n := by
  have e1 := low_and x h h'
  have b := low_bd x
  have F := Lib.hid (cnt_low x h)
  go_enter Tryd.func18, Tryd.ntmps18
  go_wp2_with (go_at_call 26; (with_reducible refine (ones_any _ _ (by omega) (by omega)).mono ?_); rintro e w' ⟨rfl, n, rfl⟩)
  go_ret
  exact ⟨ret_int (by rw [F.out]), _, rfl⟩
/-- the library's table of 32 bytes as its text lays it -/
def Tab32 (w : World) : Prop := ∀ j, j < 32 → w.cell? ⟨0, j, none⟩ = some (.int .u8 ((Lib.deBruijn32tab.getD j 0 : Nat) : Int))
theorem Tab32.lt {w : World} (h : Tab32 w) : 0 < w.heap.size := by
  have h := h 0 (by omega)
  rcases Nat.lt_or_ge 0 w.heap.size with k | k
  · exact k
  · simp [World.cell?, Array.getElem?_eq_none k] at h
theorem Tab32.new {w w' : World} (h : Tab32 w) (k : New w w') : Tab32 w' := by
  intro j hj
  rw [k.cell (p := ⟨0, j, none⟩) h.lt]; exact h j hj
theorem wrap_u32n (n : Int) : IntKind.u32.wrap n = n % 4294967296 := by simp [IntKind.wrap, IntKind.signed, IntKind.bits]
theorem tz_core (x k idx : Nat) (w : World) (hx0 : ((x : Int) == 0) = false)
    (key : bits BinOp.and IntKind.u32 (x : Int) (-(x : Int) % 4294967296) * 125613361 % 4294967296 / 134217728 = (idx : Int))
    (hi : idx < 32) (hk : k < 32) (hcell : w.cell? ⟨0, idx, none⟩ = some (.int .u8 k)) :
    Calls Tryd.prog 27 #[.int .u32 x] w fun e w' => e = .returned (.int .i64 k) ∧ w = w' := by
  go_enter Tryd.func27, Tryd.ntmps27
  go_wp2
  go_ret
  exact ⟨rfl, rfl⟩
theorem tz_any (x : Nat) (w : World) (hT : Tab32 w) (h0 : x ≠ 0) (h : x < 4294967296) :
    Calls Tryd.prog 27 #[.int .u32 x] w fun e w' => e = .returned (.int .i64 (Lib.ctz 32 x)) ∧ w = w' := by
  have hl := Lib.lowest_bit 32 x h0 (by have e : (2 ^ 32 : Nat) = 4294967296 := by decide
                                        omega)
  have hd := Lib.deBruijn32_at _ hl.2
  have hcell := hT _ hd.1
  rw [hd.2] at hcell
  refine tz_core x (Lib.ctz 32 x) _ w (by simpa using h0) ?_ hd.1 hl.2 hcell
  have e1 : -(x : Int) % 4294967296 = ((4294967296 - x : Nat) : Int) := by omega
  rw [e1, u32_and_nat x _ h (by omega), hl.1]
  generalize 2 ^ Lib.ctz 32 x = p
  omega
theorem first_any (x : Int) (w : World) (hT : Tab32 w) (h : 0 ≤ x) (h' : x ≤ 4294967295) :
    Calls Tryd.prog 19 #[.int .u32 x] w fun e w' => e = .returned (.int .i64 (firstS x)) ∧ w = w' := by
  obtain ⟨m, rfl⟩ := Int.eq_ofNat_of_zero_le h
  have e1 := low_and (m : Int) h h'
  by_cases c : low (m : Int) = 0
  · have e : firstS (m : Int) = 0 := by unfold firstS; rw [(lst_nil _ h).2 c]; rfl
    have E := Lib.hid e
    have k : (low (m : Int) == 0) = true := by simpa using c
    clear e c
    go_enter Tryd.func19, Tryd.ntmps19
    go_wp2
    go_ret
    exact ⟨ret_int (by rw [E.out]), rfl⟩
  · have E := Lib.hid (firstS_ctz m (by omega) c)
    have h0 : m ≠ 0 := by rintro rfl; exact c (by decide +kernel)
    have hl := (Lib.lowest_bit 32 m h0 (by have e : (2 ^ 32 : Nat) = 4294967296 := by decide
                                           omega)).2
    have k : (low (m : Int) == 0) = false := by simpa using c
    clear c
    go_enter Tryd.func19, Tryd.ntmps19
    go_wp2_with (go_at_call 27; (with_reducible refine (tz_any _ _ hT h0 (by omega)).mono ?_); rintro e w' ⟨rfl, rfl⟩)
    go_ret
    exact ⟨ret_int (by rw [E.out]), rfl⟩
end Go.Proofs.YtfhoonjofphddaaDoor
