/- What the functions of sums, differences and products do, of the package of numbers of 32 bits and of the document's own answers: contracts, for all numbers of 32 bits, in any world, which stays. -/
import Derived.Test.YtgkonjgalpchoaaDoorBase
import Derived.Test.YtgkonjgalpchoaaDoorWordMath
import Derived.WalkKit
import Derived.ProofKit
import Derived.OpenShut
import Derived.Handy
import Derived.Outline
import Derived.WalkLawsBesides
import Derived.WalkSpells
import Derived.Lib.Hide
import Derived.Deep.Draws
namespace Go.Proofs.YtgkonjgalpchoaaDoor
open Go.RowKit
set_option linter.unusedVariables false
theorem add32 (x y c : Int) (w : World) (hx : 0 ≤ x) (hx' : x ≤ 4294967295) (hy : 0 ≤ y) (hy' : y ≤ 4294967295) (hc : 0 ≤ c) (hc' : c ≤ 1) :
    Calls Tryd.prog 45 #[.int .u32 x, .int .u32 y, .int .u32 c] w fun e w' => e = .returned (.tuple #[.int .u32 (m32 (x + y + c)), .int .u32 ((x + y + c) / 4294967296)]) ∧ w = w' := by
  go_enter Tryd.func45, Tryd.ntmps45
  go_wp2
  go_ret2
  exact ⟨rfl, rfl⟩
theorem signed_any (x : Int) (w : World) (hx : 0 ≤ x) (hx' : x ≤ 4294967295) :
    Calls Tryd.prog 47 #[.int .u32 x] w fun e w' => e = .returned (.int .i64 (sg x)) ∧ w = w' := by
  go_enter Tryd.func47, Tryd.ntmps47
  go_wp2
  go_ret
  exact ⟨ret_int (by unfold sg wrap64 wrap32; split <;> omega), rfl⟩
theorem beyond_any (x : Int) (w : World)  :
    Calls Tryd.prog 46 #[.int .i64 x] w fun e w' => e = .returned (.bool (bey x)) ∧ w = w' := by
  by_cases h : x < -2147483648
  all_goals
    go_enter Tryd.func46, Tryd.ntmps46
    go_wp2
    go_ret
    exact ⟨ret_bool (by unfold bey; first | rfl | (simp; omega)), rfl⟩
theorem mul32 (x y : Int) (w : World) (hx : 0 ≤ x) (hx' : x ≤ 4294967295) (hy : 0 ≤ y) (hy' : y ≤ 4294967295) :
    Calls Tryd.prog 48 #[.int .u32 x, .int .u32 y] w fun e w' => e = .returned (.tuple #[.int .u32 ((x * y) / 4294967296), .int .u32 (m32 (x * y))]) ∧ w = w' := by
  have hp := Go.prod_bound x y hx hx' hy hy'
  go_enter Tryd.func48, Tryd.ntmps48
  go_wp2
  go_ret2
  exact ⟨rfl, rfl⟩
theorem mul_any (x y : Int) (w : World) (hx : 0 ≤ x) (hx' : x ≤ 4294967295) (hy : 0 ≤ y) (hy' : y ≤ 4294967295) :
    Calls Tryd.prog 20 #[.int .u32 x, .int .u32 y] w fun e w' => e = .returned (.tuple #[.int .u32 (m32 (x * y)), .int .u32 ((x * y) / 4294967296)]) ∧ w = w' := by
  go_enter Tryd.func20, Tryd.ntmps20
  go_wp2_with (go_at_call 48; (with_reducible refine (mul32 _ _ _ (by omega) (by omega) (by omega) (by omega)).mono ?_); rintro e w' ⟨rfl, rfl⟩)
  go_ret2
  exact ⟨rfl, rfl⟩
theorem add_any (x y : Int) (c : Bool) (w : World) (hx : 0 ≤ x) (hx' : x ≤ 4294967295) (hy : 0 ≤ y) (hy' : y ≤ 4294967295) :
    Calls Tryd.prog 17 #[.int .u32 x, .int .u32 y, .bool c] w fun e w' => e = .returned (.tuple #[.int .u32 (m32 (x + y + cin c)), .bool ((x + y + cin c) / 4294967296 == 1), .bool (bey (sg x + sg y + cin c))]) ∧ w = w' := by
  have h1 := sg_bd x hx hx'
  have h2 := sg_bd y hy hy'
  cases c
  all_goals
    go_enter Tryd.func17, Tryd.ntmps17
    go_wp2_with (first | (go_at_call 45; (with_reducible refine (add32 _ _ _ _ (by omega) (by omega) (by omega) (by omega) (by omega) (by omega)).mono ?_); rintro e w' ⟨rfl, rfl⟩) | (go_at_call 47; (with_reducible refine (signed_any _ _ (by omega) (by omega)).mono ?_); rintro e w' ⟨rfl, rfl⟩) | (go_at_call 46; (with_reducible refine (beyond_any _ _).mono ?_); rintro e w' ⟨rfl, rfl⟩))
    go_ret3
    exact ⟨ret_ibb (by simp [cin]) (by simp [cin]) (by simp [cin]), rfl⟩
theorem sub_any (x y : Int) (w : World) (hx : 0 ≤ x) (hx' : x ≤ 4294967295) (hy : 0 ≤ y) (hy' : y ≤ 4294967295) :
    Calls Tryd.prog 19 #[.int .u32 x, .int .u32 y] w fun e w' => e = .returned (.tuple #[.int .u32 (m32 (x - y)), .bool (decide (x < y)), .bool (bey (sg x - sg y))]) ∧ w = w' := by
  have h1 := sg_bd x hx hx'
  have h2 := sg_bd y hy hy'
  go_enter Tryd.func19, Tryd.ntmps19
  go_wp2_with (first | (go_at_call 47; (with_reducible refine (signed_any _ _ (by omega) (by omega)).mono ?_); rintro e w' ⟨rfl, rfl⟩) | (go_at_call 46; (with_reducible refine (beyond_any _ _).mono ?_); rintro e w' ⟨rfl, rfl⟩))
  go_ret3
  exact ⟨rfl, rfl⟩
theorem rsign_any (x : Int) (w : World) (hx : 0 ≤ x) (hx' : x ≤ 4294967295) :
    Calls Tryd.prog 53 #[.int .u32 x] w fun e w' => e = .returned (.int .i64 (sg x)) ∧ w = w' := by
  by_cases h : x < 2147483648
  all_goals
    go_enter Tryd.func53, Tryd.ntmps53
    go_wp2
    go_ret
    exact ⟨ret_int (by unfold sg; first | rw [if_pos h] | rw [if_neg (by omega)]), rfl⟩
theorem rof_any (x : Int) (w : World) (h1 : -9223372036854775808 ≤ x) (h2 : x ≤ 9223372036854775807) :
    Calls Tryd.prog 26 #[.int .i64 x] w fun e w' => e = .returned (.int .u32 (m32 x)) ∧ w = w' := by
  by_cases h : 0 ≤ x
  · go_enter Tryd.func26, Tryd.ntmps26
    go_wp2
    go_ret
    exact ⟨rfl, rfl⟩
  · by_cases h0 : x % 4294967296 = 0
    · have e := tmod_neg0 x (by omega) h0
      have e2 : m32 x = 0 := h0
      clear h0
      go_enter Tryd.func26, Tryd.ntmps26
      go_wp2
      go_ret
      exact ⟨rfl, rfl⟩
    · have e := tmod_neg x (by omega) h0
      go_enter Tryd.func26, Tryd.ntmps26
      go_wp2
      go_ret
      exact ⟨ret_int (by unfold m32; omega), rfl⟩
theorem rbeyond_any (x : Int) (w : World)  :
    Calls Tryd.prog 52 #[.int .i64 x] w fun e w' => e = .returned (.bool (bey x)) ∧ w = w' := by
  by_cases h : x < -2147483648
  all_goals
    go_enter Tryd.func52, Tryd.ntmps52
    go_wp2
    go_ret
    exact ⟨ret_bool (by unfold bey; first | rfl | (rw [Bool.eq_iff_iff]; simp; done) | (rw [Bool.eq_iff_iff]; simp; omega)), rfl⟩
theorem radd_any (x y : Int) (c : Bool) (w : World) (hx : 0 ≤ x) (hx' : x ≤ 4294967295) (hy : 0 ≤ y) (hy' : y ≤ 4294967295) :
    Calls Tryd.prog 22 #[.int .u32 x, .int .u32 y, .bool c] w fun e w' => e = .returned (.tuple #[.int .u32 (m32 (x + y + cin c)), .bool ((x + y + cin c) / 4294967296 == 1), .bool (bey (sg x + sg y + cin c))]) ∧ w = w' := by
  have h1 := sg_bd x hx hx'
  have h2 := sg_bd y hy hy'
  cases c
  all_goals
    go_enter Tryd.func22, Tryd.ntmps22
    go_wp2_with (first | (go_at_call 26; (with_reducible refine (rof_any _ _ (by omega) (by omega)).mono ?_); rintro e w' ⟨rfl, rfl⟩) | (go_at_call 53; (with_reducible refine (rsign_any _ _ (by omega) (by omega)).mono ?_); rintro e w' ⟨rfl, rfl⟩) | (go_at_call 52; (with_reducible refine (rbeyond_any _ _).mono ?_); rintro e w' ⟨rfl, rfl⟩))
    go_ret3
    exact ⟨ret_ibb (by simp [cin]) (by simp only [cin]; rw [Bool.eq_iff_iff]; simp; omega) (by simp [cin]), rfl⟩
theorem rsub_any (x y : Int) (w : World) (hx : 0 ≤ x) (hx' : x ≤ 4294967295) (hy : 0 ≤ y) (hy' : y ≤ 4294967295) :
    Calls Tryd.prog 23 #[.int .u32 x, .int .u32 y] w fun e w' => e = .returned (.tuple #[.int .u32 (m32 (x - y)), .bool (decide (x < y)), .bool (bey (sg x - sg y))]) ∧ w = w' := by
  have h1 := sg_bd x hx hx'
  have h2 := sg_bd y hy hy'
  go_enter Tryd.func23, Tryd.ntmps23
  go_wp2_with (first | (go_at_call 26; (with_reducible refine (rof_any _ _ (by omega) (by omega)).mono ?_); rintro e w' ⟨rfl, rfl⟩) | (go_at_call 53; (with_reducible refine (rsign_any _ _ (by omega) (by omega)).mono ?_); rintro e w' ⟨rfl, rfl⟩) | (go_at_call 52; (with_reducible refine (rbeyond_any _ _).mono ?_); rintro e w' ⟨rfl, rfl⟩))
  go_ret3
  exact ⟨rfl, rfl⟩
end Go.Proofs.YtgkonjgalpchoaaDoor
