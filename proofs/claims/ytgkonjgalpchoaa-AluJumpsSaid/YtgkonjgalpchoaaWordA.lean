/- What the functions of sums, differences and products do, of the package of numbers of 32 bits and of the document's own answers: contracts, for all numbers of 32 bits, in any world, which stays. -/
import Derived.Test.YtgkonjgalpchoaaBase
import Derived.Test.YtgkonjgalpchoaaWordMath
import Derived.WalkKit
import Derived.ProofKit
import Derived.OpenShut
import Derived.Handy
import Derived.Outline
import Derived.WalkLawsBesides
import Derived.WalkSpells
import Derived.Lib.Hide
import Derived.Deep.Draws
namespace Go.Proofs.Ytgkonjgalpchoaa
open Go.RowKit
set_option linter.unusedVariables false
theorem add32 (x y c : Int) (w : World) (hx : 0 ≤ x) (hx' : x ≤ 4294967295) (hy : 0 ≤ y) (hy' : y ≤ 4294967295) (hc : 0 ≤ c) (hc' : c ≤ 1) :
    Calls Try.prog 15 #[.int .u32 x, .int .u32 y, .int .u32 c] w fun e w' => e = .returned (.tuple #[.int .u32 (m32 (x + y + c)), .int .u32 ((x + y + c) / 4294967296)]) ∧ w = w' := by
  go_enter Try.func15, Try.ntmps15
  go_wp2
  go_ret2
  exact ⟨rfl, rfl⟩
theorem signed_any (x : Int) (w : World) (hx : 0 ≤ x) (hx' : x ≤ 4294967295) :
    Calls Try.prog 17 #[.int .u32 x] w fun e w' => e = .returned (.int .i64 (sg x)) ∧ w = w' := by
  go_enter Try.func17, Try.ntmps17
  go_wp2
  go_ret
  exact ⟨ret_int (by unfold sg wrap64 wrap32; split <;> omega), rfl⟩
theorem beyond_any (x : Int) (w : World)  :
    Calls Try.prog 16 #[.int .i64 x] w fun e w' => e = .returned (.bool (bey x)) ∧ w = w' := by
  by_cases h : x < -2147483648
  all_goals
    go_enter Try.func16, Try.ntmps16
    go_wp2
    go_ret
    exact ⟨ret_bool (by unfold bey; first | rfl | (simp; omega)), rfl⟩
theorem mul32 (x y : Int) (w : World) (hx : 0 ≤ x) (hx' : x ≤ 4294967295) (hy : 0 ≤ y) (hy' : y ≤ 4294967295) :
    Calls Try.prog 19 #[.int .u32 x, .int .u32 y] w fun e w' => e = .returned (.tuple #[.int .u32 ((x * y) / 4294967296), .int .u32 (m32 (x * y))]) ∧ w = w' := by
  have hp := Go.prod_bound x y hx hx' hy hy'
  go_enter Try.func19, Try.ntmps19
  go_wp2
  go_ret2
  exact ⟨rfl, rfl⟩
theorem mul_any (x y : Int) (w : World) (hx : 0 ≤ x) (hx' : x ≤ 4294967295) (hy : 0 ≤ y) (hy' : y ≤ 4294967295) :
    Calls Try.prog 11 #[.int .u32 x, .int .u32 y] w fun e w' => e = .returned (.tuple #[.int .u32 (m32 (x * y)), .int .u32 ((x * y) / 4294967296)]) ∧ w = w' := by
  go_enter Try.func11, Try.ntmps11
  go_wp2_with (go_at_call 19; (with_reducible refine (mul32 _ _ _ (by omega) (by omega) (by omega) (by omega)).mono ?_); rintro e w' ⟨rfl, rfl⟩)
  go_ret2
  exact ⟨rfl, rfl⟩
theorem add_any (x y : Int) (c : Bool) (w : World) (hx : 0 ≤ x) (hx' : x ≤ 4294967295) (hy : 0 ≤ y) (hy' : y ≤ 4294967295) :
    Calls Try.prog 8 #[.int .u32 x, .int .u32 y, .bool c] w fun e w' => e = .returned (.tuple #[.int .u32 (m32 (x + y + cin c)), .bool ((x + y + cin c) / 4294967296 == 1), .bool (bey (sg x + sg y + cin c))]) ∧ w = w' := by
  have h1 := sg_bd x hx hx'
  have h2 := sg_bd y hy hy'
  cases c
  all_goals
    go_enter Try.func8, Try.ntmps8
    go_wp2_with (first | (go_at_call 15; (with_reducible refine (add32 _ _ _ _ (by omega) (by omega) (by omega) (by omega) (by omega) (by omega)).mono ?_); rintro e w' ⟨rfl, rfl⟩) | (go_at_call 17; (with_reducible refine (signed_any _ _ (by omega) (by omega)).mono ?_); rintro e w' ⟨rfl, rfl⟩) | (go_at_call 16; (with_reducible refine (beyond_any _ _).mono ?_); rintro e w' ⟨rfl, rfl⟩))
    go_ret3
    exact ⟨ret_ibb (by simp [cin]) (by simp [cin]) (by simp [cin]), rfl⟩
theorem sub_any (x y : Int) (w : World) (hx : 0 ≤ x) (hx' : x ≤ 4294967295) (hy : 0 ≤ y) (hy' : y ≤ 4294967295) :
    Calls Try.prog 10 #[.int .u32 x, .int .u32 y] w fun e w' => e = .returned (.tuple #[.int .u32 (m32 (x - y)), .bool (decide (x < y)), .bool (bey (sg x - sg y))]) ∧ w = w' := by
  have h1 := sg_bd x hx hx'
  have h2 := sg_bd y hy hy'
  go_enter Try.func10, Try.ntmps10
  go_wp2_with (first | (go_at_call 17; (with_reducible refine (signed_any _ _ (by omega) (by omega)).mono ?_); rintro e w' ⟨rfl, rfl⟩) | (go_at_call 16; (with_reducible refine (beyond_any _ _).mono ?_); rintro e w' ⟨rfl, rfl⟩))
  go_ret3
  exact ⟨rfl, rfl⟩
theorem rsign_any (x : Int) (w : World) (hx : 0 ≤ x) (hx' : x ≤ 4294967295) :
    Calls Try.prog 6 #[.int .u32 x] w fun e w' => e = .returned (.int .i64 (sg x)) ∧ w = w' := by
  by_cases h : x < 2147483648
  all_goals
    go_enter Try.func6, Try.ntmps6
    go_wp2
    go_ret
    exact ⟨ret_int (by unfold sg; first | rw [if_pos h] | rw [if_neg (by omega)]), rfl⟩
end Go.Proofs.Ytgkonjgalpchoaa
