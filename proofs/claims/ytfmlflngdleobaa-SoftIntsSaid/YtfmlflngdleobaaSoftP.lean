/- Whole numbers within 32 bits, as the statements of layer 2 hold them; contracts, in any world, which stays. -/
import Derived.Test.YtfmlflngdleobaaSoftO
import Derived.Test.YtfmlflngdleobaaSoftLast
namespace Go.Proofs.Ytfmlflngdleobaa
open Go.RowKit
set_option linter.unusedVariables false
theorem bof_any (x : Int) (w : World) (h1 : -2147483648 ≤ x) (h2 : x ≤ 2147483647) : Calls Try.prog 50 #[.int .i64 x] w fun e w' => e = .returned (.int .u32 (bnd x)) ∧ w = w' := by
  by_cases c : 0 ≤ x
  · have E := Lib.hid (show bnd x = x from by unfold bnd; rw [if_pos c, if_neg (by omega)])
    go_enter Try.func50, Try.ntmps50
    go_wp2
    go_ret
    exact ⟨ret_int (by rw [E.out]; omega), rfl⟩
  · by_cases d : x = -2147483648
    · subst d
      go_enter Try.func50, Try.ntmps50
      go_wp2
      go_ret
      exact ⟨rfl, rfl⟩
    · have E := Lib.hid (show bnd x = x + 4294967296 from by unfold bnd; rw [if_neg c, if_neg (by omega)])
      have e : x.tmod 4294967296 = x := by rw [Int.tmod_eq_emod, show Int.natAbs 4294967296 = 4294967296 from rfl]; split <;> omega
      go_enter Try.func50, Try.ntmps50
      go_wp2
      go_ret
      exact ⟨ret_int (by rw [E.out]), rfl⟩
theorem bounded_any (n : Int) (w : World) (h1 : -8589934592 ≤ n) (h2 : n ≤ 8589934592) : Calls Try.prog 35 #[.int .i64 n] w fun e w' => e = .returned (.int .u32 (bnd n)) ∧ w = w' := by
  have b1 : bnd 2147483647 = 2147483647 := rfl
  have b2 : bnd (-2147483648) = 2147483648 := rfl
  rcases Int.lt_or_le n (-2147483648) with c | c
  · have E := Lib.hid (show bnd (-2147483648) = bnd n from by rw [b2]; unfold bnd; rw [if_neg (by omega), if_pos (by omega)])
    clear b1 b2
    go_enter Try.func35, Try.ntmps35
    go_wp2_with (go_at_call 50; (with_reducible refine (bof_any _ _ (by omega) (by omega)).mono ?_); rintro e w' ⟨rfl, rfl⟩)
    all_goals first | (exfalso; omega) | skip
    go_ret
    exact ⟨ret_int (by rw [E.out]), rfl⟩
  · rcases Int.lt_or_le 2147483647 n with d | d
    · have E := Lib.hid (show bnd 2147483647 = bnd n from by rw [b1]; unfold bnd; rw [if_pos (by omega), if_pos (by omega)])
      clear b1 b2
      go_enter Try.func35, Try.ntmps35
      go_wp2_with (go_at_call 50; (with_reducible refine (bof_any _ _ (by omega) (by omega)).mono ?_); rintro e w' ⟨rfl, rfl⟩)
      all_goals first | (exfalso; omega) | skip
      go_ret
      exact ⟨ret_int (by rw [E.out]), rfl⟩
    · clear b1 b2
      go_enter Try.func35, Try.ntmps35
      go_wp2_with (go_at_call 50; (with_reducible refine (bof_any _ _ (by omega) (by omega)).mono ?_); rintro e w' ⟨rfl, rfl⟩)
      all_goals first | (exfalso; omega) | skip
      all_goals (go_ret; exact ⟨ret_int (by first | rfl | (congr 1; omega)), rfl⟩)
end Go.Proofs.Ytfmlflngdleobaa
