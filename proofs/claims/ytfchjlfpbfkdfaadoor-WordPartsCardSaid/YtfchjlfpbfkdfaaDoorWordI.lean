/- What quotients by 0 answer, and what the document's own quotient with signs does: contracts, in any world. -/
import Derived.Test.YtfchjlfpbfkdfaaDoorWordD
namespace Go.Proofs.YtfchjlfpbfkdfaaDoor
open Go.RowKit
set_option linter.unusedVariables false
theorem wdiv_zero (a : Int) (w : World) :
    Calls Tryd.prog 11 #[.int .u32 a, .int .u32 0] w fun e w' => e = .returned (.tuple #[.int .u32 0, .int .u32 0, .iface 43 (.int .i64 22)]) ∧ w = w' := by
  go_enter Tryd.func11, Tryd.ntmps11
  go_wp2
  go_ret3
  exact ⟨rfl, rfl⟩
theorem wsigned_zero (a : Int) (w : World) :
    Calls Tryd.prog 12 #[.int .u32 a, .int .u32 0] w fun e w' => e = .returned (.tuple #[.int .u32 0, .int .u32 0, .iface 43 (.int .i64 22)]) ∧ w = w' := by
  go_enter Tryd.func12, Tryd.ntmps12
  go_wp2
  go_ret3
  exact ⟨rfl, rfl⟩
theorem quo_signs (x y : Int) (hy : y ≠ 0) :
    (0 ≤ x → 0 < y → x.tdiv y = x / y ∧ x.tmod y = x % y) ∧ (0 ≤ x → y < 0 → x.tdiv y = -(x / -y) ∧ x.tmod y = x % -y) ∧
    (x < 0 → 0 < y → x.tdiv y = -(-x / y) ∧ x.tmod y = -(-x % y)) ∧ (x < 0 → y < 0 → x.tdiv y = -x / -y ∧ x.tmod y = -(-x % -y)) := by
  refine ⟨fun h g => ⟨Int.tdiv_eq_ediv_of_nonneg h, Int.tmod_eq_emod_of_nonneg h⟩, fun h g => ⟨?_, ?_⟩, fun h g => ⟨?_, ?_⟩, fun h g => ⟨?_, ?_⟩⟩
  · rw [← Int.tdiv_eq_ediv_of_nonneg h, Int.tdiv_neg, Int.neg_neg]
  · rw [← Int.tmod_eq_emod_of_nonneg h, Int.tmod_neg]
  · rw [← Int.tdiv_eq_ediv_of_nonneg (show 0 ≤ -x by omega), Int.neg_tdiv, Int.neg_neg]
  · rw [← Int.tmod_eq_emod_of_nonneg (show 0 ≤ -x by omega), Int.neg_tmod, Int.neg_neg]
  · rw [← Int.tdiv_eq_ediv_of_nonneg (show 0 ≤ -x by omega), Int.tdiv_neg, Int.neg_tdiv, Int.neg_neg]
  · rw [← Int.tmod_eq_emod_of_nonneg (show 0 ≤ -x by omega), Int.tmod_neg, Int.neg_tmod, Int.neg_neg]
theorem quo_bd (x y : Int) (hx : 0 ≤ x) (hx' : x ≤ 2147483648) (hy : 1 ≤ y) : 0 ≤ x / y ∧ x / y ≤ 2147483648 ∧ 0 ≤ x % y ∧ x % y ≤ 2147483648 := by
  have h1 := Int.ediv_nonneg hx (show 0 ≤ y by omega)
  have h2 := Int.ediv_le_self y hx
  have h3 := Int.emod_nonneg x (show y ≠ 0 by omega)
  have h4 := Int.mul_ediv_add_emod x y
  have h5 := Int.mul_nonneg (show 0 ≤ y by omega) h1
  omega
set_option maxHeartbeats 1000000 in
theorem rsigned_any (a b : Int) (w : World) (h0 : 0 ≤ a) (h1 : a ≤ 4294967295) (g0 : 1 ≤ b) (g1 : b ≤ 4294967295) :
    Calls Tryd.prog 13 #[.int .u32 a, .int .u32 b] w fun e w' => e = .returned (.tuple #[.int .u32 (m32 ((sg a).tdiv (sg b))), .int .u32 (m32 ((sg a).tmod (sg b)))]) ∧ ∃ n, w' = w.drewN n := by
  have ha := sg_bd a h0 h1
  have hb := sg_bd b (by omega) g1
  have hb0 : sg b ≠ 0 := by unfold sg; split <;> omega
  have hq := quo_signs (sg a) (sg b) hb0
  obtain ⟨q1, q2, q3, q4⟩ := hq
  by_cases c : 0 ≤ sg a
  · by_cases d : 0 < sg b
    · have Q := Lib.hid (q1 c d)
      have bd := quo_bd (sg a) (sg b) c (by omega) (by omega)
      clear q1 q2 q3 q4 hb0
      have k1 : decide (sg a < 0) = false := by simp; omega
      have k2 : decide (sg b < 0) = false := by simp; omega
      go_enter Tryd.func13, Tryd.ntmps13
      go_wp2_with (first | (go_at_call 20; (with_reducible refine (rsign_any _ _ (by omega) (by omega)).mono ?_); rintro e w' ⟨rfl, rfl⟩) | (go_at_call 21; (with_reducible refine (rof_any _ _ (by omega) (by omega)).mono ?_); rintro e w' ⟨rfl, rfl⟩))
      go_quiet (fail)
      go_wp2_with (first | (go_at_call 20; (with_reducible refine (rsign_any _ _ (by omega) (by omega)).mono ?_); rintro e w' ⟨rfl, rfl⟩) | (go_at_call 21; (with_reducible refine (rof_any _ _ (by omega) (by omega)).mono ?_); rintro e w' ⟨rfl, rfl⟩))
      go_ret2
      exact ⟨ret_ii (by rw [Q.out.1]) (by rw [Q.out.2]), _, rfl⟩
    · have d' : sg b < 0 := by omega
      have q := q2 c d'
      obtain ⟨Y, hY⟩ : ∃ Y, -sg b = Y := ⟨_, rfl⟩
      rw [hY] at q
      have Q := Lib.hid q
      have bd := quo_bd (sg a) Y c (by omega) (by omega)
      have y1 : 1 ≤ Y := by omega
      have y2 : Y ≤ 2147483648 := by omega
      have k1 : decide (sg a < 0) = false := by simp; omega
      have k2 : decide (sg b < 0) = true := by simp; omega
      clear q1 q2 q3 q4 hb0 d q
      go_enter Tryd.func13, Tryd.ntmps13
      go_wp2_with (first | (go_at_call 20; (with_reducible refine (rsign_any _ _ (by omega) (by omega)).mono ?_); rintro e w' ⟨rfl, rfl⟩) | (go_at_call 21; (with_reducible refine (rof_any _ _ (by omega) (by omega)).mono ?_); rintro e w' ⟨rfl, rfl⟩))
      go_quiet (fail)
      go_wp2_with (first | (go_at_call 20; (with_reducible refine (rsign_any _ _ (by omega) (by omega)).mono ?_); rintro e w' ⟨rfl, rfl⟩) | (go_at_call 21; (with_reducible refine (rof_any _ _ (by omega) (by omega)).mono ?_); rintro e w' ⟨rfl, rfl⟩))
      go_ret2
      exact ⟨ret_ii (by rw [Q.out.1]) (by rw [Q.out.2]), _, rfl⟩
  · have c' : sg a < 0 := by omega
    obtain ⟨X, hX⟩ : ∃ X, -sg a = X := ⟨_, rfl⟩
    have x1 : 1 ≤ X := by omega
    have x2 : X ≤ 2147483648 := by omega
    by_cases d : 0 < sg b
    · have q := q3 c' d
      rw [hX] at q
      have Q := Lib.hid q
      have bd := quo_bd X (sg b) (by omega) (by omega) (by omega)
      have k1 : decide (sg a < 0) = true := by simp; omega
      have k2 : decide (sg b < 0) = false := by simp; omega
      clear q1 q2 q3 q4 hb0 c q
      go_enter Tryd.func13, Tryd.ntmps13
      go_wp2_with (first | (go_at_call 20; (with_reducible refine (rsign_any _ _ (by omega) (by omega)).mono ?_); rintro e w' ⟨rfl, rfl⟩) | (go_at_call 21; (with_reducible refine (rof_any _ _ (by omega) (by omega)).mono ?_); rintro e w' ⟨rfl, rfl⟩))
      go_quiet (fail)
      go_wp2_with (first | (go_at_call 20; (with_reducible refine (rsign_any _ _ (by omega) (by omega)).mono ?_); rintro e w' ⟨rfl, rfl⟩) | (go_at_call 21; (with_reducible refine (rof_any _ _ (by omega) (by omega)).mono ?_); rintro e w' ⟨rfl, rfl⟩))
      go_ret2
      exact ⟨ret_ii (by rw [Q.out.1]) (by rw [Q.out.2]), _, rfl⟩
    · have d' : sg b < 0 := by omega
      have q := q4 c' d'
      obtain ⟨Y, hY⟩ : ∃ Y, -sg b = Y := ⟨_, rfl⟩
      rw [hX, hY] at q
      have Q := Lib.hid q
      have y1 : 1 ≤ Y := by omega
      have y2 : Y ≤ 2147483648 := by omega
      have bd := quo_bd X Y (by omega) (by omega) (by omega)
      have k1 : decide (sg a < 0) = true := by simp; omega
      have k2 : decide (sg b < 0) = true := by simp; omega
      clear q1 q2 q3 q4 hb0 c d q
      go_enter Tryd.func13, Tryd.ntmps13
      go_wp2_with (first | (go_at_call 20; (with_reducible refine (rsign_any _ _ (by omega) (by omega)).mono ?_); rintro e w' ⟨rfl, rfl⟩) | (go_at_call 21; (with_reducible refine (rof_any _ _ (by omega) (by omega)).mono ?_); rintro e w' ⟨rfl, rfl⟩))
      go_quiet (fail)
      go_wp2_with (first | (go_at_call 20; (with_reducible refine (rsign_any _ _ (by omega) (by omega)).mono ?_); rintro e w' ⟨rfl, rfl⟩) | (go_at_call 21; (with_reducible refine (rof_any _ _ (by omega) (by omega)).mono ?_); rintro e w' ⟨rfl, rfl⟩))
      go_ret2
      exact ⟨ret_ii (by rw [Q.out.1]) (by rw [Q.out.2]), _, rfl⟩
end Go.Proofs.YtfchjlfpbfkdfaaDoor
