/- Plain facts for the theorem of the layer of numbers of 32 bits: a sum less a part is the other part; a quotient times the divisor, and what is left, is the number again. No conditions but those that each lemma names. -/
import Derived.Test.YtfchjlfpbfkdfaaWordMath
namespace Go.Proofs.Ytfchjlfpbfkdfaa
open Go.RowKit
set_option linter.unusedVariables false
theorem sum_back (a b : Int) (h0 : 0 ≤ a) (h1 : a ≤ 4294967295) (g0 : 0 ≤ b) (g1 : b ≤ 4294967295) : m32 (m32 (a + b + cin false) - b) = a ∧ ((a + b + cin false) / 4294967296 == 1) = decide (m32 (a + b + cin false) < b) := by
  have e : cin false = 0 := rfl
  rw [e]; unfold m32
  refine ⟨by omega, ?_⟩
  rw [Bool.eq_iff_iff]; simp; omega
theorem bytes_back (a : Int) (h0 : 0 ≤ a) (h1 : a ≤ 4294967295) : a % 256 + 256 * (a / 256 % 256) + 65536 * (a / 65536 % 256) + 16777216 * (a / 16777216) = a := by omega
theorem rot_rot (a : Int) (k : Nat) (k1 : 1 ≤ k) (k2 : k < 32) (h0 : 0 ≤ a) (h1 : a ≤ 4294967295) : rot (rot a k) (32 - k) = a := by
  rcases under32 k (by omega) with rfl | rfl | rfl | rfl | rfl | rfl | rfl | rfl | rfl | rfl | rfl | rfl | rfl | rfl | rfl | rfl | rfl | rfl | rfl | rfl | rfl | rfl | rfl | rfl | rfl | rfl | rfl | rfl | rfl | rfl | rfl | rfl
  all_goals (first | omega | (simp only [rot, pw, Nat.reduceSub, Int.reducePow]; omega))
theorem sx_sx (a : Int) (k : Nat) (k1 : 1 ≤ k) (k2 : k < 32) (h0 : 0 ≤ a) (h1 : a ≤ 4294967295) : sx (sx a k) k = sx a k := by
  have hp := pw_pos k
  have hq : m32 (if a % pw k < pw (k - 1) then a % pw k else a % pw k - pw k) % pw k = a % pw k := by
    have e := pw32
    rw [pw_split k 32 (by omega)] at e
    have e2 : ∀ x : Int, m32 x % pw k = x % pw k := by
      intro x; unfold m32; rw [← e]; exact Int.emod_emod_of_dvd x ⟨_, rfl⟩
    rw [e2]
    split
    · exact Int.emod_emod_of_dvd _ (Int.dvd_refl _)
    · rw [Int.sub_emod, Int.emod_self]; simp
  unfold sx
  rw [hq]
theorem quo_back (a b : Int) (h0 : 0 ≤ a) (h1 : a ≤ 4294967295) (g0 : 1 ≤ b) (g1 : b ≤ 4294967295) : m32 (m32 (a / b * b) + a % b + cin false) = a ∧ a % b < b ∧ 0 ≤ a % b ∧ a % b ≤ 4294967295 ∧ 0 ≤ a / b ∧ a / b ≤ 4294967295 := by
  have e : cin false = 0 := rfl
  have hm := Int.emod_nonneg a (show b ≠ 0 by omega)
  have hl := Int.emod_lt_of_pos a (show 0 < b by omega)
  have hd := Int.mul_ediv_add_emod a b
  have hq : 0 ≤ a / b := Int.ediv_nonneg h0 (by omega)
  have hq2 : a / b ≤ a := Int.ediv_le_self _ h0
  rw [Int.mul_comm] at hd
  have hpn : 0 ≤ a / b * b := Int.mul_nonneg hq (by omega)
  rw [e]; unfold m32
  refine ⟨by omega, hl, hm, by omega, hq, by omega⟩
theorem signed_back (a b : Int) (h0 : 0 ≤ a) (h1 : a ≤ 4294967295) (g0 : 1 ≤ b) (g1 : b ≤ 4294967295) : m32 (m32 (m32 ((sg a).tdiv (sg b)) * b) + m32 ((sg a).tmod (sg b)) + cin false) = a := by
  have e : cin false = 0 := rfl
  have hb := m32_sg b (by omega) g1
  have ha := m32_sg a h0 h1
  have hd := Int.mul_tdiv_add_tmod (sg a) (sg b)
  rw [e, Int.add_zero]
  generalize hq : (sg a).tdiv (sg b) = q at *
  generalize hr : (sg a).tmod (sg b) = r at *
  have step : m32 (m32 q * b) = m32 (sg b * q) := by
    unfold m32 at *
    rw [Int.mul_emod, Int.emod_emod_of_dvd _ (Int.dvd_refl _), Int.emod_eq_of_lt (show 0 ≤ b by omega) (by omega)]
    rw [Int.mul_comm (sg b) q, Int.mul_emod q (sg b), hb]
  rw [step]
  unfold m32 at *
  rw [← Int.add_emod, hd, ha]
end Go.Proofs.Ytfchjlfpbfkdfaa
