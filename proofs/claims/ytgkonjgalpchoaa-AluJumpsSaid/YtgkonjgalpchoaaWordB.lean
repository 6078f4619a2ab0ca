/- What powers of 2 and the document's own product do: contracts, for all numbers of 32 bits, in any world, which stays. -/
import Derived.Test.YtgkonjgalpchoaaWordA
namespace Go.Proofs.Ytgkonjgalpchoaa
open Go.RowKit
set_option linter.unusedVariables false
/-- the product of the first i bits of b -/
theorem mul_step (a b low high n P : Int) (hn : n = a * P) (bit : Int) (h : low + high * 4294967296 = a * bit) :
    (low + n % 4294967296) % 4294967296 + (high + n / 4294967296 + (low + n % 4294967296) / 4294967296) * 4294967296 = a * (bit + P) := by
  have e : n = n % 4294967296 + n / 4294967296 * 4294967296 := by omega
  have e2 : a * (bit + P) = low + high * 4294967296 + n := by rw [Int.mul_add, h, hn]
  rw [e2]; omega
theorem bit_mod (b : Int) (i : Nat) (h0 : 0 ≤ b) : b % pw (i + 1) = b % pw i + pw i * (b / pw i % 2) := by
  obtain ⟨n, rfl⟩ := Int.eq_ofNat_of_zero_le h0
  rw [pw_succ, Int.mul_comm 2 (pw i), pw_cast]
  have h := Nat.mod_mul (a := 2 ^ i) (b := 2) (x := n)
  exact_mod_cast h
theorem bit_step0 (b : Int) (i : Nat) (h0 : 0 ≤ b) (h : b / pw i % 2 = 0) : b % pw (i + 1) = b % pw i := by
  rw [bit_mod b i h0, h]; omega
theorem bit_step1 (b : Int) (i : Nat) (h0 : 0 ≤ b) (h : b / pw i % 2 ≠ 0) : b % pw (i + 1) = b % pw i + pw i := by
  rw [bit_mod b i h0, show b / pw i % 2 = 1 from by omega]; omega
theorem mod_bd (b : Int) (i : Nat) (h0 : 0 ≤ b) : 0 ≤ b % pw i ∧ b % pw i ≤ b := by
  have hp := pw_pos i
  have h1 := Int.mul_nonneg (show 0 ≤ pw i by omega) (Int.ediv_nonneg h0 (show 0 ≤ pw i by omega))
  have h2 := Int.mul_ediv_add_emod b (pw i)
  exact ⟨Int.emod_nonneg _ (by omega), by omega⟩
theorem div_bd (b : Int) (i : Nat) (h0 : 0 ≤ b) : 0 ≤ b / pw i ∧ b / pw i ≤ b := by
  have hp := pw_pos i
  exact ⟨Int.ediv_nonneg h0 (by omega), Int.ediv_le_self _ h0⟩
theorem prod_pw (a : Int) (i : Nat) (h0 : 0 ≤ a) (h : a ≤ 4294967295) (hi : i ≤ 31) : 0 ≤ a * pw i ∧ a * pw i ≤ 9223372034707292160 := by
  have hp := pw_pos i
  have hq : pw i ≤ 2147483648 := by rw [← pw31]; exact pw_le hi
  refine ⟨Int.mul_nonneg h0 (by omega), ?_⟩
  exact Int.le_trans (Int.mul_le_mul h hq (by omega) (by omega)) (by omega)
/-- what the product's loop keeps -/
def Kept (a b : Int) (k : Nat) (low high : Int) : Prop := 0 ≤ low ∧ low ≤ 4294967295 ∧ 0 ≤ high ∧ high ≤ 4294967295 ∧ low + high * 4294967296 = a * (b % pw k)
theorem kept_next {a b : Int} {k : Nat} {low high : Int} (h0 : 0 ≤ a) (h1 : a ≤ 4294967295) (g0 : 0 ≤ b) (g1 : b ≤ 4294967295) (hk : k ≤ 31) (h : Kept a b k low high) (hb : b / pw k % 2 ≠ 0) :
    Kept a b (k + 1) ((low + a * pw k % 4294967296) % 4294967296) (high + a * pw k / 4294967296 + (low + a * pw k % 4294967296) / 4294967296) := by
  obtain ⟨l0, l1, l2, l3, l4⟩ := h
  have e := mul_step a b low high (a * pw k) (pw k) rfl (b % pw k) l4
  rw [← bit_step1 b k g0 hb] at e
  have hm := mod_bd b (k + 1) g0
  have hp := Go.prod_bound a (b % pw (k + 1)) h0 h1 hm.1 (by omega)
  unfold Kept
  rw [← e] at hp ⊢
  have hn := prod_pw a k h0 h1 hk
  refine ⟨by omega, by omega, by omega, by omega, rfl⟩
theorem kept_same {a b : Int} {k : Nat} {low high : Int} (g0 : 0 ≤ b) (h : Kept a b k low high) (hb : b / pw k % 2 = 0) : Kept a b (k + 1) low high := by
  unfold Kept at h ⊢; rw [bit_step0 b k g0 hb]; exact h
theorem kept_zero (a b : Int) : Kept a b 0 0 0 := by
  unfold Kept; rw [pw_zero, Int.emod_one]; omega
theorem kept_end {a b low high : Int} (g0 : 0 ≤ b) (g1 : b ≤ 4294967295) (h : Kept a b 32 low high) : low = m32 (a * b) ∧ high = a * b / 4294967296 := by
  obtain ⟨l0, l1, l2, l3, l4⟩ := h
  rw [pw32, Int.emod_eq_of_lt g0 (by omega)] at l4
  unfold m32; omega
theorem pw31_mod (a : Int) : a * pw 31 % 4294967296 = a % 2 * 2147483648 ∧ a * pw 31 / 4294967296 = a / 2 := by rw [pw31]; omega
end Go.Proofs.Ytgkonjgalpchoaa
