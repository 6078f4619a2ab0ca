/- What powers of 2 and the document's own product do: contracts, for all numbers of 32 bits, in any world, which stays. -/
import Derived.Test.YtgkonjgalpchoaaDoorWordA
namespace Go.Proofs.YtgkonjgalpchoaaDoor
open Go.RowKit
set_option linter.unusedVariables false
theorem rpower_any (n : Int) (w : World) (h0 : 0 ≤ n) (h : n ≤ 62) :
    Calls Tryd.prog 27 #[.int .i64 n] w fun e w' => e = .returned (.int .i64 (pw n.toNat)) ∧ w = w' := by
  obtain ⟨m, rfl⟩ := Int.eq_ofNat_of_zero_le h0
  rw [Int.toNat_natCast]
  have H0 : Hid (pw 0 = 1) := Lib.hid pw_zero
  go_enter Tryd.func27, Tryd.ntmps27
  go_wp2
  go_loop [3, 4] (fun p i => ∃ k : Nat, k ≤ m ∧ i = .int .i64 k ∧ p = .int .i64 (pw k)) (fun _ i => m - (intOf i).toNat)
  case atStart => exact ⟨0, Nat.zero_le _, rfl, by rw [H0.out]⟩
  case round =>
    obtain ⟨k, hk, rfl, rfl⟩ := hrel
    have hp := pw_pos k
    by_cases hlt : k < m
    · have hb : 2 * pw k ≤ 4611686018427387904 := by rw [← pw_succ, ← pw62]; exact pw_le (by omega)
      have HS : Hid (pw (k + 1) = 2 * pw k) := Lib.hid (pw_succ k)
      go_wp2
      go_round
      case rel => exact ⟨k + 1, by omega, by go_num, by rw [HS.out]⟩
      case measure => simp [intOf]; omega
    · obtain rfl : k = m := by omega
      go_wp2
      go_ret
      exact ⟨rfl, rfl⟩
/-- the product of the first i bits of b -/
theorem mul_step (a b low high n P : Int) (hn : n = a * P) (bit : Int) (h : low + high * 4294967296 = a * bit) :
    (low + n % 4294967296) % 4294967296 + (high + n / 4294967296 + (low + n % 4294967296) / 4294967296) * 4294967296 = a * (bit + P) := by
  have e : n = n % 4294967296 + n / 4294967296 * 4294967296 := by omega
  have e2 : a * (bit + P) = low + high * 4294967296 + n := by rw [Int.mul_add, h, hn]
  rw [e2]; omega
theorem bit_mod (b : Int) (i : Nat) (h0 : 0 ≤ b) : b % pw (i + 1) = b % pw i + pw i * (b / pw i % 2) := by
  obtain ⟨n, rfl⟩ := Int.eq_ofNat_of_zero_le h0
  rw [pw_succ, Int.mul_comm 2 (pw i), pw_cast]
  have h := Nat.mod_mul (a := 2 ^ i) (b := 2) (x := n)
  exact_mod_cast h
theorem bit_step0 (b : Int) (i : Nat) (h0 : 0 ≤ b) (h : b / pw i % 2 = 0) : b % pw (i + 1) = b % pw i := by
  rw [bit_mod b i h0, h]; omega
theorem bit_step1 (b : Int) (i : Nat) (h0 : 0 ≤ b) (h : b / pw i % 2 ≠ 0) : b % pw (i + 1) = b % pw i + pw i := by
  rw [bit_mod b i h0, show b / pw i % 2 = 1 from by omega]; omega
theorem mod_bd (b : Int) (i : Nat) (h0 : 0 ≤ b) : 0 ≤ b % pw i ∧ b % pw i ≤ b := by
  have hp := pw_pos i
  have h1 := Int.mul_nonneg (show 0 ≤ pw i by omega) (Int.ediv_nonneg h0 (show 0 ≤ pw i by omega))
  have h2 := Int.mul_ediv_add_emod b (pw i)
  exact ⟨Int.emod_nonneg _ (by omega), by omega⟩
theorem div_bd (b : Int) (i : Nat) (h0 : 0 ≤ b) : 0 ≤ b / pw i ∧ b / pw i ≤ b := by
  have hp := pw_pos i
  exact ⟨Int.ediv_nonneg h0 (by omega), Int.ediv_le_self _ h0⟩
theorem prod_pw (a : Int) (i : Nat) (h0 : 0 ≤ a) (h : a ≤ 4294967295) (hi : i ≤ 31) : 0 ≤ a * pw i ∧ a * pw i ≤ 9223372034707292160 := by
  have hp := pw_pos i
  have hq : pw i ≤ 2147483648 := by rw [← pw31]; exact pw_le hi
  refine ⟨Int.mul_nonneg h0 (by omega), ?_⟩
  exact Int.le_trans (Int.mul_le_mul h hq (by omega) (by omega)) (by omega)
/-- what the product's loop keeps -/
def Kept (a b : Int) (k : Nat) (low high : Int) : Prop := 0 ≤ low ∧ low ≤ 4294967295 ∧ 0 ≤ high ∧ high ≤ 4294967295 ∧ low + high * 4294967296 = a * (b % pw k)
theorem kept_next {a b : Int} {k : Nat} {low high : Int} (h0 : 0 ≤ a) (h1 : a ≤ 4294967295) (g0 : 0 ≤ b) (g1 : b ≤ 4294967295) (hk : k ≤ 31) (h : Kept a b k low high) (hb : b / pw k % 2 ≠ 0) :
    Kept a b (k + 1) ((low + a * pw k % 4294967296) % 4294967296) (high + a * pw k / 4294967296 + (low + a * pw k % 4294967296) / 4294967296) := by
  obtain ⟨l0, l1, l2, l3, l4⟩ := h
  have e := mul_step a b low high (a * pw k) (pw k) rfl (b % pw k) l4
  rw [← bit_step1 b k g0 hb] at e
  have hm := mod_bd b (k + 1) g0
  have hp := Go.prod_bound a (b % pw (k + 1)) h0 h1 hm.1 (by omega)
  unfold Kept
  rw [← e] at hp ⊢
  have hn := prod_pw a k h0 h1 hk
  refine ⟨by omega, by omega, by omega, by omega, rfl⟩
theorem kept_same {a b : Int} {k : Nat} {low high : Int} (g0 : 0 ≤ b) (h : Kept a b k low high) (hb : b / pw k % 2 = 0) : Kept a b (k + 1) low high := by
  unfold Kept at h ⊢; rw [bit_step0 b k g0 hb]; exact h
theorem kept_zero (a b : Int) : Kept a b 0 0 0 := by
  unfold Kept; rw [pw_zero, Int.emod_one]; omega
theorem kept_end {a b low high : Int} (g0 : 0 ≤ b) (g1 : b ≤ 4294967295) (h : Kept a b 32 low high) : low = m32 (a * b) ∧ high = a * b / 4294967296 := by
  obtain ⟨l0, l1, l2, l3, l4⟩ := h
  rw [pw32, Int.emod_eq_of_lt g0 (by omega)] at l4
  unfold m32; omega
theorem pw31_mod (a : Int) : a * pw 31 % 4294967296 = a % 2 * 2147483648 ∧ a * pw 31 / 4294967296 = a / 2 := by rw [pw31]; omega
set_option maxHeartbeats 400000 in
theorem rmul_any (a b : Int) (w : World) (h0 : 0 ≤ a) (h1 : a ≤ 4294967295) (g0 : 0 ≤ b) (g1 : b ≤ 4294967295) :
    Calls Tryd.prog 24 #[.int .u32 a, .int .u32 b] w fun e w' => e = .returned (.tuple #[.int .u32 (m32 (a * b)), .int .u32 (a * b / 4294967296)]) ∧ w = w' := by
  go_enter Tryd.func24, Tryd.ntmps24
  go_wp2
  go_loop [6, 7, 8] (fun lo hi i => ∃ (k : Nat) (low high : Int), k ≤ 32 ∧ i = .int .i64 k ∧ lo = .int .i64 low ∧ hi = .int .i64 high ∧ Kept a b k low high) (fun _ _ i => 32 - (intOf i).toNat)
  case atStart => exact ⟨0, 0, 0, by omega, rfl, rfl, rfl, kept_zero a b⟩
  case round =>
    obtain ⟨k, low, high, hk, rfl, rfl, rfl, hK⟩ := hrel
    have hp := pw_pos k
    have hd := div_bd b k g0
    have hK' : 0 ≤ low ∧ low ≤ 4294967295 ∧ 0 ≤ high ∧ high ≤ 4294967295 := ⟨hK.1, hK.2.1, hK.2.2.1, hK.2.2.2.1⟩
    obtain ⟨l0, l1, l2, l3⟩ := hK'
    have HK : Hid (Kept a b k low high) := Lib.hid hK
    clear hK
    by_cases hlt : k < 32
    · have hn := prod_pw a k h0 h1 (by omega)
      by_cases hb : b / pw k % 2 = 0
      · have HB : Hid (b / pw k % 2 = 0) := Lib.hid hb
        have hb' : (b / pw k % 2 == 0) = true := by simpa using hb
        clear hb
        go_wp2_with (go_at_call 27; (with_reducible refine (rpower_any _ _ (by omega) (by omega)).mono ?_); rintro e w' ⟨rfl, rfl⟩)
        go_round
        case rel => exact ⟨k + 1, low, high, by omega, by go_num, rfl, rfl, kept_same g0 HK.out HB.out⟩
        case measure => simp [intOf]; omega
      · have HB : Hid (b / pw k % 2 ≠ 0) := Lib.hid hb
        have hb' : (b / pw k % 2 == 0) = false := by simpa using hb
        clear hb
        have HN := kept_next h0 h1 g0 g1 (by omega) HK.out HB.out
        by_cases hl : k < 31
        · go_wp2_with (go_at_call 27; (with_reducible refine (rpower_any _ _ (by omega) (by omega)).mono ?_); rintro e w' ⟨rfl, rfl⟩)
          go_round
          case rel => exact ⟨k + 1, _, _, by omega, by go_num, rfl, rfl, HN⟩
          case measure => simp [intOf]; omega
        · obtain rfl : k = 31 := by omega
          rw [(pw31_mod a).1, (pw31_mod a).2] at HN
          go_wp2_with (go_at_call 27; (with_reducible refine (rpower_any _ _ (by omega) (by omega)).mono ?_); rintro e w' ⟨rfl, rfl⟩)
          go_round
          case rel => exact ⟨32, _, _, by omega, by go_num, rfl, rfl, HN⟩
          case measure => simp [intOf]
    · obtain rfl : k = 32 := by omega
      have he := kept_end g0 g1 HK.out
      go_wp2
      go_ret2
      exact ⟨ret_ii (by have := m32_of low l0 l1; unfold m32 at *; omega) (by omega), rfl⟩
end Go.Proofs.YtgkonjgalpchoaaDoor
