/- Plain facts on what instructions reckon: the flags as a sum, bits of two numbers one by one, the answers of each operation as functions of its number. No conditions but those that each lemma names. -/
import Derived.Test.YtgkonjgalpchoaaDoorWordMath
namespace Go.Proofs.YtgkonjgalpchoaaDoor
open Go.RowKit
set_option linter.unusedVariables false
/-- a flag's number, or 0 -/
def flg (c : Bool) (k : Int) : Int := if c then k else 0
/-- the flags behind a number, of a carry and of what is wrong with signs; Step as it was -/
def fl (v : Int) (c o : Bool) (old : Int) : Int := flg (v == 0) 1 + flg (decide (2147483648 ≤ v)) 2 + flg c 4 + flg o 8 + old / 16 % 2 * 16
theorem flg_bd (c : Bool) (k : Int) (h : 0 ≤ k) : 0 ≤ flg c k ∧ flg c k ≤ k := by cases c <;> simp [flg, h]
theorem fl_bd (v : Int) (c o : Bool) (old : Int) : 0 ≤ fl v c o old ∧ fl v c o old ≤ 31 := by
  have h1 := flg_bd (v == 0) 1 (by omega)
  have h2 := flg_bd (decide (2147483648 ≤ v)) 2 (by omega)
  have h3 := flg_bd c 4 (by omega)
  have h4 := flg_bd o 8 (by omega)
  unfold fl; omega
theorem and_nat (n i : Nat) : n &&& 2 ^ i = n / 2 ^ i % 2 * 2 ^ i := by
  apply Nat.eq_of_testBit_eq
  intro j
  rw [Nat.testBit_and, Nat.testBit_mul_two_pow, show n / 2 ^ i % 2 = n / 2 ^ i % 2 ^ 1 from rfl, Nat.testBit_mod_two_pow, Nat.testBit_div_two_pow, Nat.testBit_two_pow]
  by_cases h : j = i
  · subst h; simp
  · rcases Nat.lt_or_ge j i with c | c
    · rw [show decide (i = j) = false from by simp; omega, show decide (j ≥ i) = false from by simp; omega]; simp
    · rw [show decide (i = j) = false from by simp; omega, show decide (j - i < 1) = false from by simp; omega]; simp
theorem and_pow (n : Int) (i : Nat) (h0 : 0 ≤ n) (h1 : n ≤ 4294967295) (hi : i < 32) : bits .and .u32 n (pw i) = n / pw i % 2 * pw i := by
  obtain ⟨m, rfl⟩ := Int.eq_ofNat_of_zero_le h0
  rw [pw_cast, u32_and_nat m (2 ^ i) (by omega) (Nat.lt_of_lt_of_le (Nat.pow_lt_pow_right (by omega) hi) (Nat.le_refl (2 ^ 32))), and_nat]
  push_cast; rfl
theorem and16 (n : Int) (h0 : 0 ≤ n) (h1 : n ≤ 4294967295) : bits .and .u32 n 16 = n / 16 % 2 * 16 := by
  have h := and_pow n 4 h0 h1 (by omega)
  rw [show pw 4 = 16 by decide +kernel] at h; exact h
theorem and_top (n : Int) (h0 : 0 ≤ n) (h1 : n ≤ 4294967295) : bits .and .u32 n 2147483648 = if 2147483648 ≤ n then 2147483648 else 0 := by
  have h := and_pow n 31 h0 h1 (by omega)
  rw [pw31] at h; rw [h]; split <;> omega
theorem and_flag (n : Int) (h0 : 0 ≤ n) (h1 : n ≤ 4294967295) : bits .and .u32 n 1 = n % 2 ∧ bits .and .u32 n 2 = n / 2 % 2 * 2 ∧ bits .and .u32 n 4 = n / 4 % 2 * 4 ∧ bits .and .u32 n 8 = n / 8 % 2 * 8 := by
  have g0 := and_pow n 0 h0 h1 (by omega)
  have g1 := and_pow n 1 h0 h1 (by omega)
  have g2 := and_pow n 2 h0 h1 (by omega)
  have g3 := and_pow n 3 h0 h1 (by omega)
  rw [show pw 0 = 1 by decide +kernel] at g0
  rw [show pw 1 = 2 by decide +kernel] at g1
  rw [show pw 2 = 4 by decide +kernel] at g2
  rw [show pw 3 = 8 by decide +kernel] at g3
  exact ⟨by rw [g0]; omega, g1, g2, g3⟩
theorem and31_u32 (n : Int) (h0 : 0 ≤ n) (h1 : n ≤ 4294967295) : bits .and .u32 n 31 = (lo n : Int) := by
  obtain ⟨m, rfl⟩ := Int.eq_ofNat_of_zero_le h0
  rw [lo_eq, show (31 : Int) = ((31 : Nat) : Int) from rfl, u32_and_nat m 31 (by omega) (by omega), show (31 : Nat) = 2 ^ 5 - 1 from rfl, Nat.and_two_pow_sub_one_eq_mod]
  omega
theorem or_flags (a b c d : Bool) (s : Int) (h : s = 0 ∨ s = 16) :
    bits .or .u32 (bits .or .u32 (bits .or .u32 (bits .or .u32 (flg a 1) (flg b 2)) (flg c 4)) (flg d 8)) s = flg a 1 + flg b 2 + flg c 4 + flg d 8 + s := by
  rcases h with rfl | rfl <;> cases a <;> cases b <;> cases c <;> cases d <;> decide +kernel
theorem or_three (a b c : Bool) (s : Int) (h : s = 0 ∨ s = 16) :
    bits .or .u32 (bits .or .u32 (bits .or .u32 (flg a 1) (flg b 2)) (flg c 4)) s = flg a 1 + flg b 2 + flg c 4 + s := by
  rcases h with rfl | rfl <;> cases a <;> cases b <;> cases c <;> decide +kernel
theorem step_two (n : Int) : n / 16 % 2 * 16 = 0 ∨ n / 16 % 2 * 16 = 16 := by omega
/-- by bit of two numbers: 0 both, 1 one at least, else just one -/
def bw (how : Nat) (x y : Nat) : Nat := if how = 0 then x &&& y else if how = 1 then x ||| y else x ^^^ y
theorem bw_half (how x y : Nat) : bw how x y / 2 = bw how (x / 2) (y / 2) := by
  unfold bw
  split
  · exact Nat.and_div_two
  · split
    · exact Nat.or_div_two
    · exact Nat.xor_div_two
theorem bw_low (how x y : Nat) : bw how x y % 2 = bw how (x % 2) (y % 2) := by
  have h0 := Nat.and_mod_two_pow (a := x) (b := y) (n := 1)
  have h1 := Nat.or_mod_two_pow (a := x) (b := y) (n := 1)
  have h2 := Nat.xor_mod_two_pow (a := x) (b := y) (n := 1)
  rw [Nat.pow_one] at h0 h1 h2
  unfold bw
  split
  · exact h0
  · split
    · exact h1
    · exact h2
theorem bw_step (how x y : Nat) : bw how x y = 2 * bw how (x / 2) (y / 2) + bw how (x % 2) (y % 2) := by
  rw [← bw_half, ← bw_low]; omega
theorem bw_zero (how : Nat) : bw how 0 0 = 0 := by unfold bw; split; rfl; split <;> rfl
theorem bw_lt (how x y : Nat) (hx : x < 4294967296) (hy : y < 4294967296) : bw how x y < 4294967296 := by
  unfold bw
  split
  · exact Nat.and_lt_two_pow (n := 32) x hy
  · split
    · exact Nat.or_lt_two_pow (n := 32) hx hy
    · exact Nat.xor_lt_two_pow (n := 32) hx hy
/-- the upper bits of both, from place n on -/
def bwn (how x y n : Nat) : Nat := bw how (x / 2 ^ n) (y / 2 ^ n)
theorem bwn_top (how x y : Nat) (hx : x < 4294967296) (hy : y < 4294967296) : bwn how x y 32 = 0 := by
  unfold bwn; rw [Nat.div_eq_of_lt hx, Nat.div_eq_of_lt hy, bw_zero]
theorem bwn_low (how x y : Nat) : bwn how x y 0 = bw how x y := by unfold bwn; simp
theorem bwn_succ (how x y n : Nat) : bwn how x y n = 2 * bwn how x y (n + 1) + bw how (x / 2 ^ n % 2) (y / 2 ^ n % 2) := by
  unfold bwn
  rw [bw_step how (x / 2 ^ n), Nat.div_div_eq_div_mul, Nat.div_div_eq_div_mul, ← Nat.pow_succ]
theorem bwn_lt (how x y n : Nat) (hx : x < 4294967296) (hy : y < 4294967296) : bwn how x y n < 4294967296 :=
  bw_lt how _ _ (Nat.lt_of_le_of_lt (Nat.div_le_self _ _) hx) (Nat.lt_of_le_of_lt (Nat.div_le_self _ _) hy)
/-- the answer of an operation of two numbers; 0 where there is none -/
def dov (op a b : Int) : Int :=
  if op = 4 then m32 (a + b + cin false) else if op = 5 then m32 (a - b) else if op = 6 then m32 (a * b) else if op = 7 then (if b = 0 then 0 else a / b) else if op = 8 then (if b = 0 then 0 else a % b)
  else if op = 9 then (bw 0 a.toNat b.toNat : Nat) else if op = 10 then (bw 1 a.toNat b.toNat : Nat) else if op = 11 then (bw 2 a.toNat b.toNat : Nat)
  else if op = 12 then up a (lo b) else if op = 13 then a / pw (lo b) else if op = 14 then sar a (lo b) else if op = 16 then a else 0
/-- what the flags are told of -/
def dod (op a b : Int) : Int := if op = 16 then m32 (a - b) else dov op a b
def doc (op a b : Int) : Bool := if op = 4 then ((a + b + cin false) / 4294967296 == 1) else if op = 5 ∨ op = 16 then decide (a < b) else if op = 6 then (a * b / 4294967296 != 0) else false
def doo (op a b : Int) : Bool := if op = 4 then bey (sg a + sg b + cin false) else if op = 5 ∨ op = 16 then bey (sg a - sg b) else false
/-- the error's number -/
def doe (op b : Int) : Int := if (4 ≤ op ∧ op ≤ 14) ∨ op = 16 then (if (op = 7 ∨ op = 8) ∧ b = 0 then 14 else 0) else 22
def dof (op a b old : Int) : Int := if doe op b = 0 then fl (dod op a b) (doc op a b) (doo op a b) old else 0
theorem op_cases (op : Int) : op = 4 ∨ op = 5 ∨ op = 6 ∨ op = 7 ∨ op = 8 ∨ op = 9 ∨ op = 10 ∨ op = 11 ∨ op = 12 ∨ op = 13 ∨ op = 14 ∨ op = 16 ∨ (op ≠ 4 ∧ op ≠ 5 ∧ op ≠ 6 ∧ op ≠ 7 ∧ op ≠ 8 ∧ op ≠ 9 ∧ op ≠ 10 ∧ op ≠ 11 ∧ op ≠ 12 ∧ op ≠ 13 ∧ op ≠ 14 ∧ op ≠ 16) := by omega
/-- whether a jump is taken -/
def tkv (op f : Int) : Bool := if op = 21 then true else if op = 22 then f % 2 == 1 else if op = 23 then !(f % 2 == 1) else if op = 24 then (f / 2 % 2 == 1) != (f / 8 % 2 == 1) else if op = 25 then (f / 2 % 2 == 1) == (f / 8 % 2 == 1) else if op = 26 then f / 4 % 2 == 1 else false
def tke (op : Int) : Int := if 21 ≤ op ∧ op ≤ 26 then 0 else 22
theorem jump_cases (op : Int) : op = 21 ∨ op = 22 ∨ op = 23 ∨ op = 24 ∨ op = 25 ∨ op = 26 ∨ (op ≠ 21 ∧ op ≠ 22 ∧ op ≠ 23 ∧ op ≠ 24 ∧ op ≠ 25 ∧ op ≠ 26) := by omega
theorem dov_4 (a b : Int) : dov 4 a b = m32 (a + b + cin false) := rfl
theorem dov_5 (a b : Int) : dov 5 a b = m32 (a - b) := rfl
theorem dov_6 (a b : Int) : dov 6 a b = m32 (a * b) := rfl
theorem dov_9 (a b : Int) : dov 9 a b = ((bw 0 a.toNat b.toNat : Nat) : Int) := rfl
theorem dov_10 (a b : Int) : dov 10 a b = ((bw 1 a.toNat b.toNat : Nat) : Int) := rfl
theorem dov_11 (a b : Int) : dov 11 a b = ((bw 2 a.toNat b.toNat : Nat) : Int) := rfl
theorem dov_12 (a b : Int) : dov 12 a b = up a (lo b) := rfl
theorem dov_13 (a b : Int) : dov 13 a b = a / pw (lo b) := rfl
theorem dov_14 (a b : Int) : dov 14 a b = sar a (lo b) := rfl
theorem dov_16 (a b : Int) : dov 16 a b = a := rfl
theorem dov_7 (a b : Int) : dov 7 a b = a / b := by
  show (if b = 0 then 0 else a / b) = a / b
  split
  · rename_i h; rw [h]; simp
  · rfl
theorem dov_8 (a b : Int) (h : b ≠ 0) : dov 8 a b = a % b := by
  show (if b = 0 then 0 else a % b) = a % b
  rw [if_neg h]
theorem dov_8z (a : Int) : dov 8 a 0 = 0 := rfl
theorem dov_no (op a b : Int) (h : op ≠ 4 ∧ op ≠ 5 ∧ op ≠ 6 ∧ op ≠ 7 ∧ op ≠ 8 ∧ op ≠ 9 ∧ op ≠ 10 ∧ op ≠ 11 ∧ op ≠ 12 ∧ op ≠ 13 ∧ op ≠ 14 ∧ op ≠ 16) : dov op a b = 0 := by
  obtain ⟨h1, h2, h3, h4, h5, h6, h7, h8, h9, h10, h11, h12⟩ := h
  unfold dov
  rw [if_neg h1, if_neg h2, if_neg h3, if_neg h4, if_neg h5, if_neg h6, if_neg h7, if_neg h8, if_neg h9, if_neg h10, if_neg h11, if_neg h12]
theorem dov_bd (op a b : Int) (h0 : 0 ≤ a) (h1 : a ≤ 4294967295) (g0 : 0 ≤ b) (g1 : b ≤ 4294967295) : 0 ≤ dov op a b ∧ dov op a b ≤ 4294967295 := by
  have hk := lo_lt b
  have hp := pw_pos (lo b)
  have hb : ∀ how : Nat, 0 ≤ ((bw how a.toNat b.toNat : Nat) : Int) ∧ ((bw how a.toNat b.toNat : Nat) : Int) ≤ 4294967295 := fun how => by
    have := bw_lt how a.toNat b.toNat (by omega) (by omega)
    omega
  rcases op_cases op with rfl | rfl | rfl | rfl | rfl | rfl | rfl | rfl | rfl | rfl | rfl | rfl | h
  · rw [dov_4]; exact m32_bd _
  · rw [dov_5]; exact m32_bd _
  · rw [dov_6]; exact m32_bd _
  · rw [dov_7]; exact ⟨Int.ediv_nonneg h0 g0, Int.le_trans (Int.ediv_le_self _ h0) h1⟩
  · by_cases hz : b = 0
    · subst hz; rw [dov_8z]; omega
    · rw [dov_8 a b hz]; exact ⟨Int.emod_nonneg _ hz, by have := Int.emod_lt_of_pos a (show 0 < b by omega); omega⟩
  · rw [dov_9]; exact hb 0
  · rw [dov_10]; exact hb 1
  · rw [dov_11]; exact hb 2
  · rw [dov_12]; exact up_bd a _ hk h0 h1
  · rw [dov_13]; exact ⟨Int.ediv_nonneg h0 (by omega), Int.le_trans (Int.ediv_le_self _ h0) h1⟩
  · rw [dov_14]; exact sar_bd a _
  · rw [dov_16]; omega
  · rw [dov_no op a b h]; omega
theorem shr_zero (a : Int) (h0 : 0 ≤ a) (h1 : a ≤ 4294967295) : up a 0 = a / pw 0 := by
  unfold up; rw [pw_zero, Int.ediv_one, Nat.sub_zero, pw32]; omega
end Go.Proofs.YtgkonjgalpchoaaDoor
