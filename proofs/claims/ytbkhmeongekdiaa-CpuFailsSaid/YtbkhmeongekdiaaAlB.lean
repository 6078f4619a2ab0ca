/- Plain facts on what instructions reckon: the flags as a sum, bits of two numbers one by one, the answers of each operation as functions of its number. No conditions but those that each lemma names. -/
import Derived.Test.YtbkhmeongekdiaaWordJ
import Derived.Test.YtbkhmeongekdiaaSoftO
namespace Go.Proofs.Ytbkhmeongekdiaa
open Go.RowKit
set_option linter.unusedVariables false
/-- a flag's number, or 0 -/
def flg (c : Bool) (k : Int) : Int := if c then k else 0
/-- the flags behind a number, of a carry and of what is wrong with signs; Step as it was -/
def fl (v : Int) (c o : Bool) (old : Int) : Int := flg (v == 0) 1 + flg (decide (2147483648 ≤ v)) 2 + flg c 4 + flg o 8 + old / 16 % 2 * 16
theorem flg_bd (c : Bool) (k : Int) (h : 0 ≤ k) : 0 ≤ flg c k ∧ flg c k ≤ k := by cases c <;> simp [flg, h]
theorem fl_bd (v : Int) (c o : Bool) (old : Int) : 0 ≤ fl v c o old ∧ fl v c o old ≤ 31 := by
  have h1 := flg_bd (v == 0) 1 (by omega)
  have h2 := flg_bd (decide (2147483648 ≤ v)) 2 (by omega)
  have h3 := flg_bd c 4 (by omega)
  have h4 := flg_bd o 8 (by omega)
  unfold fl; omega
theorem and_nat (n i : Nat) : n &&& 2 ^ i = n / 2 ^ i % 2 * 2 ^ i := by
  apply Nat.eq_of_testBit_eq
  intro j
  rw [Nat.testBit_and, Nat.testBit_mul_two_pow, show n / 2 ^ i % 2 = n / 2 ^ i % 2 ^ 1 from rfl, Nat.testBit_mod_two_pow, Nat.testBit_div_two_pow, Nat.testBit_two_pow]
  by_cases h : j = i
  · subst h; simp
  · rcases Nat.lt_or_ge j i with c | c
    · rw [show decide (i = j) = false from by simp; omega, show decide (j ≥ i) = false from by simp; omega]; simp
    · rw [show decide (i = j) = false from by simp; omega, show decide (j - i < 1) = false from by simp; omega]; simp
theorem and_pow (n : Int) (i : Nat) (h0 : 0 ≤ n) (h1 : n ≤ 4294967295) (hi : i < 32) : bits .and .u32 n (pw i) = n / pw i % 2 * pw i := by
  obtain ⟨m, rfl⟩ := Int.eq_ofNat_of_zero_le h0
  rw [pw_cast, u32_and_nat m (2 ^ i) (by omega) (Nat.lt_of_lt_of_le (Nat.pow_lt_pow_right (by omega) hi) (Nat.le_refl (2 ^ 32))), and_nat]
  push_cast; rfl
theorem and16 (n : Int) (h0 : 0 ≤ n) (h1 : n ≤ 4294967295) : bits .and .u32 n 16 = n / 16 % 2 * 16 := by
  have h := and_pow n 4 h0 h1 (by omega)
  rw [show pw 4 = 16 by decide +kernel] at h; exact h
theorem and_top (n : Int) (h0 : 0 ≤ n) (h1 : n ≤ 4294967295) : bits .and .u32 n 2147483648 = if 2147483648 ≤ n then 2147483648 else 0 := by
  have h := and_pow n 31 h0 h1 (by omega)
  rw [pw31] at h; rw [h]; split <;> omega
theorem and_flag (n : Int) (h0 : 0 ≤ n) (h1 : n ≤ 4294967295) : bits .and .u32 n 1 = n % 2 ∧ bits .and .u32 n 2 = n / 2 % 2 * 2 ∧ bits .and .u32 n 4 = n / 4 % 2 * 4 ∧ bits .and .u32 n 8 = n / 8 % 2 * 8 := by
  have g0 := and_pow n 0 h0 h1 (by omega)
  have g1 := and_pow n 1 h0 h1 (by omega)
  have g2 := and_pow n 2 h0 h1 (by omega)
  have g3 := and_pow n 3 h0 h1 (by omega)
  rw [show pw 0 = 1 by decide +kernel] at g0
  rw [show pw 1 = 2 by decide +kernel] at g1
  rw [show pw 2 = 4 by decide +kernel] at g2
  rw [show pw 3 = 8 by decide +kernel] at g3
  exact ⟨by rw [g0]; omega, g1, g2, g3⟩
theorem and31_u32 (n : Int) (h0 : 0 ≤ n) (h1 : n ≤ 4294967295) : bits .and .u32 n 31 = (lo n : Int) := by
  obtain ⟨m, rfl⟩ := Int.eq_ofNat_of_zero_le h0
  rw [lo_eq, show (31 : Int) = ((31 : Nat) : Int) from rfl, u32_and_nat m 31 (by omega) (by omega), show (31 : Nat) = 2 ^ 5 - 1 from rfl, Nat.and_two_pow_sub_one_eq_mod]
  omega
theorem or_flags (a b c d : Bool) (s : Int) (h : s = 0 ∨ s = 16) :
    bits .or .u32 (bits .or .u32 (bits .or .u32 (bits .or .u32 (flg a 1) (flg b 2)) (flg c 4)) (flg d 8)) s = flg a 1 + flg b 2 + flg c 4 + flg d 8 + s := by
  rcases h with rfl | rfl <;> cases a <;> cases b <;> cases c <;> cases d <;> decide +kernel
theorem or_three (a b c : Bool) (s : Int) (h : s = 0 ∨ s = 16) :
    bits .or .u32 (bits .or .u32 (bits .or .u32 (flg a 1) (flg b 2)) (flg c 4)) s = flg a 1 + flg b 2 + flg c 4 + s := by
  rcases h with rfl | rfl <;> cases a <;> cases b <;> cases c <;> decide +kernel
theorem step_two (n : Int) : n / 16 % 2 * 16 = 0 ∨ n / 16 % 2 * 16 = 16 := by omega
/-- by bit of two numbers: 0 both, 1 one at least, else just one -/
def bw (how : Nat) (x y : Nat) : Nat := if how = 0 then x &&& y else if how = 1 then x ||| y else x ^^^ y
theorem bw_half (how x y : Nat) : bw how x y / 2 = bw how (x / 2) (y / 2) := by
  unfold bw
  split
  · exact Nat.and_div_two
  · split
    · exact Nat.or_div_two
    · exact Nat.xor_div_two
theorem bw_low (how x y : Nat) : bw how x y % 2 = bw how (x % 2) (y % 2) := by
  have h0 := Nat.and_mod_two_pow (a := x) (b := y) (n := 1)
  have h1 := Nat.or_mod_two_pow (a := x) (b := y) (n := 1)
  have h2 := Nat.xor_mod_two_pow (a := x) (b := y) (n := 1)
  rw [Nat.pow_one] at h0 h1 h2
  unfold bw
  split
  · exact h0
  · split
    · exact h1
    · exact h2
theorem bw_step (how x y : Nat) : bw how x y = 2 * bw how (x / 2) (y / 2) + bw how (x % 2) (y % 2) := by
  rw [← bw_half, ← bw_low]; omega
theorem bw_zero (how : Nat) : bw how 0 0 = 0 := by unfold bw; split; rfl; split <;> rfl
theorem bw_lt (how x y : Nat) (hx : x < 4294967296) (hy : y < 4294967296) : bw how x y < 4294967296 := by
  unfold bw
  split
  · exact Nat.and_lt_two_pow (n := 32) x hy
  · split
    · exact Nat.or_lt_two_pow (n := 32) hx hy
    · exact Nat.xor_lt_two_pow (n := 32) hx hy
/-- the upper bits of both, from place n on -/
def bwn (how x y n : Nat) : Nat := bw how (x / 2 ^ n) (y / 2 ^ n)
theorem bwn_top (how x y : Nat) (hx : x < 4294967296) (hy : y < 4294967296) : bwn how x y 32 = 0 := by
  unfold bwn; rw [Nat.div_eq_of_lt hx, Nat.div_eq_of_lt hy, bw_zero]
theorem bwn_low (how x y : Nat) : bwn how x y 0 = bw how x y := by unfold bwn; simp
theorem bwn_succ (how x y n : Nat) : bwn how x y n = 2 * bwn how x y (n + 1) + bw how (x / 2 ^ n % 2) (y / 2 ^ n % 2) := by
  unfold bwn
  rw [bw_step how (x / 2 ^ n), Nat.div_div_eq_div_mul, Nat.div_div_eq_div_mul, ← Nat.pow_succ]
theorem bwn_lt (how x y n : Nat) (hx : x < 4294967296) (hy : y < 4294967296) : bwn how x y n < 4294967296 :=
  bw_lt how _ _ (Nat.lt_of_le_of_lt (Nat.div_le_self _ _) hx) (Nat.lt_of_le_of_lt (Nat.div_le_self _ _) hy)
/-- the answer of an operation of two numbers; 0 where there is none -/
def dov (op a b : Int) : Int :=
  if op = 4 then m32 (a + b + cin false) else if op = 5 then m32 (a - b) else if op = 6 then m32 (a * b) else if op = 7 then (if b = 0 then 0 else a / b) else if op = 8 then (if b = 0 then 0 else a % b)
  else if op = 9 then (bw 0 a.toNat b.toNat : Nat) else if op = 10 then (bw 1 a.toNat b.toNat : Nat) else if op = 11 then (bw 2 a.toNat b.toNat : Nat)
  else if op = 12 then up a (lo b) else if op = 13 then a / pw (lo b) else if op = 14 then sar a (lo b) else if op = 16 then a else 0
/-- what the flags are told of -/
def dod (op a b : Int) : Int := if op = 16 then m32 (a - b) else dov op a b
def doc (op a b : Int) : Bool := if op = 4 then ((a + b + cin false) / 4294967296 == 1) else if op = 5 ∨ op = 16 then decide (a < b) else if op = 6 then (a * b / 4294967296 != 0) else false
def doo (op a b : Int) : Bool := if op = 4 then bey (sg a + sg b + cin false) else if op = 5 ∨ op = 16 then bey (sg a - sg b) else false
/-- the error's number -/
def doe (op b : Int) : Int := if (4 ≤ op ∧ op ≤ 14) ∨ op = 16 then (if (op = 7 ∨ op = 8) ∧ b = 0 then 14 else 0) else 22
def dof (op a b old : Int) : Int := if doe op b = 0 then fl (dod op a b) (doc op a b) (doo op a b) old else 0
theorem op_cases (op : Int) : op = 4 ∨ op = 5 ∨ op = 6 ∨ op = 7 ∨ op = 8 ∨ op = 9 ∨ op = 10 ∨ op = 11 ∨ op = 12 ∨ op = 13 ∨ op = 14 ∨ op = 16 ∨ (op ≠ 4 ∧ op ≠ 5 ∧ op ≠ 6 ∧ op ≠ 7 ∧ op ≠ 8 ∧ op ≠ 9 ∧ op ≠ 10 ∧ op ≠ 11 ∧ op ≠ 12 ∧ op ≠ 13 ∧ op ≠ 14 ∧ op ≠ 16) := by omega
/-- whether a jump is taken -/
def tkv (op f : Int) : Bool := if op = 21 then true else if op = 22 then f % 2 == 1 else if op = 23 then !(f % 2 == 1) else if op = 24 then (f / 2 % 2 == 1) != (f / 8 % 2 == 1) else if op = 25 then (f / 2 % 2 == 1) == (f / 8 % 2 == 1) else if op = 26 then f / 4 % 2 == 1 else false
def tke (op : Int) : Int := if 21 ≤ op ∧ op ≤ 26 then 0 else 22
theorem jump_cases (op : Int) : op = 21 ∨ op = 22 ∨ op = 23 ∨ op = 24 ∨ op = 25 ∨ op = 26 ∨ (op ≠ 21 ∧ op ≠ 22 ∧ op ≠ 23 ∧ op ≠ 24 ∧ op ≠ 25 ∧ op ≠ 26) := by omega
theorem dov_4 (a b : Int) : dov 4 a b = m32 (a + b + cin false) := rfl
theorem dov_5 (a b : Int) : dov 5 a b = m32 (a - b) := rfl
theorem dov_6 (a b : Int) : dov 6 a b = m32 (a * b) := rfl
theorem dov_9 (a b : Int) : dov 9 a b = ((bw 0 a.toNat b.toNat : Nat) : Int) := rfl
theorem dov_10 (a b : Int) : dov 10 a b = ((bw 1 a.toNat b.toNat : Nat) : Int) := rfl
theorem dov_11 (a b : Int) : dov 11 a b = ((bw 2 a.toNat b.toNat : Nat) : Int) := rfl
theorem dov_12 (a b : Int) : dov 12 a b = up a (lo b) := rfl
theorem dov_13 (a b : Int) : dov 13 a b = a / pw (lo b) := rfl
theorem dov_14 (a b : Int) : dov 14 a b = sar a (lo b) := rfl
theorem dov_16 (a b : Int) : dov 16 a b = a := rfl
theorem dov_7 (a b : Int) : dov 7 a b = a / b := by
  show (if b = 0 then 0 else a / b) = a / b
  split
  · rename_i h; rw [h]; simp
  · rfl
theorem dov_8 (a b : Int) (h : b ≠ 0) : dov 8 a b = a % b := by
  show (if b = 0 then 0 else a % b) = a % b
  rw [if_neg h]
theorem dov_8z (a : Int) : dov 8 a 0 = 0 := rfl
theorem dov_no (op a b : Int) (h : op ≠ 4 ∧ op ≠ 5 ∧ op ≠ 6 ∧ op ≠ 7 ∧ op ≠ 8 ∧ op ≠ 9 ∧ op ≠ 10 ∧ op ≠ 11 ∧ op ≠ 12 ∧ op ≠ 13 ∧ op ≠ 14 ∧ op ≠ 16) : dov op a b = 0 := by
  obtain ⟨h1, h2, h3, h4, h5, h6, h7, h8, h9, h10, h11, h12⟩ := h
  unfold dov
  rw [if_neg h1, if_neg h2, if_neg h3, if_neg h4, if_neg h5, if_neg h6, if_neg h7, if_neg h8, if_neg h9, if_neg h10, if_neg h11, if_neg h12]
theorem dov_bd (op a b : Int) (h0 : 0 ≤ a) (h1 : a ≤ 4294967295) (g0 : 0 ≤ b) (g1 : b ≤ 4294967295) : 0 ≤ dov op a b ∧ dov op a b ≤ 4294967295 := by
  have hk := lo_lt b
  have hp := pw_pos (lo b)
  have hb : ∀ how : Nat, 0 ≤ ((bw how a.toNat b.toNat : Nat) : Int) ∧ ((bw how a.toNat b.toNat : Nat) : Int) ≤ 4294967295 := fun how => by
    have := bw_lt how a.toNat b.toNat (by omega) (by omega)
    omega
  rcases op_cases op with rfl | rfl | rfl | rfl | rfl | rfl | rfl | rfl | rfl | rfl | rfl | rfl | h
  · rw [dov_4]; exact m32_bd _
  · rw [dov_5]; exact m32_bd _
  · rw [dov_6]; exact m32_bd _
  · rw [dov_7]; exact ⟨Int.ediv_nonneg h0 g0, Int.le_trans (Int.ediv_le_self _ h0) h1⟩
  · by_cases hz : b = 0
    · subst hz; rw [dov_8z]; omega
    · rw [dov_8 a b hz]; exact ⟨Int.emod_nonneg _ hz, by have := Int.emod_lt_of_pos a (show 0 < b by omega); omega⟩
  · rw [dov_9]; exact hb 0
  · rw [dov_10]; exact hb 1
  · rw [dov_11]; exact hb 2
  · rw [dov_12]; exact up_bd a _ hk h0 h1
  · rw [dov_13]; exact ⟨Int.ediv_nonneg h0 (by omega), Int.le_trans (Int.ediv_le_self _ h0) h1⟩
  · rw [dov_14]; exact sar_bd a _
  · rw [dov_16]; omega
  · rw [dov_no op a b h]; omega
theorem shr_zero (a : Int) (h0 : 0 ≤ a) (h1 : a ≤ 4294967295) : up a 0 = a / pw 0 := by
  unfold up; rw [pw_zero, Int.ediv_one, Nat.sub_zero, pw32]; omega
end Go.Proofs.Ytbkhmeongekdiaa
namespace Go.Proofs.Ytbkhmeongekdiaa
open Go.RowKit
set_option linter.unusedVariables false
theorem flag_any (c : Bool) (k : Int) (w : World) : Calls Try.prog 44 #[.bool c, .int .u32 k] w fun e w' => e = .returned (.int .u32 (flg c k)) ∧ w = w' := by
  cases c
  all_goals
    go_enter Try.func44, Try.ntmps44
    go_wp2
    go_ret
    exact ⟨rfl, rfl⟩
theorem after_any (v : Int) (c o : Bool) (old : Int) (w : World) (h0 : 0 ≤ v) (h1 : v ≤ 4294967295) (g0 : 0 ≤ old) (g1 : old ≤ 4294967295) :
    Calls Try.prog 39 #[.int .u32 v, .bool c, .bool o, .int .u32 old] w fun e w' => e = .returned (.int .u32 (fl v c o old)) ∧ New w w' := by
  have E1 := Lib.hid (and16 old g0 g1)
  have e2 := and_top v h0 h1
  have e3 := Lib.hid (show (bits .and .u32 v 2147483648 != 0) = decide (2147483648 ≤ v) by rw [e2]; by_cases h : 2147483648 ≤ v <;> simp [h])
  clear e2
  go_enter Try.func39, Try.ntmps39
  go_wp2_with (go_at_call 44; (with_reducible refine (flag_any _ _ _).mono ?_); rintro e w' ⟨rfl, rfl⟩)
  go_ret
  refine ⟨ret_int ?_, by first | exact New.refl _ | exact (New.refl _).drew | exact New.drewN (New.refl _) _⟩
  unfold fl
  rw [E1.out, ← or_flags _ _ _ _ _ (step_two old), e3.out]
/-- the quotient, or what is left -/
theorem divide_any (op a b : Int) (ho : op = 7 ∨ op = 8) (w : World) (h0 : 0 ≤ a) (h1 : a ≤ 4294967295) (g0 : 0 ≤ b) (g1 : b ≤ 4294967295) :
    Calls Try.prog 59 #[.int .i64 op, .int .u32 a, .int .u32 b] w fun e w' => e = .returned (.tuple #[.int .u32 (dov op a b), erN (doe op b)]) ∧ New w w' := by
  by_cases hz : b = 0
  · subst hz
    have hd : dov op a 0 = 0 := by rcases ho with rfl | rfl <;> rfl
    have he : erN (doe op 0) = .iface 64 (.int .i64 14) := by rcases ho with rfl | rfl <;> rfl
    rw [hd, he]
    go_enter Try.func59, Try.ntmps59
    go_wp2_with (go_at_call 65; (with_reducible refine (wdiv_zero _ _).mono ?_); rintro e w' ⟨rfl, rfl⟩)
    go_ret2
    exact ⟨rfl, by first | exact New.refl _ | exact (New.refl _).drew⟩
  · have hp : 1 ≤ b := by omega
    have he : erN (doe op b) = .nilIface := by rcases ho with rfl | rfl <;> (unfold doe; simp [hz]; rfl)
    rw [he]
    have q := fun w => wdiv_any a b w h0 h1 hp g1
    rcases ho with rfl | rfl
    · rw [dov_7]
      go_enter Try.func59, Try.ntmps59
      go_wp2_with (go_at_call 65; (with_reducible refine (q _).mono ?_); rintro e w' ⟨rfl, n, rfl⟩)
      go_ret2
      exact ⟨rfl, by first | exact New.refl _ | exact (New.refl _).drew | exact New.drewN (New.refl _) _⟩
    · rw [dov_8 a b hz]
      go_enter Try.func59, Try.ntmps59
      go_wp2_with (go_at_call 65; (with_reducible refine (q _).mono ?_); rintro e w' ⟨rfl, n, rfl⟩)
      go_ret2
      exact ⟨rfl, by first | exact New.refl _ | exact (New.refl _).drew | exact New.drewN (New.refl _) _⟩
theorem shift_dn (v : Int) (k : Nat) (w : World) (h0 : 0 ≤ v) (h1 : v ≤ 4294967295) (hk : k < 32) :
    Calls Try.prog 60 #[.int .u32 v, .int .i64 (-(k : Int))] w fun e w' => e = .returned (.int .u32 (v / pw k)) ∧ w = w' := by
  by_cases h : 1 ≤ k
  · exact shift_down' v k w h0 h1 h hk
  · obtain rfl : k = 0 := by omega
    rw [← shr_zero v h0 h1]
    exact shift_up' v 0 w h0 h1 (by omega)
/-- bits of two numbers, as the program has them -/
theorem bits_bw (a b : Int) (h0 : 0 ≤ a) (h1 : a ≤ 4294967295) (g0 : 0 ≤ b) (g1 : b ≤ 4294967295) :
    bits .and .u32 a b = dov 9 a b ∧ bits .or .u32 a b = dov 10 a b ∧ bits .xor .u32 a b = dov 11 a b := by
  obtain ⟨m, rfl⟩ := Int.eq_ofNat_of_zero_le h0
  obtain ⟨n, rfl⟩ := Int.eq_ofNat_of_zero_le g0
  rw [dov_9, dov_10, dov_11, Int.toNat_natCast, Int.toNat_natCast]
  exact ⟨u32_and_nat m n (by omega) (by omega), u32_or_nat m n (by omega) (by omega), u32_xor_nat m n (by omega) (by omega)⟩
set_option maxHeartbeats 1000000 in
theorem plain_any (op a b : Int) (ho : op ≠ 4 ∧ op ≠ 5 ∧ op ≠ 6 ∧ op ≠ 16) (w : World) (h0 : 0 ≤ a) (h1 : a ≤ 4294967295) (g0 : 0 ≤ b) (g1 : b ≤ 4294967295) :
    Calls Try.prog 42 #[.int .i64 op, .int .u32 a, .int .u32 b] w fun e w' => e = .returned (.tuple #[.int .u32 (dov op a b), erN (doe op b)]) ∧ New w w' := by
  have hA := and31_u32 b g0 g1
  have hk := lo_lt b
  obtain ⟨x1, x2, x3⟩ := bits_bw a b h0 h1 g0 g1
  obtain ⟨o4, o5, o6, o16⟩ := ho
  rcases op_cases op with rfl | rfl | rfl | rfl | rfl | rfl | rfl | rfl | rfl | rfl | rfl | rfl | h
  · exact absurd rfl o4
  · exact absurd rfl o5
  · exact absurd rfl o6
  · have q := fun w => divide_any 7 a b (.inl rfl) w h0 h1 g0 g1
    generalize dov 7 a b = V at *
    generalize erN (doe 7 b) = E at *
    generalize lo b = k at *
    go_enter Try.func42, Try.ntmps42
    go_wp2_with (go_at_call 59; (with_reducible refine (q _).mono ?_); rintro e w' ⟨rfl, n1⟩)
    go_ret2
    exact ⟨rfl, n1⟩
  · have q := fun w => divide_any 8 a b (.inr rfl) w h0 h1 g0 g1
    generalize dov 8 a b = V at *
    generalize erN (doe 8 b) = E at *
    generalize lo b = k at *
    go_enter Try.func42, Try.ntmps42
    go_wp2_with (go_at_call 59; (with_reducible refine (q _).mono ?_); rintro e w' ⟨rfl, n1⟩)
    go_ret2
    exact ⟨rfl, n1⟩
  · rw [show erN (doe 9 b) = .nilIface from rfl]
    generalize dov 9 a b = V at *
    generalize lo b = k at *
    go_enter Try.func42, Try.ntmps42
    go_wp2
    go_ret2
    exact ⟨rfl, New.refl _⟩
  · rw [show erN (doe 10 b) = .nilIface from rfl]
    generalize dov 10 a b = V at *
    generalize lo b = k at *
    go_enter Try.func42, Try.ntmps42
    go_wp2
    go_ret2
    exact ⟨rfl, New.refl _⟩
  · rw [show erN (doe 11 b) = .nilIface from rfl]
    generalize dov 11 a b = V at *
    generalize lo b = k at *
    go_enter Try.func42, Try.ntmps42
    go_wp2
    go_ret2
    exact ⟨rfl, New.refl _⟩
  · rw [show erN (doe 12 b) = .nilIface from rfl, dov_12]
    generalize lo b = k at *
    go_enter Try.func42, Try.ntmps42
    go_wp2_with (go_at_call 60; (with_reducible refine (shift_up' _ _ _ h0 h1 hk).mono ?_); rintro e w' ⟨rfl, rfl⟩)
    go_ret2
    exact ⟨rfl, New.refl _⟩
  · rw [show erN (doe 13 b) = .nilIface from rfl, dov_13]
    generalize lo b = k at *
    go_enter Try.func42, Try.ntmps42
    go_wp2_with (go_at_call 60; (with_reducible refine (shift_dn _ _ _ h0 h1 hk).mono ?_); rintro e w' ⟨rfl, rfl⟩)
    go_ret2
    exact ⟨rfl, New.refl _⟩
  · rw [show erN (doe 14 b) = .nilIface from rfl, dov_14]
    generalize lo b = k at *
    go_enter Try.func42, Try.ntmps42
    go_wp2_with (go_at_call 61; (with_reducible refine (sar' _ _ _ h0 h1 hk).mono ?_); rintro e w' ⟨rfl, rfl⟩)
    go_ret2
    exact ⟨rfl, New.refl _⟩
  · exact absurd rfl o16
  · have e1 := dov_no op a b h
    have e2 : doe op b = 22 := by unfold doe; rw [if_neg (by omega)]
    rw [e1, e2, show erN 22 = .iface 64 (.int .i64 22) from rfl]
    obtain ⟨h1, h2, h3, h4, h5, h6, h7, h8, h9, h10, h11, h12⟩ := h
    generalize lo b = k at *
    clear e1 e2 x1 x2 x3
    go_enter Try.func42, Try.ntmps42
    go_wp2
    go_ret2
    exact ⟨rfl, New.refl _⟩
end Go.Proofs.Ytbkhmeongekdiaa
namespace Go.Proofs.Ytbkhmeongekdiaa
open Go.RowKit
set_option linter.unusedVariables false
set_option maxRecDepth 100000
/-- the answer of an operation of two floats; 0 where there is none -/
def flv (op : Int) (x y : Nat) : Nat :=
  if op = 33 then opv (Ieee.double.add x y) else if op = 34 then opv (Ieee.double.sub x y) else if op = 35 then opv (Ieee.double.mul x y) else if op = 36 then opv (Ieee.double.div x y) else if op = 37 then opv (Ieee.double.sqrt y) else 0
def fle (op : Int) : Int := if 33 ≤ op ∧ op ≤ 37 then 0 else 22
/-- the flags of what came of a comparison -/
def fcv (c old : Int) : Int := flg (c == 0) 1 + flg (c == -1) 2 + flg (c == 2) 4 + old / 16 % 2 * 16
theorem float_cases (op : Int) : op = 33 ∨ op = 34 ∨ op = 35 ∨ op = 36 ∨ op = 37 ∨ (op ≠ 33 ∧ op ≠ 34 ∧ op ≠ 35 ∧ op ≠ 36 ∧ op ≠ 37) := by omega
theorem flv_no (op : Int) (x y : Nat) (h : op ≠ 33 ∧ op ≠ 34 ∧ op ≠ 35 ∧ op ≠ 36 ∧ op ≠ 37) : flv op x y = 0 ∧ fle op = 22 := by
  obtain ⟨h1, h2, h3, h4, h5⟩ := h
  unfold flv fle
  rw [if_neg h1, if_neg h2, if_neg h3, if_neg h4, if_neg h5, if_neg (by omega)]
  exact ⟨rfl, rfl⟩
theorem float_any (op : Int) (x y : Nat) (w : World) :
    Calls Try.prog 36 #[.int .i64 op, .int .u64 x, .int .u64 y] w fun e w' => e = .returned (.tuple #[.int .u64 (flv op x y), erN (fle op)]) ∧ New w w' := by
  rcases float_cases op with rfl | rfl | rfl | rfl | rfl | h
  · rw [show erN (fle 33) = .nilIface from rfl]
    have q : ∀ w, Calls Try.prog 48 #[.int .u64 x, .int .u64 y] w fun e w' => e = .returned (.int .u64 (flv 33 x y)) ∧ New w w' := fun w => so_add_any x y w
    generalize flv 33 x y = V at *
    go_enter Try.func36, Try.ntmps36
    go_wp2_with (go_at_call 48; (with_reducible refine (q _).mono ?_); rintro e w' ⟨rfl, n1⟩)
    go_ret2
    exact ⟨rfl, n1⟩
  · rw [show erN (fle 34) = .nilIface from rfl]
    have q : ∀ w, Calls Try.prog 49 #[.int .u64 x, .int .u64 y] w fun e w' => e = .returned (.int .u64 (flv 34 x y)) ∧ New w w' := fun w => so_sub_any x y w
    generalize flv 34 x y = V at *
    go_enter Try.func36, Try.ntmps36
    go_wp2_with (go_at_call 49; (with_reducible refine (q _).mono ?_); rintro e w' ⟨rfl, n1⟩)
    go_ret2
    exact ⟨rfl, n1⟩
  · rw [show erN (fle 35) = .nilIface from rfl]
    have q : ∀ w, Calls Try.prog 50 #[.int .u64 x, .int .u64 y] w fun e w' => e = .returned (.int .u64 (flv 35 x y)) ∧ New w w' := fun w => so_mul_any x y w
    generalize flv 35 x y = V at *
    go_enter Try.func36, Try.ntmps36
    go_wp2_with (go_at_call 50; (with_reducible refine (q _).mono ?_); rintro e w' ⟨rfl, n1⟩)
    go_ret2
    exact ⟨rfl, n1⟩
  · rw [show erN (fle 36) = .nilIface from rfl]
    have q : ∀ w, Calls Try.prog 51 #[.int .u64 x, .int .u64 y] w fun e w' => e = .returned (.int .u64 (flv 36 x y)) ∧ New w w' := fun w => div_any x y w
    generalize flv 36 x y = V at *
    go_enter Try.func36, Try.ntmps36
    go_wp2_with (go_at_call 51; (with_reducible refine (q _).mono ?_); rintro e w' ⟨rfl, n1⟩)
    go_ret2
    exact ⟨rfl, n1⟩
  · rw [show erN (fle 37) = .nilIface from rfl]
    have q : ∀ w, Calls Try.prog 52 #[.int .u64 y] w fun e w' => e = .returned (.int .u64 (flv 37 x y)) ∧ New w w' := fun w => sqrt_any y w
    generalize flv 37 x y = V at *
    go_enter Try.func36, Try.ntmps36
    go_wp2_with (go_at_call 52; (with_reducible refine (q _).mono ?_); rintro e w' ⟨rfl, n1⟩)
    go_ret2
    exact ⟨rfl, n1⟩
  · obtain ⟨e1, e2⟩ := flv_no op x y h
    rw [e1, e2, show erN 22 = .iface 64 (.int .i64 22) from rfl]
    obtain ⟨o1, o2, o3, o4, o5⟩ := h
    clear e1 e2
    go_enter Try.func36, Try.ntmps36
    go_wp2
    go_ret2
    exact ⟨rfl, New.refl _⟩
theorem fcmp_any (x y : Nat) (old : Int) (w : World) (hx : U x) (hy : U y) (k0 : 0 ≤ old) (k1 : old ≤ 4294967295) :
    Calls Try.prog 33 #[.int .u64 x, .int .u64 y, .int .u32 old] w fun e w' => e = .returned (.int .u32 (fcv (cmpv x y) old)) ∧ New w w' := by
  have E1 := Lib.hid (and16 old k0 k1)
  have q := fun w => cmp_any x y w hx hy
  generalize cmpv x y = c at *
  go_enter Try.func33, Try.ntmps33
  go_wp2_with (first | (go_at_call 43; (with_reducible refine (q _).mono ?_); rintro e w' ⟨rfl, rfl⟩) | (go_at_call 44; (with_reducible refine (flag_any _ _ _).mono ?_); rintro e w' ⟨rfl, rfl⟩))
  go_ret
  refine ⟨ret_int ?_, New.refl _⟩
  unfold fcv
  rw [E1.out, ← or_three _ _ _ _ (step_two old)]
theorem cmpv_four (x y : Nat) : cmpv x y = -1 ∨ cmpv x y = 0 ∨ cmpv x y = 1 ∨ cmpv x y = 2 := by
  unfold cmpv
  have := ord_bd x y
  split
  · omega
  · split <;> omega
end Go.Proofs.Ytbkhmeongekdiaa
namespace Go.Proofs.Ytbkhmeongekdiaa
open Go.RowKit
set_option linter.unusedVariables false
theorem dov_err (op a b : Int) (h : doe op b ≠ 0) : dov op a b = 0 := by
  rcases op_cases op with rfl | rfl | rfl | rfl | rfl | rfl | rfl | rfl | rfl | rfl | rfl | rfl | k
  · exact absurd rfl h
  · exact absurd rfl h
  · exact absurd rfl h
  · have : b = 0 := by
      refine Decidable.byContradiction fun c => h ?_
      unfold doe; simp [c]
    subst this; rfl
  · have : b = 0 := by
      refine Decidable.byContradiction fun c => h ?_
      unfold doe; simp [c]
    subst this; rfl
  · exact absurd rfl h
  · exact absurd rfl h
  · exact absurd rfl h
  · exact absurd rfl h
  · exact absurd rfl h
  · exact absurd rfl h
  · exact absurd rfl h
  · exact dov_no op a b k
theorem dof_plain (op a b old : Int) (ho : op ≠ 4 ∧ op ≠ 5 ∧ op ≠ 6 ∧ op ≠ 16) (h : doe op b = 0) : dof op a b old = fl (dov op a b) false false old := by
  have e1 : doc op a b = false := by unfold doc; rw [if_neg ho.1, if_neg (by omega), if_neg ho.2.2.1]
  have e2 : doo op a b = false := by unfold doo; rw [if_neg ho.1, if_neg (by omega)]
  unfold dof dod; rw [if_pos h, if_neg ho.2.2.2, e1, e2]
set_option maxHeartbeats 1000000 in
theorem do_any (op a b old : Int) (w : World) (h0 : 0 ≤ a) (h1 : a ≤ 4294967295) (g0 : 0 ≤ b) (g1 : b ≤ 4294967295) (k0 : 0 ≤ old) (k1 : old ≤ 4294967295) :
    Calls Try.prog 28 #[.int .i64 op, .int .u32 a, .int .u32 b, .int .u32 old] w fun e w' => e = .returned (.tuple #[.int .u32 (dov op a b), .int .u32 (dof op a b old), erN (doe op b)]) ∧ New w w' := by
  have qf := fun v c o w (p : 0 ≤ v) (q : v ≤ 4294967295) => after_any v c o old w p q k0 k1
  by_cases c4 : op = 4
  · subst c4
    have b1 := dov_bd 4 a b h0 h1 g0 g1
    rw [show erN (doe 4 b) = .nilIface from rfl, show dof 4 a b old = fl (dov 4 a b) (doc 4 a b) (doo 4 a b) old from rfl]
    have q : ∀ w, Calls Try.prog 38 #[.int .u32 a, .int .u32 b, .bool false] w fun e w' => e = .returned (.tuple #[.int .u32 (dov 4 a b), .bool (doc 4 a b), .bool (doo 4 a b)]) ∧ w = w' := fun w => add_any a b false w h0 h1 g0 g1
    generalize dov 4 a b = V at *
    generalize doc 4 a b = C at *
    generalize doo 4 a b = O at *
    go_enter Try.func28, Try.ntmps28
    go_wp2_with (first | (go_at_call 38; (with_reducible refine (q _).mono ?_); rintro e w' ⟨rfl, rfl⟩) | (go_at_call 39; (with_reducible refine (qf _ _ _ _ b1.1 b1.2).mono ?_); rintro e w' ⟨rfl, n1⟩))
    go_ret3
    exact ⟨rfl, n1⟩
  · by_cases c5 : op = 5
    · subst c5
      have b1 := dov_bd 5 a b h0 h1 g0 g1
      rw [show erN (doe 5 b) = .nilIface from rfl, show dof 5 a b old = fl (dov 5 a b) (doc 5 a b) (doo 5 a b) old from rfl]
      have q : ∀ w, Calls Try.prog 40 #[.int .u32 a, .int .u32 b] w fun e w' => e = .returned (.tuple #[.int .u32 (dov 5 a b), .bool (doc 5 a b), .bool (doo 5 a b)]) ∧ w = w' := fun w => sub_any a b w h0 h1 g0 g1
      generalize dov 5 a b = V at *
      generalize doc 5 a b = C at *
      generalize doo 5 a b = O at *
      go_enter Try.func28, Try.ntmps28
      go_wp2_with (first | (go_at_call 40; (with_reducible refine (q _).mono ?_); rintro e w' ⟨rfl, rfl⟩) | (go_at_call 39; (with_reducible refine (qf _ _ _ _ b1.1 b1.2).mono ?_); rintro e w' ⟨rfl, n1⟩))
      go_ret3
      exact ⟨rfl, n1⟩
    · by_cases c16 : op = 16
      · subst c16
        have b1 : 0 ≤ dod 16 a b ∧ dod 16 a b ≤ 4294967295 := m32_bd (a - b)
        rw [show erN (doe 16 b) = .nilIface from rfl, show dof 16 a b old = fl (dod 16 a b) (doc 16 a b) (doo 16 a b) old from rfl, dov_16]
        have q : ∀ w, Calls Try.prog 40 #[.int .u32 a, .int .u32 b] w fun e w' => e = .returned (.tuple #[.int .u32 (dod 16 a b), .bool (doc 16 a b), .bool (doo 16 a b)]) ∧ w = w' := fun w => sub_any a b w h0 h1 g0 g1
        generalize dod 16 a b = V at *
        generalize doc 16 a b = C at *
        generalize doo 16 a b = O at *
        go_enter Try.func28, Try.ntmps28
        go_wp2_with (first | (go_at_call 40; (with_reducible refine (q _).mono ?_); rintro e w' ⟨rfl, rfl⟩) | (go_at_call 39; (with_reducible refine (qf _ _ _ _ b1.1 b1.2).mono ?_); rintro e w' ⟨rfl, n1⟩))
        go_ret3
        exact ⟨rfl, n1⟩
      · by_cases c6 : op = 6
        · subst c6
          have b1 := dov_bd 6 a b h0 h1 g0 g1
          rw [show erN (doe 6 b) = .nilIface from rfl, show dof 6 a b old = fl (dov 6 a b) (a * b / 4294967296 != 0) false old from rfl]
          have q : ∀ w, Calls Try.prog 41 #[.int .u32 a, .int .u32 b] w fun e w' => e = .returned (.tuple #[.int .u32 (dov 6 a b), .int .u32 (a * b / 4294967296)]) ∧ w = w' := fun w => mul_any a b w h0 h1 g0 g1
          generalize dov 6 a b = V at *
          generalize a * b / 4294967296 = H at *
          go_enter Try.func28, Try.ntmps28
          go_wp2_with (first | (go_at_call 41; (with_reducible refine (q _).mono ?_); rintro e w' ⟨rfl, rfl⟩) | (go_at_call 39; (with_reducible refine (qf _ _ _ _ b1.1 b1.2).mono ?_); rintro e w' ⟨rfl, n1⟩))
          go_ret3
          exact ⟨rfl, n1⟩
        · have b1 := dov_bd op a b h0 h1 g0 g1
          have q := fun w => plain_any op a b ⟨c4, c5, c6, c16⟩ w h0 h1 g0 g1
          have hz := dov_err op a b
          have hf := dof_plain op a b old ⟨c4, c5, c6, c16⟩
          by_cases c : doe op b = 0
          · rw [hf c]
            rw [c, erN_zero] at q
            rw [c, erN_zero]
            clear hz hf c
            generalize dov op a b = V at *
            go_enter Try.func28, Try.ntmps28
            go_wp2_with (first | (go_at_call 42; (with_reducible refine (q _).mono ?_); rintro e w1 ⟨rfl, n1⟩) | (go_at_call 39; (with_reducible refine (qf _ _ _ _ b1.1 b1.2).mono ?_); rintro e w2 ⟨rfl, n2⟩))
            go_ret3
            exact ⟨rfl, n1.trans n2⟩
          · rw [show dof op a b old = 0 from by unfold dof; rw [if_neg c], hz c]
            rw [hz c, erN_pos c] at q
            rw [erN_pos c]
            clear hz hf b1 qf
            generalize doe op b = E at *
            go_enter Try.func28, Try.ntmps28
            go_wp2_with (go_at_call 42; (with_reducible refine (q _).mono ?_); rintro e w1 ⟨rfl, n1⟩)
            go_ret3
            exact ⟨rfl, n1⟩
theorem taken_any (op f : Int) (w : World) (h0 : 0 ≤ f) (h1 : f ≤ 4294967295) :
    Calls Try.prog 31 #[.int .i64 op, .int .u32 f] w fun e w' => e = .returned (.tuple #[.bool (tkv op f), erN (tke op)]) ∧ New w w' := by
  obtain ⟨f1, f2, f4, f8⟩ := and_flag f h0 h1
  have e1 : (bits .and .u32 f 1 != 0) = (f % 2 == 1) := by rw [f1]; rcases (show f % 2 = 0 ∨ f % 2 = 1 by omega) with k | k <;> rw [k] <;> rfl
  have e2 : (bits .and .u32 f 2 != 0) = (f / 2 % 2 == 1) := by rw [f2]; rcases (show f / 2 % 2 = 0 ∨ f / 2 % 2 = 1 by omega) with k | k <;> rw [k] <;> rfl
  have e4 : (bits .and .u32 f 4 != 0) = (f / 4 % 2 == 1) := by rw [f4]; rcases (show f / 4 % 2 = 0 ∨ f / 4 % 2 = 1 by omega) with k | k <;> rw [k] <;> rfl
  have e8 : (bits .and .u32 f 8 != 0) = (f / 8 % 2 == 1) := by rw [f8]; rcases (show f / 8 % 2 = 0 ∨ f / 8 % 2 = 1 by omega) with k | k <;> rw [k] <;> rfl
  clear f1 f2 f4 f8
  have t : tkv op f = if op = 21 then true else if op = 22 then f % 2 == 1 else if op = 23 then !(f % 2 == 1) else if op = 24 then (f / 2 % 2 == 1) != (f / 8 % 2 == 1) else if op = 25 then (f / 2 % 2 == 1) == (f / 8 % 2 == 1) else if op = 26 then f / 4 % 2 == 1 else false := rfl
  generalize (f % 2 == 1) = Z at *
  generalize (f / 2 % 2 == 1) = M at *
  generalize (f / 4 % 2 == 1) = C at *
  generalize (f / 8 % 2 == 1) = O at *
  rw [t]
  clear t
  rcases jump_cases op with rfl | rfl | rfl | rfl | rfl | rfl | h
  case inr.inr.inr.inr.inr.inr =>
    obtain ⟨k1, k2, k3, k4, k5, k6⟩ := h
    rw [if_neg k1, if_neg k2, if_neg k3, if_neg k4, if_neg k5, if_neg k6, show tke op = 22 from by unfold tke; rw [if_neg (by omega)], show erN 22 = .iface 64 (.int .i64 22) from rfl]
    go_enter Try.func31, Try.ntmps31
    go_wp2
    go_ret2
    exact ⟨rfl, New.refl _⟩
  all_goals
    simp only [Int.reduceEq, if_true, if_false]
    rw [show erN (tke _) = .nilIface from rfl]
    go_enter Try.func31, Try.ntmps31
    go_wp2
    go_ret2
    refine ⟨?_, New.refl _⟩
    first | rfl | (cases Z <;> cases M <;> cases C <;> cases O <;> rfl)
end Go.Proofs.Ytbkhmeongekdiaa
