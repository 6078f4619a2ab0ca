/- Plain facts on sets of signals as numbers of 32 bits, of no program: bit by bit, as lists, as texts of eight digits. No conditions but those that each lemma names. -/
import Derived.Test.YtfhoonjofphddaaDoorPlain
import Derived.RowKit
import Derived.IntWalk
import Derived.Laws.MathBits
import Derived.Laws.BitsAllLaws
import Derived.Lib.TrailingZeros
import Derived.Lib.BitFns
namespace Go.Proofs.YtfhoonjofphddaaDoor
open Go.RowKit
set_option linter.unusedVariables false
/-- is bit i set -/
def mem (x : Int) (i : Nat) : Bool := x.toNat.testBit i
theorem mem_ext (x y : Int) (hx : 0 ≤ x) (hy : 0 ≤ y) (h : ∀ i, mem x i = mem y i) : x = y := by
  have : x.toNat = y.toNat := Nat.eq_of_testBit_eq h
  omega
theorem mem_big (x : Int) (i : Nat) (h : x < 2 ^ i) : mem x i = false := by
  unfold mem
  refine Nat.testBit_lt_two_pow ?_
  by_cases c : 0 ≤ x
  · have : (x.toNat : Int) < ((2 ^ i : Nat) : Int) := by rw [Int.toNat_of_nonneg c]; simpa using h
    omega
  · have := Nat.two_pow_pos i; omega
theorem mem_31 (x : Int) (h' : x ≤ 2147483647) (i : Nat) (hi : 31 ≤ i) : mem x i = false := by
  refine mem_big x i (Int.lt_of_lt_of_le (b := 2 ^ 31) (by omega) ?_)
  have h : (2 ^ 31 : Nat) ≤ 2 ^ i := Nat.pow_le_pow_right (by decide) hi
  have := Int.ofNat_le.2 h
  simpa using this
/-- without the most significant bit -/
def low (x : Int) : Int := x % 2147483648
theorem low_and (x : Int) (h : 0 ≤ x) (h' : x ≤ 4294967295) : bits .and .u32 x 2147483647 = low x := by
  rw [u32_and x 2147483647 h (by omega) (by omega) (by omega)]
  have e : x.toNat &&& (2147483647 : Int).toNat = x.toNat % 2147483648 := Nat.and_two_pow_sub_one_eq_mod x.toNat 31
  rw [e]; unfold low; omega
theorem low_bd (x : Int) : 0 ≤ low x ∧ low x ≤ 2147483647 := by unfold low; omega
theorem low_of (x : Int) (h : 0 ≤ x) (h' : x ≤ 2147483647) : low x = x := by unfold low; omega
theorem mem_low (x : Int) (h : 0 ≤ x) (i : Nat) : mem (low x) i = (decide (i < 31) && mem x i) := by
  unfold mem low
  have e : (x % 2147483648).toNat = x.toNat % 2 ^ 31 := by omega
  rw [e, Nat.testBit_mod_two_pow]
/-- the set of one signal -/
def one (n : Int) : Int := if 1 ≤ n ∧ n ≤ 31 then 2 ^ (n - 1).toNat else 0
theorem one_in (i : Nat) (h : i < 31) : one ((i : Int) + 1) = ((2 ^ i : Nat) : Int) := by
  unfold one
  rw [if_pos (by omega), show ((i : Int) + 1 - 1).toNat = i from by omega]; simp
theorem one_bd (n : Int) : 0 ≤ one n ∧ one n ≤ 1073741824 := by
  by_cases c : 1 ≤ n ∧ n ≤ 31
  · obtain ⟨i, rfl⟩ : ∃ i : Nat, n = (i : Int) + 1 := ⟨(n - 1).toNat, by omega⟩
    have hi : i ≤ 30 := by omega
    rw [one_in i (by omega)]
    have h : (2 ^ i : Nat) ≤ 2 ^ 30 := Nat.pow_le_pow_right (by decide) hi
    exact ⟨Int.natCast_nonneg _, Int.le_trans (Int.ofNat_le.2 h) (by decide)⟩
  · unfold one; rw [if_neg c]; omega
theorem mem_one (n : Int) (i : Nat) : mem (one n) i = (decide (n = (i : Int) + 1) && decide (i < 31)) := by
  by_cases c : 1 ≤ n ∧ n ≤ 31
  · obtain ⟨j, rfl⟩ : ∃ j : Nat, n = (j : Int) + 1 := ⟨(n - 1).toNat, by omega⟩
    rw [one_in j (by omega)]
    unfold mem
    rw [Int.toNat_natCast, Nat.testBit_two_pow, Bool.eq_iff_iff]; simp; omega
  · have e : one n = 0 := by unfold one; rw [if_neg c]
    rw [e, Bool.eq_iff_iff]; unfold mem; simp; omega
/-- with a signal more -/
def addS (x n : Int) : Int := bits .or .u32 (low x) (one n)
/-- without a signal -/
def delS (x n : Int) : Int := bits .andNot .u32 (low x) (one n)
/-- is a signal in it -/
def hasS (x n : Int) : Bool := decide (1 ≤ n) && decide (n ≤ 31) && mem x (n - 1).toNat
theorem addS_nat (x n : Int) : addS x n = (((low x).toNat ||| (one n).toNat : Nat) : Int) := by
  have h1 := low_bd x; have h2 := one_bd n
  exact u32_or _ _ (by omega) (by omega) (by omega) (by omega)
theorem mem_addS (x n : Int) (h : 0 ≤ x) (i : Nat) : mem (addS x n) i = (decide (i < 31) && (mem x i || decide (n = (i : Int) + 1))) := by
  have e := mem_low x h i
  have f := mem_one n i
  rw [addS_nat]; unfold mem at *
  rw [Int.toNat_natCast, Nat.testBit_or, e, f]
  cases decide (i < 31) <;> simp
theorem addS_bd (x n : Int) (h : 0 ≤ x) : 0 ≤ addS x n ∧ addS x n ≤ 2147483647 := by
  rw [addS_nat]
  have h1 := low_bd x; have h2 := one_bd n
  have := Nat.or_lt_two_pow (x := (low x).toNat) (y := (one n).toNat) (n := 31) (by omega) (by omega)
  have e : (2 ^ 31 : Nat) = 2147483648 := by decide
  omega
theorem delS_nat (x n : Int) : delS x n = (((low x).toNat &&& (4294967295 - (one n).toNat) : Nat) : Int) := by
  have h1 := low_bd x; have h2 := one_bd n
  exact u32_andNot _ _ (by omega) (by omega) (by omega) (by omega)
theorem mem_delS (x n : Int) (h : 0 ≤ x) (i : Nat) : mem (delS x n) i = (decide (i < 31) && (mem x i && !decide (n = (i : Int) + 1))) := by
  have e := mem_low x h i
  have f := mem_one n i
  have h2 := one_bd n
  rw [delS_nat]; unfold mem at *
  rw [Int.toNat_natCast, Nat.testBit_and, e]
  have g := Nat.testBit_two_pow_sub_succ (x := (one n).toNat) (n := 32) (by have e : (2 ^ 32 : Nat) = 4294967296 := by decide
                                                                            omega) i
  rw [show 2 ^ 32 - ((one n).toNat + 1) = 4294967295 - (one n).toNat from by have e : (2 ^ 32 : Nat) = 4294967296 := by decide
                                                                             omega] at g
  rw [g, f]
  by_cases c : i < 31
  · have c2 : i < 32 := by omega
    simp [c, c2]
  · simp [c]
theorem delS_bd (x n : Int) : 0 ≤ delS x n ∧ delS x n ≤ 2147483647 := by
  rw [delS_nat]
  have h1 := low_bd x
  have := Nat.and_le_left (n := (low x).toNat) (m := 4294967295 - (one n).toNat)
  omega
theorem has_and (x n : Int) (h : 0 ≤ x) (h' : x ≤ 4294967295) : (bits .and .u32 x (one n) != 0) = hasS x n := by
  have h2 := one_bd n
  rw [u32_and x (one n) h (by omega) h2.1 (by omega)]
  unfold hasS
  by_cases c : 1 ≤ n ∧ n ≤ 31
  · obtain ⟨j, rfl⟩ : ∃ j : Nat, n = (j : Int) + 1 := ⟨(n - 1).toNat, by omega⟩
    rw [one_in j (by omega), Int.toNat_natCast, nat_bit, show ((j : Int) + 1 - 1).toNat = j from by omega]
    have hp := Nat.two_pow_pos j
    unfold mem
    rw [Nat.testBit_eq_decide_div_mod_eq]
    rcases Nat.mod_two_eq_zero_or_one (x.toNat / 2 ^ j) with e | e
    · rw [e]; simp
    · rw [e, Nat.one_mul]
      have k : decide (1 = 1) = true := rfl
      have k1 : decide ((1 : Int) ≤ (j : Int) + 1) = true := by simp; omega
      have k2 : decide ((j : Int) + 1 ≤ 31) = true := by simp; omega
      rw [k, k1, k2]
      have : ((2 ^ j : Nat) : Int) ≠ 0 := by omega
      simpa using this
  · have e : one n = 0 := by unfold one; rw [if_neg c]
    rw [e]
    have k : (decide (1 ≤ n) && decide (n ≤ 31)) = false := by
      rcases Bool.eq_false_or_eq_true (decide (1 ≤ n) && decide (n ≤ 31)) with k | k
      · simp at k; omega
      · exact k
    rw [k]; simp
theorem hasS_in (x : Int) (i : Nat) (h : i < 31) : hasS x ((i : Int) + 1) = mem x i := by
  unfold hasS
  rw [show ((i : Int) + 1 - 1).toNat = i from by omega]
  have k1 : decide ((1 : Int) ≤ (i : Int) + 1) = true := by simp; omega
  have k2 : decide ((i : Int) + 1 ≤ 31) = true := by simp; omega
  rw [k1, k2]; simp
theorem hasS_out (x n : Int) (h : ¬ (1 ≤ n ∧ n ≤ 31)) : hasS x n = false := by
  unfold hasS
  have k : (decide (1 ≤ n) && decide (n ≤ 31)) = false := by
    rcases Bool.eq_false_or_eq_true (decide (1 ≤ n) && decide (n ≤ 31)) with k | k
    · simp at k; omega
    · exact k
  rw [k]; simp
theorem hasS_split (x n : Int) : (∃ i : Nat, n = (i : Int) + 1 ∧ i < 31) ∨ ¬ (1 ≤ n ∧ n ≤ 31) := by
  by_cases c : 1 ≤ n ∧ n ≤ 31
  · exact .inl ⟨(n - 1).toNat, by omega, by omega⟩
  · exact .inr c
theorem hasS_add (x n m : Int) (h : 0 ≤ x) : hasS (addS x n) m = (hasS x m || (decide (1 ≤ m) && decide (m ≤ 31) && decide (n = m))) := by
  rcases hasS_split x m with ⟨i, rfl, hi⟩ | c
  · rw [hasS_in _ i hi, hasS_in _ i hi, mem_addS x n h]
    have k1 : decide ((1 : Int) ≤ (i : Int) + 1) = true := by simp; omega
    have k2 : decide ((i : Int) + 1 ≤ 31) = true := by simp; omega
    rw [k1, k2]; simp [hi]
  · rw [hasS_out _ _ c, hasS_out _ _ c]
    have k : (decide (1 ≤ m) && decide (m ≤ 31)) = false := by
      rcases Bool.eq_false_or_eq_true (decide (1 ≤ m) && decide (m ≤ 31)) with k | k
      · simp at k; omega
      · exact k
    rw [k]; simp
theorem hasS_del (x n m : Int) (h : 0 ≤ x) : hasS (delS x n) m = (hasS x m && !decide (n = m)) := by
  rcases hasS_split x m with ⟨i, rfl, hi⟩ | c
  · rw [hasS_in _ i hi, hasS_in _ i hi, mem_delS x n h]; simp [hi]
  · rw [hasS_out _ _ c, hasS_out _ _ c]; simp
theorem hasS_ext (x y : Int) (hx : 0 ≤ x) (hx' : x ≤ 2147483647) (hy : 0 ≤ y) (hy' : y ≤ 2147483647) (h : ∀ n, hasS x n = hasS y n) : x = y := by
  refine mem_ext x y hx hy fun i => ?_
  by_cases c : i < 31
  · rw [← hasS_in x i c, ← hasS_in y i c]; exact h _
  · rw [mem_31 x hx' i (by omega), mem_31 y hy' i (by omega)]
theorem hasS_zero (n : Int) : hasS 0 n = false := by unfold hasS mem; simp
/-! ### lists -/
/-- the signals among the first k, ascending -/
def lsk (x : Int) : Nat → List Int
  | 0 => []
  | k + 1 => if mem x k then lsk x k ++ [(k : Int) + 1] else lsk x k
def lst (x : Int) : List Int := lsk x 31
theorem lsk_len (x : Int) : ∀ k, (lsk x k).length ≤ k
  | 0 => by simp [lsk]
  | k + 1 => by
    have := lsk_len x k
    unfold lsk; split
    · simp; omega
    · omega
theorem lsk_mem (x : Int) (n : Int) : ∀ k, n ∈ lsk x k ↔ ∃ i : Nat, i < k ∧ n = (i : Int) + 1 ∧ mem x i = true
  | 0 => by simp [lsk]
  | k + 1 => by
    have ih := lsk_mem x n k
    unfold lsk
    split
    · rename_i c
      rw [List.mem_append, ih, List.mem_singleton]
      constructor
      · rintro (⟨i, a, b, c⟩ | rfl)
        · exact ⟨i, by omega, b, c⟩
        · exact ⟨k, by omega, rfl, c⟩
      · rintro ⟨i, a, b, d⟩
        by_cases e : i = k
        · subst e; exact .inr b
        · exact .inl ⟨i, by omega, b, d⟩
    · rename_i c
      rw [ih]
      constructor
      · rintro ⟨i, a, b, d⟩; exact ⟨i, by omega, b, d⟩
      · rintro ⟨i, a, b, d⟩
        by_cases e : i = k
        · subst e; exact absurd d c
        · exact ⟨i, by omega, b, d⟩
theorem lst_mem (x n : Int) : n ∈ lst x ↔ hasS x n = true := by
  unfold lst; rw [lsk_mem]
  constructor
  · rintro ⟨i, a, rfl, c⟩; rw [hasS_in x i a]; exact c
  · intro h
    rcases hasS_split x n with ⟨i, rfl, hi⟩ | c
    · exact ⟨i, hi, rfl, by rw [← hasS_in x i hi]; exact h⟩
    · rw [hasS_out x n c] at h; exact absurd h (by simp)
theorem lsk_low (x : Int) (h : 0 ≤ x) : ∀ k, k ≤ 31 → lsk (low x) k = lsk x k
  | 0, _ => rfl
  | k + 1, hk => by
    have e : mem (low x) k = mem x k := by rw [mem_low x h]; simp; omega
    unfold lsk
    rw [lsk_low x h k (by omega), e]
theorem lst_low (x : Int) (h : 0 ≤ x) : lst (low x) = lst x := lsk_low x h 31 (by omega)
theorem lst_len (x : Int) : (lst x).length ≤ 31 := lsk_len x 31
theorem lsk_bd (x : Int) (k : Nat) : ∀ n ∈ lsk x k, 1 ≤ n ∧ n ≤ k := by
  intro n h; rw [lsk_mem] at h; obtain ⟨i, a, b, _⟩ := h; omega
/-- ascending -/
theorem lsk_asc (x : Int) : ∀ k, (lsk x k).Pairwise (· < ·)
  | 0 => by simp [lsk]
  | k + 1 => by
    have ih := lsk_asc x k
    unfold lsk; split
    · rw [List.pairwise_append]
      refine ⟨ih, by simp, ?_⟩
      intro a ha b hb
      rw [List.mem_singleton] at hb
      have := lsk_bd x k a ha
      omega
    · exact ih
theorem lst_asc (x : Int) : (lst x).Pairwise (· < ·) := lsk_asc x 31
theorem lst_nodup (x : Int) : (lst x).Nodup := (lst_asc x).imp (by intro a b h; omega)
/-- the number of a list of signals: behind k of the 31 steps -/
def hor (l : List Int) : Nat → Int
  | 0 => 0
  | k + 1 => 2 * hor l k + if (31 - k : Int) ∈ l then 1 else 0
def ofL (l : List Int) : Int := hor l 31
theorem hor_bd (l : List Int) : ∀ k, 0 ≤ hor l k ∧ hor l k < 2 ^ k
  | 0 => by simp [hor]
  | k + 1 => by
    have ih := hor_bd l k
    unfold hor; rw [Int.pow_succ]
    split <;> omega
theorem hor_bd31 (l : List Int) (k : Nat) (h : k ≤ 31) : 0 ≤ hor l k ∧ hor l k ≤ 2147483647 := by
  have a := hor_bd l k
  have b : (2 ^ k : Nat) ≤ 2 ^ 31 := Nat.pow_le_pow_right (by decide) h
  have c : ((2 ^ k : Nat) : Int) = 2 ^ k := by simp
  have d : (2 ^ 31 : Nat) = 2147483648 := by decide
  omega
theorem mem_hor (l : List Int) : ∀ (k i : Nat), i < k → k ≤ 31 → mem (hor l k) i = decide ((31 - k + 1 + i : Int) ∈ l)
  | 0, i, h, _ => by omega
  | k + 1, i, h, hk => by
    have b := hor_bd l k
    have e : (hor l (k + 1)).toNat = 2 * (hor l k).toNat + (if (31 - k : Int) ∈ l then 1 else 0 : Nat) := by
      show (2 * hor l k + if (31 - k : Int) ∈ l then 1 else 0).toNat = _
      generalize hor l k = z at b ⊢
      split <;> omega
    unfold mem
    rw [e]
    match i with
    | 0 =>
      rw [Nat.testBit_zero]
      have f : (31 - ((k + 1 : Nat) : Int) + 1 + ((0 : Nat) : Int)) = 31 - (k : Int) := by omega
      rw [f]
      by_cases c : (31 - k : Int) ∈ l
      · rw [if_pos c, Bool.eq_iff_iff]; simp [c]
      · rw [if_neg c, Bool.eq_iff_iff]; simp [c]
    | i + 1 =>
      rw [Nat.testBit_succ]
      have f : (2 * (hor l k).toNat + (if (31 - k : Int) ∈ l then 1 else 0 : Nat)) / 2 = (hor l k).toNat := by split <;> omega
      rw [f]
      have ih := mem_hor l k i (by omega) (by omega)
      unfold mem at ih
      rw [ih]
      have g : (31 - (k : Int) + 1 + (i : Int)) = (31 - ((k + 1 : Nat) : Int) + 1 + ((i + 1 : Nat) : Int)) := by omega
      rw [g]
theorem hor_hit (l : List Int) (j : Nat) (h : (31 - j : Int) ∈ l) : hor l (j + 1) = 2 * hor l j + 1 := by
  show 2 * hor l j + (if (31 - j : Int) ∈ l then 1 else 0) = _; rw [if_pos h]
theorem hor_miss (l : List Int) (j : Nat) (h : ¬ (31 - j : Int) ∈ l) : hor l (j + 1) = 2 * hor l j := by
  show 2 * hor l j + (if (31 - j : Int) ∈ l then 1 else 0) = _; rw [if_neg h]; omega
theorem hor_dbl (l : List Int) (j : Nat) (h : j < 31) : 0 ≤ hor l j ∧ 2 * hor l j + 1 ≤ 2147483647 := by
  have a := hor_bd l j
  have b : (2 ^ j : Nat) ≤ 2 ^ 30 := Nat.pow_le_pow_right (by decide) (by omega)
  have c : ((2 ^ j : Nat) : Int) = 2 ^ j := by simp
  have d : (2 ^ 30 : Nat) = 1073741824 := by decide
  omega
theorem ofL_bd (l : List Int) : 0 ≤ ofL l ∧ ofL l ≤ 2147483647 := hor_bd31 l 31 (by omega)
theorem hasS_ofL (l : List Int) (n : Int) : hasS (ofL l) n = (decide (1 ≤ n) && decide (n ≤ 31) && decide (n ∈ l)) := by
  rcases hasS_split 0 n with ⟨i, rfl, hi⟩ | c
  · rw [hasS_in _ i hi]; unfold ofL; rw [mem_hor l 31 i hi (by omega)]
    have k1 : decide ((1 : Int) ≤ (i : Int) + 1) = true := by simp; omega
    have k2 : decide ((i : Int) + 1 ≤ 31) = true := by simp; omega
    rw [k1, k2, show (31 - ((31 : Nat) : Int) + 1 + (i : Int)) = (i : Int) + 1 from by omega]; simp
  · rw [hasS_out _ _ c]
    have k : (decide (1 ≤ n) && decide (n ≤ 31)) = false := by
      rcases Bool.eq_false_or_eq_true (decide (1 ≤ n) && decide (n ≤ 31)) with k | k
      · simp at k; omega
      · exact k
    rw [k]; simp
theorem hasS_rng (x n : Int) (h : hasS x n = true) : 1 ≤ n ∧ n ≤ 31 := by
  rcases hasS_split x n with ⟨i, rfl, hi⟩ | c
  · omega
  · rw [hasS_out x n c] at h; exact absurd h (by simp)
theorem ofL_lst (x : Int) (h : 0 ≤ x) : ofL (lst x) = low x := by
  refine hasS_ext _ _ (ofL_bd _).1 (ofL_bd _).2 (low_bd x).1 (low_bd x).2 fun n => ?_
  rw [hasS_ofL, ← Bool.coe_iff_coe]
  have e := lst_mem x n
  have f : hasS (low x) n = hasS x n := by rw [← Bool.coe_iff_coe, ← lst_mem, ← lst_mem, lst_low x h]
  rw [f]
  constructor
  · intro k; simp only [Bool.and_eq_true, decide_eq_true_eq] at k; exact e.1 k.2
  · intro k; have := hasS_rng x n k; simp only [Bool.and_eq_true, decide_eq_true_eq]; exact ⟨this, e.2 k⟩
theorem ofL_add (x n : Int) (h : 0 ≤ x) : ofL (lst x ++ [n]) = addS x n := by
  refine hasS_ext _ _ (ofL_bd _).1 (ofL_bd _).2 (addS_bd x n h).1 (addS_bd x n h).2 fun m => ?_
  rw [hasS_ofL, hasS_add x n m h]
  have e := lst_mem x m
  have r := hasS_rng x m
  by_cases c : hasS x m = true
  · have := r c
    have k := e.2 c
    simp [c, this.1, this.2, k]
  · have k : m ∉ lst x := fun h => c (e.1 h)
    have c' : hasS x m = false := by simpa using c
    simp [c', k, eq_comm]
theorem ofL_del (x n : Int) (h : 0 ≤ x) : ofL ((lst x).filter (· != n)) = delS x n := by
  refine hasS_ext _ _ (ofL_bd _).1 (ofL_bd _).2 (delS_bd x n).1 (delS_bd x n).2 fun m => ?_
  rw [hasS_ofL, hasS_del x n m h]
  have e := lst_mem x m
  have r := hasS_rng x m
  by_cases c : hasS x m = true
  · have := r c
    have k := e.2 c
    by_cases d : m = n
    · subst d; simp [c]
    · have d' : ¬ n = m := fun h => d h.symm
      simp [c, this.1, this.2, k, d, d']
  · have k : m ∉ lst x := fun h => c (e.1 h)
    have c' : hasS x m = false := by simpa using c
    simp [c', k]
theorem ofL_one (n : Int) : ofL [n] = one n := by
  have b := one_bd n
  refine hasS_ext _ _ (ofL_bd _).1 (ofL_bd _).2 b.1 (by omega) fun m => ?_
  rw [hasS_ofL]
  rcases hasS_split 0 m with ⟨i, rfl, hi⟩ | c
  · rw [hasS_in _ i hi, mem_one]
    have k1 : decide ((1 : Int) ≤ (i : Int) + 1) = true := by simp; omega
    have k2 : decide ((i : Int) + 1 ≤ 31) = true := by simp; omega
    rw [k1, k2]; simp [hi, eq_comm]
  · rw [hasS_out _ _ c]
    have k : (decide (1 ≤ m) && decide (m ≤ 31)) = false := by
      rcases Bool.eq_false_or_eq_true (decide (1 ≤ m) && decide (m ≤ 31)) with k | k
      · simp at k; omega
      · exact k
    rw [k]; simp
/-- moved down by j bits -/
def shr (x : Int) (j : Nat) : Int := ((x.toNat / 2 ^ j : Nat) : Int)
theorem shr_zero (x : Int) (h : 0 ≤ x) : shr x 0 = x := by unfold shr; rw [Nat.pow_zero, Nat.div_one]; omega
theorem shr_succ (x : Int) (j : Nat) : shr x (j + 1) = shr x j / 2 := by
  unfold shr; rw [Nat.pow_succ, ← Nat.div_div_eq_div_mul]; omega
theorem shr_bd (x : Int) (j : Nat) (h : 0 ≤ x) : 0 ≤ shr x j ∧ shr x j ≤ x := by
  unfold shr; have := Nat.div_le_self x.toNat (2 ^ j); generalize x.toNat / 2 ^ j = q at *; omega
theorem shr_mem (x : Int) (j : Nat) : (shr x j % 2 == 1) = mem x j := by
  unfold shr mem; rw [Nat.testBit_eq_decide_div_mod_eq]; generalize x.toNat / 2 ^ j = q; rw [Bool.eq_iff_iff]; simp; omega
/-! ### the least one, how many -/
def firstS (x : Int) : Int := (lst x).headD 0
theorem firstS_bd (x : Int) : 0 ≤ firstS x ∧ firstS x ≤ 31 := by
  unfold firstS
  cases e : lst x with
  | nil => simp
  | cons a t =>
    have := hasS_rng x a ((lst_mem x a).1 (by rw [e]; simp))
    simp; omega
theorem lst_nil (x : Int) (h : 0 ≤ x) : lst x = [] ↔ low x = 0 := by
  rw [← ofL_lst x h]
  constructor
  · intro e; rw [e]; decide +kernel
  · intro e
    apply List.eq_nil_iff_forall_not_mem.2
    intro a ha
    have k := (lst_mem x a).1 ha
    have r := hasS_rng x a k
    have m := hasS_ofL (lst x) a
    rw [e, hasS_zero] at m
    simp [r.1, r.2, ha] at m
theorem firstS_min (x n : Int) (h : hasS x n = true) : firstS x ≤ n ∧ hasS x (firstS x) = true := by
  have a := (lst_mem x n).2 h
  have p := lst_asc x
  unfold firstS
  cases e : lst x with
  | nil => rw [e] at a; simp at a
  | cons b t =>
    rw [e] at a p
    have k : hasS x b = true := (lst_mem x b).1 (by rw [e]; simp)
    refine ⟨?_, by simpa using k⟩
    rcases List.mem_cons.1 a with q | q
    · simp; omega
    · have := (List.pairwise_cons.1 p).1 n q
      simp; omega
theorem firstS_none (x : Int) (h : ∀ n, hasS x n = false) : firstS x = 0 := by
  unfold firstS
  cases e : lst x with
  | nil => rfl
  | cons b t =>
    have k : hasS x b = true := (lst_mem x b).1 (by rw [e]; simp)
    rw [h b] at k; exact absurd k (by simp)
theorem firstS_eq (x n : Int) (h : hasS x n = true) (hm : ∀ m, hasS x m = true → n ≤ m) : firstS x = n := by
  have a := firstS_min x n h
  have b := hm _ a.2
  omega
/-- trailing noughts -/
theorem firstS_ctz (x : Nat) (h : x < 4294967296) (hl : low (x : Int) ≠ 0) : firstS (x : Int) = Lib.ctz 32 x + 1 := by
  have h0 : x ≠ 0 := by rintro rfl; exact hl (by decide +kernel)
  have hx : x < 2 ^ 32 := by have e : (2 ^ 32 : Nat) = 4294967296 := by decide
                             omega
  have hne : lst (x : Int) ≠ [] := fun c => hl ((lst_nil (x : Int) (by omega)).1 c)
  obtain ⟨n, hn⟩ := List.exists_mem_of_ne_nil _ hne
  have hn1 := (lst_mem _ _).1 hn
  obtain ⟨m, hm, hk⟩ := Lib.ctzFrom_spec 32 x (by omega) hx
  have e : Lib.ctz 32 x = Lib.ctzFrom 32 x := by simp [Lib.ctz, h0]
  rw [e]
  generalize Lib.ctzFrom 32 x = k at hm hk
  have hb : x.testBit k = true := by
    rw [hm, Nat.mul_comm, Nat.testBit_mul_two_pow]; simp [Nat.testBit_zero]
  have hl : ∀ i, i < k → x.testBit i = false := by
    intro i hi
    rw [hm, Nat.mul_comm, Nat.testBit_mul_two_pow]; simp; omega
  have hk31 : k < 31 := by
    rcases hasS_split (x : Int) n with ⟨i, rfl, hi⟩ | c
    · rw [hasS_in _ i hi] at hn1; unfold mem at hn1; rw [Int.toNat_natCast] at hn1
      rcases Nat.lt_or_ge i k with c | c
      · rw [hl i c] at hn1; exact absurd hn1 (by simp)
      · omega
    · rw [hasS_out _ _ c] at hn1; exact absurd hn1 (by simp)
  refine firstS_eq _ _ ?_ ?_
  · rw [hasS_in _ k hk31]; unfold mem; rw [Int.toNat_natCast]; exact hb
  · intro n hn
    rcases hasS_split (x : Int) n with ⟨i, rfl, hi⟩ | c
    · rw [hasS_in _ i hi] at hn; unfold mem at hn; rw [Int.toNat_natCast] at hn
      rcases Nat.lt_or_ge i k with c | c
      · rw [hl i c] at hn; exact absurd hn (by simp)
      · omega
    · rw [hasS_out _ _ c] at hn; exact absurd hn (by simp)
/-- how many -/
def cnt (x : Int) : Nat := (lst x).length
theorem popAux_top : ∀ (k x : Nat), Lib.popAux (k + 1) x = Lib.popAux k x + x / 2 ^ k % 2
  | 0, x => by simp [Lib.popAux]
  | k + 1, x => by
    have ih := popAux_top k (x / 2)
    show x % 2 + Lib.popAux (k + 1) (x / 2) = (x % 2 + Lib.popAux k (x / 2)) + _
    rw [ih, Nat.div_div_eq_div_mul, Nat.pow_succ, Nat.mul_comm 2]; omega
theorem lsk_pop (x : Int) : ∀ k, (lsk x k).length = Lib.popAux k x.toNat
  | 0 => rfl
  | k + 1 => by
    have ih := lsk_pop x k
    rw [popAux_top, ← ih]
    show (if mem x k then lsk x k ++ [(k : Int) + 1] else lsk x k).length = _
    by_cases c : mem x k = true
    · rw [if_pos c]
      unfold mem at c; rw [Nat.testBit_eq_decide_div_mod_eq, decide_eq_true_eq] at c
      rw [c]; simp
    · rw [if_neg c]
      unfold mem at c; rw [Nat.testBit_eq_decide_div_mod_eq, decide_eq_true_eq] at c
      omega
theorem popAux_split : ∀ (a b x : Nat), Lib.popAux (a + b) x = Lib.popAux a x + Lib.popAux b (x / 2 ^ a)
  | 0, b, x => by simp [Lib.popAux]
  | a + 1, b, x => by
    rw [show a + 1 + b = (a + b) + 1 from by omega]
    show x % 2 + Lib.popAux (a + b) (x / 2) = (x % 2 + Lib.popAux a (x / 2)) + _
    rw [popAux_split a b (x / 2), Nat.div_div_eq_div_mul, Nat.pow_succ, Nat.mul_comm 2]; omega
theorem popAux_zero : ∀ k, Lib.popAux k 0 = 0
  | 0 => rfl
  | k + 1 => by show 0 % 2 + Lib.popAux k (0 / 2) = 0; simp [popAux_zero k]
theorem pop_byte (x : Nat) (h : x < 256) : Lib.onesCount x = Lib.popAux 8 x := by
  unfold Lib.onesCount
  rw [show (64 : Nat) = 8 + 56 from rfl, popAux_split 8 56, Nat.div_eq_of_lt (by omega), popAux_zero]; rfl
theorem popAux_mod : ∀ (a x : Nat), Lib.popAux a (x % 2 ^ a) = Lib.popAux a x
  | 0, x => rfl
  | a + 1, x => by
    show x % 2 ^ (a + 1) % 2 + Lib.popAux a (x % 2 ^ (a + 1) / 2) = x % 2 + Lib.popAux a (x / 2)
    have e : x % 2 ^ (a + 1) / 2 = x / 2 % 2 ^ a := by
      rw [Nat.pow_succ, Nat.mul_comm, Nat.mod_mul_right_div_self]
    have f : x % 2 ^ (a + 1) % 2 = x % 2 := Nat.mod_mod_of_dvd x ⟨2 ^ a, by rw [Nat.pow_succ, Nat.mul_comm]⟩
    rw [e, f, popAux_mod a]
theorem cnt_pop (x : Int) (h : 0 ≤ x) (h' : x ≤ 2147483647) :
    (cnt x : Int) = Lib.pop8 (x / 16777216) + Lib.pop8 (x / 65536 % 256) + Lib.pop8 (x / 256 % 256) + Lib.pop8 (x % 256) := by
  obtain ⟨n, rfl⟩ := Int.eq_ofNat_of_zero_le h
  have hn : n ≤ 2147483647 := by omega
  have e : cnt (n : Int) = Lib.popAux 32 n := by
    unfold cnt lst; rw [lsk_pop, Int.toNat_natCast, popAux_top 31]
    have : n / 2 ^ 31 = 0 := Nat.div_eq_of_lt (by have e : (2 ^ 31 : Nat) = 2147483648 := by decide
                                                  omega)
    omega
  have p (m : Nat) (hm : m < 256) : Lib.pop8 ((m : Nat) : Int) = (Lib.popAux 8 m : Int) := by
    have := Lib.pop8_eq ⟨m, hm⟩
    rw [this, pop_byte m hm]
  have q1 : ((n : Int) / 16777216) = ((n / 16777216 : Nat) : Int) := by omega
  have q2 : ((n : Int) / 65536 % 256) = ((n / 65536 % 256 : Nat) : Int) := by omega
  have q3 : ((n : Int) / 256 % 256) = ((n / 256 % 256 : Nat) : Int) := by omega
  have q4 : ((n : Int) % 256) = ((n % 256 : Nat) : Int) := by omega
  rw [q1, q2, q3, q4, p _ (by omega), p _ (by omega), p _ (by omega), p _ (by omega), e]
  have s1 : Lib.popAux 32 n = Lib.popAux 8 n + Lib.popAux 24 (n / 2 ^ 8) := popAux_split 8 24 n
  have s2 : Lib.popAux 24 (n / 256) = Lib.popAux 8 (n / 256) + Lib.popAux 16 (n / 256 / 2 ^ 8) := popAux_split 8 16 (n / 256)
  have s3 : Lib.popAux 16 (n / 65536) = Lib.popAux 8 (n / 65536) + Lib.popAux 8 (n / 65536 / 2 ^ 8) := popAux_split 8 8 (n / 65536)
  have m1 := popAux_mod 8 n
  have m2 := popAux_mod 8 (n / 256)
  have m3 := popAux_mod 8 (n / 65536)
  have k8 : (2 ^ 8 : Nat) = 256 := by decide
  rw [k8] at s1 s2 s3 m1 m2 m3
  have d1 : n / 256 / 256 = n / 65536 := by omega
  have d2 : n / 65536 / 256 = n / 16777216 := by omega
  rw [d1] at s2; rw [d2] at s3
  omega
theorem cnt_bd (x : Int) : cnt x ≤ 31 := lst_len x
theorem cnt_low (x : Int) (h : 0 ≤ x) : cnt (low x) = cnt x := by unfold cnt; rw [lst_low x h]
theorem firstS_low (x : Int) (h : 0 ≤ x) : firstS (low x) = firstS x := by unfold firstS; rw [lst_low x h]
theorem cnt_more (x y : Int) (n : Int) (hx : hasS x n = true) (hy : hasS y n = false) (h : ∀ m, m ≠ n → hasS x m = hasS y m) : cnt x = cnt y + 1 := by
  have r := hasS_rng x n hx
  obtain ⟨j, rfl, hj⟩ : ∃ j : Nat, n = (j : Int) + 1 ∧ j < 31 := ⟨(n - 1).toNat, by omega, by omega⟩
  rw [hasS_in _ j hj] at hx hy
  have h' : ∀ i, i < 31 → i ≠ j → mem x i = mem y i := by
    intro i hi hne
    rw [← hasS_in x i hi, ← hasS_in y i hi]; exact h _ (by omega)
  have aux : ∀ k, k ≤ 31 → (lsk x k).length = (lsk y k).length + if j < k then 1 else 0 := by
    intro k
    induction k with
    | zero => intro _; simp [lsk]
    | succ k ih =>
      intro hk
      have ih := ih (by omega)
      unfold lsk
      by_cases c : k = j
      · subst c
        rw [if_pos hx, hy, if_neg (by simp), List.length_append, ih, if_neg (by omega), if_pos (by omega)]; simp
      · rw [h' k (by omega) c]
        have e : (if j < k + 1 then 1 else 0 : Nat) = if j < k then 1 else 0 := by
          by_cases d : j < k
          · rw [if_pos d, if_pos (by omega)]
          · rw [if_neg d, if_neg (by omega)]
        rw [e]
        split
        · simp [ih]; omega
        · exact ih
  have := aux 31 (by omega)
  rw [if_pos hj] at this
  exact this
theorem cnt_ad (x n : Int) (h : 0 ≤ x) (h1 : 1 ≤ n) (h2 : n ≤ 31) : cnt (addS x n) = cnt (delS x n) + 1 := by
  refine cnt_more _ _ n ?_ ?_ ?_
  · rw [hasS_add x n n h]; simp [h1, h2]
  · rw [hasS_del x n n h]; simp
  · intro m hm
    have k : ¬ n = m := fun c => hm c.symm
    rw [hasS_add x n m h, hasS_del x n m h]; simp [k]
/-- one more that wasn't there, or that was, or that is none -/
theorem add_new (x n : Int) (h : 0 ≤ x) (h1 : 1 ≤ n) (h2 : n ≤ 31) (hn : hasS x n = false) : cnt (addS x n) = cnt x + 1 := by
  refine cnt_more _ _ n ?_ hn ?_
  · rw [hasS_add x n n h]; simp [h1, h2]
  · intro m hm
    have k : ¬ n = m := fun c => hm c.symm
    rw [hasS_add x n m h]; simp [k]
theorem add_old (x n : Int) (h : 0 ≤ x) (h' : x ≤ 2147483647) (hn : hasS x n = true ∨ ¬ (1 ≤ n ∧ n ≤ 31)) : addS x n = x := by
  have b := addS_bd x n h
  refine hasS_ext _ _ b.1 b.2 h h' fun m => ?_
  rw [hasS_add x n m h]
  by_cases c : n = m
  · subst c
    rcases hn with hn | hn
    · rw [hn]; rfl
    · rw [hasS_out x n hn]
      have k : (decide (1 ≤ n) && decide (n ≤ 31)) = false := by
        rcases Bool.eq_false_or_eq_true (decide (1 ≤ n) && decide (n ≤ 31)) with k | k
        · simp at k; omega
        · exact k
      rw [k]; rfl
  · simp [c]
theorem first_add (x n : Int) (h : 0 ≤ x) (h1 : 1 ≤ n) (h2 : n ≤ 31) : firstS (addS x n) = if firstS x = 0 ∨ n < firstS x then n else firstS x := by
  have hn : hasS (addS x n) n = true := by rw [hasS_add x n n h]; simp [h1, h2]
  by_cases c : firstS x = 0
  · rw [if_pos (.inl c)]
    refine firstS_eq _ _ hn fun m hm => ?_
    rw [hasS_add x n m h] at hm
    by_cases d : hasS x m = true
    · have := firstS_min x m d
      have r := hasS_rng _ _ this.2
      omega
    · have d' : hasS x m = false := by simpa using d
      rw [d'] at hm; simp at hm; omega
  · have f : hasS x (firstS x) = true := by
      rcases Bool.eq_false_or_eq_true (hasS x (firstS x)) with k | k
      · exact k
      · exfalso; apply c
        refine firstS_none x fun m => ?_
        rcases Bool.eq_false_or_eq_true (hasS x m) with k2 | k2
        · rw [(firstS_min x m k2).2] at k; exact absurd k (by simp)
        · exact k2
    by_cases d : n < firstS x
    · rw [if_pos (.inr d)]
      refine firstS_eq _ _ hn fun m hm => ?_
      rw [hasS_add x n m h] at hm
      by_cases e : hasS x m = true
      · have := firstS_min x m e; omega
      · have e' : hasS x m = false := by simpa using e
        rw [e'] at hm; simp at hm; omega
    · rw [if_neg (by omega)]
      refine firstS_eq _ _ (by rw [hasS_add x n _ h, f]; rfl) fun m hm => ?_
      rw [hasS_add x n m h] at hm
      by_cases e : hasS x m = true
      · exact (firstS_min x m e).1
      · have e' : hasS x m = false := by simpa using e
        rw [e'] at hm; simp at hm; omega
/-! ### added one by one, taken away one by one -/
def adds (x : Int) (l : List Int) : Int := l.foldl addS x
def dels (x : Int) (l : List Int) : Int := l.foldl delS x
theorem adds_snoc (x n : Int) (l : List Int) : adds x (l ++ [n]) = addS (adds x l) n := by unfold adds; rw [List.foldl_append]; rfl
theorem dels_snoc (x n : Int) (l : List Int) : dels x (l ++ [n]) = delS (dels x l) n := by unfold dels; rw [List.foldl_append]; rfl
theorem adds_bd (x : Int) (h : 0 ≤ x) (h' : x ≤ 2147483647) : ∀ l, 0 ≤ adds x l ∧ adds x l ≤ 2147483647 := by
  intro l
  induction l generalizing x with
  | nil => exact ⟨h, h'⟩
  | cons a t ih => exact ih (addS x a) (addS_bd x a h).1 (addS_bd x a h).2
theorem dels_bd (x : Int) (h : 0 ≤ x) (h' : x ≤ 2147483647) : ∀ l, 0 ≤ dels x l ∧ dels x l ≤ 2147483647 := by
  intro l
  induction l generalizing x with
  | nil => exact ⟨h, h'⟩
  | cons a t ih => exact ih (delS x a) (delS_bd x a).1 (delS_bd x a).2
theorem hasS_adds (n : Int) : ∀ (l : List Int) (x : Int), 0 ≤ x → x ≤ 2147483647 → hasS (adds x l) n = (hasS x n || (decide (1 ≤ n) && decide (n ≤ 31) && decide (n ∈ l)))
  | [], x, h, h' => by simp [adds]
  | a :: t, x, h, h' => by
    have b := addS_bd x a h
    show hasS (adds (addS x a) t) n = _
    rw [hasS_adds n t _ b.1 b.2, hasS_add x a n h]
    by_cases c : a = n
    · subst c
      cases hasS x a <;> cases (decide (1 ≤ a) && decide (a ≤ 31)) <;> simp
    · have c' : ¬ n = a := fun d => c d.symm
      simp [c, c']
theorem hasS_dels (n : Int) : ∀ (l : List Int) (x : Int), 0 ≤ x → x ≤ 2147483647 → hasS (dels x l) n = (hasS x n && !decide (n ∈ l))
  | [], x, h, h' => by simp [dels]
  | a :: t, x, h, h' => by
    have b := delS_bd x a
    show hasS (dels (delS x a) t) n = _
    rw [hasS_dels n t _ b.1 b.2, hasS_del x a n h]
    by_cases c : a = n
    · subst c; simp
    · have c' : ¬ n = a := fun d => c d.symm
      simp [c, c']
theorem adds_lst (x : Int) (h : 0 ≤ x) (h' : x ≤ 2147483647) : adds 0 (lst x) = x := by
  have b := adds_bd 0 (by omega) (by omega) (lst x)
  refine hasS_ext _ _ b.1 b.2 h h' fun n => ?_
  rw [hasS_adds n _ 0 (by omega) (by omega), hasS_zero]
  have e := lst_mem x n
  have r := hasS_rng x n
  by_cases c : hasS x n = true
  · have := r c
    simp [c, this.1, this.2, e.2 c]
  · have c' : hasS x n = false := by simpa using c
    have k : n ∉ lst x := fun d => c (e.1 d)
    simp [c', k]
theorem dels_adds (l : List Int) : dels (adds 0 l) l = 0 := by
  have b := adds_bd 0 (by omega) (by omega) l
  have d := dels_bd _ b.1 b.2 l
  refine hasS_ext _ _ d.1 d.2 (by omega) (by omega) fun n => ?_
  rw [hasS_dels n _ _ b.1 b.2, hasS_adds n _ 0 (by omega) (by omega), hasS_zero]
  cases decide (n ∈ l) <;> simp
end Go.Proofs.YtfhoonjofphddaaDoor
