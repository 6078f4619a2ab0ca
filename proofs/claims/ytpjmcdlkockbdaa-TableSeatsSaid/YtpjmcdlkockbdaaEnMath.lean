/- Plain facts on the numbers of the entries of page tables, of no program. -/
import Derived.Test.YtpjmcdlkockbdaaPlain
import Derived.RowKit
import Derived.IntWalk
import Derived.Laws.MathBits
import Derived.Laws.BitsAllLaws
namespace Go.Proofs.Ytpjmcdlkockbdaa
open Go.RowKit
set_option linter.unusedVariables false
/-- shared or not, as a number -/
def cwn (c : Bool) : Int := if c then 8 else 0
theorem cwn_bd (c : Bool) : cwn c = 0 ∨ cwn c = 8 := by cases c <;> simp [cwn]
/-- an entry's number -/
def ennum (f p : Int) (c : Bool) : Int := f * 256 + 128 + p + cwn c
/-- a number that is an entry's -/
def EnNum (v : Int) : Prop := v / 256 < 1024 ∧ 128 ≤ v % 256 ∧ v % 128 < 16
/-- is it shared? -/
def cwb (v : Int) : Bool := decide (8 ≤ v % 16)
theorem ennum_is (f p : Int) (c : Bool) (h0 : 0 ≤ f) (h1 : f < 1024) (h2 : 0 ≤ p) (h3 : p ≤ 7) : EnNum (ennum f p c) ∧ 0 ≤ ennum f p c ∧ ennum f p c < 262144 ∧ ennum f p c / 256 = f ∧ ennum f p c % 8 = p ∧ cwb (ennum f p c) = c := by
  unfold EnNum ennum cwb
  cases c
  · simp [cwn]; omega
  · simp [cwn]; omega
theorem ennum_back (v : Int) (h0 : 0 ≤ v) (h : EnNum v) : ennum (v / 256) (v % 8) (cwb v) = v := by
  unfold EnNum at h; unfold ennum cwb cwn
  by_cases c : 8 ≤ v % 16
  · simp [c]; omega
  · simp [c]; omega
theorem ennum_none (v : Int) (h0 : 0 ≤ v) (h : ¬ EnNum v) (h1 : v / 256 < 1024) : ennum (v / 256) (v % 8) (cwb v) ≠ v := by
  unfold EnNum at h; unfold ennum cwb cwn
  by_cases c : 8 ≤ v % 16
  · simp [c]; omega
  · simp [c]; omega
theorem and7 (v : Int) (h0 : 0 ≤ v) (h1 : v ≤ 4294967295) : bits .and .u32 v 7 = v % 8 := by
  obtain ⟨n, rfl⟩ := Int.eq_ofNat_of_zero_le h0
  have := u32_and_nat n 7 (by omega) (by omega)
  rw [show ((7 : Nat) : Int) = 7 from rfl] at this
  rw [this, show (7 : Nat) = 2 ^ 3 - 1 from rfl, Nat.and_two_pow_sub_one_eq_mod]; rfl
theorem and_pow (n m : Nat) : n &&& 2 ^ m = if n / 2 ^ m % 2 = 1 then 2 ^ m else 0 := by
  apply Nat.eq_of_testBit_eq
  intro i
  rw [Nat.testBit_and, Nat.testBit_two_pow]
  by_cases c : n / 2 ^ m % 2 = 1
  · rw [if_pos c, Nat.testBit_two_pow]
    by_cases e : m = i
    · subst e; simp [Nat.testBit_eq_decide_div_mod_eq, c]
    · simp [e]
  · rw [if_neg c]
    by_cases e : m = i
    · subst e; simp [Nat.testBit_eq_decide_div_mod_eq, c]
    · simp [e]
theorem and8 (v : Int) (h0 : 0 ≤ v) (h1 : v ≤ 4294967295) : bits .and .u32 v 8 = cwn (cwb v) := by
  obtain ⟨n, rfl⟩ := Int.eq_ofNat_of_zero_le h0
  have := u32_and_nat n 8 (by omega) (by omega)
  rw [show ((8 : Nat) : Int) = 8 from rfl] at this
  rw [this, show (8 : Nat) = 2 ^ 3 from rfl, and_pow]
  unfold cwb cwn
  by_cases c : n / 2 ^ 3 % 2 = 1
  · have : 8 ≤ (n : Int) % 16 := by omega
    simp [c, this]
  · have : ¬ 8 ≤ (n : Int) % 16 := by omega
    simp [c, this]
/-- is one use among the uses? -/
def usb (p u : Int) : Bool := decide (p / u % 2 = 1)
theorem and_use (p u : Int) (h0 : 0 ≤ p) (h1 : p ≤ 255) (hu : u = 1 ∨ u = 2 ∨ u = 4) : bits .and .u8 p u = if usb p u then u else 0 := by
  obtain ⟨n, rfl⟩ := Int.eq_ofNat_of_zero_le h0
  have k := fun m => and_pow n m
  unfold usb
  rcases hu with rfl | rfl | rfl
  · have := u8_and_nat n 1 (by omega) (by omega)
    rw [show ((1 : Nat) : Int) = 1 from rfl] at this
    rw [this, show (1 : Nat) = 2 ^ 0 from rfl, k 0]
    by_cases c : n / 2 ^ 0 % 2 = 1
    · rw [if_pos c, if_pos (by simp; simp at c; omega)]; rfl
    · rw [if_neg c, if_neg (by simp; simp at c; omega)]; rfl
  · have := u8_and_nat n 2 (by omega) (by omega)
    rw [show ((2 : Nat) : Int) = 2 from rfl] at this
    rw [this, show (2 : Nat) = 2 ^ 1 from rfl, k 1]
    by_cases c : n / 2 ^ 1 % 2 = 1
    · rw [if_pos c, if_pos (by simp; simp at c; omega)]; rfl
    · rw [if_neg c, if_neg (by simp; simp at c; omega)]; rfl
  · have := u8_and_nat n 4 (by omega) (by omega)
    rw [show ((4 : Nat) : Int) = 4 from rfl] at this
    rw [this, show (4 : Nat) = 2 ^ 2 from rfl, k 2]
    by_cases c : n / 2 ^ 2 % 2 = 1
    · rw [if_pos c, if_pos (by simp; simp at c; omega)]; rfl
    · rw [if_neg c, if_neg (by simp; simp at c; omega)]; rfl
end Go.Proofs.Ytpjmcdlkockbdaa
