/- Plain facts on numbers of 32 bits, of no program: what the contracts of the layer of numbers of 32 bits say. No conditions but those that each lemma names. -/
import Derived.Test.YtealjgfijlencaaDoorPlain
import Derived.RowKit
import Derived.IntWalk
import Derived.Laws.MathBits
import Derived.Laws.BitsAllLaws
namespace Go.Proofs.YtealjgfijlencaaDoor
open Go.RowKit
set_option linter.unusedVariables false
/-- a number of 32 bits with its sign -/
def sg (x : Int) : Int := if x < 2147483648 then x else x - 4294967296
/-- outside the signed range -/
def bey (x : Int) : Bool := decide (x < -2147483648) || decide (2147483647 < x)
/-- a carry as a number -/
def cin (c : Bool) : Int := if c then 1 else 0
/-- modulo 2^32 -/
def m32 (x : Int) : Int := x % 4294967296
/-- a power of 2 -/
def pw (n : Nat) : Int := 2 ^ n
theorem sg_bd (x : Int) (h : 0 ≤ x) (h' : x ≤ 4294967295) : -2147483648 ≤ sg x ∧ sg x ≤ 2147483647 := by unfold sg; split <;> omega
theorem cin_bd (c : Bool) : 0 ≤ cin c ∧ cin c ≤ 1 := by cases c <;> simp [cin]
theorem m32_bd (x : Int) : 0 ≤ m32 x ∧ m32 x ≤ 4294967295 := by unfold m32; omega
theorem m32_of (x : Int) (h : 0 ≤ x) (h' : x ≤ 4294967295) : m32 x = x := by unfold m32; omega
theorem m32_sg (x : Int) (h : 0 ≤ x) (h' : x ≤ 4294967295) : m32 (sg x) = x := by unfold m32 sg; split <;> omega
theorem pw_pos (n : Nat) : 1 ≤ pw n := by rw [show pw n = ((2 ^ n : Nat) : Int) from by unfold pw; simp]; have := Nat.two_pow_pos n; omega
theorem pw_zero : pw 0 = 1 := rfl
theorem pw_succ (n : Nat) : pw (n + 1) = 2 * pw n := by unfold pw; rw [Int.pow_succ]; omega
theorem pw_add (a b : Nat) : pw (a + b) = pw a * pw b := by unfold pw; exact Int.pow_add 2 a b
theorem pw_cast (n : Nat) : pw n = ((2 ^ n : Nat) : Int) := by unfold pw; simp
theorem pw_le {a b : Nat} (h : a ≤ b) : pw a ≤ pw b := by
  rw [pw_cast, pw_cast]; exact_mod_cast Nat.pow_le_pow_right (by decide) h
theorem pw31 : pw 31 = 2147483648 := by decide +kernel
theorem pw32 : pw 32 = 4294967296 := by decide +kernel
theorem pw62 : pw 62 = 4611686018427387904 := by decide +kernel
theorem pw_split (k n : Nat) (h : k ≤ n) : pw n = pw k * pw (n - k) := by rw [← pw_add]; congr 1; omega
/-- a number cut towards nought, below nought -/
theorem tmod_neg (n : Int) (h : n < 0) (h0 : n % 4294967296 ≠ 0) : n.tmod 4294967296 = n % 4294967296 - 4294967296 := by
  rw [Int.tmod_eq_emod, show Int.natAbs 4294967296 = 4294967296 from rfl]; split <;> omega
theorem tmod_neg0 (n : Int) (h : n < 0) (h0 : n % 4294967296 = 0) : n.tmod 4294967296 = 0 := by
  rw [Int.tmod_eq_emod, show Int.natAbs 4294967296 = 4294967296 from rfl]; split <;> omega
theorem tmod32_neg (n : Int) (h : n < 0) (h0 : n % 32 ≠ 0) : n.tmod 32 = n % 32 - 32 := by
  rw [Int.tmod_eq_emod, show Int.natAbs 32 = 32 from rfl]; split <;> omega
theorem tmod32_neg0 (n : Int) (h : n < 0) (h0 : n % 32 = 0) : n.tmod 32 = 0 := by
  rw [Int.tmod_eq_emod, show Int.natAbs 32 = 32 from rfl]; split <;> omega
/-- bits turned upwards by k -/
def rot (v : Int) (k : Nat) : Int := pw k * (v % pw (32 - k)) + v / pw (32 - k)
theorem under32 (k : Nat) (h : k < 32) : k = 0 ∨ k = 1 ∨ k = 2 ∨ k = 3 ∨ k = 4 ∨ k = 5 ∨ k = 6 ∨ k = 7 ∨ k = 8 ∨ k = 9 ∨ k = 10 ∨ k = 11 ∨ k = 12 ∨ k = 13 ∨ k = 14 ∨ k = 15 ∨ k = 16 ∨ k = 17 ∨ k = 18 ∨ k = 19 ∨ k = 20 ∨ k = 21 ∨ k = 22 ∨ k = 23 ∨ k = 24 ∨ k = 25 ∨ k = 26 ∨ k = 27 ∨ k = 28 ∨ k = 29 ∨ k = 30 ∨ k = 31 := by omega
theorem rot_zero (v : Int) (h : 0 ≤ v) (h' : v ≤ 4294967295) : rot v 0 = v := by
  simp only [rot, pw, Int.reducePow, Nat.sub_zero]; omega
theorem rot_succ (v : Int) (k : Nat) (hk : k + 1 < 32) (h : 0 ≤ v) (h' : v ≤ 4294967295) : 2 * (rot v k % 2147483648) + rot v k / 2147483648 = rot v (k + 1) := by
  rcases under32 k (by omega) with rfl | rfl | rfl | rfl | rfl | rfl | rfl | rfl | rfl | rfl | rfl | rfl | rfl | rfl | rfl | rfl | rfl | rfl | rfl | rfl | rfl | rfl | rfl | rfl | rfl | rfl | rfl | rfl | rfl | rfl | rfl | rfl
  all_goals (first | omega | (simp only [rot, pw, Nat.reduceAdd, Nat.reduceSub, Int.reducePow, Nat.sub_zero]; omega))
theorem rot_bd (v : Int) (k : Nat) (hk : k < 32) (h : 0 ≤ v) (h' : v ≤ 4294967295) : 0 ≤ rot v k ∧ rot v k ≤ 4294967295 := by
  rcases under32 k hk with rfl | rfl | rfl | rfl | rfl | rfl | rfl | rfl | rfl | rfl | rfl | rfl | rfl | rfl | rfl | rfl | rfl | rfl | rfl | rfl | rfl | rfl | rfl | rfl | rfl | rfl | rfl | rfl | rfl | rfl | rfl | rfl
  all_goals (simp only [rot, pw, Nat.reduceSub, Int.reducePow, Nat.sub_zero]; omega)
/-- bits beside each other: 'or' is a sum -/
theorem or_up (a b : Int) (k : Nat) (ha : 0 ≤ a) (ha' : a < pw k) (hb : 0 ≤ b) (hs : a + b * pw k ≤ 4294967295) : bits .or .u32 a (b * pw k) = a + b * pw k := by
  obtain ⟨m, rfl⟩ := Int.eq_ofNat_of_zero_le ha
  obtain ⟨n, rfl⟩ := Int.eq_ofNat_of_zero_le hb
  rw [pw_cast] at ha' hs ⊢
  have h1 : m < 2 ^ k := by exact_mod_cast ha'
  have h2 : m + n * 2 ^ k ≤ 4294967295 := by
    have h : ((m + n * 2 ^ k : Nat) : Int) ≤ 4294967295 := by rw [Int.natCast_add, Int.natCast_mul]; exact hs
    omega
  have h3 := Nat.two_pow_add_eq_or_of_lt h1 n
  rw [show ((n : Int) * ((2 ^ k : Nat) : Int)) = ((n * 2 ^ k : Nat) : Int) from (Int.natCast_mul _ _).symm]
  rw [u32_or_nat m (n * 2 ^ k) (by omega) (by omega)]
  rw [Nat.or_comm, Nat.mul_comm n, ← h3]; push_cast; omega
theorem or_up' (a b : Int) (k : Nat) (ha : 0 ≤ a) (ha' : a < pw k) (hb : 0 ≤ b) (hs : a + b * pw k ≤ 4294967295) : bits .or .u32 (b * pw k) a = b * pw k + a := by
  rw [← Int.add_comm a, ← or_up a b k ha ha' hb hs]
  unfold bits; simp only [BitVec.or_comm]
/-- the five lowest bits -/
theorem and31_i64 (n : Int) : bits .and .i64 n 31 = n % 32 := by
  unfold bits
  have e : (BitVec.ofInt 64 n &&& BitVec.ofInt 64 31).toNat = (BitVec.ofInt 64 n).toNat % 32 := by
    rw [BitVec.toNat_and]; exact Nat.and_two_pow_sub_one_eq_mod _ 5
  have e2 : ((BitVec.ofInt 64 n).toNat : Int) = n % 18446744073709551616 := by
    rw [BitVec.toNat_ofInt]; have : 0 ≤ n % 18446744073709551616 := by omega
    simp; omega
  show IntKind.i64.wrap ((BitVec.ofInt 64 n &&& BitVec.ofInt 64 31).toNat : Int) = n % 32
  rw [e, IntKind.wrap_i64]; omega
theorem and31_u64 (n : Int) : bits .and .u64 n 31 = n % 32 := by
  unfold bits
  have e : (BitVec.ofInt 64 n &&& BitVec.ofInt 64 31).toNat = (BitVec.ofInt 64 n).toNat % 32 := by
    rw [BitVec.toNat_and]; exact Nat.and_two_pow_sub_one_eq_mod _ 5
  have e2 : ((BitVec.ofInt 64 n).toNat : Int) = n % 18446744073709551616 := by
    rw [BitVec.toNat_ofInt]; have : 0 ≤ n % 18446744073709551616 := by omega
    simp; omega
  show IntKind.u64.wrap ((BitVec.ofInt 64 n &&& BitVec.ofInt 64 31).toNat : Int) = n % 32
  rw [e, IntKind.wrap_u64]; omega
/-- the five lowest bits, as a natural number -/
def lo (n : Int) : Nat := (n % 32).toNat
theorem lo_lt (n : Int) : lo n < 32 := by unfold lo; omega
theorem lo_eq (n : Int) : (lo n : Int) = n % 32 := by unfold lo; omega
/-- bits moved up, and those that fall out are lost -/
def up (v : Int) (k : Nat) : Int := pw k * (v % pw (32 - k))
theorem up_eq (v : Int) (k : Nat) (hk : k < 32) (h : 0 ≤ v) (h' : v ≤ 4294967295) : v * 2 ^ k % 4294967296 = up v k := by
  rcases under32 k hk with rfl | rfl | rfl | rfl | rfl | rfl | rfl | rfl | rfl | rfl | rfl | rfl | rfl | rfl | rfl | rfl | rfl | rfl | rfl | rfl | rfl | rfl | rfl | rfl | rfl | rfl | rfl | rfl | rfl | rfl | rfl | rfl
  all_goals (simp only [up, pw, Nat.reduceSub, Int.reducePow, Nat.sub_zero]; omega)
theorem up_bd (v : Int) (k : Nat) (hk : k < 32) (h : 0 ≤ v) (h' : v ≤ 4294967295) : 0 ≤ up v k ∧ up v k ≤ 4294967295 := by
  rw [← up_eq v k hk h h']; omega
/-- the document's own way: turned, and the lowest bits taken away -/
theorem up_rot (v : Int) (k : Nat) (hk : k < 32) (h : 0 ≤ v) (h' : v ≤ 4294967295) : rot v k - rot v k % pw k = up v k ∧ rot v k % pw k ≤ rot v k ∧ 0 ≤ rot v k % pw k := by
  rcases under32 k hk with rfl | rfl | rfl | rfl | rfl | rfl | rfl | rfl | rfl | rfl | rfl | rfl | rfl | rfl | rfl | rfl | rfl | rfl | rfl | rfl | rfl | rfl | rfl | rfl | rfl | rfl | rfl | rfl | rfl | rfl | rfl | rfl
  all_goals (simp only [up, rot, pw, Nat.reduceSub, Int.reducePow, Nat.sub_zero]; omega)
theorem rot_or (v : Int) (k : Nat) (hk : k < 32) (h : 0 ≤ v) (h' : v ≤ 4294967295) : bits .or .u32 (up v k) (v / pw (32 - k)) = rot v k := by
  have e : up v k = v % pw (32 - k) * pw k := by unfold up; rw [Int.mul_comm]
  have hs : v / pw (32 - k) + v % pw (32 - k) * pw k ≤ 4294967295 ∧ v / pw (32 - k) < pw k ∧ 0 ≤ v / pw (32 - k) ∧ 0 ≤ v % pw (32 - k) := by
    rcases under32 k hk with rfl | rfl | rfl | rfl | rfl | rfl | rfl | rfl | rfl | rfl | rfl | rfl | rfl | rfl | rfl | rfl | rfl | rfl | rfl | rfl | rfl | rfl | rfl | rfl | rfl | rfl | rfl | rfl | rfl | rfl | rfl | rfl
    all_goals (simp only [pw, Nat.reduceSub, Int.reducePow, Nat.sub_zero]; omega)
  rw [e, or_up' _ _ k hs.2.2.1 hs.2.1 hs.2.2.2 hs.1]
  unfold rot; rw [Int.mul_comm]
/-- the highest bit staying -/
def sar (v : Int) (k : Nat) : Int := m32 (sg v / pw k)
theorem sar_step (v : Int) (k : Nat) (hk : k + 1 < 32) (h : 0 ≤ v) (h' : v ≤ 4294967295) : sar v k / 2 + sar v k / 2147483648 * 2147483648 = sar v (k + 1) := by
  have hb := sg_bd v h h'
  unfold sar
  generalize sg v = t at *
  rcases under32 k (by omega) with rfl | rfl | rfl | rfl | rfl | rfl | rfl | rfl | rfl | rfl | rfl | rfl | rfl | rfl | rfl | rfl | rfl | rfl | rfl | rfl | rfl | rfl | rfl | rfl | rfl | rfl | rfl | rfl | rfl | rfl | rfl | rfl
  all_goals (first | omega | (simp only [m32, pw, Nat.reduceAdd, Int.reducePow]; omega))
theorem sar_bd (v : Int) (k : Nat) : 0 ≤ sar v k ∧ sar v k ≤ 4294967295 := m32_bd _
theorem sar_zero (v : Int) (h : 0 ≤ v) (h' : v ≤ 4294967295) : sar v 0 = v := by
  unfold sar; rw [pw_zero, Int.ediv_one, m32_sg v h h']
/-- the lowest k bits, spread -/
def sx (v : Int) (k : Nat) : Int := m32 (if v % pw k < pw (k - 1) then v % pw k else v % pw k - pw k)
theorem sx_bd (v : Int) (k : Nat) : 0 ≤ sx v k ∧ sx v k ≤ 4294967295 := m32_bd _
theorem sx_pos (v : Int) (k : Nat) (h1 : 1 ≤ k) (hk : k < 32) (h : 0 ≤ v) (h' : v ≤ 4294967295) (c : v % pw k < pw (k - 1)) : up v (32 - k) < 2147483648 ∧ up v (32 - k) / pw (32 - k) = v % pw k := by
  have g : k = k - 1 + 1 := by omega
  generalize k - 1 = j at g c
  subst g
  rcases under32 j (by omega) with rfl | rfl | rfl | rfl | rfl | rfl | rfl | rfl | rfl | rfl | rfl | rfl | rfl | rfl | rfl | rfl | rfl | rfl | rfl | rfl | rfl | rfl | rfl | rfl | rfl | rfl | rfl | rfl | rfl | rfl | rfl | rfl
  all_goals (first | omega | (simp only [up, pw, Nat.reduceAdd, Nat.reduceSub, Int.reducePow] at *; omega))
theorem sx_neg (v : Int) (k : Nat) (h1 : 1 ≤ k) (hk : k < 32) (h : 0 ≤ v) (h' : v ≤ 4294967295) (c : ¬ v % pw k < pw (k - 1)) : ¬ up v (32 - k) < 2147483648 ∧ (up v (32 - k) - 4294967296) / pw (32 - k) = v % pw k - pw k := by
  have g : k = k - 1 + 1 := by omega
  generalize k - 1 = j at g c
  subst g
  rcases under32 j (by omega) with rfl | rfl | rfl | rfl | rfl | rfl | rfl | rfl | rfl | rfl | rfl | rfl | rfl | rfl | rfl | rfl | rfl | rfl | rfl | rfl | rfl | rfl | rfl | rfl | rfl | rfl | rfl | rfl | rfl | rfl | rfl | rfl
  all_goals (first | omega | (simp only [up, pw, Nat.reduceAdd, Nat.reduceSub, Int.reducePow] at *; omega))
theorem sx_eq (v : Int) (k : Nat) (h1 : 1 ≤ k) (hk : k < 32) (h : 0 ≤ v) (h' : v ≤ 4294967295) : m32 (sg (up v (32 - k)) / pw (32 - k)) = sx v k := by
  by_cases c : v % pw k < pw (k - 1)
  · have s := sx_pos v k h1 hk h h' c
    unfold sx sg; rw [if_pos c, if_pos s.1, s.2]
  · have s := sx_neg v k h1 hk h h' c
    unfold sx sg; rw [if_neg c, if_neg s.1, s.2]
end Go.Proofs.YtealjgfijlencaaDoor
