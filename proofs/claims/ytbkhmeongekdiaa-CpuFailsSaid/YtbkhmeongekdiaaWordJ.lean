/- Plain facts on numbers of 32 bits, of no program: what the contracts of the layer of numbers of 32 bits say. No conditions but those that each lemma names. -/
import Derived.Test.YtbkhmeongekdiaaNum
import Derived.RowKit
import Derived.IntWalk
import Derived.Laws.MathBits
import Derived.Laws.BitsAllLaws
import Derived.WalkKit
import Derived.ProofKit
import Derived.OpenShut
import Derived.Handy
import Derived.Outline
import Derived.WalkLawsBesides
import Derived.WalkSpells
import Derived.Lib.Hide
import Derived.Deep.Draws
import Derived.Deep.QuietTactic
import Derived.BigQuiet
import Derived.Lib.BitFns
import Derived.Laws.ShiftsVar
import Derived.Laws.BytesArg
namespace Go.Proofs.Ytbkhmeongekdiaa
open Go.RowKit
set_option linter.unusedVariables false
/-- a number of 32 bits with its sign -/
def sg (x : Int) : Int := if x < 2147483648 then x else x - 4294967296
/-- outside the signed range -/
def bey (x : Int) : Bool := decide (x < -2147483648) || decide (2147483647 < x)
/-- a carry as a number -/
def cin (c : Bool) : Int := if c then 1 else 0
/-- modulo 2^32 -/
def m32 (x : Int) : Int := x % 4294967296
/-- a power of 2 -/
def pw (n : Nat) : Int := 2 ^ n
theorem sg_bd (x : Int) (h : 0 ≤ x) (h' : x ≤ 4294967295) : -2147483648 ≤ sg x ∧ sg x ≤ 2147483647 := by unfold sg; split <;> omega
theorem cin_bd (c : Bool) : 0 ≤ cin c ∧ cin c ≤ 1 := by cases c <;> simp [cin]
theorem m32_bd (x : Int) : 0 ≤ m32 x ∧ m32 x ≤ 4294967295 := by unfold m32; omega
theorem m32_of (x : Int) (h : 0 ≤ x) (h' : x ≤ 4294967295) : m32 x = x := by unfold m32; omega
theorem m32_sg (x : Int) (h : 0 ≤ x) (h' : x ≤ 4294967295) : m32 (sg x) = x := by unfold m32 sg; split <;> omega
theorem pw_pos (n : Nat) : 1 ≤ pw n := by rw [show pw n = ((2 ^ n : Nat) : Int) from by unfold pw; simp]; have := Nat.two_pow_pos n; omega
theorem pw_zero : pw 0 = 1 := rfl
theorem pw_succ (n : Nat) : pw (n + 1) = 2 * pw n := by unfold pw; rw [Int.pow_succ]; omega
theorem pw_add (a b : Nat) : pw (a + b) = pw a * pw b := by unfold pw; exact Int.pow_add 2 a b
theorem pw_cast (n : Nat) : pw n = ((2 ^ n : Nat) : Int) := by unfold pw; simp
theorem pw_le {a b : Nat} (h : a ≤ b) : pw a ≤ pw b := by
  rw [pw_cast, pw_cast]; exact_mod_cast Nat.pow_le_pow_right (by decide) h
theorem pw31 : pw 31 = 2147483648 := by decide +kernel
theorem pw32 : pw 32 = 4294967296 := by decide +kernel
theorem pw62 : pw 62 = 4611686018427387904 := by decide +kernel
theorem pw_split (k n : Nat) (h : k ≤ n) : pw n = pw k * pw (n - k) := by rw [← pw_add]; congr 1; omega
/-- a number cut towards nought, below nought -/
theorem tmod_neg (n : Int) (h : n < 0) (h0 : n % 4294967296 ≠ 0) : n.tmod 4294967296 = n % 4294967296 - 4294967296 := by
  rw [Int.tmod_eq_emod, show Int.natAbs 4294967296 = 4294967296 from rfl]; split <;> omega
theorem tmod_neg0 (n : Int) (h : n < 0) (h0 : n % 4294967296 = 0) : n.tmod 4294967296 = 0 := by
  rw [Int.tmod_eq_emod, show Int.natAbs 4294967296 = 4294967296 from rfl]; split <;> omega
theorem tmod32_neg (n : Int) (h : n < 0) (h0 : n % 32 ≠ 0) : n.tmod 32 = n % 32 - 32 := by
  rw [Int.tmod_eq_emod, show Int.natAbs 32 = 32 from rfl]; split <;> omega
theorem tmod32_neg0 (n : Int) (h : n < 0) (h0 : n % 32 = 0) : n.tmod 32 = 0 := by
  rw [Int.tmod_eq_emod, show Int.natAbs 32 = 32 from rfl]; split <;> omega
/-- bits turned upwards by k -/
def rot (v : Int) (k : Nat) : Int := pw k * (v % pw (32 - k)) + v / pw (32 - k)
theorem under32 (k : Nat) (h : k < 32) : k = 0 ∨ k = 1 ∨ k = 2 ∨ k = 3 ∨ k = 4 ∨ k = 5 ∨ k = 6 ∨ k = 7 ∨ k = 8 ∨ k = 9 ∨ k = 10 ∨ k = 11 ∨ k = 12 ∨ k = 13 ∨ k = 14 ∨ k = 15 ∨ k = 16 ∨ k = 17 ∨ k = 18 ∨ k = 19 ∨ k = 20 ∨ k = 21 ∨ k = 22 ∨ k = 23 ∨ k = 24 ∨ k = 25 ∨ k = 26 ∨ k = 27 ∨ k = 28 ∨ k = 29 ∨ k = 30 ∨ k = 31 := by omega
theorem rot_zero (v : Int) (h : 0 ≤ v) (h' : v ≤ 4294967295) : rot v 0 = v := by
  simp only [rot, pw, Int.reducePow, Nat.sub_zero]; omega
theorem rot_succ (v : Int) (k : Nat) (hk : k + 1 < 32) (h : 0 ≤ v) (h' : v ≤ 4294967295) : 2 * (rot v k % 2147483648) + rot v k / 2147483648 = rot v (k + 1) := by
  rcases under32 k (by omega) with rfl | rfl | rfl | rfl | rfl | rfl | rfl | rfl | rfl | rfl | rfl | rfl | rfl | rfl | rfl | rfl | rfl | rfl | rfl | rfl | rfl | rfl | rfl | rfl | rfl | rfl | rfl | rfl | rfl | rfl | rfl | rfl
  all_goals (first | omega | (simp only [rot, pw, Nat.reduceAdd, Nat.reduceSub, Int.reducePow, Nat.sub_zero]; omega))
theorem rot_bd (v : Int) (k : Nat) (hk : k < 32) (h : 0 ≤ v) (h' : v ≤ 4294967295) : 0 ≤ rot v k ∧ rot v k ≤ 4294967295 := by
  rcases under32 k hk with rfl | rfl | rfl | rfl | rfl | rfl | rfl | rfl | rfl | rfl | rfl | rfl | rfl | rfl | rfl | rfl | rfl | rfl | rfl | rfl | rfl | rfl | rfl | rfl | rfl | rfl | rfl | rfl | rfl | rfl | rfl | rfl
  all_goals (simp only [rot, pw, Nat.reduceSub, Int.reducePow, Nat.sub_zero]; omega)
/-- bits beside each other: 'or' is a sum -/
theorem or_up (a b : Int) (k : Nat) (ha : 0 ≤ a) (ha' : a < pw k) (hb : 0 ≤ b) (hs : a + b * pw k ≤ 4294967295) : bits .or .u32 a (b * pw k) = a + b * pw k := by
  obtain ⟨m, rfl⟩ := Int.eq_ofNat_of_zero_le ha
  obtain ⟨n, rfl⟩ := Int.eq_ofNat_of_zero_le hb
  rw [pw_cast] at ha' hs ⊢
  have h1 : m < 2 ^ k := by exact_mod_cast ha'
  have h2 : m + n * 2 ^ k ≤ 4294967295 := by
    have h : ((m + n * 2 ^ k : Nat) : Int) ≤ 4294967295 := by rw [Int.natCast_add, Int.natCast_mul]; exact hs
    omega
  have h3 := Nat.two_pow_add_eq_or_of_lt h1 n
  rw [show ((n : Int) * ((2 ^ k : Nat) : Int)) = ((n * 2 ^ k : Nat) : Int) from (Int.natCast_mul _ _).symm]
  rw [u32_or_nat m (n * 2 ^ k) (by omega) (by omega)]
  rw [Nat.or_comm, Nat.mul_comm n, ← h3]; push_cast; omega
theorem or_up' (a b : Int) (k : Nat) (ha : 0 ≤ a) (ha' : a < pw k) (hb : 0 ≤ b) (hs : a + b * pw k ≤ 4294967295) : bits .or .u32 (b * pw k) a = b * pw k + a := by
  rw [← Int.add_comm a, ← or_up a b k ha ha' hb hs]
  unfold bits; simp only [BitVec.or_comm]
/-- the five lowest bits -/
theorem and31_i64 (n : Int) : bits .and .i64 n 31 = n % 32 := by
  unfold bits
  have e : (BitVec.ofInt 64 n &&& BitVec.ofInt 64 31).toNat = (BitVec.ofInt 64 n).toNat % 32 := by
    rw [BitVec.toNat_and]; exact Nat.and_two_pow_sub_one_eq_mod _ 5
  have e2 : ((BitVec.ofInt 64 n).toNat : Int) = n % 18446744073709551616 := by
    rw [BitVec.toNat_ofInt]; have : 0 ≤ n % 18446744073709551616 := by omega
    simp; omega
  show IntKind.i64.wrap ((BitVec.ofInt 64 n &&& BitVec.ofInt 64 31).toNat : Int) = n % 32
  rw [e, IntKind.wrap_i64]; omega
theorem and31_u64 (n : Int) : bits .and .u64 n 31 = n % 32 := by
  unfold bits
  have e : (BitVec.ofInt 64 n &&& BitVec.ofInt 64 31).toNat = (BitVec.ofInt 64 n).toNat % 32 := by
    rw [BitVec.toNat_and]; exact Nat.and_two_pow_sub_one_eq_mod _ 5
  have e2 : ((BitVec.ofInt 64 n).toNat : Int) = n % 18446744073709551616 := by
    rw [BitVec.toNat_ofInt]; have : 0 ≤ n % 18446744073709551616 := by omega
    simp; omega
  show IntKind.u64.wrap ((BitVec.ofInt 64 n &&& BitVec.ofInt 64 31).toNat : Int) = n % 32
  rw [e, IntKind.wrap_u64]; omega
/-- the five lowest bits, as a natural number -/
def lo (n : Int) : Nat := (n % 32).toNat
theorem lo_lt (n : Int) : lo n < 32 := by unfold lo; omega
theorem lo_eq (n : Int) : (lo n : Int) = n % 32 := by unfold lo; omega
/-- bits moved up, and those that fall out are lost -/
def up (v : Int) (k : Nat) : Int := pw k * (v % pw (32 - k))
theorem up_eq (v : Int) (k : Nat) (hk : k < 32) (h : 0 ≤ v) (h' : v ≤ 4294967295) : v * 2 ^ k % 4294967296 = up v k := by
  rcases under32 k hk with rfl | rfl | rfl | rfl | rfl | rfl | rfl | rfl | rfl | rfl | rfl | rfl | rfl | rfl | rfl | rfl | rfl | rfl | rfl | rfl | rfl | rfl | rfl | rfl | rfl | rfl | rfl | rfl | rfl | rfl | rfl | rfl
  all_goals (simp only [up, pw, Nat.reduceSub, Int.reducePow, Nat.sub_zero]; omega)
theorem up_bd (v : Int) (k : Nat) (hk : k < 32) (h : 0 ≤ v) (h' : v ≤ 4294967295) : 0 ≤ up v k ∧ up v k ≤ 4294967295 := by
  rw [← up_eq v k hk h h']; omega
/-- the document's own way: turned, and the lowest bits taken away -/
theorem up_rot (v : Int) (k : Nat) (hk : k < 32) (h : 0 ≤ v) (h' : v ≤ 4294967295) : rot v k - rot v k % pw k = up v k ∧ rot v k % pw k ≤ rot v k ∧ 0 ≤ rot v k % pw k := by
  rcases under32 k hk with rfl | rfl | rfl | rfl | rfl | rfl | rfl | rfl | rfl | rfl | rfl | rfl | rfl | rfl | rfl | rfl | rfl | rfl | rfl | rfl | rfl | rfl | rfl | rfl | rfl | rfl | rfl | rfl | rfl | rfl | rfl | rfl
  all_goals (simp only [up, rot, pw, Nat.reduceSub, Int.reducePow, Nat.sub_zero]; omega)
theorem rot_or (v : Int) (k : Nat) (hk : k < 32) (h : 0 ≤ v) (h' : v ≤ 4294967295) : bits .or .u32 (up v k) (v / pw (32 - k)) = rot v k := by
  have e : up v k = v % pw (32 - k) * pw k := by unfold up; rw [Int.mul_comm]
  have hs : v / pw (32 - k) + v % pw (32 - k) * pw k ≤ 4294967295 ∧ v / pw (32 - k) < pw k ∧ 0 ≤ v / pw (32 - k) ∧ 0 ≤ v % pw (32 - k) := by
    rcases under32 k hk with rfl | rfl | rfl | rfl | rfl | rfl | rfl | rfl | rfl | rfl | rfl | rfl | rfl | rfl | rfl | rfl | rfl | rfl | rfl | rfl | rfl | rfl | rfl | rfl | rfl | rfl | rfl | rfl | rfl | rfl | rfl | rfl
    all_goals (simp only [pw, Nat.reduceSub, Int.reducePow, Nat.sub_zero]; omega)
  rw [e, or_up' _ _ k hs.2.2.1 hs.2.1 hs.2.2.2 hs.1]
  unfold rot; rw [Int.mul_comm]
/-- the highest bit staying -/
def sar (v : Int) (k : Nat) : Int := m32 (sg v / pw k)
theorem sar_step (v : Int) (k : Nat) (hk : k + 1 < 32) (h : 0 ≤ v) (h' : v ≤ 4294967295) : sar v k / 2 + sar v k / 2147483648 * 2147483648 = sar v (k + 1) := by
  have hb := sg_bd v h h'
  unfold sar
  generalize sg v = t at *
  rcases under32 k (by omega) with rfl | rfl | rfl | rfl | rfl | rfl | rfl | rfl | rfl | rfl | rfl | rfl | rfl | rfl | rfl | rfl | rfl | rfl | rfl | rfl | rfl | rfl | rfl | rfl | rfl | rfl | rfl | rfl | rfl | rfl | rfl | rfl
  all_goals (first | omega | (simp only [m32, pw, Nat.reduceAdd, Int.reducePow]; omega))
theorem sar_bd (v : Int) (k : Nat) : 0 ≤ sar v k ∧ sar v k ≤ 4294967295 := m32_bd _
theorem sar_zero (v : Int) (h : 0 ≤ v) (h' : v ≤ 4294967295) : sar v 0 = v := by
  unfold sar; rw [pw_zero, Int.ediv_one, m32_sg v h h']
/-- the lowest k bits, spread -/
def sx (v : Int) (k : Nat) : Int := m32 (if v % pw k < pw (k - 1) then v % pw k else v % pw k - pw k)
theorem sx_bd (v : Int) (k : Nat) : 0 ≤ sx v k ∧ sx v k ≤ 4294967295 := m32_bd _
theorem sx_pos (v : Int) (k : Nat) (h1 : 1 ≤ k) (hk : k < 32) (h : 0 ≤ v) (h' : v ≤ 4294967295) (c : v % pw k < pw (k - 1)) : up v (32 - k) < 2147483648 ∧ up v (32 - k) / pw (32 - k) = v % pw k := by
  have g : k = k - 1 + 1 := by omega
  generalize k - 1 = j at g c
  subst g
  rcases under32 j (by omega) with rfl | rfl | rfl | rfl | rfl | rfl | rfl | rfl | rfl | rfl | rfl | rfl | rfl | rfl | rfl | rfl | rfl | rfl | rfl | rfl | rfl | rfl | rfl | rfl | rfl | rfl | rfl | rfl | rfl | rfl | rfl | rfl
  all_goals (first | omega | (simp only [up, pw, Nat.reduceAdd, Nat.reduceSub, Int.reducePow] at *; omega))
theorem sx_neg (v : Int) (k : Nat) (h1 : 1 ≤ k) (hk : k < 32) (h : 0 ≤ v) (h' : v ≤ 4294967295) (c : ¬ v % pw k < pw (k - 1)) : ¬ up v (32 - k) < 2147483648 ∧ (up v (32 - k) - 4294967296) / pw (32 - k) = v % pw k - pw k := by
  have g : k = k - 1 + 1 := by omega
  generalize k - 1 = j at g c
  subst g
  rcases under32 j (by omega) with rfl | rfl | rfl | rfl | rfl | rfl | rfl | rfl | rfl | rfl | rfl | rfl | rfl | rfl | rfl | rfl | rfl | rfl | rfl | rfl | rfl | rfl | rfl | rfl | rfl | rfl | rfl | rfl | rfl | rfl | rfl | rfl
  all_goals (first | omega | (simp only [up, pw, Nat.reduceAdd, Nat.reduceSub, Int.reducePow] at *; omega))
theorem sx_eq (v : Int) (k : Nat) (h1 : 1 ≤ k) (hk : k < 32) (h : 0 ≤ v) (h' : v ≤ 4294967295) : m32 (sg (up v (32 - k)) / pw (32 - k)) = sx v k := by
  by_cases c : v % pw k < pw (k - 1)
  · have s := sx_pos v k h1 hk h h' c
    unfold sx sg; rw [if_pos c, if_pos s.1, s.2]
  · have s := sx_neg v k h1 hk h h' c
    unfold sx sg; rw [if_neg c, if_neg s.1, s.2]
end Go.Proofs.Ytbkhmeongekdiaa
namespace Go.Proofs.Ytbkhmeongekdiaa
open Go.RowKit
set_option linter.unusedVariables false
theorem add32 (x y c : Int) (w : World) (hx : 0 ≤ x) (hx' : x ≤ 4294967295) (hy : 0 ≤ y) (hy' : y ≤ 4294967295) (hc : 0 ≤ c) (hc' : c ≤ 1) :
    Calls Try.prog 55 #[.int .u32 x, .int .u32 y, .int .u32 c] w fun e w' => e = .returned (.tuple #[.int .u32 (m32 (x + y + c)), .int .u32 ((x + y + c) / 4294967296)]) ∧ w = w' := by
  go_enter Try.func55, Try.ntmps55
  go_wp2
  go_ret2
  exact ⟨rfl, rfl⟩
theorem signed_any (x : Int) (w : World) (hx : 0 ≤ x) (hx' : x ≤ 4294967295) :
    Calls Try.prog 57 #[.int .u32 x] w fun e w' => e = .returned (.int .i64 (sg x)) ∧ w = w' := by
  go_enter Try.func57, Try.ntmps57
  go_wp2
  go_ret
  exact ⟨ret_int (by unfold sg wrap64 wrap32; split <;> omega), rfl⟩
theorem beyond_any (x : Int) (w : World)  :
    Calls Try.prog 56 #[.int .i64 x] w fun e w' => e = .returned (.bool (bey x)) ∧ w = w' := by
  by_cases h : x < -2147483648
  all_goals
    go_enter Try.func56, Try.ntmps56
    go_wp2
    go_ret
    exact ⟨ret_bool (by unfold bey; first | rfl | (simp; omega)), rfl⟩
theorem mul32 (x y : Int) (w : World) (hx : 0 ≤ x) (hx' : x ≤ 4294967295) (hy : 0 ≤ y) (hy' : y ≤ 4294967295) :
    Calls Try.prog 58 #[.int .u32 x, .int .u32 y] w fun e w' => e = .returned (.tuple #[.int .u32 ((x * y) / 4294967296), .int .u32 (m32 (x * y))]) ∧ w = w' := by
  have hp := Go.prod_bound x y hx hx' hy hy'
  go_enter Try.func58, Try.ntmps58
  go_wp2
  go_ret2
  exact ⟨rfl, rfl⟩
theorem mul_any (x y : Int) (w : World) (hx : 0 ≤ x) (hx' : x ≤ 4294967295) (hy : 0 ≤ y) (hy' : y ≤ 4294967295) :
    Calls Try.prog 41 #[.int .u32 x, .int .u32 y] w fun e w' => e = .returned (.tuple #[.int .u32 (m32 (x * y)), .int .u32 ((x * y) / 4294967296)]) ∧ w = w' := by
  go_enter Try.func41, Try.ntmps41
  go_wp2_with (go_at_call 58; (with_reducible refine (mul32 _ _ _ (by omega) (by omega) (by omega) (by omega)).mono ?_); rintro e w' ⟨rfl, rfl⟩)
  go_ret2
  exact ⟨rfl, rfl⟩
theorem add_any (x y : Int) (c : Bool) (w : World) (hx : 0 ≤ x) (hx' : x ≤ 4294967295) (hy : 0 ≤ y) (hy' : y ≤ 4294967295) :
    Calls Try.prog 38 #[.int .u32 x, .int .u32 y, .bool c] w fun e w' => e = .returned (.tuple #[.int .u32 (m32 (x + y + cin c)), .bool ((x + y + cin c) / 4294967296 == 1), .bool (bey (sg x + sg y + cin c))]) ∧ w = w' := by
  have h1 := sg_bd x hx hx'
  have h2 := sg_bd y hy hy'
  cases c
  all_goals
    go_enter Try.func38, Try.ntmps38
    go_wp2_with (first | (go_at_call 55; (with_reducible refine (add32 _ _ _ _ (by omega) (by omega) (by omega) (by omega) (by omega) (by omega)).mono ?_); rintro e w' ⟨rfl, rfl⟩) | (go_at_call 57; (with_reducible refine (signed_any _ _ (by omega) (by omega)).mono ?_); rintro e w' ⟨rfl, rfl⟩) | (go_at_call 56; (with_reducible refine (beyond_any _ _).mono ?_); rintro e w' ⟨rfl, rfl⟩))
    go_ret3
    exact ⟨ret_ibb (by simp [cin]) (by simp [cin]) (by simp [cin]), rfl⟩
theorem sub_any (x y : Int) (w : World) (hx : 0 ≤ x) (hx' : x ≤ 4294967295) (hy : 0 ≤ y) (hy' : y ≤ 4294967295) :
    Calls Try.prog 40 #[.int .u32 x, .int .u32 y] w fun e w' => e = .returned (.tuple #[.int .u32 (m32 (x - y)), .bool (decide (x < y)), .bool (bey (sg x - sg y))]) ∧ w = w' := by
  have h1 := sg_bd x hx hx'
  have h2 := sg_bd y hy hy'
  go_enter Try.func40, Try.ntmps40
  go_wp2_with (first | (go_at_call 57; (with_reducible refine (signed_any _ _ (by omega) (by omega)).mono ?_); rintro e w' ⟨rfl, rfl⟩) | (go_at_call 56; (with_reducible refine (beyond_any _ _).mono ?_); rintro e w' ⟨rfl, rfl⟩))
  go_ret3
  exact ⟨rfl, rfl⟩
theorem rof_any (x : Int) (w : World) (h1 : -9223372036854775808 ≤ x) (h2 : x ≤ 9223372036854775807) :
    Calls Try.prog 12 #[.int .i64 x] w fun e w' => e = .returned (.int .u32 (m32 x)) ∧ w = w' := by
  by_cases h : 0 ≤ x
  · go_enter Try.func12, Try.ntmps12
    go_wp2
    go_ret
    exact ⟨rfl, rfl⟩
  · by_cases h0 : x % 4294967296 = 0
    · have e := tmod_neg0 x (by omega) h0
      have e2 : m32 x = 0 := h0
      clear h0
      go_enter Try.func12, Try.ntmps12
      go_wp2
      go_ret
      exact ⟨rfl, rfl⟩
    · have e := tmod_neg x (by omega) h0
      go_enter Try.func12, Try.ntmps12
      go_wp2
      go_ret
      exact ⟨ret_int (by unfold m32; omega), rfl⟩
end Go.Proofs.Ytbkhmeongekdiaa
namespace Go.Proofs.Ytbkhmeongekdiaa
open Go.RowKit
set_option linter.unusedVariables false
/-- the product of the first i bits of b -/
theorem mul_step (a b low high n P : Int) (hn : n = a * P) (bit : Int) (h : low + high * 4294967296 = a * bit) :
    (low + n % 4294967296) % 4294967296 + (high + n / 4294967296 + (low + n % 4294967296) / 4294967296) * 4294967296 = a * (bit + P) := by
  have e : n = n % 4294967296 + n / 4294967296 * 4294967296 := by omega
  have e2 : a * (bit + P) = low + high * 4294967296 + n := by rw [Int.mul_add, h, hn]
  rw [e2]; omega
theorem bit_mod (b : Int) (i : Nat) (h0 : 0 ≤ b) : b % pw (i + 1) = b % pw i + pw i * (b / pw i % 2) := by
  obtain ⟨n, rfl⟩ := Int.eq_ofNat_of_zero_le h0
  rw [pw_succ, Int.mul_comm 2 (pw i), pw_cast]
  have h := Nat.mod_mul (a := 2 ^ i) (b := 2) (x := n)
  exact_mod_cast h
theorem bit_step0 (b : Int) (i : Nat) (h0 : 0 ≤ b) (h : b / pw i % 2 = 0) : b % pw (i + 1) = b % pw i := by
  rw [bit_mod b i h0, h]; omega
theorem bit_step1 (b : Int) (i : Nat) (h0 : 0 ≤ b) (h : b / pw i % 2 ≠ 0) : b % pw (i + 1) = b % pw i + pw i := by
  rw [bit_mod b i h0, show b / pw i % 2 = 1 from by omega]; omega
theorem mod_bd (b : Int) (i : Nat) (h0 : 0 ≤ b) : 0 ≤ b % pw i ∧ b % pw i ≤ b := by
  have hp := pw_pos i
  have h1 := Int.mul_nonneg (show 0 ≤ pw i by omega) (Int.ediv_nonneg h0 (show 0 ≤ pw i by omega))
  have h2 := Int.mul_ediv_add_emod b (pw i)
  exact ⟨Int.emod_nonneg _ (by omega), by omega⟩
theorem div_bd (b : Int) (i : Nat) (h0 : 0 ≤ b) : 0 ≤ b / pw i ∧ b / pw i ≤ b := by
  have hp := pw_pos i
  exact ⟨Int.ediv_nonneg h0 (by omega), Int.ediv_le_self _ h0⟩
theorem prod_pw (a : Int) (i : Nat) (h0 : 0 ≤ a) (h : a ≤ 4294967295) (hi : i ≤ 31) : 0 ≤ a * pw i ∧ a * pw i ≤ 9223372034707292160 := by
  have hp := pw_pos i
  have hq : pw i ≤ 2147483648 := by rw [← pw31]; exact pw_le hi
  refine ⟨Int.mul_nonneg h0 (by omega), ?_⟩
  exact Int.le_trans (Int.mul_le_mul h hq (by omega) (by omega)) (by omega)
/-- what the product's loop keeps -/
def Kept (a b : Int) (k : Nat) (low high : Int) : Prop := 0 ≤ low ∧ low ≤ 4294967295 ∧ 0 ≤ high ∧ high ≤ 4294967295 ∧ low + high * 4294967296 = a * (b % pw k)
theorem kept_next {a b : Int} {k : Nat} {low high : Int} (h0 : 0 ≤ a) (h1 : a ≤ 4294967295) (g0 : 0 ≤ b) (g1 : b ≤ 4294967295) (hk : k ≤ 31) (h : Kept a b k low high) (hb : b / pw k % 2 ≠ 0) :
    Kept a b (k + 1) ((low + a * pw k % 4294967296) % 4294967296) (high + a * pw k / 4294967296 + (low + a * pw k % 4294967296) / 4294967296) := by
  obtain ⟨l0, l1, l2, l3, l4⟩ := h
  have e := mul_step a b low high (a * pw k) (pw k) rfl (b % pw k) l4
  rw [← bit_step1 b k g0 hb] at e
  have hm := mod_bd b (k + 1) g0
  have hp := Go.prod_bound a (b % pw (k + 1)) h0 h1 hm.1 (by omega)
  unfold Kept
  rw [← e] at hp ⊢
  have hn := prod_pw a k h0 h1 hk
  refine ⟨by omega, by omega, by omega, by omega, rfl⟩
theorem kept_same {a b : Int} {k : Nat} {low high : Int} (g0 : 0 ≤ b) (h : Kept a b k low high) (hb : b / pw k % 2 = 0) : Kept a b (k + 1) low high := by
  unfold Kept at h ⊢; rw [bit_step0 b k g0 hb]; exact h
theorem kept_zero (a b : Int) : Kept a b 0 0 0 := by
  unfold Kept; rw [pw_zero, Int.emod_one]; omega
theorem kept_end {a b low high : Int} (g0 : 0 ≤ b) (g1 : b ≤ 4294967295) (h : Kept a b 32 low high) : low = m32 (a * b) ∧ high = a * b / 4294967296 := by
  obtain ⟨l0, l1, l2, l3, l4⟩ := h
  rw [pw32, Int.emod_eq_of_lt g0 (by omega)] at l4
  unfold m32; omega
theorem pw31_mod (a : Int) : a * pw 31 % 4294967296 = a % 2 * 2147483648 ∧ a * pw 31 / 4294967296 = a / 2 := by rw [pw31]; omega
end Go.Proofs.Ytbkhmeongekdiaa
namespace Go.Proofs.Ytbkhmeongekdiaa
open Go.RowKit
set_option linter.unusedVariables false
theorem tdiv_bd (x y : Int) (hx : -2147483648 ≤ x) (hx' : x ≤ 2147483647) (hy : y ≠ 0) : -2147483648 ≤ x.tdiv y ∧ x.tdiv y ≤ 2147483648 ∧ -2147483648 ≤ x.tmod y ∧ x.tmod y ≤ 2147483647 := by
  have h1 := Int.natAbs_tdiv_le_natAbs x y
  have h2 := Int.tmod_eq_emod (a := x) (b := y)
  have h3 : (x.tmod y).natAbs ≤ x.natAbs := by rw [Int.natAbs_tmod]; exact Nat.mod_le _ _
  have h4 : 0 ≤ x → 0 ≤ x.tmod y := fun h => Int.tmod_nonneg _ h
  have h5 : x ≤ 0 → x.tmod y ≤ 0 := fun h => by
    have := Int.tmod_nonneg (a := -x) y (by omega)
    rw [Int.neg_tmod] at this; omega
  omega
set_option maxHeartbeats 400000 in
theorem wdiv_any (a b : Int) (w : World) (h0 : 0 ≤ a) (h1 : a ≤ 4294967295) (g0 : 1 ≤ b) (g1 : b ≤ 4294967295) :
    Calls Try.prog 65 #[.int .u32 a, .int .u32 b] w fun e w' => e = .returned (.tuple #[.int .u32 (a / b), .int .u32 (a % b), .nilIface]) ∧ ∃ n, w' = w.drewN n := by
  have hb1 : (b == 0) = false := by simp; omega
  have hd : 0 ≤ a / b ∧ a / b ≤ a := ⟨Int.ediv_nonneg h0 (by omega), Int.ediv_le_self _ h0⟩
  go_enter Try.func65, Try.ntmps65
  go_wp2
  go_quiet (fail)
  go_wp2
  go_ret3
  exact ⟨rfl, _, rfl⟩
/-- how many of the highest bits are not set -/
def zs (v : Int) : Int := 32 - (Lib.bitLen v.toNat : Nat)
theorem bitLen_bd (x : Int) (h0 : 0 ≤ x) (h1 : x ≤ 4294967295) : Lib.bitLen x.toNat ≤ 32 := Lib.bitLen_le x.toNat 32 (by omega) (by omega)
end Go.Proofs.Ytbkhmeongekdiaa
namespace Go.Proofs.Ytbkhmeongekdiaa
open Go.RowKit
set_option linter.unusedVariables false
theorem shift_up (v n : Int) (w : World) (h0 : 0 ≤ v) (h1 : v ≤ 4294967295) (hn : 0 ≤ n) (hn' : n ≤ 9223372036854775807) :
    Calls Try.prog 60 #[.int .u32 v, .int .i64 n] w fun e w' => e = .returned (.int .u32 (up v (lo n))) ∧ w = w' := by
  have hA := and31_i64 n
  rw [← lo_eq] at hA
  have hl := lo_lt n
  have e := up_eq v (lo n) hl h0 h1
  generalize lo n = k at *
  have E := Lib.hid e
  clear e
  go_enter Try.func60, Try.ntmps60
  go_wp2
  go_ret
  exact ⟨ret_int (by rw [← E.out]), rfl⟩
theorem shift_down (v n : Int) (w : World) (h0 : 0 ≤ v) (h1 : v ≤ 4294967295) (hn : n < 0) (hn' : -9223372036854775808 ≤ n) :
    Calls Try.prog 60 #[.int .u32 v, .int .i64 n] w fun e w' => e = .returned (.int .u32 (v / pw (lo (-n)))) ∧ w = w' := by
  have hA := and31_i64 (wrap64 (-n))
  rw [show wrap64 (-n) % 32 = (-n) % 32 from by unfold wrap64; omega, ← lo_eq] at hA
  have hl := lo_lt (-n)
  generalize lo (-n) = k at *
  go_enter Try.func60, Try.ntmps60
  go_wp2
  go_ret
  exact ⟨rfl, rfl⟩
theorem sar_any (v n : Int) (w : World) (h0 : 0 ≤ v) (h1 : v ≤ 4294967295) :
    Calls Try.prog 61 #[.int .u32 v, .int .i64 n] w fun e w' => e = .returned (.int .u32 (sar v (lo n))) ∧ w = w' := by
  have hA := and31_i64 n
  rw [← lo_eq] at hA
  have hl := lo_lt n
  generalize lo n = k at *
  go_enter Try.func61, Try.ntmps61
  go_wp2
  go_ret
  refine ⟨ret_int ?_, rfl⟩
  have : sg v = wrap32 v := by unfold sg wrap32; split <;> omega
  unfold sar; rw [this]; rfl
theorem lo_cast (k : Nat) (h : k < 32) : lo k = k := by unfold lo; omega
theorem shift_up' (v : Int) (k : Nat) (w : World) (h0 : 0 ≤ v) (h1 : v ≤ 4294967295) (hk : k < 32) :
    Calls Try.prog 60 #[.int .u32 v, .int .i64 k] w fun e w' => e = .returned (.int .u32 (up v k)) ∧ w = w' := by
  have h := shift_up v k w h0 h1 (by omega) (by omega)
  rw [lo_cast k hk] at h; exact h
theorem shift_down' (v : Int) (k : Nat) (w : World) (h0 : 0 ≤ v) (h1 : v ≤ 4294967295) (hk : 1 ≤ k) (hk' : k < 32) :
    Calls Try.prog 60 #[.int .u32 v, .int .i64 (-(k : Int))] w fun e w' => e = .returned (.int .u32 (v / pw k)) ∧ w = w' := by
  have h := shift_down v (-(k : Int)) w h0 h1 (by omega) (by omega)
  rw [Int.neg_neg, lo_cast k hk'] at h; exact h
theorem sar' (v : Int) (k : Nat) (w : World) (h0 : 0 ≤ v) (h1 : v ≤ 4294967295) (hk : k < 32) :
    Calls Try.prog 61 #[.int .u32 v, .int .i64 k] w fun e w' => e = .returned (.int .u32 (sar v k)) ∧ w = w' := by
  have h := sar_any v k w h0 h1
  rw [lo_cast k hk] at h; exact h
end Go.Proofs.Ytbkhmeongekdiaa
namespace Go.Proofs.Ytbkhmeongekdiaa
open Go.RowKit
set_option linter.unusedVariables false
theorem wdiv_zero (a : Int) (w : World) :
    Calls Try.prog 65 #[.int .u32 a, .int .u32 0] w fun e w' => e = .returned (.tuple #[.int .u32 0, .int .u32 0, .iface 64 (.int .i64 22)]) ∧ w = w' := by
  go_enter Try.func65, Try.ntmps65
  go_wp2
  go_ret3
  exact ⟨rfl, rfl⟩
theorem quo_signs (x y : Int) (hy : y ≠ 0) :
    (0 ≤ x → 0 < y → x.tdiv y = x / y ∧ x.tmod y = x % y) ∧ (0 ≤ x → y < 0 → x.tdiv y = -(x / -y) ∧ x.tmod y = x % -y) ∧
    (x < 0 → 0 < y → x.tdiv y = -(-x / y) ∧ x.tmod y = -(-x % y)) ∧ (x < 0 → y < 0 → x.tdiv y = -x / -y ∧ x.tmod y = -(-x % -y)) := by
  refine ⟨fun h g => ⟨Int.tdiv_eq_ediv_of_nonneg h, Int.tmod_eq_emod_of_nonneg h⟩, fun h g => ⟨?_, ?_⟩, fun h g => ⟨?_, ?_⟩, fun h g => ⟨?_, ?_⟩⟩
  · rw [← Int.tdiv_eq_ediv_of_nonneg h, Int.tdiv_neg, Int.neg_neg]
  · rw [← Int.tmod_eq_emod_of_nonneg h, Int.tmod_neg]
  · rw [← Int.tdiv_eq_ediv_of_nonneg (show 0 ≤ -x by omega), Int.neg_tdiv, Int.neg_neg]
  · rw [← Int.tmod_eq_emod_of_nonneg (show 0 ≤ -x by omega), Int.neg_tmod, Int.neg_neg]
  · rw [← Int.tdiv_eq_ediv_of_nonneg (show 0 ≤ -x by omega), Int.tdiv_neg, Int.neg_tdiv, Int.neg_neg]
  · rw [← Int.tmod_eq_emod_of_nonneg (show 0 ≤ -x by omega), Int.tmod_neg, Int.neg_tmod, Int.neg_neg]
theorem quo_bd (x y : Int) (hx : 0 ≤ x) (hx' : x ≤ 2147483648) (hy : 1 ≤ y) : 0 ≤ x / y ∧ x / y ≤ 2147483648 ∧ 0 ≤ x % y ∧ x % y ≤ 2147483648 := by
  have h1 := Int.ediv_nonneg hx (show 0 ≤ y by omega)
  have h2 := Int.ediv_le_self y hx
  have h3 := Int.emod_nonneg x (show y ≠ 0 by omega)
  have h4 := Int.mul_ediv_add_emod x y
  have h5 := Int.mul_nonneg (show 0 ≤ y by omega) h1
  omega
end Go.Proofs.Ytbkhmeongekdiaa
namespace Go.Proofs.Ytbkhmeongekdiaa
open Go.RowKit
set_option linter.unusedVariables false
theorem or4 (b0 b1 b2 b3 : Int) (h0 : 0 ≤ b0) (h0' : b0 ≤ 255) (h1 : 0 ≤ b1) (h1' : b1 ≤ 255) (h2 : 0 ≤ b2) (h2' : b2 ≤ 255) (h3 : 0 ≤ b3) (h3' : b3 ≤ 255) :
    bits .or .u32 (bits .or .u32 (bits .or .u32 (bits .or .u32 0 b0) (b1 * 256)) (b2 * 65536)) (b3 * 16777216) = b0 + 256 * b1 + 65536 * b2 + 16777216 * b3 := by
  have e8 : (256 : Int) = pw 8 := by decide +kernel
  have e16 : (65536 : Int) = pw 16 := by decide +kernel
  have e24 : (16777216 : Int) = pw 24 := by decide +kernel
  have f0 : bits .or .u32 0 b0 = b0 := by
    have h := or_up 0 b0 0 (by omega) (by rw [pw_zero]; omega) h0 (by rw [pw_zero]; omega)
    rw [pw_zero] at h; simpa using h
  have f1 : bits .or .u32 b0 (b1 * 256) = b0 + b1 * 256 := by rw [e8]; exact or_up _ _ _ h0 (by rw [← e8]; omega) h1 (by rw [← e8]; omega)
  have f2 : bits .or .u32 (b0 + b1 * 256) (b2 * 65536) = b0 + b1 * 256 + b2 * 65536 := by rw [e16]; exact or_up _ _ _ (by omega) (by rw [← e16]; omega) h2 (by rw [← e16]; omega)
  have f3 : bits .or .u32 (b0 + b1 * 256 + b2 * 65536) (b3 * 16777216) = b0 + b1 * 256 + b2 * 65536 + b3 * 16777216 := by rw [e24]; exact or_up _ _ _ (by omega) (by rw [← e24]; omega) h3 (by rw [← e24]; omega)
  rw [f0, f1, f2, f3]; omega
end Go.Proofs.Ytbkhmeongekdiaa
namespace Go.Proofs.Ytbkhmeongekdiaa
open Go.RowKit
set_option linter.unusedVariables false
theorem ret_iv {k : IntKind} {a b : Int} {v : Value} (h : a = b) : Ending.returned (.tuple #[.int k a, v]) = .returned (.tuple #[.int k b, v]) := by rw [h]
/-- a right size -/
def okSize (n : Int) : Bool := n == 1 || n == 2 || n == 4
/-- the error of it -/
def erOf : Bool → Value
  | true => .nilIface
  | false => .iface 64 (.int .i64 22)
/-- the document's number of it -/
def ecOf : Bool → Int
  | true => 0
  | false => 22
/-- the number of some bytes -/
def ldv (n : Nat) (z : List Int) : Int := if n = 1 then z.getD 0 0 else if n = 2 then z.getD 0 0 + 256 * z.getD 1 0 else if n = 4 then z.getD 0 0 + 256 * z.getD 1 0 + 65536 * z.getD 2 0 + 16777216 * z.getD 3 0 else 0
theorem or2 (b0 b1 : Int) (h0 : 0 ≤ b0) (h0' : b0 ≤ 255) (h1 : 0 ≤ b1) (h1' : b1 ≤ 255) :
    bits .or .u32 (bits .or .u32 0 b0) (b1 * 256) = b0 + 256 * b1 ∧ bits .or .u32 0 b0 = b0 := by
  have h := or4 b0 b1 0 0 h0 h0' h1 h1' (by omega) (by omega) (by omega) (by omega)
  have e8 : (256 : Int) = pw 8 := by decide +kernel
  have f0 : bits .or .u32 0 b0 = b0 := by
    have h := or_up 0 b0 0 (by omega) (by rw [pw_zero]; omega) h0 (by rw [pw_zero]; omega)
    rw [pw_zero] at h; simpa using h
  have f1 : bits .or .u32 b0 (b1 * 256) = b0 + b1 * 256 := by rw [e8]; exact or_up _ _ _ h0 (by rw [← e8]; omega) h1 (by rw [← e8]; omega)
  refine ⟨by rw [f0, f1]; omega, f0⟩
theorem rload_no (a : Option Addr) (n cap : Nat) (w : World) (hn : n ≤ maxLen) (h : okSize n = false) :
    Calls Try.prog 8 #[.slice a n cap] w fun e w' => e = .returned (.tuple #[.int .u32 0, .int .i64 22]) ∧ w = w' := by
  unfold maxLen at hn
  have h' : ((n : Int) == 1) = false ∧ ((n : Int) == 2) = false ∧ ((n : Int) == 4) = false := by
    unfold okSize at h; simp only [Bool.or_eq_false_iff] at h; exact ⟨h.1.1, h.1.2, h.2⟩
  obtain ⟨e1, e2, e4⟩ := h'
  have f1 : ((n : Int) != 1) = true := by simpa using e1
  have f2 : ((n : Int) != 2) = true := by simpa using e2
  have f4 : ((n : Int) != 4) = true := by simpa using e4
  clear h
  go_enter Try.func8, Try.ntmps8
  go_wp2
  go_ret2
  exact ⟨rfl, rfl⟩
theorem rload_1 (b0 : Int) (a : Addr) (cap : Nat) (w : World) (h0 : 0 ≤ b0) (h0' : b0 ≤ 255) (c0 : w.cell? a = some (.int .u8 b0)) :
    Calls Try.prog 8 #[.slice (some a) 1 cap] w fun e w' => e = .returned (.tuple #[.int .u32 b0, .int .i64 0]) ∧ w = w' := by
  go_enter Try.func8, Try.ntmps8
  go_wp2
  go_rounds 2
  go_ret2
  exact ⟨rfl, rfl⟩
theorem rload_2 (b0 b1 : Int) (a : Addr) (cap : Nat) (w : World) (h0 : 0 ≤ b0) (h0' : b0 ≤ 255) (h1 : 0 ≤ b1) (h1' : b1 ≤ 255) (c0 : w.cell? a = some (.int .u8 b0)) (c1 : w.cell? ⟨a.block, a.off + 1, none⟩ = some (.int .u8 b1)) :
    Calls Try.prog 8 #[.slice (some a) 2 cap] w fun e w' => e = .returned (.tuple #[.int .u32 (b0 + 256 * b1), .int .i64 0]) ∧ w = w' := by
  go_enter Try.func8, Try.ntmps8
  go_wp2
  go_rounds 3
  go_ret2
  exact ⟨ret_iv (by omega), rfl⟩
theorem rload_4 (b0 b1 b2 b3 : Int) (a : Addr) (cap : Nat) (w : World) (h0 : 0 ≤ b0) (h0' : b0 ≤ 255) (h1 : 0 ≤ b1) (h1' : b1 ≤ 255) (h2 : 0 ≤ b2) (h2' : b2 ≤ 255) (h3 : 0 ≤ b3) (h3' : b3 ≤ 255)
    (c0 : w.cell? a = some (.int .u8 b0)) (c1 : w.cell? ⟨a.block, a.off + 1, none⟩ = some (.int .u8 b1)) (c2 : w.cell? ⟨a.block, a.off + 2, none⟩ = some (.int .u8 b2)) (c3 : w.cell? ⟨a.block, a.off + 3, none⟩ = some (.int .u8 b3)) :
    Calls Try.prog 8 #[.slice (some a) 4 cap] w fun e w' => e = .returned (.tuple #[.int .u32 (b0 + 256 * b1 + 65536 * b2 + 16777216 * b3), .int .i64 0]) ∧ w = w' := by
  go_enter Try.func8, Try.ntmps8
  go_wp2
  go_rounds 5
  go_ret2
  exact ⟨ret_iv (by omega), rfl⟩
end Go.Proofs.Ytbkhmeongekdiaa
