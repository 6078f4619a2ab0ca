/- Plain facts on binary64 numbers given by their bits, of no program: rounding, what bits stand for, what the document's own rounding does. No conditions but those that each lemma names. -/
import Ieee.Arith
import Derived.Test.YtbkhmeongekdiaaNum
import Derived.RowKit
import Derived.IntWalk
import Derived.WalkKit
import Derived.ProofKit
import Derived.OpenShut
import Derived.Handy
import Derived.Outline
import Derived.WalkLawsBesides
import Derived.WalkSpells
import Derived.Lib.Hide
import Derived.Deep.Draws
import Derived.Laws.BitsAllLaws
import Derived.Below
import Derived.RowKit3
import Derived.Laws.Externs
import Derived.Laws.FloatArith
import Derived.Laws.NewFold
import Derived.LoopTactic
import Derived.Deep.LoopGhost
import Derived.Deep.QuietTactic
import Derived.BigQuiet
import Derived.RegionTactic
import Derived.Deep.DeepCutAuto
import Derived.Deep.CutBlock
namespace Go.Proofs.Ytbkhmeongekdiaa
set_option linter.unusedVariables false
theorem ite_iff {a b : Prop} [Decidable a] [Decidable b] (h : a ↔ b) (x y : Nat) : (if a then x else y) = (if b then x else y) := by
  by_cases c : a
  · rw [if_pos c, if_pos (h.1 c)]
  · rw [if_neg c, if_neg (fun k => c (h.2 k))]
theorem log2_of {n k : Nat} (h1 : 2^k ≤ n) (h2 : n < 2^(k+1)) : n.log2 = k := by
  have h0 : n ≠ 0 := by have := Nat.two_pow_pos k; omega
  exact (Nat.log2_eq_iff h0).2 ⟨h1, h2⟩
theorem log2_scale (n j : Nat) (h : 0 < n) : (n * 2^j).log2 = n.log2 + j := by
  have a1 := Nat.log2_self_le (n := n) (by omega)
  have a2 : n < 2 ^ (n.log2 + 1) := Nat.lt_log2_self
  apply log2_of
  · rw [Nat.pow_add]; exact Nat.mul_le_mul_right _ a1
  · rw [show n.log2 + j + 1 = (n.log2 + 1) + j from by omega, Nat.pow_add]; exact Nat.mul_lt_mul_of_pos_right a2 (Nat.two_pow_pos j)
theorem log2_div (n s : Nat) (h : 0 < n / 2^s) : (n / 2^s).log2 + s = n.log2 := by
  have hn : n ≠ 0 := by rintro rfl; simp at h
  have hs := Nat.two_pow_pos s
  have a1 := Nat.log2_self_le (n := n / 2^s) (by omega)
  have a2 : n / 2^s < 2 ^ ((n/2^s).log2 + 1) := Nat.lt_log2_self
  symm; apply log2_of
  · rw [Nat.pow_add]; exact (Nat.le_div_iff_mul_le hs).1 a1
  · rw [show (n / 2^s).log2 + s + 1 = ((n/2^s).log2 + 1) + s from by omega, Nat.pow_add]; exact (Nat.div_lt_iff_lt_mul hs).1 a2
def rn (n d : Nat) : Nat := n / 2^d + (if 2^d < 2*(n % 2^d) ∨ (2^d = 2*(n % 2^d) ∧ n/2^d % 2 = 1) then 1 else 0)

theorem rn_small (n d : Nat) (h : 2 * n < 2 ^ d) : rn n d = 0 := by
  unfold rn
  rw [Nat.div_eq_of_lt (by omega), Nat.mod_eq_of_lt (by omega), if_neg (by omega)]

theorem cut_rn (neg : Bool) (n d : Nat) : Ieee.Toward.even.cut neg n d = rn n d := by
  have key : ∀ g, Ieee.Toward.even.cut neg n d = (if g = min d (n.log2+2) then rn n g else Ieee.Toward.even.cut neg n d) := by
    intro g
    split
    · subst g
      unfold Ieee.Toward.cut rn
      simp only [Nat.one_shiftLeft]
      congr 1
      generalize 2 ^ min d (n.log2+2) = G
      by_cases h1 : G < 2 * (n % G)
      · simp [h1]
      · by_cases h2 : G = 2 * (n % G)
        · by_cases h3 : n / G % 2 = 1
          · rw [if_pos (Or.inr ⟨h2, h3⟩)]; simp [h1, h3]; omega
          · rw [if_neg (by rintro (h | h); exact h1 h; exact h3 h.2)]; simp [h1, h3]
        · rw [if_neg (by rintro (h | h); exact h1 h; exact h2 h.1)]
          simp [h1, h2]
    · rfl
  rw [key (min d (n.log2+2)), if_pos rfl]
  by_cases h : d ≤ n.log2 + 2
  · rw [Nat.min_eq_left h]
  · rw [Nat.min_eq_right (by omega)]
    have hl : n < 2 ^ (n.log2 + 1) := Nat.lt_log2_self
    have h2 : 2 ^ (n.log2 + 2) = 2 * 2 ^ (n.log2 + 1) := by rw [Nat.pow_succ]; omega
    rw [rn_small n (n.log2+2) (by omega), rn_small n d]
    have h3 : 2 ^ (n.log2 + 2) ≤ 2 ^ d := Nat.pow_le_pow_right (by decide) (by omega)
    omega

/-- n at place p, rounded as a binary64 number's rung -/
def D : Ieee.Format := Ieee.double
theorem D_def : D = Ieee.double := rfl
theorem sw : Ieee.double.signWeight = 2^63 := by decide
theorem bin : Ieee.double.binade = 2^52 := by decide
theorem infr : Ieee.double.infRung = 2047 * 2^52 := by decide
theorem leastp : Ieee.double.leastPlace = -1074 := by decide

/-- the last place kept -/
def so_lst (n : Nat) (p : Int) : Int := max (p + n.log2 - 52) (-1074)
/-- the rung -/
def rung (n : Nat) (p : Int) : Nat :=
  min ((so_lst n p + 1074).toNat * 2^52 + rn (n * 2 ^ (p - so_lst n p).toNat) (so_lst n p - p).toNat) (2047*2^52)
def so_wd (neg : Bool) (r : Nat) : Nat := if neg then 2^63 + r else r
theorem nearest_eq (neg : Bool) (n : Nat) (p : Int) : Ieee.double.nearest neg n p = so_wd neg (if n = 0 then 0 else rung n p) := by
  unfold Ieee.Format.nearest
  split
  · unfold Ieee.Format.word so_wd; rw [sw]
  · simp only [Ieee.Format.word, so_wd, sw, bin, infr, leastp, cut_rn, Nat.shiftLeft_eq]
    rfl
/-- n times 2^k, rounded to a whole number -/
def rq (n : Nat) (k : Int) : Nat := rn (n * 2 ^ k.toNat) (-k).toNat
theorem rung_rq (n : Nat) (p : Int) : rung n p = min ((so_lst n p + 1074).toNat * 2^52 + rq n (p - so_lst n p)) (2047*2^52) := by
  unfold rung rq; rw [Int.neg_sub]
theorem rn_zero (n : Nat) : rn n 0 = n := by
  unfold rn; simp [Nat.mod_one]
theorem rn_scale (n d j : Nat) : rn (n * 2^j) (d + j) = rn n d := by
  unfold rn
  have hj : 0 < 2^j := Nat.two_pow_pos j
  rw [Nat.pow_add, Nat.mul_div_mul_right _ _ hj, Nat.mul_mod_mul_right]
  have e1 : (2^d * 2^j < 2 * (n % 2^d * 2^j)) = (2^d < 2 * (n % 2^d)) := by
    rw [← Nat.mul_assoc, Nat.mul_lt_mul_right hj]
  have e2 : (2^d * 2^j = 2 * (n % 2^d * 2^j)) = (2^d = 2 * (n % 2^d)) := by
    rw [← Nat.mul_assoc, Nat.mul_right_cancel_iff hj]
  simp only [e1, e2]
theorem rq_nonneg (n : Nat) (k : Int) (h : 0 ≤ k) : rq n k = n * 2 ^ k.toNat := by
  unfold rq; rw [show (-k).toNat = 0 from by omega, rn_zero]
theorem rq_neg (n : Nat) (k : Int) (h : k ≤ 0) : rq n k = rn n (-k).toNat := by
  unfold rq; rw [show k.toNat = 0 from by omega]; simp
theorem rq_scale (n j : Nat) (k : Int) : rq (n * 2^j) (k - j) = rq n k := by
  by_cases h : (j : Int) ≤ k
  · rw [rq_nonneg _ _ (by omega), rq_nonneg _ _ (by omega), Nat.mul_assoc, ← Nat.pow_add]
    congr 2; omega
  · by_cases h0 : 0 ≤ k
    · rw [rq_neg _ _ (by omega), rq_nonneg _ _ h0]
      have e := rn_scale (n * 2 ^ k.toNat) 0 (-(k - j)).toNat
      rw [rn_zero, Nat.zero_add] at e
      rw [← e, Nat.mul_assoc, ← Nat.pow_add]
      congr 3; omega
    · rw [rq_neg _ _ (by omega), rq_neg _ _ (by omega)]
      rw [← rn_scale n _ j]
      congr 1; omega
theorem lst_scale (n j : Nat) (p : Int) (h : 0 < n) : so_lst (n * 2^j) (p - j) = so_lst n p := by
  unfold so_lst
  rw [log2_scale n j h]
  congr 1; omega
theorem rung_scale (n j : Nat) (p : Int) (h : 0 < n) : rung (n * 2^j) (p - j) = rung n p := by
  rw [rung_rq, rung_rq, lst_scale n j p h, show p - (j : Int) - so_lst n p = (p - so_lst n p) - j from by omega, rq_scale]
/-- so_one bit more for what is left over -/
def sticky (n s : Nat) : Nat := 2 * (n / 2^s) + (if n % 2^s = 0 then 0 else 1)
theorem rn_sticky (n s d : Nat) (h : s + 1 ≤ d) : rn n d = rn (sticky n s) (d - s + 1) := by
  obtain ⟨e, rfl⟩ : ∃ e, d = s + (e + 1) := ⟨d - s - 1, by omega⟩
  rw [show s + (e + 1) - s + 1 = e + 2 from by omega]
  unfold rn sticky
  generalize hq : n / 2^s = q
  generalize hr : n % 2^s = r
  have hs : 0 < 2^s := Nat.two_pow_pos s
  have hrl : r < 2^s := by rw [← hr]; exact Nat.mod_lt _ hs
  have hn : n = q * 2^s + r := by rw [← hq, ← hr, Nat.mul_comm]; exact (Nat.div_add_mod n (2^s)).symm
  have d1 : n / 2^(s + (e+1)) = q / 2^(e+1) := by rw [Nat.pow_add, ← Nat.div_div_eq_div_mul, hq]
  have m1 : n % 2^(s + (e+1)) = 2^s * (q % 2^(e+1)) + r := by
    rw [Nat.pow_add, Nat.mod_mul, hq, hr]; omega
  generalize ht : (if r = 0 then 0 else 1) = t
  have htl : t ≤ 1 := by rw [← ht]; split <;> omega
  have ht0 : t = 0 ↔ r = 0 := by rw [← ht]; split <;> omega
  have d2 : (2 * q + t) / 2^(e+2) = q / 2^(e+1) := by
    rw [show e + 2 = 1 + (e+1) from by omega, Nat.pow_add, ← Nat.div_div_eq_div_mul]
    congr 1; omega
  have m2 : (2 * q + t) % 2^(e+2) = 2 * (q % 2^(e+1)) + t := by
    rw [show e + 2 = 1 + (e+1) from by omega, Nat.pow_add, Nat.mod_mul, show (2*q+t) % 2^1 = t from by omega, show (2 * q + t) / 2^1 = q from by omega]; omega
  rw [d1, m1, d2, m2]
  generalize q % 2^(e+1) = u
  generalize q / 2^(e+1) = v
  have p1 : 2^(s+(e+1)) = 2^s * (2 * 2^e) := by rw [Nat.pow_add, Nat.pow_succ, Nat.mul_comm (2^e)]
  have p2 : 2^(e+2) = 4 * 2^e := by rw [Nat.pow_add]; omega
  rw [p1, p2]
  generalize 2^e = H
  generalize 2^s = S at *
  have c1 : (S * (2 * H) < 2 * (S * u + r)) ↔ (4 * H < 2 * (2 * u + t)) := by
    constructor
    · intro h
      rcases Nat.lt_trichotomy H u with c | c | c
      · omega
      · subst c
        have : S * (2 * H) = 2 * (S * H) := by rw [Nat.mul_left_comm]
        omega
      · exfalso
        have h1 : S * (u + 1) ≤ S * H := Nat.mul_le_mul_left _ c
        have : S * (2 * H) = 2 * (S * H) := by rw [Nat.mul_left_comm]
        rw [Nat.mul_add] at h1
        omega
    · intro h
      have : S * (2 * H) = 2 * (S * H) := by rw [Nat.mul_left_comm]
      rcases Nat.lt_trichotomy H u with c | c | c
      · have h1 : S * (H + 1) ≤ S * u := Nat.mul_le_mul_left _ c
        rw [Nat.mul_add] at h1; omega
      · subst c; omega
      · omega
  have c2 : (S * (2 * H) = 2 * (S * u + r)) ↔ (4 * H = 2 * (2 * u + t)) := by
    have e3 : S * (2 * H) = 2 * (S * H) := by rw [Nat.mul_left_comm]
    constructor
    · intro h
      rcases Nat.lt_trichotomy H u with c | c | c
      · exfalso
        have h1 : S * (H + 1) ≤ S * u := Nat.mul_le_mul_left _ c
        rw [Nat.mul_add] at h1; omega
      · subst c; omega
      · exfalso
        have h1 : S * (u + 1) ≤ S * H := Nat.mul_le_mul_left _ c
        rw [Nat.mul_add] at h1; omega
    · intro h
      have : H = u := by omega
      subst this; omega
  rw [ite_iff (or_congr c1 (and_congr c2 Iff.rfl))]
theorem sticky_log (n s : Nat) (h : 0 < n / 2^s) : (sticky n s).log2 + s = n.log2 + 1 := by
  have hn : n ≠ 0 := by rintro rfl; simp at h
  have e := log2_div n s h
  have e2 : (sticky n s).log2 = (n / 2^s).log2 + 1 := by
    unfold sticky
    rw [Nat.log2_eq_iff (by omega)]
    have a1 := Nat.log2_self_le (n := n / 2^s) (by omega)
    have a2 : n / 2^s < 2 ^ ((n / 2^s).log2 + 1) := Nat.lt_log2_self
    rw [Nat.pow_succ, Nat.pow_succ] at *
    split <;> omega
  omega
theorem rung_sticky (n s : Nat) (p : Int) (h : 2^53 ≤ n / 2^s) : rung n p = rung (sticky n s) (p + s - 1) := by
  have hl := sticky_log n s (by omega)
  have e : so_lst (sticky n s) (p + s - 1) = so_lst n p := by unfold so_lst; congr 1; omega
  have hd : s + 53 ≤ n.log2 := by
    have h1 : 2^53 * 2^s ≤ n := (Nat.le_div_iff_mul_le (Nat.two_pow_pos s)).1 h
    rw [← Nat.pow_add] at h1
    have := (Nat.le_log2 (n := n) (k := 53 + s) (by rintro rfl; simp at h)).2 h1
    omega
  have hL : p + n.log2 - 52 ≤ so_lst n p := by unfold so_lst; omega
  rw [rung_rq, rung_rq, e, rq_neg _ _ (by omega), rq_neg _ _ (by omega), rn_sticky n s _ (by omega)]
  congr 4; omega
/-! ### bits and what they stand for -/
def ex (a : Nat) : Nat := a / 4503599627370496 % 2048
def fr (a : Nat) : Nat := a % 4503599627370496
def sgn (a : Nat) : Bool := decide (9223372036854775808 ≤ a)
def cls (a : Nat) : Int := if ex a = 2047 then (if fr a = 0 then 3 else 4) else if ex a = 0 then (if fr a = 0 then 0 else 1) else 2
def mg (a : Nat) : Nat := if ex a = 0 then fr a else fr a + 4503599627370496
def pl (a : Nat) : Int := if ex a = 0 then -1074 else (ex a : Int) - 1075
def U (a : Nat) : Prop := a ≤ 18446744073709551615
def fin (a : Nat) : Bool := decide (ex a ≠ 2047)
theorem split_u (a : Nat) (h : U a) : a = (if sgn a then 9223372036854775808 else 0) + ex a * 4503599627370496 + fr a := by
  unfold U at h; unfold sgn ex fr
  by_cases c : 9223372036854775808 ≤ a
  · simp only [c, decide_true, if_true]; omega
  · simp only [c, decide_false]; simp; omega
theorem ex_lt (a : Nat) : ex a < 2048 := by unfold ex; omega
theorem fr_lt (a : Nat) : fr a < 4503599627370496 := by unfold fr; omega
theorem read_eq (a : Nat) (h : U a) : Ieee.double.read a =
    if fin a then .number (sgn a) (mg a) (pl a) else if fr a = 0 then .infinity (sgn a) else .nan (sgn a) (fr a) := by
  unfold Ieee.Format.read
  simp only [sw, bin, infr, leastp]
  have hs : (a / 2^63 % 2 == 1) = sgn a := by
    unfold sgn; unfold U at h
    rw [Bool.eq_iff_iff]; simp; omega
  rw [hs]
  have e1 : a % 2^63 = ex a * 4503599627370496 + fr a := by unfold ex fr; omega
  rw [e1]
  have h1 := ex_lt a; have h2 := fr_lt a
  unfold fin mg pl
  generalize ex a = x at *
  generalize fr a = y at *
  by_cases c0 : x = 0
  · subst c0; simp; omega
  · rw [if_neg (by omega)]
    by_cases c1 : x = 2047
    · subst c1
      rw [if_neg (by omega)]
      by_cases c2 : y = 0
      · subst c2; simp
      · rw [if_neg (by omega)]; simp [c2]
    · rw [if_pos (by omega)]
      simp only [c0, c1, ne_eq, not_false_eq_true, decide_true, if_true, if_false]
      congr 1
      · omega
      · omega
/-- the nearest bits -/
def rnd (neg : Bool) (m : Nat) (p : Int) : Nat := so_wd neg (if m = 0 then 0 else rung m p)
theorem nearest_rnd (neg : Bool) (n : Nat) (p : Int) : Ieee.double.nearest neg n p = rnd neg n p := nearest_eq neg n p
theorem rung_le (n : Nat) (p : Int) : rung n p ≤ 2047*2^52 := by unfold rung; exact Nat.min_le_right _ _
theorem rnd_lt (neg : Bool) (m : Nat) (p : Int) : rnd neg m p ≤ 18442240474082181120 := by
  unfold rnd so_wd
  have := rung_le m p
  split <;> split <;> omega
theorem rnd_u (neg : Bool) (m : Nat) (p : Int) : U (rnd neg m p) := by
  unfold U; have := rnd_lt neg m p; omega
theorem wd_cls (neg : Bool) (r : Nat) (h : r ≤ 2047*2^52) : ex (so_wd neg r) = r / 4503599627370496 ∧ fr (so_wd neg r) = r % 4503599627370496 ∧ sgn (so_wd neg r) = neg := by
  unfold ex fr sgn so_wd
  cases neg
  · simp; omega
  · simp; omega
theorem mg_lt (a : Nat) : mg a < 9007199254740992 := by unfold mg; have := fr_lt a; split <;> omega
theorem pl_bd (a : Nat) (h : fin a = true) : -1074 ≤ pl a ∧ pl a ≤ 971 := by
  unfold pl; unfold fin at h; have := ex_lt a; simp at h; split <;> omega
theorem rnd_read (a : Nat) (h : U a) (hf : fin a = true) : rnd (sgn a) (mg a) (pl a) = a := by
  have e := split_u a h
  have h1 := ex_lt a; have h2 := fr_lt a
  have hw : ∀ r, so_wd (sgn a) r = (if sgn a then 9223372036854775808 else 0) + r := by
    intro r; unfold so_wd; cases sgn a <;> simp
  unfold rnd
  rw [hw]
  conv => rhs; rw [e]
  rw [Nat.add_assoc]
  congr 1
  unfold mg pl; unfold fin at hf; simp at hf
  generalize ex a = x at *
  generalize fr a = y at *
  by_cases c0 : x = 0
  · subst c0; simp
    by_cases cy : y = 0
    · simp [cy]
    · rw [if_neg cy, rung_rq]
      have hl : y.log2 < 52 := (Nat.log2_lt cy).2 (by omega)
      have e1 : so_lst y (-1074) = -1074 := by unfold so_lst; omega
      rw [e1]; simp
      rw [rq_nonneg _ _ (by omega)]; simp; omega
  · simp only [c0, if_false]
    rw [if_neg (by omega), rung_rq]
    have hl : (y + 4503599627370496).log2 = 52 := log2_of (by omega) (by omega)
    have e1 : so_lst (y + 4503599627370496) ((x : Int) - 1075) = (x : Int) - 1075 := by unfold so_lst; rw [hl]; omega
    rw [e1, Int.sub_self, rq_nonneg _ _ (by omega)]
    simp
    rw [show ((x : Int) - 1075 + 1074).toNat = x - 1 from by omega]
    omega
theorem rnd_scale (neg : Bool) (n j : Nat) (p : Int) : rnd neg (n * 2^j) (p - j) = rnd neg n p := by
  unfold rnd
  by_cases h : n = 0
  · subst h; simp
  · have := Nat.two_pow_pos j
    rw [if_neg h, if_neg (by rw [Nat.mul_eq_zero]; omega), rung_scale n j p (by omega)]
theorem rnd_sticky (neg : Bool) (n s : Nat) (p : Int) (h : 2^53 ≤ n / 2^s) : rnd neg n p = rnd neg (sticky n s) (p + s - 1) := by
  have h0 : n ≠ 0 := by rintro rfl; simp at h
  have h1 : sticky n s ≠ 0 := by unfold sticky; omega
  unfold rnd; rw [if_neg h0, if_neg h1, rung_sticky n s p h]
/-! ### what the document's rounding does -/
def bn (b : Bool) : Nat := if b then 1 else 0
theorem bn_le (b : Bool) : bn b ≤ 1 := by cases b <;> decide
/-- M and whether something more is behind it, as so_one number of which the last two bits are new -/
def ww (M : Nat) (more : Bool) : Nat := 4 * M + bn more
def so_sm (W j : Nat) : Nat := W / 2^(j+2)
def sh (W j : Nat) : Bool := W / 2^(j+1) % 2 == 1
def sr (W j : Nat) : Bool := !(W % 2^(j+1) == 0)
theorem sm_zero (M : Nat) (more : Bool) : so_sm (ww M more) 0 = M := by unfold so_sm ww; have := bn_le more; omega
theorem sh_zero (M : Nat) (more : Bool) : sh (ww M more) 0 = false := by unfold sh ww; have := bn_le more; simp; omega
theorem sr_zero (M : Nat) (more : Bool) : sr (ww M more) 0 = more := by
  unfold sr ww bn; cases more
  · simp; omega
  · simp; omega
theorem sm_succ (W j : Nat) : so_sm W j / 2 = so_sm W (j+1) := by
  unfold so_sm; rw [Nat.div_div_eq_div_mul]; congr 1
theorem sh_succ (W j : Nat) : (so_sm W j % 2 == 1) = sh W (j+1) := rfl
theorem sr_succ (W j : Nat) : (sr W j || sh W j) = sr W (j+1) := by
  unfold sr sh
  rw [show j + 1 + 1 = (j+1) + 1 from rfl, Nat.pow_succ 2 (j+1), Nat.mod_mul]
  have h := Nat.mod_lt (W / 2^(j+1)) (show 0 < 2 by omega)
  have hp := Nat.two_pow_pos (j+1)
  generalize W / 2^(j+1) % 2 = b at *
  generalize W % 2^(j+1) = c at *
  generalize 2^(j+1) = P at *
  rcases (show b = 0 ∨ b = 1 by omega) with rfl | rfl
  · simp
  · simp; omega
/-- so many rounds of the first loop -/
def rJ (W : Nat) (E : Int) : Nat := (so_lst W (E-2) - E).toNat
/-- so many of the second so_one -/
def rI (W : Nat) (E : Int) : Nat := (E - so_lst W (E-2)).toNat
theorem lst_ge (W : Nat) (p : Int) : -1074 ≤ so_lst W p := by unfold so_lst; omega
theorem sm_ge (W j k : Nat) (hW : 0 < W) : 2^k ≤ so_sm W j ↔ k + j + 2 ≤ W.log2 := by
  unfold so_sm
  rw [Nat.le_div_iff_mul_le (Nat.two_pow_pos _), ← Nat.pow_add, ← Nat.le_log2 (by omega)]; rw [Nat.add_assoc]
/-- the first loop goes on just for so many rounds -/
theorem loop1_iff (W : Nat) (E : Int) (j : Nat) (hW : 0 < W) : (9007199254740992 ≤ so_sm W j ∨ E + j < -1074) ↔ j < rJ W E := by
  rw [show (9007199254740992 : Nat) = 2^53 from by decide, sm_ge W j 53 hW]
  unfold rJ so_lst; omega
theorem sm_some (W j : Nat) (hW : 0 < W) (h : so_sm W j = 0) (h' : sh W j = false) : sr W j = true := by
  unfold so_sm at h; unfold sh at h'; unfold sr
  simp at h' ⊢
  intro h0
  have e := Nat.div_add_mod W (2^(j+1))
  have e2 : W / 2^(j+2) = W / 2^(j+1) / 2 := by rw [Nat.div_div_eq_div_mul]; congr 1
  rw [h0] at e
  have : W / 2^(j+1) = 0 := by omega
  rw [this] at e; simp at e; omega
/-- where the first loop ends: either the number is whole or as small as may be -/
theorem end1 (W : Nat) (E : Int) (hW : 0 < W) (h : 0 < rJ W E) : 4503599627370496 ≤ so_sm W (rJ W E) ∨ E + rJ W E = -1074 := by
  rw [show (4503599627370496 : Nat) = 2^52 from by decide, sm_ge W _ 52 hW]
  unfold rJ so_lst at *; omega
theorem end1_place (W : Nat) (E : Int) (h : 0 < rJ W E) : E + rJ W E = so_lst W (E-2) := by unfold rJ at *; omega
theorem ww_log2 (M : Nat) (more : Bool) (hM : 0 < M) : (ww M more).log2 = M.log2 + 2 := by
  have a1 := Nat.log2_self_le (n := M) (by omega)
  have a2 : M < 2 ^ (M.log2 + 1) := Nat.lt_log2_self
  have := bn_le more
  unfold ww
  apply log2_of
  · rw [Nat.pow_add]; omega
  · rw [show M.log2 + 2 + 1 = (M.log2 + 1) + 2 from by omega, Nat.pow_add]; omega
/-- the second loop goes on just for so many rounds (nothing is behind the number then) -/
theorem loop2_iff (M : Nat) (more : Bool) (E : Int) (i : Nat) (hM : 0 < M) (hm : more = true → 4503599627370496 ≤ M) (_h0 : rJ (ww M more) E = 0) :
    ((M * 2^i < 4503599627370496 ∧ -1074 < E - i) ∧ more = false) ↔ i < rI (ww M more) E := by
  have hl := ww_log2 M more hM
  have e : M * 2^i < 4503599627370496 ↔ M.log2 + i < 52 := by
    rw [show (4503599627370496 : Nat) = 2^52 from by decide, ← log2_scale M i hM]
    rw [Nat.log2_lt]
    have := Nat.two_pow_pos i
    rw [Ne, Nat.mul_eq_zero]; omega
  rw [e]
  unfold rI rJ so_lst at *
  rw [hl] at _h0 ⊢
  cases more
  · simp; omega
  · have h2 := hm rfl
    have : 52 ≤ M.log2 := (Nat.le_log2 (by omega)).2 (by omega)
    simp; omega
/-- rounded up? -/
def inc (m : Nat) (half rest : Bool) : Bool := half && (rest || m % 2 == 1)
theorem rn_inc (W j : Nat) : rn W (j+2) = so_sm W j + bn (inc (so_sm W j) (sh W j) (sr W j)) := by
  have key : (2 ^ (j+2) < 2 * (W % 2 ^ (j+2)) ∨ 2 ^ (j+2) = 2 * (W % 2 ^ (j+2)) ∧ W / 2 ^ (j+2) % 2 = 1) ↔ inc (so_sm W j) (sh W j) (sr W j) = true := by
    unfold inc sr sh so_sm
    have hm : W % 2^(j+2) = W % 2^(j+1) + 2^(j+1) * (W / 2^(j+1) % 2) := by
      rw [show j + 2 = (j+1) + 1 from rfl, Nat.pow_succ 2 (j+1), Nat.mod_mul]
    have hp : 2^(j+2) = 2 * 2^(j+1) := by rw [Nat.pow_succ]; omega
    have hl := Nat.mod_lt W (Nat.two_pow_pos (j+1))
    have hb := Nat.mod_lt (W / 2^(j+1)) (show 0 < 2 by omega)
    rw [hm]
    generalize W / 2^(j+2) = v
    rw [hp]
    generalize W / 2^(j+1) % 2 = b at *
    generalize W % 2^(j+1) = c at *
    generalize 2^(j+1) = P at *
    rcases (show b = 0 ∨ b = 1 by omega) with rfl | rfl
    · simp; omega
    · simp; omega
  unfold rn
  rw [ite_iff key]; rfl
/-- how the bits are made of what was rounded -/
def pack (neg : Bool) (m : Nat) (E : Int) : Nat :=
  if m = 0 then so_wd neg 0 else if m < 4503599627370496 then so_wd neg m else if 2047 ≤ E + 1075 then so_wd neg 9218868437227405312 else so_wd neg ((E+1075).toNat * 4503599627370496 + m - 4503599627370496)
/-- carried over -/
def cm (m : Nat) : Nat := if m = 9007199254740992 then 4503599627370496 else m
def ce (m : Nat) (E : Int) : Int := if m = 9007199254740992 then E + 1 else E
theorem pack_eq (neg : Bool) (m : Nat) (E : Int) (h1 : m ≤ 9007199254740992) (hE : -1074 ≤ E) (h : m < 4503599627370496 → E = -1074) :
    pack neg (cm m) (ce m E) = so_wd neg (min ((E + 1074).toNat * 2^52 + m) (2047*2^52)) := by
  unfold pack cm ce
  by_cases c : m = 9007199254740992
  · rw [if_pos c, if_pos c, if_neg (by omega), if_neg (by omega)]
    split <;> exact congrArg (so_wd neg) (by omega)
  · rw [if_neg c, if_neg c]
    by_cases c0 : m = 0
    · have := h (by omega); rw [if_pos c0]; exact congrArg (so_wd neg) (by omega)
    · rw [if_neg c0]
      by_cases c1 : m < 4503599627370496
      · have := h c1; rw [if_pos c1]; exact congrArg (so_wd neg) (by omega)
      · rw [if_neg c1]; split <;> exact congrArg (so_wd neg) (by omega)
/-- what Round answers -/
def so_rd (neg : Bool) (M : Nat) (E : Int) (more : Bool) : Nat := rnd neg (ww M more) (E - 2)
theorem rd_zero (neg : Bool) (E : Int) : so_rd neg 0 E false = so_wd neg 0 := by
  unfold so_rd ww bn rnd; simp
theorem ww_pos (M : Nat) (more : Bool) (h : ww M more ≠ 0) (hm : more = true → 4503599627370496 ≤ M) : 0 < M := by
  unfold ww bn at h; cases more
  · simp at h; omega
  · have := hm rfl; omega
theorem rd_J (neg : Bool) (M : Nat) (E : Int) (more : Bool) (hM : 0 < M) (h : 0 < rJ (ww M more) E) :
    let j := rJ (ww M more) E
    let m := so_sm (ww M more) j + bn (inc (so_sm (ww M more) j) (sh (ww M more) j) (sr (ww M more) j))
    pack neg (cm m) (ce m (E + j)) = so_rd neg M E more := by
  intro j m
  have hW : 0 < ww M more := by unfold ww; omega
  have hp := end1_place (ww M more) E h
  have hlt : so_sm (ww M more) j < 9007199254740992 := by
    have := (not_congr (loop1_iff (ww M more) E j hW)).2 (Nat.lt_irrefl _)
    omega
  have hb := bn_le (inc (so_sm (ww M more) j) (sh (ww M more) j) (sr (ww M more) j))
  have hge := lst_ge (ww M more) (E-2)
  have he : 4503599627370496 ≤ so_sm (ww M more) j ∨ E + j = -1074 := end1 (ww M more) E hW h
  rw [pack_eq neg m (E + j) (by omega) (by omega) (by omega)]
  unfold so_rd rnd
  rw [if_neg (by omega), rung_rq, rq_neg _ _ (by omega), ← hp]
  rw [show (-(E - 2 - (E + (rJ (ww M more) E : Int)))).toNat = j + 2 from by omega, rn_inc]
theorem rd_I (neg : Bool) (M : Nat) (E : Int) (more : Bool) (hM : 0 < M) (hm : more = true → 4503599627370496 ≤ M) (h : rJ (ww M more) E = 0) :
    let i := rI (ww M more) E
    let m := M * 2^i
    pack neg (cm m) (ce m (E - i)) = so_rd neg M E more := by
  intro i m
  have hl := ww_log2 M more hM
  have hge := lst_ge (ww M more) (E-2)
  have hE : E - i = so_lst (ww M more) (E-2) := by unfold i rI; unfold rJ at h; omega
  have hn := (not_congr (loop2_iff M more E i hM hm h)).2 (Nat.lt_irrefl _)
  have hlt : m < 9007199254740992 := by
    have e : M * 2^i < 9007199254740992 ↔ M.log2 + i < 53 := by
      rw [show (9007199254740992 : Nat) = 2^53 from by decide, ← log2_scale M i hM]
      rw [Nat.log2_lt]
      have := Nat.two_pow_pos i
      rw [Ne, Nat.mul_eq_zero]; omega
    apply e.2
    unfold so_lst at hE hge; rw [hl] at hE; omega
  have hmore : more = true → 0 = i := by
    intro k; have h1 := not_congr (loop2_iff M more E 0 hM hm h)
    rw [k] at h1; simp at h1; unfold i; rw [k]; omega
  rw [pack_eq neg m (E - i) (by omega) (by omega) (by intro c; cases more with
    | false => simp at hn; omega
    | true => have h1 := hm rfl; have h2 := hmore rfl; unfold m at c; rw [← h2] at c; simp at c; omega)]
  unfold so_rd rnd
  rw [if_neg (by unfold ww; omega), rung_rq, ← hE]
  congr 3
  rw [show E - 2 - (E - (i : Int)) = (i : Int) - 2 from by omega]
  cases more with
  | false =>
    rw [show ww M false = M * 2^2 from by unfold ww bn; simp; omega]
    rw [show (i : Int) - 2 = (i : Int) - (2 : Nat) from rfl, rq_scale, rq_nonneg _ _ (by omega), Int.toNat_natCast]
  | true =>
    have h1 := hmore rfl
    rw [← h1]
    unfold m; rw [← h1]
    unfold ww bn; rw [rq_neg _ _ (by omega)]; unfold rn; simp; omega
/-! ### bits taken by masks -/
theorem and_fr (a : Nat) : a &&& 4503599627370495 = fr a := Nat.and_two_pow_sub_one_eq_mod a 52
theorem and_ex (a : Nat) : a &&& 9218868437227405312 = ex a * 4503599627370496 := by
  rw [show (9218868437227405312 : Nat) = (2^11 - 1) * 2^52 from by decide, show ex a * 4503599627370496 = a / 2^52 % 2^11 * 2^52 from rfl]
  apply Nat.eq_of_testBit_eq
  intro i
  rw [Nat.testBit_and, Nat.testBit_mul_two_pow, Nat.testBit_mul_two_pow, Nat.testBit_mod_two_pow, Nat.testBit_div_two_pow, Nat.testBit_two_pow_sub_one]
  by_cases h : 52 ≤ i
  · rw [show i - 52 + 52 = i from by omega]; simp [h, Bool.and_comm]
  · simp [h]
theorem and_sign (a : Nat) (h : U a) : a &&& 9223372036854775808 = if sgn a then 9223372036854775808 else 0 := by
  have e : a &&& 2^63 = a / 2^63 % 2 * 2^63 := by
    apply Nat.eq_of_testBit_eq
    intro i
    rw [Nat.testBit_and, Nat.testBit_mul_two_pow, show a / 2^63 % 2 = a / 2^63 % 2^1 from rfl, Nat.testBit_mod_two_pow, Nat.testBit_div_two_pow, Nat.testBit_two_pow]
    by_cases h : i = 63
    · subst h; simp
    · rcases Nat.lt_or_ge i 63 with c | c
      · rw [show decide (63 = i) = false from by simp; omega, show decide (i ≥ 63) = false from by simp; omega]; simp
      · rw [show decide (63 = i) = false from by simp; omega, show decide (i - 63 < 1) = false from by simp; omega]; simp
  rw [show (9223372036854775808 : Nat) = 2^63 from by decide, e]
  unfold sgn U at *
  by_cases c : 9223372036854775808 ≤ a
  · simp [c]; omega
  · simp [c]; omega
theorem or_sign (a : Nat) (h : a < 9223372036854775808) : a ||| 9223372036854775808 = a + 9223372036854775808 := by
  have := Nat.two_pow_add_eq_or_of_lt (i := 63) (b := a) h 1
  rw [Nat.or_comm]
  rw [show (9223372036854775808 : Nat) = 2^63 * 1 from by decide, ← this]; omega
theorem xor_all (a : Nat) (h : U a) : 18446744073709551615 ^^^ a = 18446744073709551615 - a := by
  unfold U at h
  rw [show (18446744073709551615 : Nat) - a = 2^64 - (a + 1) from by omega, show (18446744073709551615 : Nat) = 2^64 - 1 from by decide]
  apply Nat.eq_of_testBit_eq
  intro i
  rw [Nat.testBit_xor, Nat.testBit_two_pow_sub_one, Nat.testBit_two_pow_sub_succ (by omega)]
  by_cases c : i < 64
  · simp [c]
  · simp [c]
    exact Nat.testBit_lt_two_pow (Nat.lt_of_lt_of_le (show a < 2^64 by omega) (Nat.pow_le_pow_right (by decide) (by omega)))
/-! ### kinds and order -/
def key (a : Nat) : Nat := if sgn a then 18446744073709551615 - a else a + 9223372036854775808
def ncmp (a b : Nat) : Int := if a < b then -1 else if b < a then 1 else 0
def ord (a b : Nat) : Int := ncmp (key a) (key b)
def nn (a b : Nat) : Bool := cls a == 4 || cls b == 4
def zz (a b : Nat) : Bool := cls a == 0 && cls b == 0
def cmpv (a b : Nat) : Int := if nn a b then 2 else if zz a b then 0 else ord a b
def Emp : Nat := 9221120237041090560
def minv (a b : Nat) : Nat := if nn a b then Emp else if ord a b ≤ 0 then a else b
def maxv (a b : Nat) : Nat := if nn a b then Emp else if 0 ≤ ord a b then a else b
def flip (a : Nat) : Nat := if sgn a then a - 9223372036854775808 else a + 9223372036854775808
theorem key_u (a : Nat) (h : U a) : U (key a) := by
  unfold U key sgn at *; split
  · omega
  · rename_i c; simp at c; omega
theorem flip_u (a : Nat) (h : U a) : U (flip a) := by
  unfold U flip sgn at *; split
  · omega
  · rename_i c; simp at c; omega
theorem cls_cases (a : Nat) : cls a = 0 ∨ cls a = 1 ∨ cls a = 2 ∨ cls a = 3 ∨ cls a = 4 := by
  unfold cls
  by_cases c1 : ex a = 2047 <;> by_cases c2 : fr a = 0 <;> by_cases c3 : ex a = 0 <;> simp [c1, c2, c3]
theorem ord_cases (a b : Nat) : (ord a b = -1 ∧ key a < key b) ∨ (ord a b = 1 ∧ key b < key a) ∨ (ord a b = 0 ∧ key a = key b) := by
  unfold ord ncmp; split
  · left; exact ⟨rfl, by assumption⟩
  · split
    · right; left; exact ⟨rfl, by assumption⟩
    · right; right; exact ⟨rfl, by omega⟩
theorem wd_u (n : Bool) (m : Nat) (h : m < 9223372036854775808) : U (so_wd n m) := by unfold U so_wd; split <;> omega
/-! ### what the operations answer -/
def opv (o : Option Nat) : Nat := o.getD Emp
def pat (b : Nat) : Nat := if cls b = 4 then Emp else b
theorem cls_wd (neg : Bool) (r : Nat) (h : r ≤ 2047*2^52) : cls (so_wd neg r) ≠ 4 := by
  obtain ⟨h1, h2, h3⟩ := wd_cls neg r h
  unfold cls; rw [h1, h2]
  split
  · rename_i c; rw [if_pos (by omega)]; decide
  · split
    · split <;> decide
    · decide
def isNum (d : Ieee.Datum) : Prop := match d with | .nan .. => False | _ => True
theorem write_ok (d : Ieee.Datum) (h : isNum d) : cls (Ieee.double.write d) ≠ 4 := by
  cases d with
  | number s m p => show cls (Ieee.double.nearest s m p) ≠ 4; rw [nearest_rnd]; unfold rnd; exact cls_wd _ _ (by split; omega; exact rung_le _ _)
  | infinity s => show cls (Ieee.double.word s Ieee.double.infRung) ≠ 4; rw [infr, show Ieee.double.word s (2047*2^52) = so_wd s (2047*2^52) from by unfold Ieee.Format.word so_wd; rw [sw]]; exact cls_wd _ _ (by omega)
  | nan s t => exact h.elim
theorem sum_num (c d e : Ieee.Datum) (h : c.sum d = some e) : isNum e := by
  cases c <;> cases d <;> simp [Ieee.Datum.sum] at h
  · rw [← h]; trivial
  · rw [← h]; trivial
  · rw [← h]; trivial
  · rw [← h.2]; trivial
theorem product_num (c d e : Ieee.Datum) (h : c.product d = some e) : isNum e := by
  cases c <;> cases d <;> simp [Ieee.Datum.product] at h
  · rw [← h]; trivial
  · rw [← h.2]; trivial
  · rw [← h.2]; trivial
  · rw [← h]; trivial
theorem quotient_num (k : Nat) (c d e : Ieee.Datum) (h : c.quotient k d = some e) : isNum e := by
  cases c <;> cases d <;> simp [Ieee.Datum.quotient] at h
  · split at h
    · split at h
      · cases h
      · simp at h; rw [← h]; trivial
    · simp at h; rw [← h]; trivial
  · rw [← h]; trivial
  · rw [← h]; trivial
theorem root_num (k : Nat) (c e : Ieee.Datum) (h : c.root k = some e) : isNum e := by
  cases c <;> simp [Ieee.Datum.root] at h
  · split at h
    · simp at h; rw [← h]; trivial
    · split at h
      · cases h
      · simp at h; rw [← h]; trivial
  · rw [← h.2]; trivial
theorem map_ok {o : Option Ieee.Datum} {r : Nat} (ho : ∀ d, o = some d → isNum d) (h : o.map Ieee.double.write = some r) : cls r ≠ 4 := by
  cases o with
  | none => cases h
  | some d => cases h; exact write_ok d (ho d rfl)
theorem add_ok {a b r : Nat} (h : Ieee.double.add a b = some r) : cls r ≠ 4 := map_ok (fun d hd => sum_num _ _ d hd) h
theorem sub_ok {a b r : Nat} (h : Ieee.double.sub a b = some r) : cls r ≠ 4 := map_ok (fun d hd => sum_num _ _ d hd) h
theorem mul_ok {a b r : Nat} (h : Ieee.double.mul a b = some r) : cls r ≠ 4 := map_ok (fun d hd => product_num _ _ d hd) h
theorem div_ok {a b r : Nat} (h : Ieee.double.div a b = some r) : cls r ≠ 4 := map_ok (fun d hd => quotient_num _ _ _ d hd) h
theorem sqrt_ok {a r : Nat} (h : Ieee.double.sqrt a = some r) : cls r ≠ 4 := map_ok (fun d hd => root_num _ _ d hd) h
theorem u_of_lt {r : Nat} (h : r < 2 ^ Ieee.double.width) : U r := by
  have : Ieee.double.width = 64 := by decide
  rw [this] at h; unfold U; omega
theorem fin_cls (a : Nat) : fin a = true ↔ (cls a ≠ 3 ∧ cls a ≠ 4) := by
  unfold fin cls
  by_cases c1 : ex a = 2047 <;> by_cases c2 : fr a = 0 <;> by_cases c3 : ex a = 0 <;> simp [c1, c2, c3]
theorem cls_fin (a : Nat) : fin a = false ↔ (cls a = 3 ∨ cls a = 4) := by
  unfold fin cls
  by_cases c1 : ex a = 2047 <;> by_cases c2 : fr a = 0 <;> by_cases c3 : ex a = 0 <;> simp [c1, c2, c3]
theorem read_fin (a : Nat) (h : U a) (hf : fin a = true) : Ieee.double.read a = .number (sgn a) (mg a) (pl a) := by rw [read_eq a h, if_pos hf]
theorem cls4 (a : Nat) : cls a = 4 ↔ (ex a = 2047 ∧ fr a ≠ 0) := by
  unfold cls
  by_cases c1 : ex a = 2047 <;> by_cases c2 : fr a = 0 <;> by_cases c3 : ex a = 0 <;> simp [c1, c2, c3]
theorem cls3 (a : Nat) : cls a = 3 ↔ (ex a = 2047 ∧ fr a = 0) := by
  unfold cls
  by_cases c1 : ex a = 2047 <;> by_cases c2 : fr a = 0 <;> by_cases c3 : ex a = 0 <;> simp [c1, c2, c3]
theorem cls0 (a : Nat) : cls a = 0 ↔ (ex a = 0 ∧ fr a = 0) := by
  unfold cls
  by_cases c1 : ex a = 2047 <;> by_cases c2 : fr a = 0 <;> by_cases c3 : ex a = 0 <;> simp [c1, c2, c3]
theorem cls0_mg (a : Nat) : cls a = 0 ↔ mg a = 0 := by
  rw [cls0]; unfold mg
  by_cases c1 : ex a = 0 <;> simp [c1]
theorem read_inf (a : Nat) (h : U a) (hc : cls a = 3) : Ieee.double.read a = .infinity (sgn a) := by
  rw [cls3] at hc; rw [read_eq a h, if_neg (by unfold fin; simp [hc.1]), if_pos hc.2]
theorem read_nan (a : Nat) (h : U a) (hc : cls a = 4) : Ieee.double.read a = .nan (sgn a) (fr a) := by
  rw [cls4] at hc; rw [read_eq a h, if_neg (by unfold fin; simp [hc.1]), if_neg hc.2]
theorem order_self (a : Nat) (h : U a) : (Ieee.double.order a a != some .eq) = (cls a == 4) := by
  unfold Ieee.Format.order
  by_cases c4 : cls a = 4
  · rw [read_nan a h c4, c4]; rfl
  · by_cases c3 : cls a = 3
    · rw [read_inf a h c3, c3]; simp [Ieee.Datum.order]
    · rw [read_fin a h ((fin_cls a).2 ⟨c3, c4⟩)]; simp [Ieee.Datum.order]; exact c4
theorem nan_bits (t : Nat) : let b := (t % 2) * 2 ^ 63 + 0x7ff0000000000000 + 1 + (t / 2) % (2 ^ 52 - 1)
    U b ∧ cls b = 4 := by
  intro b
  rw [cls4]
  have h1 := Nat.mod_lt (t/2) (show 0 < 2^52 - 1 by decide)
  have h2 := Nat.mod_lt t (show 0 < 2 by decide)
  unfold U ex fr b
  generalize t / 2 % (2^52 - 1) = x at *
  generalize t % 2 = y at *
  omega
/-! ### which is the lesser -/
/-- the size of a number that is not endless, in the least unit -/
def mv (a : Nat) : Nat := mg a * 2 ^ (pl a + 1074).toNat
def so_sv (a : Nat) : Int := if sgn a then -(mv a : Int) else mv a
def so_low (a : Nat) : Nat := ex a * 4503599627370496 + fr a
theorem mv_eq (a : Nat) : mv a = if ex a = 0 then fr a else (fr a + 4503599627370496) * 2 ^ (ex a - 1) := by
  unfold mv mg pl
  by_cases c : ex a = 0
  · simp [c]
  · simp only [c, if_false]
    rw [show ((ex a : Int) - 1075 + 1074).toNat = ex a - 1 from by omega]
theorem mv_lt (a b : Nat) (h : so_low a < so_low b) : mv a < mv b := by
  have a1 := fr_lt a; have b1 := fr_lt b
  rw [mv_eq, mv_eq]; unfold so_low at h
  generalize fr a = x at *
  generalize fr b = y at *
  generalize ex a = p at *
  generalize ex b = q at *
  rcases Nat.lt_trichotomy p q with c | c | c
  · rw [if_neg (show q ≠ 0 by omega)]
    have hq : 2 ^ (q - 1) ≥ 1 := Nat.two_pow_pos _
    have h2 : 4503599627370496 * 2^(q-1) ≤ (y + 4503599627370496) * 2 ^ (q-1) := Nat.mul_le_mul_right _ (by omega)
    by_cases p0 : p = 0
    · rw [if_pos p0]; omega
    · rw [if_neg p0]
      have h3 : (x + 4503599627370496) * 2^(p-1) < (2 * 4503599627370496) * 2^(p-1) := Nat.mul_lt_mul_of_pos_right (by omega) (Nat.two_pow_pos _)
      have h4 : 2 * 2^(p-1) = 2^p := by rw [← Nat.pow_succ']; congr 1; omega
      have h5 : 2^p ≤ 2^(q-1) := Nat.pow_le_pow_right (by decide) (by omega)
      have h6 : (2 * 4503599627370496) * 2^(p-1) = 4503599627370496 * 2^p := by rw [← h4, ← Nat.mul_assoc, Nat.mul_comm 2]
      have h7 : 4503599627370496 * 2^p ≤ 4503599627370496 * 2^(q-1) := Nat.mul_le_mul_left _ h5
      omega
  · subst c
    by_cases p0 : p = 0
    · rw [if_pos p0, if_pos p0]; omega
    · rw [if_neg p0, if_neg p0]; exact Nat.mul_lt_mul_of_pos_right (by omega) (Nat.two_pow_pos _)
  · omega
theorem mv_zero (a : Nat) : mv a = 0 ↔ cls a = 0 := by
  rw [cls0_mg]; unfold mv
  rw [Nat.mul_eq_zero]; have := Nat.two_pow_pos (pl a + 1074).toNat; omega
theorem low_zero (a : Nat) : so_low a = 0 ↔ cls a = 0 := by
  rw [cls0]; unfold so_low; omega
theorem mv_eq_of (a b : Nat) (h : so_low a = so_low b) : mv a = mv b := by
  have a1 := fr_lt a; have b1 := fr_lt b
  unfold so_low at h
  have e1 : ex a = ex b := by omega
  have e2 : fr a = fr b := by omega
  rw [mv_eq, mv_eq, e1, e2]
theorem key_low (a : Nat) (h : U a) : key a = if sgn a then 9223372036854775807 - so_low a else so_low a + 9223372036854775808 := by
  have e := split_u a h
  have a1 := ex_lt a; have a2 := fr_lt a
  unfold key so_low
  cases c : sgn a
  · rw [c] at e; simp at e ⊢; omega
  · rw [c] at e; simp at e ⊢; omega
theorem low_lt (a : Nat) : so_low a < 9223372036854775808 := by
  have a1 := ex_lt a; have a2 := fr_lt a
  unfold so_low; omega
theorem low_fin (a : Nat) (h : fin a = true) : so_low a < 9218868437227405312 := by
  have a1 := ex_lt a; have a2 := fr_lt a
  unfold fin at h; simp at h
  unfold so_low; omega
theorem low_inf (a : Nat) (h : cls a = 3) : so_low a = 9218868437227405312 := by
  rw [cls3] at h; unfold so_low; omega
theorem sv_scaled (s : Bool) (m : Nat) (i base : Int) (h0 : -1074 ≤ base) (h : base ≤ i) :
    (if s then -((m * 2^(i + 1074).toNat : Nat) : Int) else ((m * 2^(i+1074).toNat : Nat) : Int)) = Ieee.signed s m (i - base).toNat * ((2 ^ (base + 1074).toNat : Nat) : Int) := by
  have e : m * 2^(i + 1074).toNat = m * 2 ^ (i - base).toNat * 2 ^ (base + 1074).toNat := by
    rw [Nat.mul_assoc, ← Nat.pow_add]; congr 2; omega
  unfold Ieee.signed
  rw [e, Nat.shiftLeft_eq]
  cases s
  · simp
  · simp [Int.neg_mul]
theorem compare_int (x y : Int) : compare x y = if x < y then Ordering.lt else if x = y then Ordering.eq else Ordering.gt := rfl
theorem cmp_lt (x y : Int) : compare x y = Ordering.lt ↔ x < y := by
  rw [compare_int]; by_cases c : x < y
  · simp [c]
  · rw [if_neg c]; by_cases d : x = y
    · rw [if_pos d]; simp; omega
    · rw [if_neg d]; simp; omega
theorem cmp_eq (x y : Int) : compare x y = Ordering.eq ↔ x = y := by
  rw [compare_int]; by_cases c : x < y
  · rw [if_pos c]; simp; omega
  · rw [if_neg c]; by_cases d : x = y
    · rw [if_pos d]; simp; omega
    · rw [if_neg d]; simp; omega
theorem cmp_gt (x y : Int) : compare x y = Ordering.gt ↔ y < x := by
  rw [compare_int]; by_cases c : x < y
  · rw [if_pos c]; simp; omega
  · rw [if_neg c]; by_cases d : x = y
    · rw [if_pos d]; simp; omega
    · rw [if_neg d]; simp; omega
theorem compare_scaled (x y : Int) (k : Nat) (h : 0 < k) : compare x y = compare (x * (k : Int)) (y * (k : Int)) := by
  have hk : (0 : Int) < k := by exact_mod_cast h
  rw [compare_int, compare_int]
  have e1 : x * (k : Int) < y * (k : Int) ↔ x < y := Int.mul_lt_mul_right hk
  have e2 : x * (k : Int) = y * (k : Int) ↔ x = y := Int.mul_eq_mul_right_iff (by omega)
  by_cases c1 : x < y
  · rw [if_pos c1, if_pos (e1.2 c1)]
  · rw [if_neg c1, if_neg (fun h => c1 (e1.1 h))]
    by_cases c2 : x = y
    · rw [if_pos c2, if_pos (e2.2 c2)]
    · rw [if_neg c2, if_neg (fun h => c2 (e2.1 h))]
theorem order_fin (a b : Nat) (ha : U a) (hb : U b) (fa : fin a = true) (fb : fin b = true) : Ieee.double.order a b = some (compare (so_sv a) (so_sv b)) := by
  have pa := pl_bd a fa; have pb := pl_bd b fb
  unfold Ieee.Format.order
  rw [read_fin a ha fa, read_fin b hb fb]
  show some (compare (Ieee.signed (sgn a) (mg a) (pl a - min (pl a) (pl b)).toNat) (Ieee.signed (sgn b) (mg b) (pl b - min (pl a) (pl b)).toNat)) = _
  rw [compare_scaled _ _ _ (Nat.two_pow_pos (min (pl a) (pl b) + 1074).toNat), ← sv_scaled _ _ _ _ (by omega) (by omega), ← sv_scaled _ _ _ _ (by omega) (by omega)]
  rfl
/-- how two stand to each other, and what Cmp says -/
def three (a b : Nat) : Prop :=
  (cmpv a b = -1 ∧ Ieee.double.order a b = some .lt) ∨ (cmpv a b = 1 ∧ Ieee.double.order a b = some .gt) ∨ (cmpv a b = 0 ∧ Ieee.double.order a b = some .eq)
theorem three_of (a b : Nat) (hn : nn a b = false) (hz : zz a b = false) (o : Ordering) (ho : Ieee.double.order a b = some o)
    (hl : o = .lt → key a < key b) (hg : o = .gt → key b < key a) (he : o = .eq → key a = key b) : three a b := by
  have hc : cmpv a b = ord a b := by unfold cmpv; rw [hn, hz, if_neg Bool.false_ne_true, if_neg Bool.false_ne_true]
  unfold three; rw [hc, ho]
  cases o with
  | lt => have := hl rfl; left; exact ⟨by unfold ord ncmp; rw [if_pos this], rfl⟩
  | gt => have := hg rfl; right; left; exact ⟨by unfold ord ncmp; rw [if_neg (by omega), if_pos this], rfl⟩
  | eq => have := he rfl; right; right; exact ⟨by unfold ord ncmp; rw [if_neg (by omega), if_neg (by omega)], rfl⟩
theorem order_three (a b : Nat) (ha : U a) (hb : U b) (hn : nn a b = false) : three a b := by
  have n1 : cls a ≠ 4 := by intro c; unfold nn at hn; simp [c] at hn
  have n2 : cls b ≠ 4 := by intro c; unfold nn at hn; simp [c] at hn
  have ka := key_low a ha; have kb := key_low b hb
  have la := low_lt a; have lb := low_lt b
  cases hz : zz a b with
  | true =>
    have z : cls a = 0 ∧ cls b = 0 := by unfold zz at hz; simpa using hz
    have fa : fin a = true := (fin_cls a).2 ⟨by omega, n1⟩
    have fb : fin b = true := (fin_cls b).2 ⟨by omega, n2⟩
    right; right
    refine ⟨by unfold cmpv; rw [hn, hz, if_neg Bool.false_ne_true, if_pos rfl], ?_⟩
    rw [order_fin a b ha hb fa fb]
    have e1 : so_sv a = 0 := by unfold so_sv; rw [(mv_zero a).2 z.1]; simp
    have e2 : so_sv b = 0 := by unfold so_sv; rw [(mv_zero b).2 z.2]; simp
    rw [e1, e2]; rfl
  | false =>
    have z : cls a ≠ 0 ∨ cls b ≠ 0 := by unfold zz at hz; simp at hz; omega
    by_cases ia : cls a = 3
    · have ra := read_inf a ha ia
      have l1 := low_inf a ia
      by_cases ib : cls b = 3
      · have rb := read_inf b hb ib
        have l2 := low_inf b ib
        refine three_of a b hn hz _ (by unfold Ieee.Format.order; rw [ra, rb]; rfl) ?_ ?_ ?_
        all_goals
          rw [ka, kb]
          intro h
          cases s1 : sgn a <;> cases s2 : sgn b <;> simp only [s1, s2] at h <;> simp only [if_true, if_false, Bool.false_eq_true] <;> first | omega | exact absurd h (by decide)
      · have fb : fin b = true := (fin_cls b).2 ⟨ib, n2⟩
        have l2 := low_fin b fb
        have rb := read_fin b hb fb
        refine three_of a b hn hz _ (by unfold Ieee.Format.order; rw [ra, rb]; rfl) ?_ ?_ ?_
        all_goals
          rw [ka, kb]
          intro h
          cases s1 : sgn a <;> cases s2 : sgn b <;> simp only [s1] at h <;> simp only [if_true, if_false, Bool.false_eq_true] <;> first | omega | exact absurd h (by decide)
    · have fa : fin a = true := (fin_cls a).2 ⟨ia, n1⟩
      have l1 := low_fin a fa
      have ra := read_fin a ha fa
      by_cases ib : cls b = 3
      · have rb := read_inf b hb ib
        have l2 := low_inf b ib
        refine three_of a b hn hz _ (by unfold Ieee.Format.order; rw [ra, rb]; rfl) ?_ ?_ ?_
        all_goals
          rw [ka, kb]
          intro h
          cases s1 : sgn a <;> cases s2 : sgn b <;> simp only [s2] at h <;> simp only [if_true, if_false, Bool.false_eq_true] <;> first | omega | exact absurd h (by decide)
      · have fb : fin b = true := (fin_cls b).2 ⟨ib, n2⟩
        have l2 := low_fin b fb
        have z0 := mv_zero a; have z1 := mv_zero b
        have y0 := low_zero a; have y1 := low_zero b
        refine three_of a b hn hz _ (order_fin a b ha hb fa fb) ?_ ?_ ?_
        · rw [ka, kb, cmp_lt]
          intro h
          rcases Nat.lt_trichotomy (so_low a) (so_low b) with c | c | c
          all_goals
            have m1 := mv_lt a b; have m2 := mv_lt b a; have m3 := mv_eq_of a b
            unfold so_sv at h
            cases s1 : sgn a <;> cases s2 : sgn b <;> simp only [s1, s2, if_true, if_false, Bool.false_eq_true] at h ⊢ <;> omega
        · rw [ka, kb, cmp_gt]
          intro h
          rcases Nat.lt_trichotomy (so_low a) (so_low b) with c | c | c
          all_goals
            have m1 := mv_lt a b; have m2 := mv_lt b a; have m3 := mv_eq_of a b
            unfold so_sv at h
            cases s1 : sgn a <;> cases s2 : sgn b <;> simp only [s1, s2, if_true, if_false, Bool.false_eq_true] at h ⊢ <;> omega
        · rw [ka, kb, cmp_eq]
          intro h
          rcases Nat.lt_trichotomy (so_low a) (so_low b) with c | c | c
          all_goals
            have m1 := mv_lt a b; have m2 := mv_lt b a; have m3 := mv_eq_of a b
            unfold so_sv at h
            cases s1 : sgn a <;> cases s2 : sgn b <;> simp only [s1, s2, if_true, if_false, Bool.false_eq_true] at h ⊢ <;> omega
theorem order_none (a b : Nat) (ha : U a) (hb : U b) (hn : nn a b = true) : cmpv a b = 2 ∧ Ieee.double.order a b = none := by
  refine ⟨by unfold cmpv; rw [hn, if_pos rfl], ?_⟩
  unfold nn at hn
  unfold Ieee.Format.order
  by_cases c : cls a = 4
  · rw [read_nan a ha c]; rfl
  · have d : cls b = 4 := by simpa [c] using hn
    rw [read_nan b hb d]; cases Ieee.double.read a <;> rfl
theorem ord_bd (a b : Nat) : -1 ≤ ord a b ∧ ord a b ≤ 1 := by rcases ord_cases a b with h | h | h <;> omega
theorem cmpv_two (a b : Nat) : (cmpv a b = 2) ↔ nn a b = true := by
  unfold cmpv
  cases h : nn a b
  · have := ord_bd a b
    simp; split <;> omega
  · simp
theorem ww_log2_le (M : Nat) (more : Bool) (hM : M ≤ 9223372036854775807) : (ww M more).log2 ≤ 64 := by
  have hb := bn_le more
  by_cases h : ww M more = 0
  · rw [h]; decide
  · have := (Nat.log2_lt (n := ww M more) (k := 65) h).2 (by unfold ww; omega)
    omega
theorem rJ_le (M : Nat) (more : Bool) (E : Int) (hM : M ≤ 9223372036854775807) (hE : -5000 ≤ E) : rJ (ww M more) E ≤ 4000 := by
  have := ww_log2_le M more hM
  unfold rJ so_lst; omega
theorem rI_le (M : Nat) (more : Bool) (E : Int) (hE : E ≤ 5000) : rI (ww M more) E ≤ 6074 := by
  have := lst_ge (ww M more) (E-2)
  unfold rI; omega
theorem sm_le (M : Nat) (more : Bool) (j : Nat) (hM : M ≤ 9223372036854775807) : so_sm (ww M more) j ≤ 9223372036854775807 := by
  have h : so_sm (ww M more) j ≤ so_sm (ww M more) 0 := by
    unfold so_sm; exact Nat.div_le_div_left (Nat.pow_le_pow_right (by decide) (by omega)) (Nat.two_pow_pos _)
  rw [sm_zero] at h; omega
/-- the whole number and its place ahead of the rounding -/
def fm (M : Nat) (more : Bool) (E : Int) : Nat := so_sm (ww M more) (rJ (ww M more) E) * 2 ^ rI (ww M more) E
def fe (M : Nat) (more : Bool) (E : Int) : Int := E + rJ (ww M more) E - rI (ww M more) E
theorem fe_lst (M : Nat) (more : Bool) (E : Int) : fe M more E = so_lst (ww M more) (E-2) := by
  unfold fe rJ rI; omega
theorem rI_zero (M : Nat) (more : Bool) (E : Int) (h : 0 < rJ (ww M more) E) : rI (ww M more) E = 0 := by
  unfold rI; unfold rJ at h; omega
theorem fe_bd (M : Nat) (more : Bool) (E : Int) (hM : M ≤ 9223372036854775807) (hE' : E ≤ 5000) : -1074 ≤ fe M more E ∧ fe M more E ≤ 5010 := by
  rw [fe_lst]
  have := ww_log2_le M more hM
  unfold so_lst; omega
theorem loop2_all (M : Nat) (more : Bool) (E : Int) (i : Nat) (hM : 0 < M) (hm : more = true → 4503599627370496 ≤ M) (hi : i ≤ rI (ww M more) E) :
    (i < rI (ww M more) E → 0 < so_sm (ww M more) (rJ (ww M more) E) * 2^i ∧ so_sm (ww M more) (rJ (ww M more) E) * 2^i < 4503599627370496 ∧ -1074 < E + rJ (ww M more) E - i ∧ sh (ww M more) (rJ (ww M more) E) = false ∧ sr (ww M more) (rJ (ww M more) E) = false) ∧
    (i = rI (ww M more) E → ¬ (so_sm (ww M more) (rJ (ww M more) E) * 2^i < 4503599627370496 ∧ -1074 < E + rJ (ww M more) E - i ∧ sr (ww M more) (rJ (ww M more) E) = false)) := by
  have hW : 0 < ww M more := by unfold ww; omega
  by_cases hJ : 0 < rJ (ww M more) E
  · have h0 := rI_zero M more E hJ
    rw [h0] at hi ⊢
    obtain rfl : i = 0 := by omega
    have h1 := end1 (ww M more) E hW hJ
    refine ⟨by omega, fun _ => ?_⟩
    rw [Nat.pow_zero, Nat.mul_one]
    omega
  · have h0 : rJ (ww M more) E = 0 := by omega
    have h2 := loop2_iff M more E i hM hm h0
    rw [h0, sm_zero, sh_zero, sr_zero]
    have hp := Nat.mul_pos hM (Nat.two_pow_pos i)
    constructor
    · intro h
      have h3 := h2.2 h
      exact ⟨hp, h3.1.1, by have := h3.1.2; omega, rfl, h3.2⟩
    · rintro h ⟨h3, h4, h5⟩
      have := h2.1 ⟨⟨h3, by omega⟩, h5⟩
      omega
theorem fm_lt (M : Nat) (more : Bool) (E : Int) (hM : 0 < M) (hm : more = true → 4503599627370496 ≤ M) : fm M more E ≤ 9007199254740991 := by
  have hW : 0 < ww M more := by unfold ww; omega
  by_cases hJ : 0 < rJ (ww M more) E
  · unfold fm; rw [rI_zero M more E hJ, Nat.pow_zero, Nat.mul_one]
    have := (not_congr (loop1_iff (ww M more) E _ hW)).2 (Nat.lt_irrefl (rJ (ww M more) E))
    omega
  · have h0 : rJ (ww M more) E = 0 := by omega
    have hj := (not_congr (loop1_iff (ww M more) E _ hW)).2 (Nat.lt_irrefl (rJ (ww M more) E))
    rw [h0, sm_zero] at hj
    unfold fm; rw [h0, sm_zero]
    cases hI : rI (ww M more) E with
    | zero => simp; omega
    | succ i =>
      have h3 := (loop2_iff M more E i hM hm h0).2 (by omega)
      rw [Nat.pow_succ, ← Nat.mul_assoc]; have := h3.1.1; omega
theorem rd_all (neg : Bool) (M : Nat) (E : Int) (more : Bool) (hM : 0 < M) (hm : more = true → 4503599627370496 ≤ M) (m : Nat)
    (h : m = fm M more E + bn (inc (fm M more E) (sh (ww M more) (rJ (ww M more) E)) (sr (ww M more) (rJ (ww M more) E)))) :
    pack neg (cm m) (ce m (fe M more E)) = so_rd neg M E more := by
  by_cases hJ : 0 < rJ (ww M more) E
  · have e := rd_J neg M E more hM hJ
    have e1 : fm M more E = so_sm (ww M more) (rJ (ww M more) E) := by unfold fm; rw [rI_zero M more E hJ]; simp
    have e2 : fe M more E = E + rJ (ww M more) E := by unfold fe; rw [rI_zero M more E hJ]; omega
    rw [← e, h, e1, e2]
  · have h0 : rJ (ww M more) E = 0 := by omega
    have e := rd_I neg M E more hM hm h0
    have e1 : fm M more E = M * 2 ^ rI (ww M more) E := by unfold fm; rw [h0, sm_zero]
    have e2 : fe M more E = E - rI (ww M more) E := by unfold fe; rw [h0]; omega
    have e3 : sh (ww M more) (rJ (ww M more) E) = false := by rw [h0, sh_zero]
    rw [e3] at h
    have e4 : m = fm M more E := by rw [h]; unfold inc bn; simp
    rw [← e, e4, e1, e2]
def wdI (neg : Bool) (x : Int) : Int := if neg then x + 9223372036854775808 else x
theorem wd_int (neg : Bool) (v : Nat) : ((so_wd neg v : Nat) : Int) = wdI neg v := by
  unfold so_wd wdI; cases neg
  · rfl
  · simp; omega
theorem cm_same (m : Nat) (h : m ≠ 9007199254740992) (E : Int) : cm m = m ∧ ce m E = E := by unfold cm ce; rw [if_neg h, if_neg h]; exact ⟨rfl, rfl⟩
theorem cm_over (m : Nat) (h : m = 9007199254740992) (E : Int) : cm m = 4503599627370496 ∧ ce m E = E + 1 := by unfold cm ce; rw [if_pos h, if_pos h]; exact ⟨rfl, rfl⟩
theorem pk_zero (neg : Bool) (m : Nat) (E : Int) (h : m = 0) : ((pack neg (cm m) (ce m E) : Nat) : Int) = wdI neg 0 := by
  obtain ⟨e1, e2⟩ := cm_same m (by omega) E
  rw [e1, e2, show pack neg m E = so_wd neg 0 from by unfold pack; rw [if_pos h], wd_int]; rfl
theorem pk_small (neg : Bool) (m : Nat) (E : Int) (h : m ≠ 0) (h' : m < 4503599627370496) : ((pack neg (cm m) (ce m E) : Nat) : Int) = wdI neg m := by
  obtain ⟨e1, e2⟩ := cm_same m (by omega) E
  rw [e1, e2, show pack neg m E = so_wd neg m from by unfold pack; rw [if_neg h, if_pos h'], wd_int]
theorem pk_inf (neg : Bool) (m : Nat) (E : Int) (h : 4503599627370496 ≤ m) (h' : m < 9007199254740992) (hE : 2047 ≤ E + 1075) : ((pack neg (cm m) (ce m E) : Nat) : Int) = wdI neg 9218868437227405312 := by
  obtain ⟨e1, e2⟩ := cm_same m (by omega) E
  rw [e1, e2, show pack neg m E = so_wd neg 9218868437227405312 from by unfold pack; rw [if_neg (by omega), if_neg (by omega), if_pos hE], wd_int]; rfl
theorem pk_norm (neg : Bool) (m : Nat) (E : Int) (h : 4503599627370496 ≤ m) (h' : m < 9007199254740992) (h0 : -1074 ≤ E) (hE : E + 1075 < 2047) : ((pack neg (cm m) (ce m E) : Nat) : Int) = wdI neg ((E + 1075) * 4503599627370496 + m - 4503599627370496) := by
  obtain ⟨e1, e2⟩ := cm_same m (by omega) E
  rw [e1, e2, show pack neg m E = so_wd neg ((E+1075).toNat * 4503599627370496 + m - 4503599627370496) from by unfold pack; rw [if_neg (by omega), if_neg (by omega), if_neg (by omega)], wd_int]
  exact congrArg (wdI neg) (by omega)
theorem pk_cinf (neg : Bool) (m : Nat) (E : Int) (h : m = 9007199254740992) (hE : 2047 ≤ E + 1 + 1075) : ((pack neg (cm m) (ce m E) : Nat) : Int) = wdI neg 9218868437227405312 := by
  obtain ⟨e1, e2⟩ := cm_over m h E
  rw [e1, e2, show pack neg 4503599627370496 (E+1) = so_wd neg 9218868437227405312 from by unfold pack; rw [if_neg (by omega), if_neg (by omega), if_pos hE], wd_int]; rfl
theorem pk_cnorm (neg : Bool) (m : Nat) (E : Int) (h : m = 9007199254740992) (h0 : -1074 ≤ E) (hE : E + 1 + 1075 < 2047) : ((pack neg (cm m) (ce m E) : Nat) : Int) = wdI neg ((E + 1 + 1075) * 4503599627370496) := by
  obtain ⟨e1, e2⟩ := cm_over m h E
  rw [e1, e2, show pack neg 4503599627370496 (E+1) = so_wd neg ((E+1+1075).toNat * 4503599627370496 + 4503599627370496 - 4503599627370496) from by unfold pack; rw [if_neg (by omega), if_neg (by omega), if_neg (by omega)], wd_int]
  exact congrArg (wdI neg) (by omega)
/-- the number in the midst of the second loop -/
def gm (M : Nat) (more : Bool) (E : Int) (i : Nat) : Nat := so_sm (ww M more) (rJ (ww M more) E) * 2^i
theorem gm_zero (M : Nat) (more : Bool) (E : Int) : gm M more E 0 = so_sm (ww M more) (rJ (ww M more) E) := by unfold gm; simp
theorem gm_succ (M : Nat) (more : Bool) (E : Int) (i : Nat) : gm M more E (i+1) = 2 * gm M more E i := by unfold gm; rw [Nat.pow_succ]; ac_rfl
theorem gm_end (M : Nat) (more : Bool) (E : Int) : gm M more E (rI (ww M more) E) = fm M more E := rfl
theorem fe_end (M : Nat) (more : Bool) (E : Int) : E + rJ (ww M more) E - rI (ww M more) E = fe M more E := rfl
/-! ### whole numbers -/
theorem rd_whole (neg : Bool) (M : Nat) (E : Int) : so_rd neg M E false = rnd neg M E := by
  unfold so_rd
  rw [show ww M false = M * 2^2 from by unfold ww bn; simp; omega, show E - 2 = E - ((2 : Nat) : Int) from rfl, rnd_scale]
/-- with something more behind it -/
theorem rd_more (neg : Bool) (M : Nat) (E : Int) (more : Bool) (h : 9007199254740992 ≤ M) : so_rd neg M E more = rnd neg (2 * M + bn more) (E - 1) := by
  unfold so_rd
  have hb := bn_le more
  rw [rnd_sticky neg (ww M more) 2 (E-2) (by unfold ww; omega)]
  rw [show sticky (ww M more) 2 = 2 * M + bn more from by unfold sticky ww bn; cases more <;> simp <;> omega]
  congr 1; omega
def sg32 (v : Nat) : Int := if v < 2147483648 then (v : Int) else (v : Int) - 4294967296
def ofi (n : Int) : Nat := rnd (decide (n < 0)) n.natAbs 0
theorem ofi_ok (n : Int) : U (ofi n) ∧ cls (ofi n) ≠ 4 := by
  refine ⟨rnd_u _ _ _, ?_⟩
  unfold ofi rnd; exact cls_wd _ _ (by split; omega; exact rung_le _ _)
theorem ofi_neg (v : Nat) (h : 2147483648 ≤ v) (h' : v ≤ 4294967295) : so_rd true (4294967296 - v) 0 false = ofi (sg32 v) := by
  rw [rd_whole]; unfold ofi sg32
  rw [if_neg (by omega), show decide ((v : Int) - 4294967296 < 0) = true from by simp; omega, show ((v : Int) - 4294967296).natAbs = 4294967296 - v from by omega]
theorem ofi_pos (v : Nat) (h : v < 2147483648) : so_rd false v 0 false = ofi (sg32 v) := by
  rw [rd_whole]; unfold ofi sg32
  rw [if_pos h, show decide ((v : Int) < 0) = false from by simp, Int.natAbs_natCast]
/-- the whole part of m * 2^p -/
def tq (m : Nat) (p : Int) : Nat := if 0 ≤ p then m * 2 ^ p.toNat else m / 2 ^ (-p).toNat
/-- as a whole number of 32 bits, bounded -/
def clampw (neg : Bool) (t : Nat) : Nat := if neg then (if 2147483648 ≤ t then 2147483648 else (4294967296 - t) % 4294967296) else (if 2147483648 ≤ t then 2147483647 else t)
def toi (a : Nat) : Nat := if cls a = 4 then 0 else if cls a = 3 then clampw (sgn a) 2147483648 else clampw (sgn a) (tq (mg a) (pl a))
theorem clampw_lt (neg : Bool) (t : Nat) : clampw neg t ≤ 4294967295 := by
  unfold clampw; cases neg <;> simp <;> split <;> omega
theorem toi_lt (a : Nat) : toi a ≤ 4294967295 := by
  unfold toi; split
  · omega
  · split <;> exact clampw_lt _ _
/-- against a whole number -/
theorem tq_ge (m : Nat) (p : Int) (N : Nat) (hp : -(N : Int) ≤ p) (K : Nat) : K * 2^N ≤ m * 2 ^ (p + N).toNat ↔ K ≤ tq m p := by
  unfold tq
  by_cases h : 0 ≤ p
  · rw [if_pos h, show (p + N).toNat = p.toNat + N from by omega, Nat.pow_add, ← Nat.mul_assoc]
    exact Nat.mul_le_mul_right_iff (Nat.two_pow_pos _)
  · rw [if_neg h, Nat.le_div_iff_mul_le (Nat.two_pow_pos _)]
    have e : 2^N = 2 ^ (-p).toNat * 2 ^ (p + N).toNat := by rw [← Nat.pow_add]; congr 1; omega
    rw [e, ← Nat.mul_assoc]
    exact Nat.mul_le_mul_right_iff (Nat.two_pow_pos _)
def C1 : Nat := 4746794007244308480
def C2 : Nat := 13970166044103278592
theorem c1_facts : U C1 ∧ fin C1 = true ∧ sgn C1 = false ∧ mg C1 = 2147483647 * 2^22 ∧ pl C1 = -22 := by
  exact ⟨by unfold U C1; omega, by decide +kernel, by decide +kernel, by decide +kernel, by decide +kernel⟩
theorem c2_facts : U C2 ∧ fin C2 = true ∧ sgn C2 = true ∧ mg C2 = 2147483648 * 2^21 ∧ pl C2 = -21 := by
  exact ⟨by unfold U C2; omega, by decide +kernel, by decide +kernel, by decide +kernel, by decide +kernel⟩
theorem mv_const (a k j N : Nat) (hN : N = 1074) (hm : mg a = k * 2^j) (hp : pl a = -(j : Int)) (hj : j ≤ N) : mv a = k * 2^N := by
  unfold mv; rw [hm, hp, Nat.mul_assoc, ← Nat.pow_add]
  congr 2; omega
theorem mv_c1 (N : Nat) (hN : N = 1074) : mv C1 = 2147483647 * 2^N := mv_const C1 _ 22 N hN c1_facts.2.2.2.1 c1_facts.2.2.2.2 (by omega)
theorem mv_c2 (N : Nat) (hN : N = 1074) : mv C2 = 2147483648 * 2^N := mv_const C2 _ 21 N hN c2_facts.2.2.2.1 c2_facts.2.2.2.2 (by omega)
theorem mv_tq (a N : Nat) (hN : N = 1074) (h : fin a = true) (K : Nat) : K * 2^N ≤ mv a ↔ K ≤ tq (mg a) (pl a) := by
  have hp := pl_bd a h
  have := tq_ge (mg a) (pl a) N (by omega) K
  unfold mv; rw [← this, hN]; rfl
def o1ok (a : Nat) (o : Ordering) : Prop := (o = .lt) ↔ ¬ (sgn a = false ∧ (cls a = 3 ∨ 2147483647 ≤ tq (mg a) (pl a)))
def o2ok (a : Nat) (o : Ordering) : Prop := (o = .gt) ↔ ¬ (sgn a = true ∧ (cls a = 3 ∨ 2147483648 ≤ tq (mg a) (pl a)))
theorem bounds (a : Nat) (h : U a) (h4 : cls a ≠ 4) : ∃ o1 o2, Ieee.double.order a C1 = some o1 ∧ Ieee.double.order a C2 = some o2 ∧ o1ok a o1 ∧ o2ok a o2 := by
  obtain ⟨u1, g1, s1, -, -⟩ := c1_facts
  obtain ⟨u2, g2, s2, -, -⟩ := c2_facts
  by_cases h3 : cls a = 3
  · have r := read_inf a h h3
    refine ⟨_, _, by unfold Ieee.Format.order; rw [r, read_fin C1 u1 g1]; rfl, by unfold Ieee.Format.order; rw [r, read_fin C2 u2 g2]; rfl, ?_, ?_⟩
    · unfold o1ok; rw [h3]; cases sgn a <;> simp
    · unfold o2ok; rw [h3]; cases sgn a <;> simp
  · have hf : fin a = true := (fin_cls a).2 ⟨h3, h4⟩
    refine ⟨_, _, order_fin a C1 h u1 hf g1, order_fin a C2 h u2 hf g2, ?_, ?_⟩
    · obtain ⟨N, hN⟩ : ∃ N, N = 1074 := ⟨_, rfl⟩
      have e := mv_tq a N hN hf 2147483647
      unfold o1ok; rw [cmp_lt, ← e, ← mv_c1 N hN]
      have hp : 0 < mv C1 := by rw [mv_c1 N hN]; exact Nat.mul_pos (by decide) (Nat.two_pow_pos _)
      unfold so_sv; rw [s1]
      cases sgn a
      · simp [h3]
      · simp; omega
    · obtain ⟨N, hN⟩ : ∃ N, N = 1074 := ⟨_, rfl⟩
      have e := mv_tq a N hN hf 2147483648
      unfold o2ok; rw [cmp_gt, ← e, ← mv_c2 N hN]
      have hp : 0 < mv C2 := by rw [mv_c2 N hN]; exact Nat.mul_pos (by decide) (Nat.two_pow_pos _)
      unfold so_sv; rw [s2]
      cases sgn a
      · simp; omega
      · simp [h3]
theorem cut_zero (neg : Bool) (n d : Nat) : Ieee.Toward.zero.cut neg n d = n / 2^d := by
  unfold Ieee.Toward.cut
  simp only [Nat.one_shiftLeft, Bool.toNat_false, Nat.add_zero]
  by_cases h : d ≤ n.log2 + 2
  · rw [Nat.min_eq_left h]
  · rw [Nat.min_eq_right (by omega)]
    have hl : n < 2 ^ (n.log2 + 1) := Nat.lt_log2_self
    have h2 : 2 ^ (n.log2 + 1) ≤ 2 ^ (n.log2 + 2) := Nat.pow_le_pow_right (by decide) (by omega)
    have h3 : 2 ^ (n.log2 + 2) ≤ 2 ^ d := Nat.pow_le_pow_right (by decide) (by omega)
    rw [Nat.div_eq_of_lt (by omega), Nat.div_eq_of_lt (by omega)]
theorem toInt_fin (a : Nat) (h : U a) (hf : fin a = true) : (Ieee.double.read a).toInt .zero = some (if sgn a then -(tq (mg a) (pl a) : Int) else (tq (mg a) (pl a) : Int)) := by
  rw [read_fin a h hf]
  show some (Ieee.signed (sgn a) (Ieee.Toward.zero.cut (sgn a) (mg a <<< (pl a).toNat) (-(pl a)).toNat) 0) = _
  have e : mg a <<< (pl a).toNat / 2 ^ (-(pl a)).toNat = tq (mg a) (pl a) := by
    unfold tq; rw [Nat.shiftLeft_eq]
    by_cases c : 0 ≤ pl a
    · rw [if_pos c, show (-(pl a)).toNat = 0 from by omega]; simp
    · rw [if_neg c, show (pl a).toNat = 0 from by omega]; simp
  rw [cut_zero, e]
  unfold Ieee.signed; simp
/-- what is left to the conversion -/
def stq (a : Nat) : Int := if sgn a then -(tq (mg a) (pl a) : Int) else (tq (mg a) (pl a) : Int)
theorem toi_mid (a : Nat) (h4 : cls a ≠ 4) (n1 : ¬ (sgn a = false ∧ (cls a = 3 ∨ 2147483647 ≤ tq (mg a) (pl a)))) (n2 : ¬ (sgn a = true ∧ (cls a = 3 ∨ 2147483648 ≤ tq (mg a) (pl a)))) :
    fin a = true ∧ -2147483648 ≤ stq a ∧ stq a ≤ 2147483647 ∧ (toi a : Int) = (if 0 ≤ stq a then stq a else stq a + 4294967296) := by
  have h3 : cls a ≠ 3 := by intro c; cases hs : sgn a <;> simp_all
  have hf : fin a = true := (fin_cls a).2 ⟨h3, h4⟩
  refine ⟨hf, ?_⟩
  unfold toi stq clampw
  rw [if_neg h4, if_neg h3]
  generalize tq (mg a) (pl a) = t at *
  cases hs : sgn a
  · rw [if_neg Bool.false_ne_true, if_neg Bool.false_ne_true]
    have : t < 2147483647 := by
      rcases Nat.lt_or_ge t 2147483647 with c | c
      · exact c
      · exact absurd ⟨hs, Or.inr c⟩ n1
    rw [if_neg (by omega)]; omega
  · rw [if_pos rfl, if_pos rfl]
    have : t < 2147483648 := by
      rcases Nat.lt_or_ge t 2147483648 with c | c
      · exact c
      · exact absurd ⟨hs, Or.inr c⟩ n2
    rw [if_neg (by omega)]; omega
theorem toi_hi (a : Nat) (h4 : cls a ≠ 4) (h : sgn a = false ∧ (cls a = 3 ∨ 2147483647 ≤ tq (mg a) (pl a))) : toi a = 2147483647 := by
  unfold toi clampw; rw [if_neg h4, h.1]
  rcases h.2 with c | c
  · rw [if_pos c]; rfl
  · split
    · rfl
    · simp; omega
theorem toi_lo (a : Nat) (h4 : cls a ≠ 4) (h : sgn a = true ∧ (cls a = 3 ∨ 2147483648 ≤ tq (mg a) (pl a))) : toi a = 2147483648 := by
  unfold toi clampw; rw [if_neg h4, h.1]
  rcases h.2 with c | c
  · rw [if_pos c]; rfl
  · split
    · rfl
    · rw [if_pos rfl]
end Go.Proofs.Ytbkhmeongekdiaa
namespace Go.Proofs.Ytbkhmeongekdiaa
open Go.RowKit
set_option linter.unusedVariables false
theorem land_ex (a : Nat) (h : U a) : bits .and .u64 (a : Int) 9218868437227405312 = ((ex a * 4503599627370496 : Nat) : Int) := by
  unfold U at h
  rw [← and_ex, ← u64_and_nat a 9218868437227405312 (by omega) (by omega)]; rfl
theorem land_fr (a : Nat) (h : U a) : bits .and .u64 (a : Int) 4503599627370495 = ((fr a : Nat) : Int) := by
  unfold U at h
  rw [← and_fr, ← u64_and_nat a 4503599627370495 (by omega) (by omega)]; rfl
theorem land_sign (a : Nat) (h : U a) : bits .and .u64 (a : Int) 9223372036854775808 = ((if sgn a then 9223372036854775808 else 0 : Nat) : Int) := by
  rw [← and_sign a h]
  unfold U at h
  rw [← u64_and_nat a 9223372036854775808 (by omega) (by omega)]; rfl
theorem lor_sign (a : Nat) (h : a < 9223372036854775808) : bits .or .u64 (a : Int) 9223372036854775808 = ((a + 9223372036854775808 : Nat) : Int) := by
  rw [← or_sign a h, ← u64_or_nat a 9223372036854775808 (by omega) (by omega)]; rfl
theorem lnot_all (a : Nat) (h : U a) : bits .xor .u64 IntKind.u64.max (a : Int) = ((18446744073709551615 - a : Nat) : Int) := by
  rw [← xor_all a h]
  unfold U at h
  rw [← u64_xor_nat 18446744073709551615 a (by omega) (by omega)]; rfl
end Go.Proofs.Ytbkhmeongekdiaa
namespace Go.Proofs.Ytbkhmeongekdiaa
open Go.RowKit
set_option linter.unusedVariables false
theorem number_any (a : Nat) (w : World) : Calls Try.prog 45 #[.int .u64 a] w fun e w' => e = .returned (.float .f64 a) ∧ w = w' := by
  have h52 := @run_callFunc_extern Try.prog 62 _ Extern.MathFloatBits.float64frombits Try.func62 (by kernel_rfl) (by kernel_rfl) (by kernel_rfl) (by kernel_rfl)
  have hr : ∀ w, (Extern.MathFloatBits.float64frombits #[.int .u64 a]).run Try.prog w = .ok (.float .f64 a) w := fun _ => rfl
  go_enter Try.func45, Try.ntmps45
  go_wp2
  go_ret
  exact ⟨rfl, rfl⟩
theorem isnan_any (a : Nat) (w : World) (h : U a) : Calls Try.prog 46 #[.float .f64 a] w fun e w' => e = .returned (.bool (cls a == 4)) ∧ w = w' := by
  have H := Lib.hid (order_self a h)
  go_enter Try.func46, Try.ntmps46
  go_wp2
  go_ret
  exact ⟨ret_bool H.out, rfl⟩
theorem pattern_any (a : Nat) (w : World) (h : U a) : Calls Try.prog 47 #[.float .f64 a] w fun e w' => e = .returned (.int .u64 (pat a)) ∧ w = w' := by
  have h52 := @run_callFunc_extern Try.prog 63 _ Extern.MathFloatBits.float64bits Try.func63 (by kernel_rfl) (by kernel_rfl) (by kernel_rfl) (by kernel_rfl)
  have hr : ∀ w, (Extern.MathFloatBits.float64bits #[.float .f64 a]).run Try.prog w = .ok (.int .u64 a) w := fun _ => rfl
  by_cases c : cls a = 4
  · have E := Lib.hid (show pat a = Emp from by unfold pat; rw [if_pos c])
    have k : (cls a == 4) = true := by simpa using c
    clear c
    go_enter Try.func47, Try.ntmps47
    go_wp2_with (go_at_call 46; (with_reducible refine (isnan_any _ _ (by assumption)).mono ?_); rintro e w' ⟨rfl, rfl⟩)
    go_ret
    exact ⟨ret_int (by rw [E.out]; rfl), rfl⟩
  · have E := Lib.hid (show pat a = a from by unfold pat; rw [if_neg c])
    have k : (cls a == 4) = false := by simpa using c
    clear c
    go_enter Try.func47, Try.ntmps47
    go_wp2_with (go_at_call 46; (with_reducible refine (isnan_any _ _ (by assumption)).mono ?_); rintro e w' ⟨rfl, rfl⟩)
    go_ret
    exact ⟨ret_int (by rw [E.out]), rfl⟩
/-- a result that is no number: some bits, by the tape -/
def nbits (x y : Nat) (w : World) : Nat := (Question.nanBits .f64 x y).cut (w.tape w.drawn (.nanBits .f64 x y))
theorem nbits_ok (x y : Nat) (w : World) : U (nbits x y w) ∧ cls (nbits x y w) = 4 := nan_bits (w.tape w.drawn (.nanBits .f64 x y))
theorem run_nan (op : BinOp) (t : TypeId) (x y : Nat) (w : World) (ho : op = .add ∨ op = .sub ∨ op = .mul ∨ op = .quo) (h : floatBits op .f64 x y = none) :
    ∃ b, U b ∧ cls b = 4 ∧ (binOp op t (.float .f64 x) (.float .f64 y)).run Try.prog w = .ok (.float .f64 b) w.drew := by
  refine ⟨nbits x y w, (nbits_ok x y w).1, (nbits_ok x y w).2, ?_⟩
  unfold floatBits at h
  rcases ho with rfl | rfl | rfl | rfl
  all_goals (simp only at h; simp [binOp, Op.floatArith, h]; rfl)
theorem opv_some {r : Nat} (hc : cls r ≠ 4) : pat r = opv (some r) := by
  unfold pat opv; rw [if_neg hc]; rfl
theorem opv_none {r : Nat} (hc : cls r = 4) : pat r = opv none := by
  unfold pat opv; rw [if_pos hc]; rfl
theorem so_add_any (a b : Nat) (w : World) : Calls Try.prog 48 #[.int .u64 a, .int .u64 b] w fun e w' => e = .returned (.int .u64 (opv (Ieee.double.add a b))) ∧ New w w' := by
  cases ho : Ieee.double.add a b with
  | some r =>
    have hop : ∀ t w, (binOp .add t (.float .f64 a) (.float .f64 b)).run Try.prog w = .ok (.float .f64 r) w := fun t w => run_float_arith w .add t .f64 a b r ho
    have hu : U r := u_of_lt (Ieee.Format.add_lt _ ho)
    have E := Lib.hid (opv_some (add_ok ho))
    clear ho
    go_enter Try.func48, Try.ntmps48
    go_wp2_with (first | (go_at_call 45; (with_reducible refine (number_any _ _).mono ?_); rintro e w' ⟨rfl, rfl⟩) | (go_at_call 47; (with_reducible refine (pattern_any _ _ (by assumption)).mono ?_); rintro e w' ⟨rfl, rfl⟩))
    go_ret
    exact ⟨ret_int (by rw [E.out]), New.refl _⟩
  | none =>
    obtain ⟨r, hu, hc, hop⟩ := run_nan .add 110 a b w (by simp) ho
    have E := Lib.hid (opv_none hc)
    clear ho hc
    go_enter Try.func48, Try.ntmps48
    go_wp2_with (first | (go_at_call 45; (with_reducible refine (number_any _ _).mono ?_); rintro e w' ⟨rfl, rfl⟩) | (go_at_call 47; (with_reducible refine (pattern_any _ _ (by assumption)).mono ?_); rintro e w' ⟨rfl, rfl⟩))
    go_ret
    exact ⟨ret_int (by rw [E.out]), (New.refl _).drew⟩
theorem so_sub_any (a b : Nat) (w : World) : Calls Try.prog 49 #[.int .u64 a, .int .u64 b] w fun e w' => e = .returned (.int .u64 (opv (Ieee.double.sub a b))) ∧ New w w' := by
  cases ho : Ieee.double.sub a b with
  | some r =>
    have hop : ∀ t w, (binOp .sub t (.float .f64 a) (.float .f64 b)).run Try.prog w = .ok (.float .f64 r) w := fun t w => run_float_arith w .sub t .f64 a b r ho
    have hu : U r := u_of_lt (Ieee.Format.sub_lt _ ho)
    have E := Lib.hid (opv_some (sub_ok ho))
    clear ho
    go_enter Try.func49, Try.ntmps49
    go_wp2_with (first | (go_at_call 45; (with_reducible refine (number_any _ _).mono ?_); rintro e w' ⟨rfl, rfl⟩) | (go_at_call 47; (with_reducible refine (pattern_any _ _ (by assumption)).mono ?_); rintro e w' ⟨rfl, rfl⟩))
    go_ret
    exact ⟨ret_int (by rw [E.out]), New.refl _⟩
  | none =>
    obtain ⟨r, hu, hc, hop⟩ := run_nan .sub 110 a b w (by simp) ho
    have E := Lib.hid (opv_none hc)
    clear ho hc
    go_enter Try.func49, Try.ntmps49
    go_wp2_with (first | (go_at_call 45; (with_reducible refine (number_any _ _).mono ?_); rintro e w' ⟨rfl, rfl⟩) | (go_at_call 47; (with_reducible refine (pattern_any _ _ (by assumption)).mono ?_); rintro e w' ⟨rfl, rfl⟩))
    go_ret
    exact ⟨ret_int (by rw [E.out]), (New.refl _).drew⟩
theorem so_mul_any (a b : Nat) (w : World) : Calls Try.prog 50 #[.int .u64 a, .int .u64 b] w fun e w' => e = .returned (.int .u64 (opv (Ieee.double.mul a b))) ∧ New w w' := by
  cases ho : Ieee.double.mul a b with
  | some r =>
    have hop : ∀ t w, (binOp .mul t (.float .f64 a) (.float .f64 b)).run Try.prog w = .ok (.float .f64 r) w := fun t w => run_float_arith w .mul t .f64 a b r ho
    have hu : U r := u_of_lt (Ieee.Format.mul_lt _ ho)
    have E := Lib.hid (opv_some (mul_ok ho))
    clear ho
    go_enter Try.func50, Try.ntmps50
    go_wp2_with (first | (go_at_call 45; (with_reducible refine (number_any _ _).mono ?_); rintro e w' ⟨rfl, rfl⟩) | (go_at_call 47; (with_reducible refine (pattern_any _ _ (by assumption)).mono ?_); rintro e w' ⟨rfl, rfl⟩))
    go_ret
    exact ⟨ret_int (by rw [E.out]), New.refl _⟩
  | none =>
    obtain ⟨r, hu, hc, hop⟩ := run_nan .mul 110 a b w (by simp) ho
    have E := Lib.hid (opv_none hc)
    clear ho hc
    go_enter Try.func50, Try.ntmps50
    go_wp2_with (first | (go_at_call 45; (with_reducible refine (number_any _ _).mono ?_); rintro e w' ⟨rfl, rfl⟩) | (go_at_call 47; (with_reducible refine (pattern_any _ _ (by assumption)).mono ?_); rintro e w' ⟨rfl, rfl⟩))
    go_ret
    exact ⟨ret_int (by rw [E.out]), (New.refl _).drew⟩
theorem div_any (a b : Nat) (w : World) : Calls Try.prog 51 #[.int .u64 a, .int .u64 b] w fun e w' => e = .returned (.int .u64 (opv (Ieee.double.div a b))) ∧ New w w' := by
  cases ho : Ieee.double.div a b with
  | some r =>
    have hop : ∀ t w, (binOp .quo t (.float .f64 a) (.float .f64 b)).run Try.prog w = .ok (.float .f64 r) w := fun t w => run_float_arith w .quo t .f64 a b r ho
    have hu : U r := u_of_lt (Ieee.Format.div_lt _ ho)
    have E := Lib.hid (opv_some (div_ok ho))
    clear ho
    go_enter Try.func51, Try.ntmps51
    go_wp2_with (first | (go_at_call 45; (with_reducible refine (number_any _ _).mono ?_); rintro e w' ⟨rfl, rfl⟩) | (go_at_call 47; (with_reducible refine (pattern_any _ _ (by assumption)).mono ?_); rintro e w' ⟨rfl, rfl⟩))
    go_ret
    exact ⟨ret_int (by rw [E.out]), New.refl _⟩
  | none =>
    obtain ⟨r, hu, hc, hop⟩ := run_nan .quo 110 a b w (by simp) ho
    have E := Lib.hid (opv_none hc)
    clear ho hc
    go_enter Try.func51, Try.ntmps51
    go_wp2_with (first | (go_at_call 45; (with_reducible refine (number_any _ _).mono ?_); rintro e w' ⟨rfl, rfl⟩) | (go_at_call 47; (with_reducible refine (pattern_any _ _ (by assumption)).mono ?_); rintro e w' ⟨rfl, rfl⟩))
    go_ret
    exact ⟨ret_int (by rw [E.out]), (New.refl _).drew⟩
theorem sqrt_eq (a : Nat) : Extern.MathSqrt.sqrt #[.float .f64 a] = (match Ieee.double.sqrt a with | some r => pure (.float .f64 r) | none => do pure (.float .f64 (← choose (.nanBits .f64 a a)))) := rfl
theorem run_sqrt_some (a r : Nat) (w : World) (h : Ieee.double.sqrt a = some r) : (Extern.MathSqrt.sqrt #[.float .f64 a]).run Try.prog w = .ok (.float .f64 r) w := by
  rw [sqrt_eq, h]; rfl
theorem run_sqrt_none (a : Nat) (w : World) (h : Ieee.double.sqrt a = none) : (Extern.MathSqrt.sqrt #[.float .f64 a]).run Try.prog w = .ok (.float .f64 (nbits a a w)) w.drew := by
  rw [sqrt_eq, h]; rfl
theorem sqrt_any (a : Nat) (w : World) : Calls Try.prog 52 #[.int .u64 a] w fun e w' => e = .returned (.int .u64 (opv (Ieee.double.sqrt a))) ∧ New w w' := by
  have h53 := @run_callFunc_extern Try.prog 66 _ Extern.MathSqrt.sqrt Try.func66 (by kernel_rfl) (by kernel_rfl) (by kernel_rfl) (by kernel_rfl)
  have so_low : ∀ r, (∀ w, (Extern.MathSqrt.sqrt #[.float .f64 a]).run Try.prog w = .ok (.float .f64 r) w) → ∀ w, Calls Try.prog 64 #[.float .f64 a] w fun e w' => e = .returned (.float .f64 r) ∧ w = w' := by
    intro r hr w
    go_enter Try.func64, Try.ntmps64
    go_wp2
    go_ret
    exact ⟨rfl, rfl⟩
  cases ho : Ieee.double.sqrt a with
  | some r =>
    have L := Lib.hid (so_low r (fun w => run_sqrt_some a r w ho))
    have hu : U r := u_of_lt (Ieee.Format.sqrt_lt _ ho)
    have E := Lib.hid (opv_some (sqrt_ok ho))
    clear ho h53 so_low
    go_enter Try.func52, Try.ntmps52
    go_wp2_with (first | (go_at_call 45; (with_reducible refine (number_any _ _).mono ?_); rintro e w' ⟨rfl, rfl⟩) | (go_at_call 47; (with_reducible refine (pattern_any _ _ (by assumption)).mono ?_); rintro e w' ⟨rfl, rfl⟩) | (go_at_call 64; (with_reducible refine (L.out _).mono ?_); rintro e w' ⟨rfl, rfl⟩))
    go_ret
    exact ⟨ret_int (by rw [E.out]), New.refl _⟩
  | none =>
    have hr := run_sqrt_none a w ho
    have hu := (nbits_ok a a w).1
    have E := Lib.hid (opv_none (nbits_ok a a w).2)
    have L : Calls Try.prog 64 #[.float .f64 a] w fun e w' => e = .returned (.float .f64 (nbits a a w)) ∧ w.drew = w' := by
      clear ho E so_low hu
      go_enter Try.func64, Try.ntmps64
      go_wp2
      go_ret
      exact ⟨rfl, rfl⟩
    have L' := Lib.hid L
    clear ho h53 so_low hr L
    go_enter Try.func52, Try.ntmps52
    go_wp2_with (first | (go_at_call 45; (with_reducible refine (number_any _ _).mono ?_); rintro e w' ⟨rfl, rfl⟩) | (go_at_call 47; (with_reducible refine (pattern_any _ _ (by assumption)).mono ?_); rintro e w' ⟨rfl, rfl⟩) | (go_at_call 64; (with_reducible refine (L'.out).mono ?_); rintro e w' ⟨rfl, rfl⟩))
    go_ret
    exact ⟨ret_int (by rw [E.out]), (New.refl _).drew⟩
theorem cmp_any (a b : Nat) (w : World) (h : U a) (h' : U b) : Calls Try.prog 43 #[.int .u64 a, .int .u64 b] w fun e w' => e = .returned (.int .i64 (cmpv a b)) ∧ w = w' := by
  cases hn : nn a b with
  | true =>
    have E := Lib.hid (order_none a b h h' hn).1
    have k := (order_none a b h h' hn).2
    have k1 : (FloatKind.f64.format.order a b == some .lt) = false := by rw [show FloatKind.f64.format.order a b = none from k]; rfl
    have k2 : (FloatKind.f64.format.order a b == some .gt) = false := by rw [show FloatKind.f64.format.order a b = none from k]; rfl
    have k3 : (FloatKind.f64.format.order a b == some .eq) = false := by rw [show FloatKind.f64.format.order a b = none from k]; rfl
    clear k hn
    go_enter Try.func43, Try.ntmps43
    go_wp2_with (go_at_call 45; (with_reducible refine (number_any _ _).mono ?_); rintro e w' ⟨rfl, rfl⟩)
    go_ret
    exact ⟨ret_int (by rw [E.out]), rfl⟩
  | false =>
    rcases order_three a b h h' hn with ⟨E, k⟩ | ⟨E, k⟩ | ⟨E, k⟩
    · have E' := Lib.hid E
      have k1 : (FloatKind.f64.format.order a b == some .lt) = true := by rw [show FloatKind.f64.format.order a b = some .lt from k]; rfl
      have k2 : (FloatKind.f64.format.order a b == some .gt) = false := by rw [show FloatKind.f64.format.order a b = some .lt from k]; rfl
      have k3 : (FloatKind.f64.format.order a b == some .eq) = false := by rw [show FloatKind.f64.format.order a b = some .lt from k]; rfl
      clear k hn E
      go_enter Try.func43, Try.ntmps43
      go_wp2_with (go_at_call 45; (with_reducible refine (number_any _ _).mono ?_); rintro e w' ⟨rfl, rfl⟩)
      go_ret
      exact ⟨ret_int (by rw [E'.out]), rfl⟩
    · have E' := Lib.hid E
      have k1 : (FloatKind.f64.format.order a b == some .lt) = false := by rw [show FloatKind.f64.format.order a b = some .gt from k]; rfl
      have k2 : (FloatKind.f64.format.order a b == some .gt) = true := by rw [show FloatKind.f64.format.order a b = some .gt from k]; rfl
      have k3 : (FloatKind.f64.format.order a b == some .eq) = false := by rw [show FloatKind.f64.format.order a b = some .gt from k]; rfl
      clear k hn E
      go_enter Try.func43, Try.ntmps43
      go_wp2_with (go_at_call 45; (with_reducible refine (number_any _ _).mono ?_); rintro e w' ⟨rfl, rfl⟩)
      go_ret
      exact ⟨ret_int (by rw [E'.out]), rfl⟩
    · have E' := Lib.hid E
      have k1 : (FloatKind.f64.format.order a b == some .lt) = false := by rw [show FloatKind.f64.format.order a b = some .eq from k]; rfl
      have k2 : (FloatKind.f64.format.order a b == some .gt) = false := by rw [show FloatKind.f64.format.order a b = some .eq from k]; rfl
      have k3 : (FloatKind.f64.format.order a b == some .eq) = true := by rw [show FloatKind.f64.format.order a b = some .eq from k]; rfl
      clear k hn E
      go_enter Try.func43, Try.ntmps43
      go_wp2_with (go_at_call 45; (with_reducible refine (number_any _ _).mono ?_); rintro e w' ⟨rfl, rfl⟩)
      go_ret
      exact ⟨ret_int (by rw [E'.out]), rfl⟩
end Go.Proofs.Ytbkhmeongekdiaa
namespace Go.Proofs.Ytbkhmeongekdiaa
open Go.RowKit
set_option linter.unusedVariables false
theorem u64_of {a b : Nat} (h : a = b) : Value.int .u64 (a : Int) = Value.int .u64 (b : Int) := by rw [h]
theorem par_of (m : Nat) : ((m : Int) % 2 == 1) = (m % 2 == 1) := by
  rw [Bool.eq_iff_iff]; simp; omega
end Go.Proofs.Ytbkhmeongekdiaa
namespace Go.Proofs.Ytbkhmeongekdiaa
open Go.RowKit
set_option linter.unusedVariables false
end Go.Proofs.Ytbkhmeongekdiaa
namespace Go.Proofs.Ytbkhmeongekdiaa
open Go.RowKit
set_option linter.unusedVariables false
/-- a number as the document's answers have it -/
def numv (neg : Bool) (m : Nat) (p : Int) (more : Bool) : Value := .agg #[.bool neg, .int .u64 m, .int .i64 p, .bool more]
theorem pattern_of (n : Int) (w : World) : Calls Try.prog 47 #[.float .f64 (floatOfInt .f64 n)] w fun e w' => e = .returned (.int .u64 (ofi n)) ∧ w = w' := by
  have e : floatOfInt .f64 n = ofi n := nearest_rnd _ _ _
  rw [e]
  have h := ofi_ok n
  have hp : pat (ofi n) = ofi n := by unfold pat; rw [if_neg h.2]
  exact (pattern_any (ofi n) w h.1).mono fun e w' ⟨h1, h2⟩ => ⟨by rw [h1, hp], h2⟩
theorem fromint_any (v : Nat) (w : World) (h : v ≤ 4294967295) : Calls Try.prog 35 #[.int .u32 v] w fun e w' => e = .returned (.int .u64 (ofi (sg32 v))) ∧ w = w' := by
  have E := Lib.hid (show wrap32 (v : Int) = sg32 v from by unfold sg32 wrap32; split <;> omega)
  by_cases c : v < 2147483648
  · have E' := Lib.hid (show (v : Int) = sg32 v from by unfold sg32; rw [if_pos c])
    go_enter Try.func35, Try.ntmps35
    go_wp2_with (go_at_call 47; (with_reducible refine (pattern_of _ _).mono ?_); rintro e w' ⟨rfl, rfl⟩)
    go_ret
    exact ⟨ret_int (by first | rw [E.out] | rw [← E'.out]), rfl⟩
  · go_enter Try.func35, Try.ntmps35
    go_wp2_with (go_at_call 47; (with_reducible refine (pattern_of _ _).mono ?_); rintro e w' ⟨rfl, rfl⟩)
    go_ret
    exact ⟨ret_int (by rw [E.out]), rfl⟩
theorem toint_any (a : Nat) (w : World) (h : U a) : Calls Try.prog 34 #[.int .u64 a] w fun e w' => e = .returned (.int .u32 (toi a)) ∧ w = w' := by
  by_cases h4 : cls a = 4
  · have E := Lib.hid (show toi a = 0 from by unfold toi; rw [if_pos h4])
    have k : (cls a == 4) = true := by simpa using h4
    clear h4
    go_enter Try.func34, Try.ntmps34
    go_wp2_with (first | (go_at_call 45; (with_reducible refine (number_any _ _).mono ?_); rintro e w' ⟨rfl, rfl⟩) | (go_at_call 46; (with_reducible refine (isnan_any _ _ (by assumption)).mono ?_); rintro e w' ⟨rfl, rfl⟩))
    go_ret
    exact ⟨ret_int (by rw [E.out]; rfl), rfl⟩
  · have k : (cls a == 4) = false := by simpa using h4
    obtain ⟨o1, o2, r1, r2, p1, p2⟩ := bounds a h h4
    by_cases c1 : sgn a = false ∧ (cls a = 3 ∨ 2147483647 ≤ tq (mg a) (pl a))
    · have E := Lib.hid (toi_hi a h4 c1)
      have ho : o1 ≠ .lt := fun e => (p1.1 e) c1
      have k1 : (FloatKind.f64.format.order a 4746794007244308480 == some .gt || FloatKind.f64.format.order a 4746794007244308480 == some .eq) = true := by
        rw [show FloatKind.f64.format.order a 4746794007244308480 = some o1 from r1]; cases o1 <;> first | rfl | exact absurd rfl ho
      clear r1 r2 p1 p2 c1 h4 ho
      go_enter Try.func34, Try.ntmps34
      go_wp2_with (first | (go_at_call 45; (with_reducible refine (number_any _ _).mono ?_); rintro e w' ⟨rfl, rfl⟩) | (go_at_call 46; (with_reducible refine (isnan_any _ _ (by assumption)).mono ?_); rintro e w' ⟨rfl, rfl⟩))
      go_ret
      exact ⟨ret_int (by rw [E.out]; rfl), rfl⟩
    · have e1 : o1 = .lt := p1.2 c1
      subst e1
      have k1 : (FloatKind.f64.format.order a 4746794007244308480 == some .gt) = false := by rw [show FloatKind.f64.format.order a 4746794007244308480 = some .lt from r1]; rfl
      have k1' : (FloatKind.f64.format.order a 4746794007244308480 == some .eq) = false := by rw [show FloatKind.f64.format.order a 4746794007244308480 = some .lt from r1]; rfl
      by_cases c2 : sgn a = true ∧ (cls a = 3 ∨ 2147483648 ≤ tq (mg a) (pl a))
      · have E := Lib.hid (toi_lo a h4 c2)
        have ho : o2 ≠ .gt := fun e => (p2.1 e) c2
        have k2 : (FloatKind.f64.format.order a 13970166044103278592 == some .lt || FloatKind.f64.format.order a 13970166044103278592 == some .eq) = true := by
          rw [show FloatKind.f64.format.order a 13970166044103278592 = some o2 from r2]; cases o2 <;> first | rfl | exact absurd rfl ho
        clear r1 r2 p1 p2 c1 c2 h4 ho
        go_enter Try.func34, Try.ntmps34
        go_wp2_with (first | (go_at_call 45; (with_reducible refine (number_any _ _).mono ?_); rintro e w' ⟨rfl, rfl⟩) | (go_at_call 46; (with_reducible refine (isnan_any _ _ (by assumption)).mono ?_); rintro e w' ⟨rfl, rfl⟩))
        go_ret
        exact ⟨ret_int (by rw [E.out]; rfl), rfl⟩
      · have e2 : o2 = .gt := p2.2 c2
        subst e2
        have k2 : (FloatKind.f64.format.order a 13970166044103278592 == some .lt) = false := by rw [show FloatKind.f64.format.order a 13970166044103278592 = some .gt from r2]; rfl
        have k2' : (FloatKind.f64.format.order a 13970166044103278592 == some .eq) = false := by rw [show FloatKind.f64.format.order a 13970166044103278592 = some .gt from r2]; rfl
        obtain ⟨hf, b1, b2, b3⟩ := toi_mid a h4 c1 c2
        have hv : floatToIntVal .f64 a .i32 = some (stq a) := by
          unfold floatToIntVal
          rw [show (FloatKind.f64.decode a).toInt .zero = some (stq a) from toInt_fin a h hf]
          show (if IntKind.i32.min ≤ stq a ∧ stq a ≤ IntKind.i32.max then some (stq a) else none) = _
          rw [if_pos ⟨b1, b2⟩]
        have hc : ∀ w, (convert 110 21 (.float .f64 a)).run Try.prog w = .ok (.int .i32 (stq a)) w := fun w => run_convert_float_int w 110 21 .f64 .i32 a (stq a) (by rw [Try.underlying110]; rfl) Try.underlying21 hv
        have B := Lib.hid b3
        clear r1 r2 p1 p2 c1 c2 h4 hv b3 hf
        go_enter Try.func34, Try.ntmps34
        go_wp2_with (first | (go_at_call 45; (with_reducible refine (number_any _ _).mono ?_); rintro e w' ⟨rfl, rfl⟩) | (go_at_call 46; (with_reducible refine (isnan_any _ _ (by assumption)).mono ?_); rintro e w' ⟨rfl, rfl⟩))
        go_ret
        exact ⟨ret_int (by rw [B.out]; split <;> omega), rfl⟩
end Go.Proofs.Ytbkhmeongekdiaa
namespace Go.Proofs.Ytbkhmeongekdiaa
set_option linter.unusedVariables false
/-! ### sums -/
theorem rd_trunc (neg : Bool) (T D : Nat) (p : Int) (h : 9007199254740992 ≤ T / 2^D ∨ T % 2^D = 0) : so_rd neg (T / 2^D) (p + D) (!(T % 2^D == 0)) = rnd neg T p := by
  rcases h with h | h
  · rw [rd_more neg _ _ _ h, rnd_sticky neg T D p h]
    unfold sticky bn
    congr 1
    · congr 1
      by_cases c : T % 2^D = 0
      · simp [c]
      · simp [c]
  · rw [h, show (!((0 : Nat) == 0)) = false from rfl, rd_whole, ← rnd_scale neg _ D, show p + (D : Int) - (D : Int) = p from by omega]
    congr 1
    have := Nat.div_add_mod T (2^D)
    rw [h, Nat.add_zero, Nat.mul_comm] at this
    exact this
theorem signed_eq (s : Bool) (m k : Nat) : Ieee.signed s m k = if s then -((m * 2^k : Nat) : Int) else ((m * 2^k : Nat) : Int) := by
  unfold Ieee.signed; rw [Nat.shiftLeft_eq]
/-- a sum of two numbers, by the greater place first -/
theorem sum_at (s t : Bool) (m n : Nat) (p q : Int) (h : q ≤ p) (hle : s ≠ t → n ≤ m * 2 ^ (p - q).toNat) (hnz : 0 < n) :
    (Ieee.Datum.sum (.number s m p) (.number t n q)).map Ieee.double.write =
      some (let T := if s = t then m * 2 ^ (p - q).toNat + n else m * 2 ^ (p - q).toNat - n
            if T = 0 then 0 else rnd s T q) := by
  have hb : min p q = q := by omega
  unfold Ieee.Datum.sum
  simp only [hb, Option.map_some, Int.sub_self, Int.toNat_zero]
  rw [signed_eq, signed_eq]
  simp only [Nat.pow_zero, Nat.mul_one]
  generalize m * 2 ^ (p - q).toNat = M at *
  congr 1
  show Ieee.double.nearest _ _ _ = _
  rw [nearest_rnd]
  cases s <;> cases t <;> simp only [if_true, if_false, Bool.false_eq_true, Bool.true_eq_false] at hle ⊢
  · rw [if_neg (by omega), if_neg (by omega)]
    rw [show decide ((M : Int) + n < 0) = false from by simp; omega, show ((M : Int) + n).natAbs = M + n from by omega]
  · have := hle (by simp)
    by_cases c : M - n = 0
    · rw [if_pos (by omega), if_pos c, show ((M : Int) + -n).natAbs = 0 from by omega]; unfold rnd so_wd; simp
    · rw [if_neg (by omega), if_neg c]
      rw [show decide ((M : Int) + -n < 0) = false from by simp; omega, show ((M : Int) + -n).natAbs = M - n from by omega]
  · have := hle (by simp)
    by_cases c : M - n = 0
    · rw [if_pos (by omega), if_pos c, show (-(M : Int) + n).natAbs = 0 from by omega]; unfold rnd so_wd; simp
    · rw [if_neg (by omega), if_neg c]
      rw [show decide (-(M : Int) + n < 0) = true from by simp; omega, show (-(M : Int) + n).natAbs = M - n from by omega]
  · rw [if_neg (by omega), if_neg (by omega)]
    rw [show decide (-(M : Int) + -n < 0) = true from by simp; omega, show (-(M : Int) + -n).natAbs = M + n from by omega]
theorem sum_comm (c d : Ieee.Datum) : c.sum d = d.sum c := by
  cases c <;> cases d <;> simp only [Ieee.Datum.sum]
  · rename_i s m i t n j
    rw [Int.min_comm j i, Int.add_comm, Bool.and_comm]
  · rename_i s t
    by_cases h : s = t
    · subst h; rfl
    · rw [if_neg h, if_neg (fun e => h e.symm)]
theorem add_comm' (a b : Nat) : Ieee.double.add a b = Ieee.double.add b a := by
  unfold Ieee.Format.add; rw [sum_comm]
/-- the document's sum of two numbers, of which the first so_one is the greater so_one: what it is at the end of its loop -/
def dd (a b : Nat) : Nat := (pl a - pl b).toNat
def ax (a b : Nat) : Nat := if dd a b = 0 then 256 * mg a else 512 * mg a
def ae (a b : Nat) : Int := if dd a b = 0 then pl a - 8 else pl a - 9
def fy (N j : Nat) : Nat := N / 2^j
def ry (N j : Nat) : Bool := !(N % 2^j == 0)
def ay (a b : Nat) : Nat := fy (256 * mg b) (dd a b - 1)
def ar (a b : Nat) : Bool := ry (256 * mg b) (dd a b - 1)
theorem fy_zero (N : Nat) : fy N 0 = N := by unfold fy; simp
theorem ry_zero (N : Nat) : ry N 0 = false := by unfold ry; simp [Nat.mod_one]
theorem fy_succ (N j : Nat) : fy N j / 2 = fy N (j+1) := by unfold fy; rw [Nat.div_div_eq_div_mul]; rfl
theorem ry_succ (N j : Nat) : (ry N j || fy N j % 2 == 1) = ry N (j+1) := by
  unfold ry fy
  rw [Nat.pow_succ, Nat.mod_mul]
  have h := Nat.mod_lt (N / 2^j) (show 0 < 2 by omega)
  have hp := Nat.two_pow_pos j
  generalize N / 2^j % 2 = b at *
  generalize N % 2^j = c at *
  generalize 2^j = P at *
  rcases (show b = 0 ∨ b = 1 by omega) with rfl | rfl
  · simp
  · simp; omega
/-- so many rounds of halving -/
def aK (a b : Nat) : Nat := min (dd a b - 1) ((256 * mg b).log2 + 1)
theorem fy_pos (N j : Nat) (hN : 0 < N) : 0 < fy N j ↔ j ≤ N.log2 := by
  unfold fy
  rw [Nat.div_pos_iff, Nat.le_log2 (by omega)]
  have := Nat.two_pow_pos j
  omega
theorem fy_le (N j : Nat) : fy N j ≤ N := Nat.div_le_self _ _
theorem ay_end (a b : Nat) (_h : 0 < mg b) : ay a b = fy (256 * mg b) (aK a b) ∧ ar a b = ry (256 * mg b) (aK a b) := by
  unfold ay ar aK
  rcases Nat.le_total (dd a b - 1) ((256 * mg b).log2 + 1) with c | c
  · rw [Nat.min_eq_left c]; exact ⟨rfl, rfl⟩
  · rw [Nat.min_eq_right c]
    have hl : 256 * mg b < 2 ^ ((256 * mg b).log2 + 1) := Nat.lt_log2_self
    have h2 : 2 ^ ((256 * mg b).log2 + 1) ≤ 2 ^ (dd a b - 1) := Nat.pow_le_pow_right (by decide) c
    unfold fy ry
    rw [Nat.div_eq_of_lt hl, Nat.div_eq_of_lt (by omega), Nat.mod_eq_of_lt hl, Nat.mod_eq_of_lt (by omega)]
    exact ⟨rfl, rfl⟩
/-- sorted -/
def srt (a b : Nat) : Prop := pl b < pl a ∨ (pl a = pl b ∧ mg b ≤ mg a)
theorem pl_norm (a : Nat) (h : -1074 < pl a) : 4503599627370496 ≤ mg a := by
  unfold pl at h; unfold mg
  split at h
  · omega
  · rename_i c; rw [if_neg c]; omega
theorem srt_norm (a b : Nat) (hb : fin b = true) (h : 0 < dd a b) : 4503599627370496 ≤ mg a := by
  have := pl_bd b hb
  unfold dd at h
  exact pl_norm a (by omega)
theorem ax_bd (a b : Nat) : ax a b ≤ 4611686018427387904 := by
  have := mg_lt a
  unfold ax; split <;> omega
theorem ax_big (a b : Nat) (hb : fin b = true) (h : 0 < dd a b) : 2305843009213693952 ≤ ax a b := by
  have := srt_norm a b hb h
  unfold ax; rw [if_neg (by omega)]; omega
theorem ay_bd (a b : Nat) : ay a b ≤ 2305843009213693696 := by
  have := mg_lt b
  have := fy_le (256 * mg b) (dd a b - 1)
  unfold ay; omega
theorem ar_no (a b : Nat) (h : dd a b = 0) : ay a b = 256 * mg b ∧ ar a b = false := by
  unfold ay ar; rw [h]; exact ⟨fy_zero _, ry_zero _⟩
theorem ax_ge (a b : Nat) (hb : fin b = true) (h : srt a b) : ay a b ≤ ax a b := by
  by_cases c : dd a b = 0
  · rw [(ar_no a b c).1]; unfold ax; rw [if_pos c]
    unfold srt at h; unfold dd at c; omega
  · have := ax_big a b hb (by omega); have := ay_bd a b; omega
theorem bn_not (N j : Nat) : ry N j = !(N % 2^j == 0) := rfl
/-- all in the least unit -/
theorem sum_tot (a b : Nat) (h : 0 < dd a b) : 256 * (mg a * 2 ^ dd a b) = 512 * mg a * 2 ^ (dd a b - 1) := by
  obtain ⟨D, hD⟩ : ∃ D, dd a b = D + 1 := ⟨dd a b - 1, by omega⟩
  rw [hD, Nat.add_sub_cancel, Nat.pow_succ, Nat.mul_assoc 512]
  rw [show mg a * (2^D * 2) = 2 * (mg a * 2^D) from by ac_rfl]; omega
theorem div_add' (X N D : Nat) : (X * 2^D + N) / 2^D = X + fy N D ∧ (!((X * 2^D + N) % 2^D == 0)) = ry N D := by
  have h := Nat.two_pow_pos D
  unfold fy ry
  constructor
  · rw [Nat.add_comm, Nat.add_mul_div_right _ _ h, Nat.add_comm]
  · rw [Nat.add_comm, Nat.add_mul_mod_self_right]
theorem div_sub' (X N D : Nat) (hX : fy N D < X) : (X * 2^D - N) / 2^D = X - fy N D - bn (ry N D) ∧ (!((X * 2^D - N) % 2^D == 0)) = ry N D := by
  have h := Nat.two_pow_pos D
  have e := Nat.div_add_mod N (2^D)
  have l := Nat.mod_lt N h
  unfold ry fy bn at *
  generalize N / 2^D = q at *
  generalize N % 2^D = r at *
  generalize 2^D = P at *
  obtain ⟨u, rfl⟩ : ∃ u, X = q + u + 1 := ⟨X - q - 1, by omega⟩
  have e2 : (q + u + 1) * P = P * q + u * P + P := by rw [Nat.add_mul, Nat.add_mul, Nat.one_mul, Nat.mul_comm q]
  by_cases c : r = 0
  · subst c
    rw [show (q + u + 1) * P - N = (u + 1) * P from by rw [e2, ← e, Nat.add_mul]; omega]
    rw [Nat.mul_div_cancel _ h, Nat.mul_mod_left]
    simp; omega
  · rw [show (q + u + 1) * P - N = (P - r) + u * P from by rw [e2, ← e]; omega]
    rw [Nat.add_mul_div_right _ _ h, Nat.add_mul_mod_self_right, Nat.div_eq_of_lt (by omega), Nat.mod_eq_of_lt (by omega)]
    have c2 : (P - r == 0) = false := by simp; omega
    have c3 : (r == 0) = false := by simpa using c
    rw [c2, c3]; simp; omega
theorem add_same (a b : Nat) (ha : U a) (hb : U b) (fa : fin a = true) (fb : fin b = true) (_h0 : 0 < mg a) (h1 : 0 < mg b) (h : srt a b) (hs : sgn a = sgn b) :
    opv (Ieee.double.add a b) = so_rd (sgn a) (ax a b + ay a b) (ae a b) (ar a b) := by
  unfold Ieee.Format.add
  rw [read_fin a ha fa, read_fin b hb fb, sum_at _ _ _ _ _ _ (by unfold srt at h; omega) (fun k => absurd hs k) h1]
  simp only [hs, if_true, opv, Option.getD_some]
  rw [if_neg (by omega)]
  change rnd (sgn b) (mg a * 2 ^ dd a b + mg b) (pl b) = _
  by_cases c : dd a b = 0
  · have e : pl a = pl b := by unfold srt at h; unfold dd at c; omega
    rw [(ar_no a b c).1, (ar_no a b c).2, rd_whole]; unfold ax ae
    rw [if_pos c, if_pos c, c, e, show 256 * mg a + 256 * mg b = (mg a * 2^0 + mg b) * 2^8 from by omega, show pl b - 8 = pl b - ((8 : Nat) : Int) from rfl, rnd_scale]
  · have hbig := ax_big a b fb (by omega)
    obtain ⟨e1, e2⟩ := div_add' (512 * mg a) (256 * mg b) (dd a b - 1)
    have k := rd_trunc (sgn b) (512 * mg a * 2 ^ (dd a b - 1) + 256 * mg b) (dd a b - 1) (pl b - 8) (Or.inl (by rw [e1]; unfold ax at hbig; rw [if_neg c] at hbig; omega))
    rw [e1, e2] at k
    rw [← rnd_scale (sgn b) _ 8, show (mg a * 2 ^ dd a b + mg b) * 2^8 = 512 * mg a * 2 ^ (dd a b - 1) + 256 * mg b from by rw [← sum_tot a b (by omega)]; omega]
    rw [show pl b - ((8 : Nat) : Int) = pl b - 8 from rfl, ← k]
    unfold ax ay ae ar
    rw [if_neg c, if_neg c]
    congr 1
    unfold srt at h; unfold dd at *; omega
theorem add_diff (a b : Nat) (ha : U a) (hb : U b) (fa : fin a = true) (fb : fin b = true) (_h0 : 0 < mg a) (h1 : 0 < mg b) (h : srt a b) (hs : sgn a ≠ sgn b) :
    opv (Ieee.double.add a b) = if ax a b - ay a b - bn (ar a b) = 0 ∧ ar a b = false then 0 else so_rd (sgn a) (ax a b - ay a b - bn (ar a b)) (ae a b) (ar a b) := by
  unfold Ieee.Format.add
  have hle : mg b ≤ mg a * 2 ^ (pl a - pl b).toNat := by
    by_cases c : dd a b = 0
    · have e : pl a = pl b := by unfold srt at h; unfold dd at c; omega
      unfold srt at h; rw [e]; simp; omega
    · have k := srt_norm a b fb (by omega)
      have k2 := mg_lt b
      have k3 : 2 ^ 1 ≤ 2 ^ (pl a - pl b).toNat := Nat.pow_le_pow_right (by decide) (by unfold dd at c; omega)
      have k4 : 4503599627370496 * 2^1 ≤ mg a * 2 ^ (pl a - pl b).toNat := Nat.mul_le_mul k k3
      omega
  rw [read_fin a ha fa, read_fin b hb fb, sum_at _ _ _ _ _ _ (by unfold srt at h; omega) (fun _ => hle) h1]
  simp only [hs, if_false, opv, Option.getD_some]
  change (if mg a * 2 ^ dd a b - mg b = 0 then 0 else rnd (sgn a) (mg a * 2 ^ dd a b - mg b) (pl b)) = _
  by_cases c : dd a b = 0
  · have e : pl a = pl b := by unfold srt at h; unfold dd at c; omega
    rw [(ar_no a b c).1, (ar_no a b c).2, rd_whole]; unfold ax ae
    rw [if_pos c, if_pos c, c, e, show bn false = 0 from rfl]
    by_cases z : mg a = mg b
    · rw [if_pos (by omega), if_pos ⟨by omega, rfl⟩]
    · have : mg b < mg a := by unfold srt at h; omega
      rw [if_neg (by omega), if_neg (by omega), show 256 * mg a - 256 * mg b - 0 = (mg a * 2^0 - mg b) * 2^8 from by omega, show pl b - 8 = pl b - ((8 : Nat) : Int) from rfl, rnd_scale]
  · have hbig := ax_big a b fb (by omega)
    have hay := ay_bd a b
    have hl : fy (256 * mg b) (dd a b - 1) < 512 * mg a := by unfold ax at hbig; rw [if_neg c] at hbig; unfold ay at hay; omega
    obtain ⟨e1, e2⟩ := div_sub' (512 * mg a) (256 * mg b) (dd a b - 1) hl
    have hbn := bn_le (ry (256 * mg b) (dd a b - 1))
    have k := rd_trunc (sgn a) (512 * mg a * 2 ^ (dd a b - 1) - 256 * mg b) (dd a b - 1) (pl b - 8) (by
      by_cases hD : dd a b - 1 = 0
      · right; rw [hD]; exact Nat.mod_one _
      · left; rw [e1]; unfold ax at hbig; rw [if_neg c] at hbig
        have h9 : fy (256 * mg b) (dd a b - 1) ≤ 256 * mg b / 2 := by
          unfold fy
          exact Nat.div_le_div_left (Nat.pow_le_pow_right (n := 2) (i := 1) (by decide) (by omega)) (by decide)
        have := mg_lt b
        omega)
    have hT : 512 * mg a * 2 ^ (dd a b - 1) - 256 * mg b ≠ 0 := by
      intro z
      rw [z] at e1; simp at e1
      unfold ax at hbig; rw [if_neg c] at hbig; unfold ay at hay; omega
    rw [e1, e2] at k
    have hs2 := sum_tot a b (by omega)
    rw [if_neg (by omega)]
    rw [← rnd_scale (sgn a) _ 8, show (mg a * 2 ^ dd a b - mg b) * 2^8 = 512 * mg a * 2 ^ (dd a b - 1) - 256 * mg b from by rw [← hs2]; omega]
    rw [show pl b - ((8 : Nat) : Int) = pl b - 8 from rfl, ← k]
    rw [if_neg (fun hh => by have h9 := hh.1; unfold ax ay ar at h9; rw [if_neg c] at h9; unfold ax at hbig; rw [if_neg c] at hbig; unfold ay at hay; omega)]
    unfold ax ay ae ar
    rw [if_neg c, if_neg c]
    congr 1
    unfold srt at h; unfold dd at *; omega
theorem add_zero_left (a b : Nat) (ha : U a) (hb : U b) (fa : fin a = true) (fb : fin b = true) (h0 : mg a = 0) (h1 : mg b ≠ 0) : opv (Ieee.double.add a b) = b := by
  unfold Ieee.Format.add
  rw [read_fin a ha fa, read_fin b hb fb, h0]
  unfold Ieee.Datum.sum
  simp only [Option.map_some, opv, Option.getD_some]
  show Ieee.double.nearest _ _ _ = _
  rw [signed_eq, signed_eq, nearest_rnd]
  have hp := Nat.mul_pos (show 0 < mg b by omega) (Nat.two_pow_pos (pl b - min (pl a) (pl b)).toNat)
  have hr := rnd_read b hb fb
  rw [← rnd_scale _ _ (pl b - min (pl a) (pl b)).toNat, show pl b - (((pl b - min (pl a) (pl b)).toNat : Nat) : Int) = min (pl a) (pl b) from by omega] at hr
  generalize mg b * 2 ^ (pl b - min (pl a) (pl b)).toNat = T at *
  rw [Nat.zero_mul]
  conv => rhs; rw [← hr]
  cases sgn a <;> cases sgn b <;> simp only [if_true, if_false, Bool.false_eq_true]
  · rw [if_neg (by omega), show decide (((0 : Nat) : Int) + (T : Int) < 0) = false from by first | (simp; done) | (simp; omega), show (((0 : Nat) : Int) + (T : Int)).natAbs = T from by omega]
  · rw [if_neg (by omega), show decide (((0 : Nat) : Int) + -(T : Int) < 0) = true from by first | (simp; done) | (simp; omega), show (((0 : Nat) : Int) + -(T : Int)).natAbs = T from by omega]
  · rw [if_neg (by omega), show decide (-((0 : Nat) : Int) + (T : Int) < 0) = false from by first | (simp; done) | (simp; omega), show (-((0 : Nat) : Int) + (T : Int)).natAbs = T from by omega]
  · rw [if_neg (by omega), show decide (-((0 : Nat) : Int) + -(T : Int) < 0) = true from by first | (simp; done) | (simp; omega), show (-((0 : Nat) : Int) + -(T : Int)).natAbs = T from by omega]
theorem add_zero_both (a b : Nat) (ha : U a) (hb : U b) (fa : fin a = true) (fb : fin b = true) (h0 : mg a = 0) (h1 : mg b = 0) : opv (Ieee.double.add a b) = so_wd (sgn a && sgn b) 0 := by
  unfold Ieee.Format.add
  rw [read_fin a ha fa, read_fin b hb fb, h0, h1]
  unfold Ieee.Datum.sum
  simp only [Option.map_some, opv, Option.getD_some]
  show Ieee.double.nearest _ _ _ = _
  rw [signed_eq, signed_eq, nearest_rnd, Nat.zero_mul, Nat.zero_mul]
  cases sgn a <;> cases sgn b <;> rfl
theorem add_nan (a b : Nat) (ha : U a) (hb : U b) (h : nn a b = true) : opv (Ieee.double.add a b) = Emp := by
  unfold nn at h
  unfold Ieee.Format.add
  by_cases c : cls a = 4
  · rw [read_nan a ha c]; rfl
  · have d : cls b = 4 := by simpa [c] using h
    rw [read_nan b hb d]; cases Ieee.double.read a <;> rfl
theorem wd_inf (a : Nat) (ha : U a) (h : cls a = 3) : so_wd (sgn a) 9218868437227405312 = a := by
  have e := split_u a ha
  rw [cls3] at h
  unfold so_wd
  conv => rhs; rw [e]
  rw [h.1, h.2]
  cases sgn a <;> rfl
theorem write_inf (s : Bool) : Ieee.double.write (.infinity s) = so_wd s 9218868437227405312 := by
  show Ieee.double.word s Ieee.double.infRung = _
  rw [infr]; unfold Ieee.Format.word so_wd; rw [sw]
theorem add_inf (a b : Nat) (ha : U a) (hb : U b) (h : nn a b = false) (h3 : cls a = 3) : opv (Ieee.double.add a b) = if cls b = 3 ∧ sgn a ≠ sgn b then Emp else a := by
  have n2 : cls b ≠ 4 := by intro c; unfold nn at h; simp [c] at h
  unfold Ieee.Format.add
  rw [read_inf a ha h3]
  by_cases hb3 : cls b = 3
  · rw [read_inf b hb hb3, show Ieee.Datum.sum (.infinity (sgn a)) (.infinity (sgn b)) = if sgn a = sgn b then some (.infinity (sgn a)) else none from rfl]
    by_cases hs : sgn a = sgn b
    · rw [if_pos hs, if_neg (by simp [hs])]
      simp only [Option.map_some, opv, Option.getD_some]
      rw [write_inf, wd_inf a ha h3]
    · rw [if_neg hs, if_pos ⟨hb3, hs⟩]; rfl
  · rw [read_fin b hb ((fin_cls b).2 ⟨hb3, n2⟩), if_neg (by simp [hb3])]
    rw [show Ieee.Datum.sum (.infinity (sgn a)) (.number (sgn b) (mg b) (pl b)) = some (.infinity (sgn a)) from rfl]
    simp only [Option.map_some, opv, Option.getD_some]
    rw [write_inf, wd_inf a ha h3]
theorem ar_big (a b : Nat) (fb : fin b = true) (h : ar a b = true) : 4503599627370496 ≤ ax a b - ay a b - bn (ar a b) ∧ 4503599627370496 ≤ ax a b + ay a b := by
  have hD : dd a b - 1 ≠ 0 := by
    intro z
    unfold ar at h; rw [z, ry_zero] at h; cases h
  have hbig := ax_big a b fb (by omega)
  have h9 : ay a b ≤ 256 * mg b / 2 := by
    unfold ay fy
    exact Nat.div_le_div_left (Nat.pow_le_pow_right (n := 2) (i := 1) (by decide) (by omega)) (by decide)
  have := mg_lt b
  have := bn_le (ar a b)
  omega
theorem ae_bd (a b : Nat) (fa : fin a = true) : -1083 ≤ ae a b ∧ ae a b ≤ 971 := by
  have := pl_bd a fa
  unfold ae; split <;> omega
theorem dd_bd (a b : Nat) (fa : fin a = true) (fb : fin b = true) : dd a b ≤ 2045 := by
  have := pl_bd a fa; have := pl_bd b fb
  unfold dd; omega
/-! ### products -/
def so_nl (m : Nat) : Nat := 52 - m.log2
def so_nm (m : Nat) : Nat := m * 2 ^ so_nl m
theorem nl_iff (m i : Nat) (h0 : 0 < m) (h : m < 9007199254740992) : m * 2^i < 4503599627370496 ↔ i < so_nl m := by
  have hl : m.log2 < 53 := (Nat.log2_lt (by omega)).2 (by omega)
  have hp := Nat.two_pow_pos i
  have e : m * 2^i < 4503599627370496 ↔ m.log2 + i < 52 := by
    rw [show (4503599627370496 : Nat) = 2^52 from by decide, ← log2_scale m i h0, Nat.log2_lt]
    rw [Ne, Nat.mul_eq_zero]; omega
  rw [e]; unfold so_nl; omega
theorem nl_le (m : Nat) : so_nl m ≤ 52 := by unfold so_nl; omega
theorem so_nm_bd (m : Nat) (h0 : 0 < m) (h : m < 9007199254740992) : 4503599627370496 ≤ so_nm m ∧ so_nm m < 9007199254740992 := by
  have h1 := nl_iff m (so_nl m) h0 h
  have h2 : ¬ (m * 2 ^ so_nl m < 4503599627370496) := fun k => Nat.lt_irrefl _ (h1.1 k)
  unfold so_nm
  refine ⟨by omega, ?_⟩
  cases hn : so_nl m with
  | zero => simp; omega
  | succ k =>
    have h3 := (nl_iff m k h0 h).2 (by omega)
    rw [Nat.pow_succ, ← Nat.mul_assoc]; omega
theorem mul_parts (x y : Nat) (_hx : x < 9007199254740992) (_hy : y < 9007199254740992) :
    (x / 134217728) * (y / 134217728) + ((x / 134217728) * (y % 134217728) + (x % 134217728) * (y / 134217728) + (x % 134217728) * (y % 134217728) / 134217728) / 134217728 = x * y / 18014398509481984 ∧
    ((x / 134217728) * (y % 134217728) + (x % 134217728) * (y / 134217728) + (x % 134217728) * (y % 134217728) / 134217728) % 134217728 * 134217728 + (x % 134217728) * (y % 134217728) % 134217728 = x * y % 18014398509481984 := by
  have ex := Nat.div_add_mod x 134217728
  have ey := Nat.div_add_mod y 134217728
  generalize x / 134217728 = a at *
  generalize x % 134217728 = b at *
  generalize y / 134217728 = c at *
  generalize y % 134217728 = d at *
  have e : x * y = 18014398509481984 * (a * c) + 134217728 * (a * d + b * c) + b * d := by
    rw [← ex, ← ey, Nat.add_mul, Nat.mul_add, Nat.mul_add, Nat.mul_add]
    rw [show 134217728 * a * (134217728 * c) = 18014398509481984 * (a * c) from by
      rw [show (18014398509481984 : Nat) = 134217728 * 134217728 from by decide]; ac_rfl]
    rw [show 134217728 * a * d = 134217728 * (a * d) from Nat.mul_assoc _ _ _, show b * (134217728 * c) = 134217728 * (b * c) from by ac_rfl]
    omega
  rw [e]
  generalize a * c = p
  generalize a * d = q
  generalize b * c = r
  generalize b * d = s
  omega
theorem mul_bds (x y : Nat) (hx : x < 9007199254740992) (hy : y < 9007199254740992) :
    (x % 134217728) * (y % 134217728) ≤ 18014398509481984 ∧ (x / 134217728) * (y % 134217728) ≤ 18014398509481984 ∧ (x % 134217728) * (y / 134217728) ≤ 18014398509481984 ∧ (x / 134217728) * (y / 134217728) ≤ 18014398509481984 := by
  have a1 : x / 134217728 ≤ 134217728 := by omega
  have a2 : x % 134217728 ≤ 134217728 := by omega
  have a3 : y / 134217728 ≤ 134217728 := by omega
  have a4 : y % 134217728 ≤ 134217728 := by omega
  have e : (18014398509481984 : Nat) = 134217728 * 134217728 := by decide
  rw [e]
  exact ⟨Nat.mul_le_mul a2 a4, Nat.mul_le_mul a1 a4, Nat.mul_le_mul a2 a3, Nat.mul_le_mul a1 a3⟩
def mneg (a b : Nat) : Bool := sgn a != sgn b
theorem mneg_xor (a b : Nat) : (sgn a ^^ sgn b) = mneg a b := by unfold mneg; cases sgn a <;> cases sgn b <;> rfl
theorem mul_nan (a b : Nat) (ha : U a) (hb : U b) (h : nn a b = true) : opv (Ieee.double.mul a b) = Emp := by
  unfold nn at h
  unfold Ieee.Format.mul
  by_cases c : cls a = 4
  · rw [read_nan a ha c]; rfl
  · have d : cls b = 4 := by simpa [c] using h
    rw [read_nan b hb d]; cases Ieee.double.read a <;> rfl
theorem mul_num (a b : Nat) (ha : U a) (hb : U b) (fa : fin a = true) (fb : fin b = true) : opv (Ieee.double.mul a b) = rnd (mneg a b) (mg a * mg b) (pl a + pl b) := by
  unfold Ieee.Format.mul
  rw [read_fin a ha fa, read_fin b hb fb, show Ieee.Datum.product (.number (sgn a) (mg a) (pl a)) (.number (sgn b) (mg b) (pl b)) = some (.number (sgn a ^^ sgn b) (mg a * mg b) (pl a + pl b)) from rfl]
  simp only [Option.map_some, opv, Option.getD_some]
  show Ieee.double.nearest _ _ _ = _
  rw [nearest_rnd, mneg_xor]
theorem mul_comm' (a b : Nat) : Ieee.double.mul a b = Ieee.double.mul b a := by
  unfold Ieee.Format.mul
  congr 1
  cases Ieee.double.read a <;> cases Ieee.double.read b <;> simp only [Ieee.Datum.product, Bool.xor_comm, Nat.mul_comm, Int.add_comm]
theorem mneg_comm (a b : Nat) : mneg a b = mneg b a := by unfold mneg; cases sgn a <;> cases sgn b <;> rfl
theorem mul_inf (a b : Nat) (ha : U a) (hb : U b) (h : nn a b = false) (h3 : cls a = 3) : opv (Ieee.double.mul a b) = if cls b = 0 then Emp else so_wd (mneg a b) 9218868437227405312 := by
  have n2 : cls b ≠ 4 := by intro c; unfold nn at h; simp [c] at h
  unfold Ieee.Format.mul
  rw [read_inf a ha h3]
  by_cases b3 : cls b = 3
  · rw [read_inf b hb b3, if_neg (by omega), show Ieee.Datum.product (.infinity (sgn a)) (.infinity (sgn b)) = some (.infinity (sgn a ^^ sgn b)) from rfl]
    simp only [Option.map_some, opv, Option.getD_some]
    rw [write_inf, mneg_xor]
  · have fb := (fin_cls b).2 ⟨b3, n2⟩
    rw [read_fin b hb fb, show Ieee.Datum.product (.infinity (sgn a)) (.number (sgn b) (mg b) (pl b)) = if mg b = 0 then none else some (.infinity (sgn a ^^ sgn b)) from rfl]
    by_cases z : cls b = 0
    · rw [if_pos z, if_pos ((cls0_mg b).1 z)]; rfl
    · rw [if_neg z, if_neg (fun k => z ((cls0_mg b).2 k))]
      simp only [Option.map_some, opv, Option.getD_some]
      rw [write_inf, mneg_xor]
theorem mul_rd (a b : Nat) (ha : U a) (hb : U b) (fa : fin a = true) (fb : fin b = true) (h0 : 0 < mg a) (h1 : 0 < mg b) :
    opv (Ieee.double.mul a b) = so_rd (mneg a b) (256 * (so_nm (mg a) * so_nm (mg b) / 18014398509481984) + so_nm (mg a) * so_nm (mg b) % 18014398509481984 / 70368744177664) ((pl a - so_nl (mg a)) + (pl b - so_nl (mg b)) + 46) (decide (0 < so_nm (mg a) * so_nm (mg b) % 18014398509481984 % 70368744177664)) := by
  rw [mul_num a b ha hb fa fb]
  obtain ⟨a1, a2⟩ := so_nm_bd _ h0 (mg_lt a)
  obtain ⟨b1, b2⟩ := so_nm_bd _ h1 (mg_lt b)
  have hT : 4503599627370496 * 4503599627370496 ≤ so_nm (mg a) * so_nm (mg b) := Nat.mul_le_mul a1 b1
  have e : mg a * mg b * 2 ^ (so_nl (mg a) + so_nl (mg b)) = so_nm (mg a) * so_nm (mg b) := by unfold so_nm; rw [Nat.pow_add]; ac_rfl
  rw [← rnd_scale _ _ (so_nl (mg a) + so_nl (mg b)), e]
  generalize so_nm (mg a) * so_nm (mg b) = T at *
  have k := rd_trunc (mneg a b) T 46 (pl a + pl b - ((so_nl (mg a) + so_nl (mg b) : Nat) : Int)) (Or.inl (by omega))
  rw [← k]
  rw [show 256 * (T / 18014398509481984) + T % 18014398509481984 / 70368744177664 = T / 2^46 from by omega]
  rw [show decide (0 < T % 18014398509481984 % 70368744177664) = !(T % 2^46 == 0) from by
    rw [Bool.eq_iff_iff]; simp; omega]
  rw [show pl a + pl b - ((so_nl (mg a) + so_nl (mg b) : Nat) : Int) + ((46 : Nat) : Int) = (pl a - so_nl (mg a)) + (pl b - so_nl (mg b)) + 46 from by omega]
theorem mul_zero (a b : Nat) (ha : U a) (hb : U b) (fa : fin a = true) (fb : fin b = true) (h : mg a = 0 ∨ mg b = 0) : opv (Ieee.double.mul a b) = so_wd (mneg a b) 0 := by
  rw [mul_num a b ha hb fa fb, show mg a * mg b = 0 from by rcases h with h | h <;> simp [h]]
  unfold rnd; simp
/-! ### quotients -/
def st (A n : Nat) : Nat := 2 * (A / n) + bn (!(A % n == 0))
theorem st_scale (A n e : Nat) : st (A * 2^e) (n * 2^e) = st A n := by
  have h := Nat.two_pow_pos e
  unfold st
  rw [Nat.mul_div_mul_right _ _ h, Nat.mul_mod_mul_right]
  rcases Nat.eq_zero_or_pos (A % n) with z | z
  · rw [z, Nat.zero_mul]
  · have := Nat.mul_pos z h
    rw [show (A % n * 2^e == 0) = false from by simp only [beq_eq_false_iff_ne]; omega, show (A % n == 0) = false from by simp only [beq_eq_false_iff_ne]; omega]
theorem rnd_st (neg : Bool) (A n c : Nat) (p : Int) (hn : 0 < n) (h : 9007199254740992 ≤ A / n) : rnd neg (st (A * 2^c) n) (p - c) = rnd neg (st A n) p := by
  have hc := Nat.two_pow_pos c
  have e := Nat.div_add_mod A n
  have l := Nat.mod_lt A hn
  -- what is left over, c places on
  have q1 : A * 2^c / n = A / n * 2^c + (A % n) * 2^c / n := by
    conv => lhs; rw [← e, Nat.add_mul, Nat.mul_assoc, Nat.mul_add_div hn]
  have q2 : A * 2^c % n = (A % n) * 2^c % n := by
    conv => lhs; rw [← e, Nat.add_mul, Nat.mul_assoc, Nat.mul_add_mod]
  have l2 : (A % n) * 2^c / n < 2^c := by
    rw [Nat.div_lt_iff_lt_mul hn, Nat.mul_comm (2^c)]
    exact Nat.mul_lt_mul_of_pos_right l hc
  have hb := bn_le (!(A * 2^c % n == 0))
  have hd : st (A * 2^c) n / 2^(c+1) = A / n := by
    unfold st
    rw [Nat.pow_succ, Nat.mul_comm (2^c), ← Nat.div_div_eq_div_mul, show (2 * (A * 2^c / n) + bn (!(A * 2^c % n == 0))) / 2 = A * 2^c / n from by omega, q1]
    rw [Nat.mul_comm, Nat.mul_add_div hc, Nat.div_eq_of_lt l2, Nat.add_zero]
  have hm : st (A * 2^c) n % 2^(c+1) = 0 ↔ A % n = 0 := by
    unfold st
    rw [Nat.pow_succ, Nat.mul_comm (2^c), Nat.mod_mul, show (2 * (A * 2^c / n) + bn (!(A * 2^c % n == 0))) / 2 = A * 2^c / n from by omega, q1]
    rw [Nat.mul_add_mod, Nat.mul_comm (A/n), Nat.mul_add_mod, Nat.mod_eq_of_lt l2, q2]
    have e2 := Nat.div_add_mod ((A % n) * 2^c) n
    constructor
    · intro k
      have k1 : (A % n) * 2^c / n = 0 := by omega
      have k3 : bn (!((A % n) * 2^c % n == 0)) = 0 := by have := bn_le (!((A % n) * 2^c % n == 0)); omega
      have k4 : (A % n) * 2^c % n = 0 := by
        rcases Nat.eq_zero_or_pos ((A % n) * 2^c % n) with z | z
        · exact z
        · exfalso
          rw [show ((A % n) * 2^c % n == 0) = false from by simp; omega] at k3
          simp [bn] at k3
      rw [k1, k4] at e2
      rcases Nat.eq_zero_or_pos (A % n) with z | z
      · exact z
      · have := Nat.mul_pos z hc; omega
    · intro k
      rw [k]; simp [bn]
  rw [rnd_sticky neg _ (c+1) _ (by rw [hd]; exact h)]
  have hh : (if st (A * 2^c) n % 2^(c+1) = 0 then 0 else 1) = bn (!(A % n == 0)) := by
    by_cases z : A % n = 0
    · rw [if_pos (hm.2 z), z]; rfl
    · rw [if_neg (fun k => z (hm.1 k))]; simp [z, bn]
  unfold sticky
  rw [hd, hh]
  change rnd neg (st A n) _ = _
  congr 1; omega
theorem div_nan (a b : Nat) (ha : U a) (hb : U b) (h : nn a b = true) : opv (Ieee.double.div a b) = Emp := by
  unfold nn at h
  unfold Ieee.Format.div
  by_cases c : cls a = 4
  · rw [read_nan a ha c]; rfl
  · have d : cls b = 4 := by simpa [c] using h
    rw [read_nan b hb d]; cases Ieee.double.read a <;> rfl
theorem div_special (a b : Nat) (ha : U a) (hb : U b) (h : nn a b = false) (hs : cls a = 3 ∨ cls b = 3 ∨ cls b = 0) :
    opv (Ieee.double.div a b) = if (cls a = 3 ∧ cls b = 3) ∨ (cls a = 0 ∧ cls b = 0) then Emp else if cls a = 3 ∨ cls b = 0 then so_wd (mneg a b) 9218868437227405312 else so_wd (mneg a b) 0 := by
  have n1 : cls a ≠ 4 := by intro c; unfold nn at h; simp [c] at h
  have n2 : cls b ≠ 4 := by intro c; unfold nn at h; simp [c] at h
  unfold Ieee.Format.div
  by_cases a3 : cls a = 3
  · rw [read_inf a ha a3]
    by_cases b3 : cls b = 3
    · rw [read_inf b hb b3, if_pos (Or.inl ⟨a3, b3⟩)]; rfl
    · rw [read_fin b hb ((fin_cls b).2 ⟨b3, n2⟩), if_neg (by omega), if_pos (Or.inl a3)]
      show opv (some (Ieee.double.write (.infinity (sgn a ^^ sgn b)))) = _
      simp only [opv, Option.getD_some]
      rw [write_inf, mneg_xor]
  · have fa := (fin_cls a).2 ⟨a3, n1⟩
    rw [read_fin a ha fa]
    by_cases b3 : cls b = 3
    · rw [read_inf b hb b3, if_neg (by omega), if_neg (by omega)]
      show opv (some (Ieee.double.write (.number (sgn a ^^ sgn b) 0 0))) = _
      simp only [opv, Option.getD_some]
      rw [mneg_xor]; rfl
    · have b0 : cls b = 0 := by omega
      rw [read_fin b hb ((fin_cls b).2 ⟨b3, n2⟩)]
      have z := (cls0_mg b).1 b0
      by_cases a0 : cls a = 0
      · rw [if_pos (Or.inr ⟨a0, b0⟩)]
        have z2 := (cls0_mg a).1 a0
        simp only [Ieee.Datum.quotient, z, z2, if_true]; rfl
      · rw [if_neg (by omega), if_pos (Or.inr b0)]
        have z2 : mg a ≠ 0 := fun k => a0 ((cls0_mg a).2 k)
        simp only [Ieee.Datum.quotient, z, z2, if_true, if_false, Option.map_some, opv, Option.getD_some]
        rw [write_inf, mneg_xor]
theorem toNat_bn (x : Nat) : (x != 0).toNat = bn (!(x == 0)) := by by_cases h : x = 0 <;> simp [h, bn]
theorem div_num (a b : Nat) (ha : U a) (hb : U b) (fa : fin a = true) (fb : fin b = true) (h1 : 0 < mg b) :
    opv (Ieee.double.div a b) = rnd (mneg a b) (st (mg a * 2 ^ (54 + (mg b).log2 - (mg a).log2)) (mg b)) (pl a - pl b - ((54 + (mg b).log2 - (mg a).log2 : Nat) : Int) - 1) := by
  unfold Ieee.Format.div
  rw [read_fin a ha fa, read_fin b hb fb]
  simp only [Ieee.Datum.quotient]
  rw [if_neg (by omega)]
  simp only [Option.map_some, opv, Option.getD_some, Nat.shiftLeft_eq]
  show Ieee.double.nearest _ _ _ = _
  rw [nearest_rnd, mneg_xor, toNat_bn]
  rfl
theorem div_rd (a b : Nat) (ha : U a) (hb : U b) (fa : fin a = true) (fb : fin b = true) (h0 : 0 < mg a) (h1 : 0 < mg b) :
    opv (Ieee.double.div a b) = so_rd (mneg a b) (so_nm (mg a) * 2^60 / so_nm (mg b)) ((pl a - so_nl (mg a)) - (pl b - so_nl (mg b)) - 60) (!(so_nm (mg a) * 2^60 % so_nm (mg b) == 0)) := by
  rw [div_num a b ha hb fa fb h1]
  obtain ⟨a1, a2⟩ := so_nm_bd _ h0 (mg_lt a)
  obtain ⟨b1, b2⟩ := so_nm_bd _ h1 (mg_lt b)
  have la : (mg a).log2 < 53 := (Nat.log2_lt (by omega)).2 (mg_lt a)
  have lb : (mg b).log2 < 53 := (Nat.log2_lt (by omega)).2 (mg_lt b)
  have hq : 9007199254740992 ≤ so_nm (mg a) * 2^60 / so_nm (mg b) := by
    rw [Nat.le_div_iff_mul_le (by omega)]; omega
  rw [rd_more _ _ _ _ hq]
  change _ = rnd (mneg a b) (st (so_nm (mg a) * 2^60) (so_nm (mg b))) _
  have hA : 9007199254740992 ≤ mg a * 2 ^ (54 + (mg b).log2 - (mg a).log2) / mg b := by
    rw [Nat.le_div_iff_mul_le h1]
    have k1 : mg b < 2 ^ ((mg b).log2 + 1) := Nat.lt_log2_self
    have k2 := Nat.log2_self_le (n := mg a) (by omega)
    have k3 : 2 ^ (mg a).log2 * 2 ^ (54 + (mg b).log2 - (mg a).log2) ≤ mg a * 2 ^ (54 + (mg b).log2 - (mg a).log2) := Nat.mul_le_mul_right _ k2
    rw [← Nat.pow_add, show (mg a).log2 + (54 + (mg b).log2 - (mg a).log2) = 53 + ((mg b).log2 + 1) from by omega, Nat.pow_add] at k3
    have k4 : 2^53 * mg b ≤ 2^53 * 2 ^ ((mg b).log2 + 1) := Nat.mul_le_mul_left _ (by omega)
    omega
  have e : so_nm (mg a) * 2^60 = mg a * 2 ^ (54 + (mg b).log2 - (mg a).log2) * 2^6 * 2^(so_nl (mg b)) := by
    unfold so_nm so_nl
    rw [Nat.mul_assoc, Nat.mul_assoc, Nat.mul_assoc, ← Nat.pow_add, ← Nat.pow_add, ← Nat.pow_add]
    congr 2; omega
  rw [e, show so_nm (mg b) = mg b * 2 ^ so_nl (mg b) from rfl, st_scale, ← rnd_st _ _ _ 6 _ h1 hA]
  congr 1
  unfold so_nl; omega
theorem div_zero (a b : Nat) (ha : U a) (hb : U b) (fa : fin a = true) (fb : fin b = true) (h0 : mg a = 0) (h1 : 0 < mg b) : opv (Ieee.double.div a b) = so_wd (mneg a b) 0 := by
  rw [div_num a b ha hb fa fb h1, h0]
  unfold st rnd bn; simp
/-- the quotient's loop -/
theorem div_step (X Y i : Nat) (_hY : 0 < Y) : 2 * (X * 2^i / Y) + 2 * (X * 2^i % Y) / Y = X * 2^(i+1) / Y ∧ 2 * (X * 2^i % Y) % Y = X * 2^(i+1) % Y := by
  have e := Nat.div_add_mod (X * 2^i) Y
  have e2 : X * 2^(i+1) = Y * (2 * (X * 2^i / Y)) + 2 * (X * 2^i % Y) := by
    rw [Nat.pow_succ, ← Nat.mul_assoc, show X * 2^i * 2 = 2 * (X * 2^i) from Nat.mul_comm _ _]
    conv => lhs; rw [← e, Nat.mul_add]
    congr 1; ac_rfl
  rw [e2, Nat.mul_add_div _hY, Nat.mul_add_mod]
  exact ⟨rfl, rfl⟩
/-! ### roots -/
theorem toNat_sq (x y : Nat) : (x != y).toNat = bn (!(x == y)) := by by_cases h : x = y <;> simp [h, bn]
/-- the whole root -/
def isRoot (n r : Nat) : Prop := r * r ≤ n ∧ n < (r + 1) * (r + 1)
theorem root_from (n : Nat) : ∀ (todo root : Nat), root * root ≤ n → n < (root + 2^todo) * (root + 2^todo) → isRoot n (Ieee.Datum.rootFrom n todo root)
  | 0, root, h1, h2 => ⟨h1, by simpa [Ieee.Datum.rootFrom] using h2⟩
  | todo + 1, root, h1, h2 => by
    unfold Ieee.Datum.rootFrom
    simp only [Nat.shiftLeft_eq, Nat.one_mul]
    by_cases c : (root + 2^todo) * (root + 2^todo) ≤ n
    · rw [if_pos c]
      exact root_from n todo _ c (by rw [Nat.pow_succ] at h2; rw [show root + 2^todo + 2^todo = root + 2^todo * 2 from by omega]; exact h2)
    · rw [if_neg c]
      exact root_from n todo _ h1 (by omega)
theorem sq_lt {a b : Nat} (h : a * a < b * b) : a < b := by
  rcases Nat.lt_or_ge a b with c | c
  · exact c
  · have := Nat.mul_le_mul c c; omega
theorem root_unique {n r s : Nat} (h : isRoot n r) (k : isRoot n s) : r = s := by
  have a : r < s + 1 := sq_lt (Nat.lt_of_le_of_lt h.1 k.2)
  have b : s < r + 1 := sq_lt (Nat.lt_of_le_of_lt k.1 h.2)
  omega
theorem root_start (n : Nat) : isRoot n (Ieee.Datum.rootFrom n (n.log2 / 2 + 1) 0) := by
  refine root_from n _ 0 (Nat.zero_le _) ?_
  rw [Nat.zero_add, ← Nat.pow_add]
  have h1 : n < 2 ^ (n.log2 + 1) := Nat.lt_log2_self
  have h2 : 2 ^ (n.log2 + 1) ≤ 2 ^ (n.log2 / 2 + 1 + (n.log2 / 2 + 1)) := Nat.pow_le_pow_right (by decide) (by omega)
  omega
/-- so many doublings ahead of the root -/
def rk (m : Nat) (p : Int) : Nat := if (p - so_nl m) % 2 = 0 then so_nl m else so_nl m + 1
theorem rk_iff (m : Nat) (p : Int) (i : Nat) (h0 : 0 < m) (h : m < 9007199254740992) (hi : i ≤ rk m p) : (m * 2^i < 4503599627370496 ∨ (p - i) % 2 ≠ 0) ↔ i < rk m p := by
  rw [nl_iff m i h0 h]
  unfold rk at *
  split at hi
  · rename_i c; rw [if_pos c]
    rcases Nat.lt_or_ge i (so_nl m) with d | d
    · simp [d]
    · have : i = so_nl m := by omega
      subst this; simp; omega
  · rename_i c; rw [if_neg c]
    rcases Nat.lt_or_ge i (so_nl m) with d | d
    · simp [d]; omega
    · rcases Nat.eq_or_lt_of_le d with e | e
      · subst e; simp; omega
      · have : i = so_nl m + 1 := by omega
        subst this; simp; omega
def rm (m : Nat) (p : Int) : Nat := m * 2 ^ rk m p
theorem rk_le (m : Nat) (p : Int) : rk m p ≤ 53 := by have := nl_le m; unfold rk; split <;> omega
theorem rm_bd (m : Nat) (p : Int) (h0 : 0 < m) (h : m < 9007199254740992) : 4503599627370496 ≤ rm m p ∧ rm m p < 18014398509481984 := by
  obtain ⟨h1, h2⟩ := so_nm_bd m h0 h
  unfold rm rk; unfold so_nm at h1 h2
  split
  · omega
  · rw [Nat.pow_succ, ← Nat.mul_assoc]; omega
theorem rk_even (m : Nat) (p : Int) : (p - rk m p) % 2 = 0 := by unfold rk; split <;> omega
/-- what is under the root, i steps on -/
def rN (T i : Nat) : Nat := T / 4^(57 - i)
def rX (M i : Nat) : Nat := M * 4^i % 18014398509481984
def two (M i : Nat) : Nat := rN (M * 2^60) (i+1) % 4
theorem rN_zero (M : Nat) (h : M < 18014398509481984) : rN (M * 2^60) 0 = 0 := by
  unfold rN
  apply Nat.div_eq_of_lt
  rw [show (4 : Nat)^(57 - 0) = 2^54 * 2^60 from by decide]
  exact Nat.mul_lt_mul_of_pos_right (by omega) (by decide)
theorem rN_end (T : Nat) : rN T 57 = T := by unfold rN; simp
theorem rN_succ (T i : Nat) (h : i < 57) : rN T (i+1) = 4 * rN T i + rN T (i+1) % 4 := by
  unfold rN
  rw [show 57 - i = (57 - (i+1)) + 1 from by omega, Nat.pow_succ, ← Nat.div_div_eq_div_mul]
  omega
theorem rX_zero (M : Nat) (h : M < 18014398509481984) : rX M 0 = M := by unfold rX; rw [Nat.pow_zero, Nat.mul_one, Nat.mod_eq_of_lt h]
theorem rX_succ (M i : Nat) : rX M (i+1) = 4 * (rX M i % 4503599627370496) := by
  unfold rX
  rw [Nat.pow_succ, ← Nat.mul_assoc]
  omega
theorem rX_lt (M i : Nat) : rX M i < 18014398509481984 := by unfold rX; omega
theorem four_two (k : Nat) : 4^k = 2^(2*k) := by rw [show (4 : Nat) = 2^2 from rfl, ← Nat.pow_mul]
theorem two_low (M i : Nat) (h : i < 27) : rX M i / 4503599627370496 % 4 = two M i := by
  unfold rX two rN
  rw [four_two, four_two]
  have e1 : M * 2^60 / 2^(2 * (57 - (i+1))) = M / 2^(52 - 2*i) := by
    rw [show 2 * (57 - (i+1)) = (52 - 2*i) + 60 from by omega, Nat.pow_add, Nat.mul_div_mul_right _ _ (Nat.two_pow_pos 60)]
  have e2 : M * 2^(2*i) / 4503599627370496 = M / 2^(52 - 2*i) := by
    rw [show (4503599627370496 : Nat) = 2^(52 - 2*i) * 2^(2*i) from by rw [← Nat.pow_add, show 52 - 2*i + 2*i = 52 from by omega], Nat.mul_div_mul_right _ _ (Nat.two_pow_pos _)]
  rw [e1, ← e2]; omega
theorem two_high (M i : Nat) (h : 27 ≤ i) (h' : i < 57) : two M i = 0 := by
  unfold two rN
  rw [four_two, show (60 : Nat) = (2*i - 54 + 2) + 2 * (57 - (i+1)) from by omega, Nat.pow_add, ← Nat.mul_assoc, Nat.mul_div_cancel _ (Nat.two_pow_pos _), Nat.pow_add, ← Nat.mul_assoc]
  omega
theorem two_lt (M i : Nat) : two M i < 4 := by unfold two; omega
/-- what the root's loop keeps -/
def Rt (M i root rest : Nat) : Prop := root * root + rest = rN (M * 2^60) i ∧ rest ≤ 2 * root
theorem rt_bd (M i root rest : Nat) (hM : M < 18014398509481984) (h : Rt M i root rest) : root < 144115188075855872 ∧ rest ≤ 288230376151711744 := by
  have h1 : rN (M * 2^60) i ≤ M * 2^60 := Nat.div_le_self _ _
  have h2 : root < 144115188075855872 := by
    apply sq_lt
    have := h.1
    omega
  have := h.2
  omega
theorem rt_up (M i root rest : Nat) (h' : i < 57) (h : Rt M i root rest) (c : 2 * (2 * root) + 1 ≤ 4 * rest + two M i) : Rt M (i+1) (2 * root + 1) (4 * rest + two M i - 2 * (2 * root) - 1) := by
  have e := rN_succ (M * 2^60) i h'
  have t := two_lt M i
  obtain ⟨h1, h2⟩ := h
  unfold Rt
  rw [e]
  change _ = 4 * rN (M * 2^60) i + two M i ∧ _
  rw [← h1]
  have e2 : (2 * root + 1) * (2 * root + 1) = 4 * (root * root) + 4 * root + 1 := by
    rw [Nat.add_mul, Nat.mul_add, show 2 * root * (2 * root) = 4 * (root * root) from by rw [show (4 : Nat) = 2 * 2 from rfl]; ac_rfl]; omega
  rw [e2]; omega
theorem rt_stay (M i root rest : Nat) (h' : i < 57) (h : Rt M i root rest) (c : ¬ (2 * (2 * root) + 1 ≤ 4 * rest + two M i)) : Rt M (i+1) (2 * root) (4 * rest + two M i) := by
  have e := rN_succ (M * 2^60) i h'
  obtain ⟨h1, h2⟩ := h
  unfold Rt
  rw [e]
  change _ = 4 * rN (M * 2^60) i + two M i ∧ _
  rw [← h1, show 2 * root * (2 * root) = 4 * (root * root) from by rw [show (4 : Nat) = 2 * 2 from rfl]; ac_rfl]
  omega
theorem rt_zero (M : Nat) (h : M < 18014398509481984) : Rt M 0 0 0 := by
  unfold Rt; rw [rN_zero M h]; omega
theorem rt_root {M root rest : Nat} (h : Rt M 57 root rest) : isRoot (M * 2^60) root ∧ root * root + rest = M * 2^60 := by
  obtain ⟨h1, h2⟩ := h
  rw [rN_end] at h1
  refine ⟨⟨by omega, ?_⟩, h1⟩
  rw [Nat.add_mul, Nat.mul_add]; omega
theorem root_low (M root : Nat) (hM : 4503599627370496 ≤ M) (hr : isRoot (M * 2^60) root) : 36028797018963968 ≤ root := by
  rcases Nat.lt_or_ge root 36028797018963968 with c | c
  · exfalso
    have c1 : root + 1 ≤ 36028797018963968 := by omega
    have k1 : (root + 1) * (root + 1) ≤ 36028797018963968 * 36028797018963968 := Nat.mul_le_mul c1 c1
    have k3 := hr.2
    generalize (root + 1) * (root + 1) = R at *
    omega
  · exact c
theorem root_parts' (Z root rest W : Nat) (hr : isRoot (16 * Z) root) (he : root * root + rest = 16 * Z) (hw : isRoot Z W) :
    W = root / 4 ∧ ((root % 4 = 0 ∧ rest = 0) ↔ W * W = Z) := by
  have hW : W = root / 4 := by
    refine root_unique hw ⟨?_, ?_⟩
    · have k := Nat.mul_le_mul (show 4 * (root / 4) ≤ root by omega) (show 4 * (root / 4) ≤ root by omega)
      rw [show 4 * (root/4) * (4 * (root/4)) = 16 * (root/4 * (root/4)) from by rw [show (16 : Nat) = 4 * 4 from rfl]; ac_rfl] at k
      have := hr.1; omega
    · have k := Nat.mul_le_mul (show root + 1 ≤ 4 * (root / 4 + 1) by omega) (show root + 1 ≤ 4 * (root / 4 + 1) by omega)
      rw [show 4 * (root/4 + 1) * (4 * (root/4 + 1)) = 16 * ((root/4 + 1) * (root/4 + 1)) from by rw [show (16 : Nat) = 4 * 4 from rfl]; ac_rfl] at k
      have k2 := hr.2
      generalize (root + 1) * (root + 1) = R at *
      generalize (root/4 + 1) * (root/4 + 1) = S at *
      omega
  refine ⟨hW, ?_⟩
  have e16 : 4 * W * (4 * W) = 16 * (W * W) := by rw [show (16 : Nat) = 4 * 4 from rfl]; ac_rfl
  constructor
  · rintro ⟨k1, k2⟩
    have k3 : root = 4 * W := by omega
    rw [k2, k3, e16] at he; omega
  · intro k
    have k0 : isRoot (16 * Z) (4 * W) := ⟨by rw [e16]; omega, by rw [Nat.add_mul, Nat.mul_add, e16]; omega⟩
    have k1 := root_unique hr k0
    have k2 : rest = 0 := by rw [k1, e16] at he; omega
    omega
theorem pow60 (M : Nat) : M * 2^60 = 16 * (M * 2^56) := by rw [show 2^60 = 16 * 2^56 from by decide]; ac_rfl
theorem root_parts (M root rest W : Nat) (hr : isRoot (M * 2^60) root) (he : root * root + rest = M * 2^60) (hw : isRoot (M * 2^56) W) :
    W = root / 4 ∧ ((root % 4 = 0 ∧ rest = 0) ↔ W * W = M * 2^56) := by
  rw [pow60] at hr he
  exact root_parts' (M * 2^56) root rest W hr he hw
theorem rnd_root (M root rest W : Nat) (p : Int) (hM : 4503599627370496 ≤ M) (hr : isRoot (M * 2^60) root) (he : root * root + rest = M * 2^60) (hw : isRoot (M * 2^56) W) :
    so_rd false root p (decide (0 < rest)) = rnd false (2 * W + bn (!(W * W == M * 2^56))) (p + 1) := by
  have hroot := root_low M root hM hr
  obtain ⟨hW, hz⟩ := root_parts M root rest W hr he hw
  have hb := bn_le (decide (0 < rest))
  rw [rd_more _ _ _ _ (by omega), rnd_sticky false (2 * root + bn (decide (0 < rest))) 3 _ (by omega)]
  have h8 : (2 * root + bn (decide (0 < rest))) / 2^3 = W := by rw [hW]; omega
  have hbn : bn (decide (0 < rest)) = 0 ↔ rest = 0 := by
    rcases Nat.eq_zero_or_pos rest with z | z
    · rw [z]; simp [bn]
    · rw [show decide (0 < rest) = true from by simpa using z]; simp [bn]; omega
  have h9 : (2 * root + bn (decide (0 < rest))) % 2^3 = 0 ↔ W * W = M * 2^56 := by rw [← hz, ← hbn]; omega
  have hh : (if (2 * root + bn (decide (0 < rest))) % 2^3 = 0 then 0 else 1) = bn (!(W * W == M * 2^56)) := by
    by_cases z : W * W = M * 2^56
    · rw [if_pos (h9.2 z), z]; simp [bn]
    · rw [if_neg (fun k => z (h9.1 k)), show (W * W == M * 2^56) = false from by simpa using z]; rfl
  unfold sticky
  rw [h8, hh]
  congr 1
  omega
theorem sqrt_ieee (a : Nat) (ha : U a) (fa : fin a = true) (h0 : 0 < mg a) (hs : sgn a = false) :
    ∃ W, isRoot (rm (mg a) (pl a) * 2^56) W ∧ opv (Ieee.double.sqrt a) = rnd false (2 * W + bn (!(W * W == rm (mg a) (pl a) * 2^56))) ((pl a - ((rk (mg a) (pl a) + 56 : Nat) : Int)) / 2 - 1) := by
  have la : (mg a).log2 < 53 := (Nat.log2_lt (by omega)).2 (mg_lt a)
  have hx : 2 * (Ieee.double.fractionBits + 2) - (mg a).log2 = 108 - (mg a).log2 := rfl
  have hmore : 108 - (mg a).log2 + ((pl a - ((108 - (mg a).log2 : Nat) : Int)) % 2).toNat = rk (mg a) (pl a) + 56 := by
    unfold rk so_nl; split <;> omega
  have hA : mg a * 2 ^ (rk (mg a) (pl a) + 56) = rm (mg a) (pl a) * 2^56 := by unfold rm; rw [Nat.pow_add, Nat.mul_assoc]
  refine ⟨_, root_start _, ?_⟩
  unfold Ieee.Format.sqrt
  rw [read_fin a ha fa]
  simp only [Ieee.Datum.root]
  rw [if_neg (by omega), hs, hx, hmore]
  simp only [Bool.false_eq_true, if_false, Option.map_some, opv, Option.getD_some, Nat.shiftLeft_eq]
  rw [hA, toNat_sq]
  exact nearest_rnd _ _ _
theorem sqrt_num (a : Nat) (ha : U a) (fa : fin a = true) (h0 : 0 < mg a) (hs : sgn a = false) (root rest : Nat) (h : Rt (rm (mg a) (pl a)) 57 root rest) :
    opv (Ieee.double.sqrt a) = so_rd false root ((pl a - rk (mg a) (pl a)) / 2 - 30) (decide (0 < rest)) := by
  obtain ⟨hr, he⟩ := rt_root h
  have hm := rm_bd (mg a) (pl a) h0 (mg_lt a)
  obtain ⟨W, hw, e⟩ := sqrt_ieee a ha fa h0 hs
  rw [e, rnd_root _ root rest W _ hm.1 hr he hw]
  have hev := rk_even (mg a) (pl a)
  congr 1
  omega
theorem sqrt_nan (a : Nat) (ha : U a) (h : cls a = 4) : opv (Ieee.double.sqrt a) = Emp := by
  unfold Ieee.Format.sqrt; rw [read_nan a ha h]; rfl
theorem sqrt_inf (a : Nat) (ha : U a) (h : cls a = 3) : opv (Ieee.double.sqrt a) = if sgn a then Emp else a := by
  unfold Ieee.Format.sqrt; rw [read_inf a ha h]
  cases hs : sgn a
  · show opv (some (Ieee.double.write (.infinity false))) = _
    simp only [opv, Option.getD_some]
    rw [write_inf, ← hs, wd_inf a ha h, hs]; rfl
  · rfl
theorem sqrt_zero (a : Nat) (ha : U a) (h : cls a = 0) : opv (Ieee.double.sqrt a) = a := by
  have fa := (fin_cls a).2 ⟨by omega, by omega⟩
  unfold Ieee.Format.sqrt; rw [read_fin a ha fa]
  simp only [Ieee.Datum.root]
  rw [if_pos ((cls0_mg a).1 h)]
  simp only [Option.map_some, opv, Option.getD_some]
  show Ieee.double.nearest _ _ _ = _
  rw [nearest_rnd, rnd_read a ha fa]
theorem sqrt_neg (a : Nat) (ha : U a) (fa : fin a = true) (h0 : 0 < mg a) (hs : sgn a = true) : opv (Ieee.double.sqrt a) = Emp := by
  unfold Ieee.Format.sqrt; rw [read_fin a ha fa]
  simp only [Ieee.Datum.root]
  rw [if_neg (by omega), hs]; rfl
end Go.Proofs.Ytbkhmeongekdiaa
namespace Go.Proofs.Ytbkhmeongekdiaa
open Go.RowKit
set_option linter.unusedVariables false
end Go.Proofs.Ytbkhmeongekdiaa
namespace Go.Proofs.Ytbkhmeongekdiaa
open Go.RowKit
set_option linter.unusedVariables false
theorem wd0I (n : Bool) : ((so_wd n 0 : Nat) : Int) = wdI n 0 := wd_int n 0
end Go.Proofs.Ytbkhmeongekdiaa
namespace Go.Proofs.Ytbkhmeongekdiaa
open Go.RowKit
set_option linter.unusedVariables false
theorem ret_uu {a b c d : Int} (h : a = b) (h' : c = d) : Ending.returned (.tuple #[.int .u64 a, .int .u64 c]) = .returned (.tuple #[.int .u64 b, .int .u64 d]) := by rw [h, h']
def phi (x y : Nat) : Nat := x * y / 18014398509481984
def plo (x y : Nat) : Nat := x * y % 18014398509481984
end Go.Proofs.Ytbkhmeongekdiaa
namespace Go.Proofs.Ytbkhmeongekdiaa
open Go.RowKit
set_option linter.unusedVariables false
def mulx (m i : Nat) : Nat := m * 2^i
theorem mulx_succ (m i : Nat) : mulx m (i+1) = 2 * mulx m i := by unfold mulx; rw [Nat.pow_succ]; ac_rfl
end Go.Proofs.Ytbkhmeongekdiaa
namespace Go.Proofs.Ytbkhmeongekdiaa
open Go.RowKit
set_option linter.unusedVariables false
def so_dq (X Y i : Nat) : Nat := X * 2^i / Y
def dr (X Y i : Nat) : Nat := X * 2^i % Y
theorem u64_val {x y : Int} (h : x = y) : Value.int .u64 x = .int .u64 y := by rw [h]
theorem dq_succ (X Y i : Nat) (h : 0 < Y) : 2 * so_dq X Y i + 2 * dr X Y i / Y = so_dq X Y (i+1) ∧ 2 * dr X Y i % Y = dr X Y (i+1) := div_step X Y i h
theorem so_dq_bd (X Y i : Nat) (hX : X < 9007199254740992) (hY : 4503599627370496 ≤ Y) (hi : i ≤ 60) : so_dq X Y i ≤ 2305843009213693952 ∧ dr X Y i < Y := by
  refine ⟨?_, Nat.mod_lt _ (by omega)⟩
  unfold so_dq
  have h1 : 2^i ≤ 2^60 := Nat.pow_le_pow_right (by decide) hi
  have h2 : X * 2^i ≤ 9007199254740992 * 2^60 := Nat.mul_le_mul (by omega) h1
  have h3 : X * 2^i / Y ≤ 9007199254740992 * 2^60 / 4503599627370496 := Nat.div_le_div h2 hY (by decide)
  omega
theorem dq_zero (X Y : Nat) : so_dq X Y 0 = X / Y ∧ dr X Y 0 = X % Y := by unfold so_dq dr; simp
theorem dq_low (X Y : Nat) (hX : 4503599627370496 ≤ X) (hY : 0 < Y) (hY' : Y < 9007199254740992) : 4503599627370496 ≤ so_dq X Y 60 := by
  unfold so_dq; rw [Nat.le_div_iff_mul_le hY]; omega
end Go.Proofs.Ytbkhmeongekdiaa
namespace Go.Proofs.Ytbkhmeongekdiaa
open Go.RowKit
set_option linter.unusedVariables false
theorem u64_of' {x y : Int} (h : x = y) : Value.int .u64 x = .int .u64 y := by rw [h]
theorem tmod2 (n : Int) : (n.tmod 2 != 0) = (n % 2 != 0) := by
  have h := Int.tmod_eq_emod (a := n) (b := 2)
  rw [Bool.eq_iff_iff]; simp only [bne_iff_ne, ne_eq]
  rw [h, show Int.natAbs 2 = 2 from rfl]; split <;> omega
theorem tdiv2 (n : Int) (h : n % 2 = 0) : n.tdiv 2 = n / 2 := by
  rw [Int.tdiv_eq_ediv, if_pos (Or.inr (Int.dvd_of_emod_eq_zero h))]; omega
def rXm (M i : Nat) : Nat := rX M (min i 27)
theorem rXm_low (M i : Nat) (h : i ≤ 27) : rXm M i = rX M i := by unfold rXm; rw [Nat.min_eq_left h]
theorem rXm_high (M i : Nat) (h : 27 ≤ i) : rXm M (i + 1) = rXm M i := by unfold rXm; rw [Nat.min_eq_right (by omega), Nat.min_eq_right h]
end Go.Proofs.Ytbkhmeongekdiaa
namespace Go.Proofs.Ytbkhmeongekdiaa
open Go.RowKit
set_option linter.unusedVariables false
/-- so many halvings -/
def tJ (a : Nat) : Nat := if 0 < mg a then min (-(pl a)).toNat ((mg a).log2 + 1) else 0
def tf (a : Nat) : Nat := fy (mg a) (tJ a)
theorem tf_pos (a : Nat) (h : 0 ≤ pl a) : tJ a = 0 ∧ tf a = mg a := by
  have : tJ a = 0 := by unfold tJ; split <;> omega
  unfold tf; rw [this, fy_zero]; exact ⟨rfl, rfl⟩
theorem tf_neg (a : Nat) (h : pl a ≤ 0) : tf a = tq (mg a) (pl a) := by
  have e : tq (mg a) (pl a) = mg a / 2 ^ (-(pl a)).toNat := by
    unfold tq; split
    · rw [show (pl a).toNat = 0 from by omega, show (-(pl a)).toNat = 0 from by omega]; simp
    · rfl
  rw [e]; unfold tf tJ fy
  split
  · rcases Nat.le_total (-(pl a)).toNat ((mg a).log2 + 1) with c | c
    · rw [Nat.min_eq_left c]
    · rw [Nat.min_eq_right c]
      have hl : mg a < 2 ^ ((mg a).log2 + 1) := Nat.lt_log2_self
      have h2 : 2 ^ ((mg a).log2 + 1) ≤ 2 ^ (-(pl a)).toNat := Nat.pow_le_pow_right (by decide) c
      rw [Nat.div_eq_of_lt hl, Nat.div_eq_of_lt (by omega)]
  · rename_i c
    rw [show mg a = 0 from by omega]; simp
theorem tf_clamp (a : Nat) : clampw (sgn a) (tf a) = clampw (sgn a) (tq (mg a) (pl a)) := by
  rcases Int.lt_or_le 0 (pl a) with c | c
  · have h1 := pl_norm a (by omega)
    rw [(tf_pos a (by omega)).2]
    have h2 : mg a ≤ tq (mg a) (pl a) := by
      unfold tq; rw [if_pos (by omega)]
      exact Nat.le_mul_of_pos_right _ (Nat.two_pow_pos _)
    unfold clampw
    rw [if_pos (show 2147483648 ≤ mg a by omega), if_pos (show 2147483648 ≤ mg a by omega), if_pos (show 2147483648 ≤ tq (mg a) (pl a) by omega), if_pos (show 2147483648 ≤ tq (mg a) (pl a) by omega)]
  · rw [tf_neg a c]
theorem tJ_iff (a j : Nat) (hj : j ≤ tJ a) : (pl a + j < 0 ∧ 0 < fy (mg a) j) ↔ j < tJ a := by
  unfold tJ at *
  by_cases h : 0 < mg a
  · rw [if_pos h] at *
    rw [fy_pos _ _ h]; omega
  · rw [if_neg h] at *
    have h2 := fy_le (mg a) j
    omega
theorem tJ_le (a : Nat) : tJ a ≤ 1074 ∨ pl a < -1074 := by unfold tJ; split <;> omega
end Go.Proofs.Ytbkhmeongekdiaa
namespace Go.Proofs.Ytbkhmeongekdiaa
open Go.RowKit
set_option linter.unusedVariables false
theorem so_u64_bd {a : Int} (h : (Lit.int .u64 a).wf = true) : ∃ n : Nat, a = n ∧ U n := by
  simp only [Lit.wf, Bool.and_eq_true, decide_eq_true_eq] at h
  have h1 : IntKind.u64.min = 0 := rfl
  have h2 : IntKind.u64.max = 18446744073709551615 := rfl
  obtain ⟨n, rfl⟩ := Int.eq_ofNat_of_zero_le (show 0 ≤ a by omega)
  exact ⟨n, rfl, by unfold U; omega⟩
theorem so_u32_bd {a : Int} (h : (Lit.int .u32 a).wf = true) : ∃ n : Nat, a = n ∧ n ≤ 4294967295 := by
  simp only [Lit.wf, Bool.and_eq_true, decide_eq_true_eq] at h
  have h1 : IntKind.u32.min = 0 := rfl
  have h2 : IntKind.u32.max = 4294967295 := rfl
  obtain ⟨n, rfl⟩ := Int.eq_ofNat_of_zero_le (show 0 ≤ a by omega)
  exact ⟨n, rfl, by omega⟩
def minusv (b : Nat) : Nat := if cls b = 4 then b else flip b
theorem flip_parts (b : Nat) (h : U b) : ex (flip b) = ex b ∧ fr (flip b) = fr b ∧ sgn (flip b) = !sgn b := by
  unfold flip ex fr sgn; unfold U at h
  by_cases c : 9223372036854775808 ≤ b
  · simp only [c, decide_true, if_true]
    refine ⟨by omega, by omega, by simp; omega⟩
  · simp only [c, decide_false, Bool.false_eq_true, if_false]
    refine ⟨by omega, by omega, by simp⟩
theorem minusv_u (b : Nat) (h : U b) : U (minusv b) := by unfold minusv; split; exact h; exact flip_u b h
theorem read_flip (b : Nat) (h : U b) : Ieee.double.read (flip b) = (Ieee.double.read b).opposite := by
  obtain ⟨e1, e2, e3⟩ := flip_parts b h
  rw [read_eq b h, read_eq (flip b) (flip_u b h)]
  unfold fin mg pl
  rw [e1, e2, e3]
  by_cases c : ex b = 2047
  · by_cases d : fr b = 0 <;> simp [c, d, Ieee.Datum.opposite]
  · simp [c, Ieee.Datum.opposite]
theorem sub_add (a b : Nat) (ha : U a) (hb : U b) : opv (Ieee.double.sub a b) = opv (Ieee.double.add a (minusv b)) := by
  unfold minusv
  by_cases c : cls b = 4
  · rw [if_pos c, add_nan a b ha hb (by unfold nn; simp [c])]
    unfold Ieee.Format.sub
    rw [read_nan b hb c]; cases Ieee.double.read a <;> rfl
  · rw [if_neg c]
    unfold Ieee.Format.sub Ieee.Format.add
    rw [read_flip b hb]
def so_one : Nat := 4607182418800017408
def dbl : Nat := 4611686018427387904
theorem k_add : opv (Ieee.double.add so_one so_one) = 4611686018427387904 := by decide +kernel
theorem k_div : opv (Ieee.double.div so_one 0) = 9218868437227405312 := by decide +kernel
theorem k_sqrt : opv (Ieee.double.sqrt 9223372036854775808) = 9223372036854775808 := by decide +kernel
theorem k_cmp : cmpv so_one dbl = -1 := by decide +kernel
theorem k_toi : toi dbl = 2 := by decide +kernel
theorem k_ofi : ofi (sg32 4294967295) = 13830554455654793216 := by decide +kernel
theorem k_cls : cls 1 = 1 := by decide +kernel
theorem k_mul : opv (Ieee.double.mul dbl dbl) = 4616189618054758400 := by decide +kernel
end Go.Proofs.Ytbkhmeongekdiaa
