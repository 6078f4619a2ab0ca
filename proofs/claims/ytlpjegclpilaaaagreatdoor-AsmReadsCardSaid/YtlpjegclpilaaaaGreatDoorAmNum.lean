/- Numbers as they are written: which words are a whole number's, and which number. No program stands in this text. -/
import Derived.Lib.AtoiAllCases
import Derived.Lib.Atoi
import Derived.Lib.ItoaMem
import Derived.Lib.ItoaLen
namespace Go.Proofs.YtlpjegclpilaaaaGreatDoor
open Go.Lib
set_option linter.unusedVariables false
theorem digitVal_of {d : Nat} (h : d < 10) : digitVal (UInt8.ofNat (48 + d)) = some d := by
  unfold digitVal
  have e : (UInt8.ofNat (48 + d)).toNat = 48 + d := by rw [UInt8.toNat_ofNat']; omega
  rw [e, if_pos (by omega)]; congr 1; omega
theorem digit_back {b : UInt8} {d : Nat} (h : digitVal b = some d) : b = UInt8.ofNat (48 + d) ∧ d < 10 := by
  obtain ⟨h1, h2, rfl⟩ := digitVal_eq h
  refine ⟨?_, by omega⟩
  have : 48 + (b.toNat - 48) = b.toNat := by omega
  rw [this]; simp
theorem decFrom_snoc : ∀ (l : List UInt8) (acc : Nat) (b : UInt8), decFrom acc (l ++ [b]) = (decFrom acc l).bind fun n => (digitVal b).map fun d => n * 10 + d
  | [], acc, b => by
    simp only [List.nil_append, decFrom, Option.bind_some]
    cases digitVal b <;> rfl
  | a :: t, acc, b => by
    simp only [List.cons_append, decFrom]
    cases ha : digitVal a with
    | none => rfl
    | some e => exact decFrom_snoc t _ b
theorem decFrom_ge : ∀ (l : List UInt8) (acc v : Nat), decFrom acc l = some v → acc ≤ v
  | [], acc, v, h => by simp only [decFrom, Option.some.injEq] at h; omega
  | a :: t, acc, v, h => by
    simp only [decFrom] at h
    cases ha : digitVal a with
    | none => simp [ha] at h
    | some e =>
      simp only [ha] at h
      have := decFrom_ge t _ v h
      omega
theorem parse_dec : ∀ (l : List UInt8) (acc v : Nat), decFrom acc l = some v → v < 18446744073709551616 → parseUint10 acc l = .ok v
  | [], acc, v, h, _ => by simp only [decFrom, Option.some.injEq] at h; rw [h]; rfl
  | a :: t, acc, v, h, hv => by
    simp only [decFrom] at h
    cases ha : digitVal a with
    | none => simp [ha] at h
    | some e =>
      simp only [ha] at h
      obtain ⟨h1, h2, rfl⟩ := digitVal_eq ha
      have := decFrom_ge t _ v h
      rw [parseUint10, if_pos ⟨h1, h2⟩, if_neg (by omega), if_neg (by omega)]
      exact parse_dec t _ v h hv
theorem dec_digits (u : Nat) : decFrom 0 (decDigits u) = some u := by
  induction u using Nat.strongRecOn with
  | _ u ih =>
    by_cases h : u < 10
    · rw [decDigits_one h]
      simp only [decFrom, digitVal_of h, Nat.zero_mul, Nat.zero_add]
    · rw [decDigits, dif_neg h, decFrom_snoc, ih (u / 10) (by omega), Option.bind_some, digitVal_of (by omega), Option.map_some]
      congr 1; omega
theorem decDigits_ne (u : Nat) : decDigits u ≠ [] := by
  intro h; have k := congrArg List.length h; rw [decDigits_length, List.length_nil] at k; have := nDigits_pos u; omega
theorem decDigits_zero : decDigits 0 = [48] := by rw [decDigits_one (by omega)]; rfl
theorem head_digits (u : Nat) (hu : 1 ≤ u) : ∃ b t, decDigits u = b :: t ∧ 49 ≤ b.toNat ∧ b.toNat ≤ 57 := by
  induction u using Nat.strongRecOn with
  | _ u ih =>
    by_cases h : u < 10
    · refine ⟨_, [], decDigits_one h, ?_⟩
      have e : (UInt8.ofNat (48 + u)).toNat = 48 + u := by rw [UInt8.toNat_ofNat']; omega
      rw [e]; omega
    · obtain ⟨b, t, e, h1, h2⟩ := ih (u / 10) (by omega) (by omega)
      rw [decDigits, dif_neg h, e]
      exact ⟨b, _, rfl, h1, h2⟩
theorem digits_back (t : List UInt8) : ∀ (n : Nat), t.length = n → ∀ u, t ≠ [] → decFrom 0 t = some u → (t.head? = some 48 → t.length = 1) → decDigits u = t := by
  intro n
  induction n generalizing t with
  | zero => intro hn u ht; exact absurd (List.eq_nil_of_length_eq_zero hn) ht
  | succ n ih =>
    intro hn u ht hd hh
    obtain ⟨q, b, rfl⟩ : ∃ q b, t = q ++ [b] := ⟨t.dropLast, t.getLast ht, (List.dropLast_concat_getLast ht).symm⟩
    rw [decFrom_snoc] at hd
    cases hq : decFrom 0 q with
    | none => simp [hq] at hd
    | some v =>
      cases hb : digitVal b with
      | none => simp [hq, hb] at hd
      | some d =>
        simp only [hq, hb, Option.bind_some, Option.map_some, Option.some.injEq] at hd
        obtain ⟨rfl, hd10⟩ := digit_back hb
        by_cases hqn : q = []
        · subst hqn
          simp only [decFrom, Option.some.injEq] at hq
          subst hq
          have : u = d := by omega
          subst this
          rw [decDigits_one hd10]; rfl
        · have hq1 : decDigits v = q := ih q (by simp at hn; omega) v hqn hq (fun h => by
            obtain ⟨c, r, rfl⟩ := List.exists_cons_of_ne_nil hqn
            have := hh (by simpa using h)
            simp at this)
          have hv : 1 ≤ v := by
            rcases Nat.eq_zero_or_pos v with rfl | h
            · rw [decDigits_zero] at hq1
              subst hq1
              have := hh rfl
              simp at this
            · exact h
          rw [decDigits, dif_neg (by omega), show u / 10 = v by omega, show u % 10 = d by omega, hq1]

/-- the number of a word, where the word is how that number is written -/
def numP (w : List UInt8) : Option Int := match atoiAll w with
  | .ok n => if itoa n = w then some n else none
  | _ => none
theorem parseMag_digits {u : Nat} (h : u < 18446744073709551616) : parseMag (decDigits u) = .ok u := by
  unfold parseMag
  rw [if_neg (decDigits_ne u)]
  exact parse_dec _ 0 u (dec_digits u) h
theorem atoi_itoa (n : Int) (h0 : -9223372036854775808 ≤ n) (h1 : n ≤ 9223372036854775807) : atoiAll (itoa n) = .ok n := by
  by_cases h : n < 0
  · obtain ⟨u, rfl, hu⟩ : ∃ u : Nat, n = -(u : Int) ∧ 1 ≤ u := ⟨n.natAbs, by omega, by omega⟩
    rw [itoa_neg u hu, atoiAll_minus, parseMag_digits (by omega), signed, if_neg (by omega)]
  · obtain ⟨u, rfl⟩ : ∃ u : Nat, n = (u : Int) := ⟨n.toNat, by omega⟩
    rw [itoa_nonneg]
    have hp := parseMag_digits (u := u) (by omega)
    rcases Nat.eq_zero_or_pos u with rfl | hu
    · rw [decDigits_zero] at hp ⊢
      rw [atoiAll_plain 48 [] (by decide) (by decide), hp]; rfl
    · obtain ⟨b, t, e, hb1, hb2⟩ := head_digits u hu
      rw [e] at hp ⊢
      rw [atoiAll_plain b t (by omega) (by omega), hp, signless, if_neg (by omega)]
theorem numP_itoa (n : Int) (h0 : -9223372036854775808 ≤ n) (h1 : n ≤ 9223372036854775807) : numP (itoa n) = some n := by
  unfold numP; rw [atoi_itoa n h0 h1]; simp
theorem numP_some {w : List UInt8} {n : Int} (h : numP w = some n) : w = itoa n ∧ -9223372036854775808 ≤ n ∧ n ≤ 9223372036854775807 := by
  unfold numP at h
  split at h
  · rename_i v hv
    split at h
    · rename_i hi
      obtain rfl := Option.some.inj h
      have := atoiAll_bounds hv
      exact ⟨hi.symm, this.1, this.2⟩
    · cases h
  · cases h

/-- the number of a word of nine digits at most: the sign, what stands behind it -/
def mns (s : List UInt8) : Bool := decide (1 < s.length) && (s.head? == some 45)
def numB (minus : Bool) (t : List UInt8) : Option Int :=
  if t = [] ∨ 9 < t.length ∨ (t.head? = some 48 ∧ (1 < t.length ∨ minus = true)) then none
  else (decFrom 0 t).map fun (n : Nat) => if minus then -(n : Int) else (n : Int)
def numD (s : List UInt8) : Option Int := numB (mns s) (if mns s then s.tail else s)
theorem nDigits_9 (u : Nat) : nDigits u ≤ 9 ↔ u < 1000000000 := by
  constructor
  · intro h
    have h1 := lt_pow_nDigits u
    have h2 : 10 ^ nDigits u ≤ 10 ^ 9 := Nat.pow_le_pow_right (by decide) h
    have h3 : (10 : Nat) ^ 9 = 1000000000 := by decide
    omega
  · intro h
    have step : ∀ k v, v < 10 ^ (k + 1) → nDigits v ≤ k + 1 := by
      intro k
      induction k with
      | zero => intro v hv; rw [nDigits_small (by simpa using hv)]; omega
      | succ k ih =>
        intro v hv
        by_cases hs : v < 10
        · rw [nDigits_small hs]; omega
        · rw [nDigits_big hs]
          have := ih (v / 10) (by rw [Nat.pow_succ] at hv; omega)
          omega
    exact step 8 u (by have : (10 : Nat) ^ (8 + 1) = 1000000000 := by decide
                       omega)
theorem numD_pos (u : Nat) (h : u < 1000000000) : numD (decDigits u) = some (u : Int) := by
  have hl := (nDigits_9 u).2 h
  rw [← decDigits_length] at hl
  rcases Nat.eq_zero_or_pos u with rfl | hu
  · rw [decDigits_zero]; rfl
  · have hd := dec_digits u
    obtain ⟨b, t, e, hb1, hb2⟩ := head_digits u hu
    rw [e] at hl hd ⊢
    have hb45 : b ≠ 45 := by intro e; subst e; simp at hb1
    have hb48 : b ≠ 48 := by intro e; subst e; simp at hb1
    have hm : mns (b :: t) = false := by simp [mns, hb45]
    unfold numD numB
    rw [hm, if_neg (by simp : ¬ false = true), if_neg, hd]
    · rfl
    · simp only [List.head?_cons, List.cons_ne_nil, Option.some.injEq, hb48, false_and, or_false, false_or]; omega
theorem numD_neg (u : Nat) (h : u < 1000000000) (hu : 1 ≤ u) : numD (45 :: decDigits u) = some (-(u : Int)) := by
  have hl := (nDigits_9 u).2 h
  rw [← decDigits_length] at hl
  have hd := dec_digits u
  obtain ⟨b, t, e, hb1, hb2⟩ := head_digits u hu
  rw [e] at hl hd ⊢
  have hb48 : b ≠ 48 := by intro e; subst e; simp at hb1
  have hm : mns (45 :: b :: t) = true := by simp [mns]
  unfold numD numB
  rw [hm, if_pos rfl, List.tail_cons, if_neg, hd]
  · rfl
  · simp only [List.head?_cons, List.cons_ne_nil, Option.some.injEq, hb48, false_and, or_false, false_or]; omega
theorem numD_of_numP {w : List UInt8} {n : Int} (h : numP w = some n) (h0 : -999999999 ≤ n) (h1 : n ≤ 999999999) : numD w = some n := by
  obtain ⟨rfl, -, -⟩ := numP_some h
  by_cases hn : n < 0
  · obtain ⟨u, rfl, hu⟩ : ∃ u : Nat, n = -(u : Int) ∧ 1 ≤ u := ⟨n.natAbs, by omega, by omega⟩
    rw [itoa_neg u hu]; exact numD_neg u (by omega) hu
  · obtain ⟨u, rfl⟩ : ∃ u : Nat, n = (u : Int) := ⟨n.toNat, by omega⟩
    rw [itoa_nonneg]; exact numD_pos u (by omega)
theorem numP_of_numD {w : List UInt8} {n : Int} (h : numD w = some n) : numP w = some n ∧ -999999999 ≤ n ∧ n ≤ 999999999 := by
  have key : w = itoa n ∧ -999999999 ≤ n ∧ n ≤ 999999999 := by
    unfold numD at h
    cases hm : mns w with
    | true =>
      rw [hm, if_pos rfl] at h
      unfold numB at h
      split at h
      · cases h
      · rename_i hg
        simp only [not_or, and_true, or_true] at hg
        obtain ⟨g1, g2, g3⟩ := hg
        cases hd : decFrom 0 w.tail with
        | none => rw [hd] at h; cases h
        | some u =>
          rw [hd] at h
          simp only [Option.map_some, Option.some.injEq] at h
          have hb := digits_back w.tail _ rfl u g1 hd (fun e => absurd e g3)
          simp only [mns, Bool.and_eq_true, decide_eq_true_eq, beq_iff_eq] at hm
          obtain ⟨c, t, rfl⟩ : ∃ c t, w = c :: t := List.exists_cons_of_ne_nil (by intro e; subst e; simp at hm)
          have hc : c = 45 := by simpa using hm.2
          subst hc
          simp only [List.tail_cons] at hb g2 g3 g1
          have hu : 1 ≤ u := by
            rcases Nat.eq_zero_or_pos u with rfl | h'
            · rw [decDigits_zero] at hb; subst hb; exact absurd rfl g3
            · exact h'
          rw [← hb, decDigits_length] at g2
          have hlt := (nDigits_9 u).1 (by omega)
          subst h
          refine ⟨?_, by omega, by omega⟩
          rw [if_pos trivial, itoa_neg u hu, hb]
    | false =>
      rw [hm, if_neg (by simp : ¬ false = true)] at h
      unfold numB at h
      split at h
      · cases h
      · rename_i hg
        simp only [not_or, not_and] at hg
        obtain ⟨g1, g2, g3⟩ := hg
        cases hd : decFrom 0 w with
        | none => rw [hd] at h; cases h
        | some u =>
          rw [hd] at h
          simp only [Option.map_some, Option.some.injEq] at h
          have hlen : w.length ≠ 0 := fun e => g1 (List.eq_nil_of_length_eq_zero e)
          have hb := digits_back w _ rfl u g1 hd (fun e => by have := g3 e; omega)
          have g2' := g2
          rw [← hb, decDigits_length] at g2'
          have hlt := (nDigits_9 u).1 (by omega)
          subst h
          refine ⟨?_, by omega, by omega⟩
          rw [if_neg (by simp), itoa_nonneg, hb]
  obtain ⟨rfl, h0, h1⟩ := key
  exact ⟨numP_itoa n (by omega) (by omega), h0, h1⟩
/-- a written number has no blank in it, and is not empty -/
theorem itoa_word (n : Int) : itoa n ≠ [] ∧ ∀ b ∈ itoa n, b.toNat ≠ 32 ∧ b.toNat ≠ 9 ∧ b.toNat ≠ 37 ∧ b.toNat ≠ 10 := by
  have dg : ∀ u, ∀ b ∈ decDigits u, 48 ≤ b.toNat ∧ b.toNat ≤ 57 := by
    intro u b hb
    obtain ⟨k, hk, e⟩ := List.getElem_of_mem hb
    obtain ⟨d, hd⟩ := digit_of_decFrom _ _ _ (dec_digits u) k b (by rw [List.getElem?_eq_getElem hk, e])
    have := digitVal_eq hd
    omega
  unfold itoa
  split
  · refine ⟨by simp, fun b hb => ?_⟩
    rcases List.mem_cons.1 hb with rfl | hb
    · decide
    · have := dg _ b hb; omega
  · refine ⟨decDigits_ne _, fun b hb => ?_⟩
    have := dg _ b hb; omega
end Go.Proofs.YtlpjegclpilaaaaGreatDoor
