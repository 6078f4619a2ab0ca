/- Registers as functions of places: sixteen words and two more (x), four floats (f); their 26 words; one word changed. No program stands in this text. -/
import Derived.Test.YtbjpflomibcenaaDoorPlain
namespace Go.Proofs.YtbjpflomibcenaaDoor
set_option linter.unusedVariables false
/-- a word, by its number -/
def wd (x f : Nat → Int) (n : Nat) : Int := if n < 18 then x n else if n % 2 = 1 then f ((n - 18) / 2) / 4294967296 else f ((n - 18) / 2) % 4294967296
/-- a function changed at one place -/
def upd (x : Nat → Int) (n : Nat) (v : Int) (i : Nat) : Int := if i = n then v else x i
/-- registers with a word -/
def wx (x : Nat → Int) (n : Nat) (v : Int) : Nat → Int := if n < 18 then upd x n v else x
def wf (f : Nat → Int) (n : Nat) (v : Int) : Nat → Int := if n < 18 then f else upd f ((n - 18) / 2) (if n % 2 = 1 then f ((n - 18) / 2) % 4294967296 + v * 4294967296 else f ((n - 18) / 2) / 4294967296 * 4294967296 + v)
theorem wd_with (x f : Nat → Int) (n : Nat) (v : Int) (i : Nat) (hn : n < 26) (hi : i < 26) (hf : ∀ k, k < 4 → 0 ≤ f k ∧ f k ≤ 18446744073709551615) (hv : 0 ≤ v ∧ v ≤ 4294967295) :
    wd (wx x n v) (wf f n v) i = if i = n then v else wd x f i := by
  unfold wd wx wf
  by_cases h18 : i < 18
  · rw [if_pos h18, if_pos h18]
    by_cases hn18 : n < 18
    · rw [if_pos hn18]; unfold upd; rfl
    · rw [if_neg hn18, if_neg (show ¬ i = n by omega)]
  · rw [if_neg h18, if_neg h18]
    by_cases hn18 : n < 18
    · rw [if_pos hn18, if_neg (show ¬ i = n by omega)]
    · rw [if_neg hn18]
      unfold upd
      by_cases hq : (i - 18) / 2 = (n - 18) / 2
      · rw [hq, if_pos rfl]
        have hk := hf ((n - 18) / 2) (by omega)
        generalize f ((n - 18) / 2) = g at *
        by_cases hp : i % 2 = 1
        · rw [if_pos hp, if_pos hp]
          by_cases hpn : n % 2 = 1
          · rw [if_pos hpn, if_pos (show i = n by omega)]; omega
          · rw [if_neg hpn, if_neg (show ¬ i = n by omega)]; omega
        · rw [if_neg hp, if_neg hp]
          by_cases hpn : n % 2 = 1
          · rw [if_pos hpn, if_neg (show ¬ i = n by omega)]; omega
          · rw [if_neg hpn, if_pos (show i = n by omega)]; omega
      · rw [if_neg hq, if_neg (show ¬ i = n by omega)]
theorem wf_bd (f : Nat → Int) (n : Nat) (v : Int) (hn : n < 26) (hf : ∀ k, k < 4 → 0 ≤ f k ∧ f k ≤ 18446744073709551615) (hv : 0 ≤ v ∧ v ≤ 4294967295) : ∀ k, k < 4 → 0 ≤ wf f n v k ∧ wf f n v k ≤ 18446744073709551615 := by
  intro k hk
  unfold wf
  split
  · exact hf k hk
  · unfold upd
    split
    · have := hf ((n - 18) / 2) (by omega)
      split <;> omega
    · exact hf k hk
theorem wx_bd (x : Nat → Int) (n : Nat) (v : Int) (hx : ∀ k, k < 18 → 0 ≤ x k ∧ x k ≤ 4294967295) (hv : 0 ≤ v ∧ v ≤ 4294967295) : ∀ k, k < 18 → 0 ≤ wx x n v k ∧ wx x n v k ≤ 4294967295 := by
  intro k hk
  unfold wx
  split
  · unfold upd; split
    · exact hv
    · exact hx k hk
  · exact hx k hk
theorem wd_bd (x f : Nat → Int) (n : Nat) (hn : n < 26) (hx : ∀ k, k < 18 → 0 ≤ x k ∧ x k ≤ 4294967295) (hf : ∀ k, k < 4 → 0 ≤ f k ∧ f k ≤ 18446744073709551615) : 0 ≤ wd x f n ∧ wd x f n ≤ 4294967295 := by
  unfold wd
  split
  · exact hx n (by omega)
  · have := hf ((n - 18) / 2) (by omega)
    split <;> omega
/-- registers with the same words are the same -/
theorem wd_ext (x f x' f' : Nat → Int) (h : ∀ i, i < 26 → wd x f i = wd x' f' i) : (∀ k, k < 18 → x k = x' k) ∧ ∀ k, k < 4 → f k = f' k := by
  constructor
  · intro k hk
    have := h k (by omega)
    unfold wd at this
    rw [if_pos hk, if_pos hk] at this; exact this
  · intro k hk
    have h0 := h (18 + 2 * k) (by omega)
    have h1 := h (19 + 2 * k) (by omega)
    unfold wd at h0 h1
    rw [if_neg (by omega), if_neg (by omega), if_neg (by omega), if_neg (by omega), show (18 + 2 * k - 18) / 2 = k by omega] at h0
    rw [if_neg (by omega), if_pos (by omega), if_neg (by omega), if_pos (by omega), show (19 + 2 * k - 18) / 2 = k by omega] at h1
    omega
end Go.Proofs.YtbjpflomibcenaaDoor
