/- Registers that came in by value, as functions of places. -/
import Derived.Test.YtbjpflomibcenaaDoorRgC
import Derived.Test.YtbjpflomibcenaaDoorFlatTy
namespace Go.Proofs.YtbjpflomibcenaaDoor
open Go.RowKit
set_option linter.unusedVariables false
def numOf : Value → Int
  | .int _ n => n
  | _ => 0
theorem flat_rc {v : Value} (h : Flat [some .u32, some .u32, some .u32, some .u32, some .u32, some .u32, some .u32, some .u32, some .u32, some .u32, some .u32, some .u32, some .u32, some .u32, some .u32, some .u32, some .u32, some .u32, some .u64, some .u64, some .u64, some .u64] v) :
    ∃ x f : Nat → Int, v = .agg (rc x f).toArray ∧ (∀ k, k < 18 → 0 ≤ x k ∧ x k ≤ 4294967295) ∧ ∀ k, k < 4 → 0 ≤ f k ∧ f k ≤ 18446744073709551615 := by
  obtain ⟨cs, rfl, hz, hf⟩ := h
  have hz : cs.size = 22 := hz.trans rfl
  have hx : ∀ i, i < 18 → ∃ n : Int, cs[i]? = some (.int .u32 n) ∧ 0 ≤ n ∧ n ≤ 4294967295 := fun i hi => by
    have hi2 : i < cs.size := by omega
    have hk : (List.replicate 18 (some IntKind.u32) ++ List.replicate 4 (some IntKind.u64))[i]? = some (some .u32) := by
      rw [List.getElem?_append_left (by simpa using hi), List.getElem?_replicate, if_pos hi]
    obtain ⟨n, e, hw⟩ := hf i _ _ hk (Array.getElem?_eq_getElem hi2)
    exact ⟨n, by rw [Array.getElem?_eq_getElem hi2, e], u32_bd hw⟩
  have hF : ∀ k, k < 4 → ∃ n : Int, cs[18 + k]? = some (.int .u64 n) ∧ 0 ≤ n ∧ n ≤ 18446744073709551615 := fun k hk => by
    have hi2 : 18 + k < cs.size := by omega
    have hkk : (List.replicate 18 (some IntKind.u32) ++ List.replicate 4 (some IntKind.u64))[18 + k]? = some (some .u64) := by
      rw [List.getElem?_append_right (by simp), List.length_replicate, Nat.add_sub_cancel_left, List.getElem?_replicate, if_pos hk]
    obtain ⟨n, e, hw⟩ := hf (18 + k) _ _ hkk (Array.getElem?_eq_getElem hi2)
    refine ⟨n, by rw [Array.getElem?_eq_getElem hi2, e], ?_⟩
    simp only [Lit.wf, Bool.and_eq_true, decide_eq_true_eq] at hw
    have h1 : IntKind.u64.min = 0 := rfl
    have h2 : IntKind.u64.max = 18446744073709551615 := rfl
    omega
  refine ⟨fun i => numOf (cs[i]?.getD .nilIface), fun k => numOf (cs[18 + k]?.getD .nilIface), ?_, fun k hk => ?_, fun k hk => ?_⟩
  · congr 1
    apply Array.ext_getElem?
    intro i
    refine Eq.trans ?_ List.getElem?_toArray.symm
    rw [rc_get]
    by_cases h1 : i < 18
    · obtain ⟨n, e, _⟩ := hx i h1
      rw [if_pos h1, e]; rfl
    · rw [if_neg h1]
      by_cases h2 : i < 22
      · obtain ⟨n, e, _⟩ := hF (i - 18) (by omega)
        rw [if_pos h2, e]
        rw [show 18 + (i - 18) = i by omega] at e
        rw [e]; rfl
      · rw [if_neg h2, Array.getElem?_eq_none (by omega)]
  · obtain ⟨n, e, h⟩ := hx k hk
    simp only [e]; exact h
  · obtain ⟨n, e, h⟩ := hF k hk
    simp only [e]; exact h
end Go.Proofs.YtbjpflomibcenaaDoor
