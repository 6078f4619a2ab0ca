/- Where a byte stands first in a list. No program stands in this text. -/
import Derived.Lib.Split
import Derived.Lib.IndexMore
namespace Go.Proofs.YtmaocaddoohfmaaDoor
open Go.Lib
set_option linter.unusedVariables false
theorem occ_one (l : List UInt8) (c : UInt8) (i : Nat) : occAt l [c] i = true ↔ l[i]? = some c := by
  unfold occAt
  cases hd : l.drop i with
  | nil =>
    have : l[i]? = none := List.getElem?_eq_none (by have := congrArg List.length hd; simp at this; omega)
    rw [this]
    show false = true ↔ _
    exact ⟨fun h => absurd h (by decide), fun h => absurd h (by simp)⟩
  | cons b t =>
    have : l[i]? = some b := by have := congrArg List.head? hd; simpa [List.head?_drop] using this
    rw [this]
    show (c == b && true) = true ↔ _
    rw [Bool.and_true, beq_iff_eq]
    exact ⟨fun h => by rw [h], fun h => (Option.some.inj h).symm⟩
/-- a list, cut at the first byte of a kind, or without one -/
theorem first_byte (c : UInt8) (l : List UInt8) : (index l [c] = -1 ∧ c ∉ l) ∨ (∃ q t, l = q ++ c :: t ∧ c ∉ q ∧ index l [c] = (q.length : Int)) := by
  rcases index_spec l [c] with ⟨h, hn⟩ | ⟨i, h, hi, ho, hno⟩
  · refine .inl ⟨h, fun hm => ?_⟩
    obtain ⟨k, hk, e⟩ := List.getElem_of_mem hm
    have := hn k (by omega)
    rw [(occ_one l c k).2 (by rw [List.getElem?_eq_getElem hk, e])] at this
    cases this
  · have hg := (occ_one l c i).1 ho
    obtain ⟨hlt, he⟩ := List.getElem?_eq_some_iff.1 hg
    refine .inr ⟨l.take i, l.drop (i + 1), ?_, ?_, ?_⟩
    · conv => lhs; rw [← List.take_append_drop i l, List.drop_eq_getElem_cons hlt, he]
    · intro hm
      obtain ⟨k, hk, e⟩ := List.getElem_of_mem hm
      rw [List.length_take] at hk
      rw [List.getElem_take] at e
      have h1 : occAt l [c] k = true := (occ_one l c k).2 (by rw [List.getElem?_eq_getElem (by omega), e])
      have h2 := hno k (by omega)
      rw [h1] at h2; cases h2
    · rw [h, List.length_take, Nat.min_eq_left (by omega)]
end Go.Proofs.YtmaocaddoohfmaaDoor
