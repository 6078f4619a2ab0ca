/- Plain facts for the law that counts frames: when all are taken, when one is free. -/
import Derived.Test.YtgedimlhldfkaaaGreatDoorFrG
import Derived.Test.YtgedimlhldfkaaaGreatDoorIntRows
namespace Go.Proofs.YtgedimlhldfkaaaGreatDoor
open Go.RowKit
set_option linter.unusedVariables false
theorem tk_full {rs : List Int} (h : Fits rs) (k : Nat) (hn : NoFree rs k) : (tk rs k).length = k := by
  induction k with
  | zero => rfl
  | succ k ih =>
    have := h.2.2 k
    have := hn k (by omega)
    rw [tk_push rs k (by omega), List.length_append, ih fun j hj => hn j (by omega)]; rfl
theorem tk_some {rs : List Int} (i k : Nat) (hi : i < k) (hz : rs.getD i 0 = 0) : (tk rs k).length < k := by
  induction k with
  | zero => omega
  | succ k ih =>
    by_cases c : i = k
    · subst c
      rw [tk_skip rs i (by omega)]
      have := tk_len rs i; omega
    · have := ih (by omega)
      unfold tk
      split
      · rw [List.length_append]; simp; omega
      · omega
theorem mod4 (a : Int) : ∃ x : Nat, wrap64 ((IntKind.u64.wrap a).tmod 4) = (x : Int) ∧ x < 4 := by
  obtain ⟨x, h1, h2⟩ := mod_by a 4 (by omega) (by omega)
  exact ⟨x, h1, h2⟩
theorem set_le {rs : List Int} {n : Int} (h : ∀ m, rs.getD m 0 ≤ n) (i : Nat) (v : Int) (hv : v ≤ n + 1) : ∀ m, (rs.set i v).getD m 0 ≤ n + 1 := by
  intro m
  by_cases c : i < rs.length
  · rw [getD_set _ _ _ _ c]
    split
    · exact hv
    · have := h m; omega
  · rw [List.set_eq_of_length_le (by omega)]; have := h m; omega
end Go.Proofs.YtgedimlhldfkaaaGreatDoor
