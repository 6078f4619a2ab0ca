/- The document's Forms. -/
import Derived.Test.YtlpjegclpilaaaaGreatDoorAmD
namespace Go.Proofs.YtlpjegclpilaaaaGreatDoor
open Go.RowKit
set_option linter.unusedVariables false
def formCells (l : List (List UInt8 × List UInt8)) : List Value := l.flatMap fun x => [Value.string (ba x.1), Value.string (ba x.2)]
theorem formCells_at : ∀ (l : List (List UInt8 × List UInt8)) (i : Nat) (x : List UInt8 × List UInt8), l[i]? = some x → (formCells l)[i * 2]? = some (Value.string (ba x.1)) ∧ (formCells l)[i * 2 + 1]? = some (Value.string (ba x.2))
  | [], i, x, h => by simp at h
  | y :: t, 0, x, h => by
    simp at h
    subst h
    simp [formCells]
  | y :: t, i + 1, x, h => by
    have ih := formCells_at t i x (by simpa using h)
    have e : formCells (y :: t) = Value.string (ba y.1) :: Value.string (ba y.2) :: formCells t := by simp [formCells]
    rw [e, show (i + 1) * 2 = i * 2 + 1 + 1 by omega, show i * 2 + 1 + 1 + 1 = (i * 2 + 1) + 1 + 1 by omega]
    simpa using ih
set_option maxHeartbeats 4000000 in
set_option maxRecDepth 100000 in
theorem forms_any (w : World) : Calls Tryz.prog 8 #[] w fun e w' => e = .returned (.slice (some ⟨w.heap.size, 0, none⟩) 42 42) ∧
    (∀ k, k < 42 → w'.cell? ⟨w.heap.size, k * 2, none⟩ = some (.string (ba (nm k))) ∧ w'.cell? ⟨w.heap.size, k * 2 + 1, none⟩ = some (.string (ba (nd k)))) ∧ New w w' ∧ w.heap.size < w'.heap.size := by
  go_enter Tryz.func8, Tryz.ntmps8
  go_wp2
  go_ret
  refine ⟨rfl, fun k hk => ?_, (New.refl w).alloc _ _, by simp⟩
  have hb := Box.here w w.heap.size (formCells ops).toArray 31 rfl
  have hlt : k < ops.length := hk
  have h := formCells_at ops k ops[k] (List.getElem?_eq_getElem hlt)
  have e : ∀ i, (w.alloc (.cells (formCells ops).toArray 31)).cell? ⟨w.heap.size, i, none⟩ = (formCells ops)[i]? := fun i => by rw [hb.cell i, List.getElem?_toArray]
  unfold nm nd
  rw [List.getD_eq_getElem?_getD, List.getElem?_eq_getElem hlt]
  exact ⟨(e (k * 2)).trans h.1, (e (k * 2 + 1)).trans h.2⟩
end Go.Proofs.YtlpjegclpilaaaaGreatDoor
