/- For the law that holds the package of frames of bytes against the document's notes: blocks that are known whole. -/
import Derived.Test.YtnlmjjofpkpkaaaDoorPhL
namespace Go.Proofs.YtnlmjjofpkpkaaaDoor
open Go.RowKit
set_option linter.unusedVariables false
set_option maxRecDepth 100000
/-- a block that is known whole -/
def Whole (w : World) (b : Nat) (cs : Array Value) (t : TypeId) : Prop := w.heap[b]? = some (.cells cs t (0, 0))
section
variable {w w' : World} {b : Nat} {cs : Array Value} {t : TypeId}
theorem Whole.lt (h : Whole w b cs t) : b < w.heap.size := (Array.getElem?_eq_some_iff.1 h).1
theorem Whole.made (w : World) (cs : Array Value) (t : TypeId) : Whole (w.alloc (.cells cs t)) w.heap.size cs t := heap_alloc_new w _
theorem Whole.new (h : Whole w b cs t) (k : New w w') : Whole w' b cs t := by unfold Whole; rw [k.block h.lt]; exact h
theorem Whole.off {rb : Nat} (h : Whole w b cs t) (k : Far rb w w') (hr : b ≠ rb) : Whole w' b cs t := by unfold Whole; rw [k.block h.lt hr]; exact h
theorem Whole.cell (h : Whole w b cs t) (i : Nat) : w.cell? ⟨b, i, none⟩ = cs[i]? := cell_of_row w b i _ _ _ h
theorem Whole.frozen (h : Whole w b cs t) (i : Nat) : w.frozen? ⟨b, i, none⟩ = false := by unfold Whole at h; simp [World.frozen?, h]
theorem Whole.two {x y : Value} (h : Whole w b #[x, y] t) : w.cell? ⟨b, 0, none⟩ = some x ∧ w.cell? ⟨b, 1, none⟩ = some y ∧ w.frozen? ⟨b, 0, none⟩ = false ∧ w.frozen? ⟨b, 1, none⟩ = false :=
  ⟨h.cell 0, h.cell 1, h.frozen 0, h.frozen 1⟩
theorem Whole.five {x0 x1 x2 x3 x4 : Value} (h : Whole w b #[x0, x1, x2, x3, x4] t) : w.cell? ⟨b, 0, none⟩ = some x0 ∧ w.cell? ⟨b, 1, none⟩ = some x1 ∧ w.cell? ⟨b, 2, none⟩ = some x2 ∧ w.cell? ⟨b, 3, none⟩ = some x3 ∧ w.cell? ⟨b, 4, none⟩ = some x4 :=
  ⟨h.cell 0, h.cell 1, h.cell 2, h.cell 3, h.cell 4⟩
theorem Whole.put {x y : Value} (h : Whole w b #[x, y] t) (u v : Value) : Whole ((w.setCell ⟨b, 0, none⟩ u).setCell ⟨b, 1, none⟩ v) b #[u, v] t := by
  unfold Whole at h ⊢
  simp [World.setCell, Array.getElem?_modify, h]
theorem Far.put (w : World) (b : Nat) (u v : Value) : Far b w ((w.setCell ⟨b, 0, none⟩ u).setCell ⟨b, 1, none⟩ v) := (Far.set _ _ _ _).trans (Far.set _ _ _ _)
end
theorem mod8 (a : Int) : ∃ x : Nat, wrap64 ((IntKind.u64.wrap a).tmod 8) = (x : Int) ∧ x < 8 := by
  obtain ⟨x, h1, h2⟩ := cut_by a 8 (by omega) (by omega)
  exact ⟨x, h1, h2⟩
end Go.Proofs.YtnlmjjofpkpkaaaDoor
