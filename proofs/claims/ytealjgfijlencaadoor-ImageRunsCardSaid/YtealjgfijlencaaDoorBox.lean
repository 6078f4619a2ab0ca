/- A variable in memory: a block known whole, kept where only new blocks come, stored to. -/
import Derived.Test.YtealjgfijlencaaDoorBase
import Derived.Lib.SmallJoins
import Derived.Laws.Rows
namespace Go.Proofs.YtealjgfijlencaaDoor
open Go.RowKit Go.Joins
set_option linter.unusedVariables false
def Box (w : World) (b : Nat) (cs : Array Value) (t : TypeId) : Prop := w.heap[b]? = some (.cells cs t (0, 0))
section
variable {w w' : World} {b : Nat} {cs : Array Value} {t : TypeId}
theorem Box.lt (h : Box w b cs t) : b < w.heap.size := (Array.getElem?_eq_some_iff.1 h).1
theorem Box.new (h : Box w b cs t) (k : New w w') : Box w' b cs t := by unfold Box; rw [k.block h.lt]; exact h
theorem Box.alloc (h : Box w b cs t) (o : Obj) : Box (w.alloc o) b cs t := h.new ((New.refl w).allocO o)
theorem Box.here (w : World) (b : Nat) (cs : Array Value) (t : TypeId) (hb : b = w.heap.size) : Box (w.alloc (.cells cs t)) b cs t := by
  subst hb; exact heap_alloc_new w _
theorem Box.set (h : Box w b cs t) (i : Nat) (v : Value) : Box (w.setCell ⟨b, i, none⟩ v) b (cs.setIfInBounds i v) t := block_setCell h v
theorem Box.other (h : Box w b cs t) {p : Addr} (hp : p.block ≠ b) (v : Value) : Box (w.setCell p v) b cs t := by
  unfold Box; rw [Below.heap_setCell _ _ _ _ (Ne.symm hp)]; exact h
theorem Box.cell (h : Box w b cs t) (i : Nat) : w.cell? ⟨b, i, none⟩ = cs[i]? := cell_of_block h i
theorem Box.unfrozen (h : Box w b cs t) (i : Nat) : w.frozen? ⟨b, i, none⟩ = false := unfrozen_of_block h i
theorem Box.one {x : Value} (h : Box w b #[x] t) : w.cell? ⟨b, 0, none⟩ = some x := h.cell 0
theorem Box.two {x y : Value} (h : Box w b #[x, y] t) : w.cell? ⟨b, 0, none⟩ = some x ∧ w.cell? ⟨b, 1, none⟩ = some y := ⟨h.cell 0, h.cell 1⟩
theorem Box.three {x y z : Value} (h : Box w b #[x, y, z] t) : w.cell? ⟨b, 0, none⟩ = some x ∧ w.cell? ⟨b, 1, none⟩ = some y ∧ w.cell? ⟨b, 2, none⟩ = some z := ⟨h.cell 0, h.cell 1, h.cell 2⟩
theorem Box.four {x y z u : Value} (h : Box w b #[x, y, z, u] t) : w.cell? ⟨b, 0, none⟩ = some x ∧ w.cell? ⟨b, 1, none⟩ = some y ∧ w.cell? ⟨b, 2, none⟩ = some z ∧ w.cell? ⟨b, 3, none⟩ = some u := ⟨h.cell 0, h.cell 1, h.cell 2, h.cell 3⟩
theorem Box.three' {x y z : Value} (h : Box w b #[x, y, z] t) : b < w.heap.size ∧ w.cell? ⟨b, 0, none⟩ = some x ∧ w.cell? ⟨b, 1, none⟩ = some y ∧ w.cell? ⟨b, 2, none⟩ = some z ∧ w.frozen? ⟨b, 0, none⟩ = false ∧ w.frozen? ⟨b, 1, none⟩ = false ∧ w.frozen? ⟨b, 2, none⟩ = false := ⟨h.lt, h.cell 0, h.cell 1, h.cell 2, h.unfrozen 0, h.unfrozen 1, h.unfrozen 2⟩
theorem New.keeps (k : New w w') {p : Addr} {v : Value} (h : w.cell? p = some v) : w'.cell? p = some v := by rw [k.cell (World.block_lt_of_cell? w _ h)]; exact h
end
end Go.Proofs.YtealjgfijlencaaDoor
