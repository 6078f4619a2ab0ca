/- A variable in memory: a block known whole, kept where only new blocks come, stored to. -/
import Derived.Test.YtgedimlhldfkaaaGreatDoorNumF
import Derived.Lib.SmallJoins
import Derived.Laws.Rows
import Derived.Test.YtgedimlhldfkaaaGreatDoorFar
namespace Go.Proofs.YtgedimlhldfkaaaGreatDoor
open Go.RowKit Go.Joins
set_option linter.unusedVariables false
def Box (w : World) (b : Nat) (cs : Array Value) (t : TypeId) : Prop := w.heap[b]? = some (.cells cs t (0, 0))
section
variable {w w' : World} {b : Nat} {cs : Array Value} {t : TypeId}
theorem Box.lt (h : Box w b cs t) : b < w.heap.size := (Array.getElem?_eq_some_iff.1 h).1
theorem Box.new (h : Box w b cs t) (k : New w w') : Box w' b cs t := by unfold Box; rw [k.block h.lt]; exact h
theorem Box.alloc (h : Box w b cs t) (o : Obj) : Box (w.alloc o) b cs t := h.new ((New.refl w).allocO o)
theorem Box.here (w : World) (b : Nat) (cs : Array Value) (t : TypeId) (hb : b = w.heap.size) : Box (w.alloc (.cells cs t)) b cs t := by
  subst hb; exact heap_alloc_new w _
theorem Box.set (h : Box w b cs t) (i : Nat) (v : Value) : Box (w.setCell ⟨b, i, none⟩ v) b (cs.setIfInBounds i v) t := block_setCell h v
theorem Box.other (h : Box w b cs t) {p : Addr} (hp : p.block ≠ b) (v : Value) : Box (w.setCell p v) b cs t := by
  unfold Box; rw [Below.heap_setCell _ _ _ _ (Ne.symm hp)]; exact h
theorem Box.cell (h : Box w b cs t) (i : Nat) : w.cell? ⟨b, i, none⟩ = cs[i]? := cell_of_block h i
theorem Box.unfrozen (h : Box w b cs t) (i : Nat) : w.frozen? ⟨b, i, none⟩ = false := unfrozen_of_block h i
theorem Box.one {x : Value} (h : Box w b #[x] t) : w.cell? ⟨b, 0, none⟩ = some x := h.cell 0
theorem Box.two {x y : Value} (h : Box w b #[x, y] t) : w.cell? ⟨b, 0, none⟩ = some x ∧ w.cell? ⟨b, 1, none⟩ = some y := ⟨h.cell 0, h.cell 1⟩
theorem Box.three {x y z : Value} (h : Box w b #[x, y, z] t) : w.cell? ⟨b, 0, none⟩ = some x ∧ w.cell? ⟨b, 1, none⟩ = some y ∧ w.cell? ⟨b, 2, none⟩ = some z := ⟨h.cell 0, h.cell 1, h.cell 2⟩
theorem Box.four {x y z u : Value} (h : Box w b #[x, y, z, u] t) : w.cell? ⟨b, 0, none⟩ = some x ∧ w.cell? ⟨b, 1, none⟩ = some y ∧ w.cell? ⟨b, 2, none⟩ = some z ∧ w.cell? ⟨b, 3, none⟩ = some u := ⟨h.cell 0, h.cell 1, h.cell 2, h.cell 3⟩
theorem Box.three' {x y z : Value} (h : Box w b #[x, y, z] t) : b < w.heap.size ∧ w.cell? ⟨b, 0, none⟩ = some x ∧ w.cell? ⟨b, 1, none⟩ = some y ∧ w.cell? ⟨b, 2, none⟩ = some z ∧ w.frozen? ⟨b, 0, none⟩ = false ∧ w.frozen? ⟨b, 1, none⟩ = false ∧ w.frozen? ⟨b, 2, none⟩ = false := ⟨h.lt, h.cell 0, h.cell 1, h.cell 2, h.unfrozen 0, h.unfrozen 1, h.unfrozen 2⟩
theorem New.keeps (k : New w w') {p : Addr} {v : Value} (h : w.cell? p = some v) : w'.cell? p = some v := by rw [k.cell (World.block_lt_of_cell? w _ h)]; exact h
end
end Go.Proofs.YtgedimlhldfkaaaGreatDoor
namespace Go.Proofs.YtgedimlhldfkaaaGreatDoor
open Go.RowKit
set_option linter.unusedVariables false
/-- all blocks but some are as they were -/
def But (S : Nat → Prop) (w w' : World) : Prop := w'.os = w.os ∧ w'.tape = w.tape ∧ w'.output = w.output ∧ w.heap.size ≤ w'.heap.size ∧ ∀ k, k < w.heap.size → ¬ S k → w'.heap[k]? = w.heap[k]?
section
variable {S T : Nat → Prop} {a b c w w' : World}
theorem But.refl (S : Nat → Prop) (w : World) : But S w w := ⟨rfl, rfl, rfl, Nat.le_refl _, fun _ _ _ => rfl⟩
theorem But.trans (h : But S a b) (k : But S b c) : But S a c :=
  ⟨k.1.trans h.1, k.2.1.trans h.2.1, k.2.2.1.trans h.2.2.1, Nat.le_trans h.2.2.2.1 k.2.2.2.1, fun i hi hr => (k.2.2.2.2 i (Nat.lt_of_lt_of_le hi h.2.2.2.1) hr).trans (h.2.2.2.2 i hi hr)⟩
theorem But.mono (h : But S a b) (k : ∀ i, i < a.heap.size → S i → T i) : But T a b := ⟨h.1, h.2.1, h.2.2.1, h.2.2.2.1, fun i hi hn => h.2.2.2.2 i hi fun c => hn (k i hi c)⟩
theorem But.of_new (S : Nat → Prop) (h : New w w') : But S w w' := ⟨h.os, h.tape, h.output, h.size, fun k hk _ => h.block hk⟩
theorem But.of_far {rb : Nat} (h : Far rb w w') (k : S rb) : But S w w' := ⟨h.1, h.2.1, h.2.2.1, h.2.2.2.1, fun i hi hn => h.2.2.2.2 i hi fun e => hn (e ▸ k)⟩
theorem But.new (h : But S w w') (k : ∀ i, i < w.heap.size → ¬ S i) : New w w' := ⟨h.1, h.2.1, h.2.2.1, h.2.2.2.1, fun i hi => h.2.2.2.2 i hi (k i hi)⟩
theorem But.size (h : But S w w') : w.heap.size ≤ w'.heap.size := h.2.2.2.1
theorem But.block (h : But S w w') {k : Nat} (hk : k < w.heap.size) (hr : ¬ S k) : w'.heap[k]? = w.heap[k]? := h.2.2.2.2 k hk hr
theorem But.cell (h : But S w w') {p : Addr} (hp : p.block < w.heap.size) (hr : ¬ S p.block) : w'.cell? p = w.cell? p := World.cell?_of_block (h.block hp hr)
theorem Box.but {n : Nat} {cs : Array Value} {t : TypeId} (h : Box w n cs t) (k : But S w w') (hn : ¬ S n) : Box w' n cs t := by unfold Box; rw [k.block h.lt hn]; exact h
theorem Box.ne {n m : Nat} {cs ds : Array Value} {t s : TypeId} (h : Box w n cs t) (k : Box w m ds s) (hts : t ≠ s) : n ≠ m := by
  rintro rfl
  unfold Box at h k
  rw [h] at k; cases k; exact hts rfl
theorem But.drew (S : Nat → Prop) (w : World) : But S w w.drew := But.of_new S (New.refl w).drew
theorem But.set {S : Nat → Prop} (w : World) {p : Addr} (k : S p.block) (v : Value) : But S w (w.setCell p v) := ⟨rfl, rfl, rfl, by simp [World.setCell], fun i _ hn => Below.heap_setCell w _ _ i fun e => hn (e ▸ k)⟩
theorem But.setNew (h : But S a b) {p : Addr} (hp : a.heap.size ≤ p.block) (v : Value) : But S a (b.setCell p v) :=
  ⟨h.1, h.2.1, h.2.2.1, by have := h.size; simp only [World.setCell, Array.size_modify]; exact this, fun i hi hn => (Below.heap_setCell b p v i (by omega)).trans (h.block hi hn)⟩
end
end Go.Proofs.YtgedimlhldfkaaaGreatDoor
