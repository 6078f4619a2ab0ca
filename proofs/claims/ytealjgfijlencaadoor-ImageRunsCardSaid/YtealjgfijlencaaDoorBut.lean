/- What became of the world, further: all blocks but some are as they were. -/
import Derived.Test.YtealjgfijlencaaDoorFar
import Derived.Test.YtealjgfijlencaaDoorBox
namespace Go.Proofs.YtealjgfijlencaaDoor
open Go.RowKit
set_option linter.unusedVariables false
/-- all blocks but some are as they were -/
def But (S : Nat → Prop) (w w' : World) : Prop := w'.os = w.os ∧ w'.tape = w.tape ∧ w'.output = w.output ∧ w.heap.size ≤ w'.heap.size ∧ ∀ k, k < w.heap.size → ¬ S k → w'.heap[k]? = w.heap[k]?
section
variable {S T : Nat → Prop} {a b c w w' : World}
theorem But.refl (S : Nat → Prop) (w : World) : But S w w := ⟨rfl, rfl, rfl, Nat.le_refl _, fun _ _ _ => rfl⟩
theorem But.trans (h : But S a b) (k : But S b c) : But S a c :=
  ⟨k.1.trans h.1, k.2.1.trans h.2.1, k.2.2.1.trans h.2.2.1, Nat.le_trans h.2.2.2.1 k.2.2.2.1, fun i hi hr => (k.2.2.2.2 i (Nat.lt_of_lt_of_le hi h.2.2.2.1) hr).trans (h.2.2.2.2 i hi hr)⟩
theorem But.mono (h : But S a b) (k : ∀ i, i < a.heap.size → S i → T i) : But T a b := ⟨h.1, h.2.1, h.2.2.1, h.2.2.2.1, fun i hi hn => h.2.2.2.2 i hi fun c => hn (k i hi c)⟩
theorem But.of_new (S : Nat → Prop) (h : New w w') : But S w w' := ⟨h.os, h.tape, h.output, h.size, fun k hk _ => h.block hk⟩
theorem But.of_far {rb : Nat} (h : Far rb w w') (k : S rb) : But S w w' := ⟨h.1, h.2.1, h.2.2.1, h.2.2.2.1, fun i hi hn => h.2.2.2.2 i hi fun e => hn (e ▸ k)⟩
theorem But.new (h : But S w w') (k : ∀ i, i < w.heap.size → ¬ S i) : New w w' := ⟨h.1, h.2.1, h.2.2.1, h.2.2.2.1, fun i hi => h.2.2.2.2 i hi (k i hi)⟩
theorem But.size (h : But S w w') : w.heap.size ≤ w'.heap.size := h.2.2.2.1
theorem But.block (h : But S w w') {k : Nat} (hk : k < w.heap.size) (hr : ¬ S k) : w'.heap[k]? = w.heap[k]? := h.2.2.2.2 k hk hr
theorem But.cell (h : But S w w') {p : Addr} (hp : p.block < w.heap.size) (hr : ¬ S p.block) : w'.cell? p = w.cell? p := World.cell?_of_block (h.block hp hr)
theorem Box.but {n : Nat} {cs : Array Value} {t : TypeId} (h : Box w n cs t) (k : But S w w') (hn : ¬ S n) : Box w' n cs t := by unfold Box; rw [k.block h.lt hn]; exact h
theorem Box.ne {n m : Nat} {cs ds : Array Value} {t s : TypeId} (h : Box w n cs t) (k : Box w m ds s) (hts : t ≠ s) : n ≠ m := by
  rintro rfl
  unfold Box at h k
  rw [h] at k; cases k; exact hts rfl
theorem But.drew (S : Nat → Prop) (w : World) : But S w w.drew := But.of_new S (New.refl w).drew
theorem But.set {S : Nat → Prop} (w : World) {p : Addr} (k : S p.block) (v : Value) : But S w (w.setCell p v) := ⟨rfl, rfl, rfl, by simp [World.setCell], fun i _ hn => Below.heap_setCell w _ _ i fun e => hn (e ▸ k)⟩
theorem But.setNew (h : But S a b) {p : Addr} (hp : a.heap.size ≤ p.block) (v : Value) : But S a (b.setCell p v) :=
  ⟨h.1, h.2.1, h.2.2.1, by have := h.size; simp only [World.setCell, Array.size_modify]; exact this, fun i hi hn => (Below.heap_setCell b p v i (by omega)).trans (h.block hi hn)⟩
end
end Go.Proofs.YtealjgfijlencaaDoor
