/- What became of the world: only new blocks. And what every walk of this seat imports. -/
import Derived.Test.YtealjgfijlencaaDoorProg
import Derived.Test.YtealjgfijlencaaDoorPlain
import Derived.WalkKit
import Derived.ProofKit
import Derived.OpenShut
import Derived.Handy
import Derived.Outline
import Derived.WalkLawsBesides
import Derived.WalkSpells
import Derived.Lib.Hide
import Derived.Deep.Draws
import Derived.Below
import Derived.RowKit3
import Derived.Laws.NewFold
import Derived.Laws.AppendOwn
namespace Go.Proofs.YtealjgfijlencaaDoor
open Go.RowKit
set_option linter.unusedVariables false
theorem grown_trans {a b c : World} (h : Grown a b) (k : Grown b c) : Grown a c :=
  ⟨World.keptBut_trans h.1 k.1, fun x => (k.2.1 x).trans (h.2.1 x), Nat.le_trans h.2.2 k.2.2⟩
theorem grown_drewN {a b : World} (h : Grown a b) (n : Nat) : Grown a (b.drewN n) := h
/-- what was there is as it was: only new blocks -/
def New (w w' : World) : Prop := Below w.heap.size w w'
theorem New.refl (w : World) : New w w := Below.refl _ _
theorem New.size {a b : World} (h : New a b) : a.heap.size ≤ b.heap.size := Below.size h
theorem New.trans {a b c : World} (h : New a b) (k : New b c) : New a c := Below.trans h (Below.mono k h.size)
theorem New.drewN {a b : World} (h : New a b) (n : Nat) : New a (b.drewN n) := Below.trans h ⟨rfl, rfl, rfl, Nat.le_refl _, fun _ _ => rfl⟩
theorem New.drew {a b : World} (h : New a b) : New a b.drew := h.drewN 1
theorem New.alloc {a b : World} (h : New a b) (cs : Array Value) (t : TypeId) : New a (b.alloc (.cells cs t)) := Below.alloc h h.size _
theorem New.allocO {a b : World} (h : New a b) (o : Obj) : New a (b.alloc o) := Below.alloc h h.size _
theorem New.setCell {a b : World} (h : New a b) {p : Addr} (hp : a.heap.size ≤ p.block) (v : Value) : New a (b.setCell p v) := Below.setCell h hp _
theorem New.grown {a b c : World} {row : Option Nat} (h : New a b) (hg : b.grownBy c row) (hr : ∀ k, row = some k → a.heap.size ≤ k) : New a c := Below.grown h hg h.size hr
theorem New.cell {a b : World} (h : New a b) {p : Addr} (hp : p.block < a.heap.size) : b.cell? p = a.cell? p := Below.cell h hp
theorem New.frozen {a b : World} (h : New a b) {p : Addr} (hp : p.block < a.heap.size) : b.frozen? p = a.frozen? p := Below.frozen h hp
theorem New.block {a b : World} (h : New a b) {k : Nat} (hk : k < a.heap.size) : b.heap[k]? = a.heap[k]? := Below.block h k hk
theorem New.bcell {a b : World} (h : New a b) : (∀ k o, k < a.heap.size → b.cell? ⟨k, o, none⟩ = a.cell? ⟨k, o, none⟩) ∧ (∀ k o, k < a.heap.size → b.frozen? ⟨k, o, none⟩ = a.frozen? ⟨k, o, none⟩) :=
  ⟨fun k o hk => h.cell (p := ⟨k, o, none⟩) hk, fun k o hk => h.frozen (p := ⟨k, o, none⟩) hk⟩
/-- the error of a number; nil of 0 -/
def erN (c : Int) : Value := if c = 0 then .nilIface else .iface 60 (.int .i64 c)
theorem erN_zero : erN 0 = .nilIface := rfl
theorem erN_pos {c : Int} (h : c ≠ 0) : erN c = .iface 60 (.int .i64 c) := by unfold erN; rw [if_neg h]
end Go.Proofs.YtealjgfijlencaaDoor
