/- Regions that draw their order and copy whole structs from block to block: the laws by blocks that are known whole. -/
import Derived.Test.YtbkhmeongekdiaaWhole
import Derived.Test.YtbkhmeongekdiaaBut
import Derived.Test.YtbkhmeongekdiaaRgQ
import Derived.Deep.RegionHeld
namespace Go.Proofs.Ytbkhmeongekdiaa
open Go.RowKit Go.Joins
set_option linter.unusedVariables false
section
variable {P : Program} {ops : Array Oper} {S : World → Prop}
/-- a whole struct's load may be taken first -/
theorem yieldsIf_load_box {op : Oper} {a : Act} (hw : Region.wanted op (yielded ops a.tmps) = true) (ty : TypeId) (x : Operand) (ho : op.op = .load ty x)
    (b : Nat) (hx : a.eval x = .pointer (some ⟨b, 0, none⟩)) (cs : List Value) (t : TypeId) (d : TypeDesc) (hS : ∀ w, S w → Box w b cs.toArray t)
    (hu : P.underlying ty = some d) (hd : d.isRow = true) (hi : (P.info? ty).map (·.size) = some cs.length) : YieldsIf P ops S op (.agg cs.toArray) a :=
  yieldsIf_load_mid hw ty x ho b 0 hx cs d (fun w h => (hS w h).range) hu hd hi
/-- a whole struct stored into a block known whole, in a region -/
theorem wp_store_bx {op : Oper} {a : Act} {w : World} {K : Act → World → Prop} {Q : Exit → Act → World → Prop} (ty : TypeId) (x y : Operand) (ho : op.op = .store ty x y)
    (b : Nat) (cs old : List Value) (t : TypeId) (hx : a.eval x = .pointer (some ⟨b, 0, none⟩)) (hy : a.eval y = .agg cs.toArray) (hB : Box w b old.toArray t) (hl : old.length = cs.length)
    (hi : (P.info? ty).map (·.size) = some cs.length) (h1 : ∀ v ∈ cs, v.oneCell' = true)
    (h : ∀ w', Box w' b cs.toArray t → Far b w w' → K (a.put op.dst undef) w') : op.wp P a w K Q := by
  have hs : cs.toArray.size = cs.length := by simp
  refine wp_store_mid ty x y ho b 0 cs.toArray hx hy ?_ (by rw [hs]; exact hi) (all_oneCell_toArray h1) ?_
  · rw [hs, ← hl]; exact hB.there
  · obtain ⟨r1, r2⟩ := setCells_row cs 0 old w hB (by omega)
    have e : splice old 0 cs = cs := by simp [splice, hl]
    rw [e] at r1
    exact h _ r1 r2
theorem But.far {T : Nat → Prop} {a b c : World} {rb : Nat} (h : But T a b) (k : Far rb b c) (hr : a.heap.size ≤ rb) : But T a c :=
  ⟨k.1.trans h.1, k.2.1.trans h.2.1, k.2.2.1.trans h.2.2.1, Nat.le_trans h.size k.size, fun i hi hn => (k.block (Nat.lt_of_lt_of_le hi h.size) (by omega)).trans (h.block hi hn)⟩
end
end Go.Proofs.Ytbkhmeongekdiaa
