/- A struct of many cells as one list: loaded from, and stored into, a block known whole, by the library's laws on the middle of a row; nothing is laid out cell by cell. -/
import Derived.Test.YtealjgfijlencaaDoorBox
import Derived.Test.YtealjgfijlencaaDoorFar
import Derived.Deep.MidRow
namespace Go.Proofs.YtealjgfijlencaaDoor
open Go.RowKit Go.Joins
set_option linter.unusedVariables false
/-- for an arm of a walk: it fails at once but at a load of a type's value -/
theorem at_load (ty' : TypeId) {P : Program} {w : World} {ops : Array Oper} {rest : List Oper} {a : Act} {Q : Exit → Act → World → Prop} {d x ty pos af gd} (h : wpList P ops Q (⟨d, .load ty' x, ty, pos, af, gd⟩ :: rest) a w) :
    wpList P ops Q (⟨d, .load ty' x, ty, pos, af, gd⟩ :: rest) a w := h
theorem Box.range {w : World} {b : Nat} {cs : List Value} {t : TypeId} (h : Box w b cs.toArray t) : w.rangeAt b 0 cs := fun j v hv => by
  rw [Nat.zero_add, h.cell j, List.getElem?_toArray]; exact hv
theorem Box.there {w : World} {b : Nat} {cs : List Value} {t : TypeId} (h : Box w b cs.toArray t) : w.there b 0 cs.length := fun j hj => by
  rw [Nat.zero_add]
  exact ⟨by rw [h.cell j, List.getElem?_toArray, List.getElem?_eq_getElem hj]; rfl, h.unfrozen j⟩
theorem Box.setL {w : World} {b : Nat} {cs : List Value} {t : TypeId} (h : Box w b cs.toArray t) (i : Nat) (v : Value) : Box (w.setCell ⟨b, i, none⟩ v) b (cs.set i v).toArray t := by
  have := h.set i v
  rwa [List.setIfInBounds_toArray] at this
theorem wpList_load_box {P : Program} {ops : Array Oper} {rest : List Oper} {op : Oper} {a : Act} {w : World} {Q : Exit → Act → World → Prop} (hgd : op.guard = none) (ty : TypeId) (x : Operand) (ho : op.op = .load ty x)
    (b : Nat) (hx : a.eval x = .pointer (some ⟨b, 0, none⟩)) (cs : List Value) (t : TypeId) (d : TypeDesc) (hB : Box w b cs.toArray t)
    (hu : P.underlying ty = some d) (hd : d.isRow = true) (hi : (P.info? ty).map (·.size) = some cs.length)
    (h : wpList P ops Q rest (a.put op.dst (.agg cs.toArray)) w) : wpList P ops Q (op :: rest) a w :=
  wpList_load_mid hgd ty x ho b 0 hx cs d hB.range hu hd hi h
theorem wpList_store_box {P : Program} {ops : Array Oper} {rest : List Oper} {op : Oper} {a : Act} {w : World} {Q : Exit → Act → World → Prop} (hgd : op.guard = none) (ty : TypeId) (x y : Operand) (ho : op.op = .store ty x y)
    (b : Nat) (cs old : List Value) (t : TypeId) (hx : a.eval x = .pointer (some ⟨b, 0, none⟩)) (hy : a.eval y = .agg cs.toArray) (hB : Box w b old.toArray t) (hl : old.length = cs.length)
    (hi : (P.info? ty).map (·.size) = some cs.length) (h1 : ∀ v ∈ cs, v.oneCell' = true)
    (h : ∀ w', Box w' b cs.toArray t → Far b w w' → wpList P ops Q rest (a.put op.dst undef) w') : wpList P ops Q (op :: rest) a w := by
  have hs : cs.toArray.size = cs.length := by simp
  refine wpList_store_mid hgd ty x y ho b 0 cs.toArray hx hy ?_ (by rw [hs]; exact hi) (all_oneCell_toArray h1) ?_
  · rw [hs, ← hl]; exact hB.there
  · obtain ⟨r1, r2⟩ := setCells_row cs 0 old w hB (by omega)
    have e : splice old 0 cs = cs := by simp [splice, hl]
    rw [e] at r1
    exact h _ r1 r2
/-- the same at an operation with a guard that says yes -/
theorem wpList_load_wbox {P : Program} {ops : Array Oper} {rest : List Oper} {op : Oper} {a : Act} {w : World} {Q : Exit → Act → World → Prop} (hw : Region.wanted op (yielded ops a.tmps) = true) (ty : TypeId) (x : Operand) (ho : op.op = .load ty x)
    (b : Nat) (hx : a.eval x = .pointer (some ⟨b, 0, none⟩)) (cs : List Value) (t : TypeId) (d : TypeDesc) (hB : Box w b cs.toArray t)
    (hu : P.underlying ty = some d) (hd : d.isRow = true) (hi : (P.info? ty).map (·.size) = some cs.length)
    (h : wpList P ops Q rest (a.put op.dst (.agg cs.toArray)) w) : wpList P ops Q (op :: rest) a w :=
  BigFrame.wpList_want hw fun _ hK => wp_load_mid ty x ho b 0 hx cs d hB.range hu hd hi (hK _ _ h)
end Go.Proofs.YtealjgfijlencaaDoor
