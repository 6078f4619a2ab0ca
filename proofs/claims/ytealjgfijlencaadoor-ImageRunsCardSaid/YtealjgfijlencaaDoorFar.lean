/- What became of the world, further: all but one block is as it was ('Far'); and a law for the builtin copy that says so. -/
import Derived.Test.YtealjgfijlencaaDoorBase
import Derived.Test.YtealjgfijlencaaDoorNum
import Derived.Laws.CopyOwn
namespace Go.Proofs.YtealjgfijlencaaDoor
open Go.RowKit
set_option linter.unusedVariables false
theorem cell_lt {w : World} {p : Addr} {v : Value} (h : w.cell? p = some v) : p.block < w.heap.size := World.block_lt_of_cell? w p h
theorem New.setAt {a b : World} (h : New a b) (rb i : Nat) (hp : a.heap.size ≤ rb) (v : Value) : New a (b.setCell ⟨rb, i, none⟩ v) := h.setCell hp v
/-- all but one block is as it was -/
def Far (rb : Nat) (w w' : World) : Prop := w'.os = w.os ∧ w'.tape = w.tape ∧ w'.output = w.output ∧ w.heap.size ≤ w'.heap.size ∧ ∀ k, k < w.heap.size → k ≠ rb → w'.heap[k]? = w.heap[k]?
theorem Far.refl (rb : Nat) (w : World) : Far rb w w := ⟨rfl, rfl, rfl, Nat.le_refl _, fun _ _ _ => rfl⟩
theorem Far.trans {rb : Nat} {a b c : World} (h : Far rb a b) (k : Far rb b c) : Far rb a c :=
  ⟨k.1.trans h.1, k.2.1.trans h.2.1, k.2.2.1.trans h.2.2.1, Nat.le_trans h.2.2.2.1 k.2.2.2.1, fun i hi hr => (k.2.2.2.2 i (Nat.lt_of_lt_of_le hi h.2.2.2.1) hr).trans (h.2.2.2.2 i hi hr)⟩
theorem Far.of_new (rb : Nat) {w w' : World} (h : New w w') : Far rb w w' := ⟨h.os, h.tape, h.output, h.size, fun k hk _ => h.block hk⟩
theorem Far.set (w : World) (rb i : Nat) (v : Value) : Far rb w (w.setCell ⟨rb, i, none⟩ v) :=
  ⟨rfl, rfl, rfl, by simp [World.setCell], fun k _ hr => Below.heap_setCell w _ _ k hr⟩
theorem Far.row (w : World) (rb : Nat) (cs : Array Value) : Far rb w (w.setRow rb cs) :=
  ⟨rfl, rfl, rfl, by simp [World.setRow], fun k _ hr => setRow_other w rb k cs hr⟩
theorem Far.drew (rb : Nat) (w : World) : Far rb w w.drew := Far.of_new rb (New.refl w).drew
theorem Far.new {rb : Nat} {a w w' : World} (h : Far rb w w') (k : New a w) (hr : a.heap.size ≤ rb) : New a w' :=
  ⟨h.1.trans k.os, h.2.1.trans k.tape, h.2.2.1.trans k.output, Nat.le_trans k.size h.2.2.2.1, fun i hi => (h.2.2.2.2 i (Nat.lt_of_lt_of_le hi k.size) (by omega)).trans (k.block hi)⟩
theorem Far.size {rb : Nat} {w w' : World} (h : Far rb w w') : w.heap.size ≤ w'.heap.size := h.2.2.2.1
theorem Far.block {rb : Nat} {w w' : World} (h : Far rb w w') {k : Nat} (hk : k < w.heap.size) (hr : k ≠ rb) : w'.heap[k]? = w.heap[k]? := h.2.2.2.2 k hk hr
theorem Far.cell {rb : Nat} {w w' : World} (h : Far rb w w') {p : Addr} (hp : p.block < w.heap.size) (hr : p.block ≠ rb) : w'.cell? p = w.cell? p := World.cell?_of_block (h.2.2.2.2 _ hp hr)
theorem Far.frozen {rb : Nat} {w w' : World} (h : Far rb w w') {p : Addr} (hp : p.block < w.heap.size) (hr : p.block ≠ rb) : w'.frozen? p = w.frozen? p := World.frozen?_of_block (h.2.2.2.2 _ hp hr)
theorem Laid.far {w w' : World} {rb : Nat} (h : Laid w) (k : Far rb w w') (hr : rb ≠ 0) : Laid w' := by
  have hl := h.lt
  unfold Laid at h ⊢
  rw [k.cell (p := ⟨0, 0, none⟩) hl (fun e => hr e.symm)]; exact h
/-- for an arm of a walk: it fails at once but at the operation that writes slot n -/
theorem at_slot (n : Nat) {P : Program} {w : World} {ops : Array Oper} {rest : List Oper} {a : Act} {Q : Exit → Act → World → Prop} {op ty pos af gd} (h : wpList P ops Q (⟨some n, op, ty, pos, af, gd⟩ :: rest) a w) :
    wpList P ops Q (⟨some n, op, ty, pos, af, gd⟩ :: rest) a w := h
/-- the same, at a store of a type's value -/
theorem at_store (ty' : TypeId) {P : Program} {w : World} {ops : Array Oper} {rest : List Oper} {a : Act} {Q : Exit → Act → World → Prop} {d x y ty pos af gd} (h : wpList P ops Q (⟨d, .store ty' x y, ty, pos, af, gd⟩ :: rest) a w) :
    wpList P ops Q (⟨d, .store ty' x y, ty, pos, af, gd⟩ :: rest) a w := h
/-- cells laid one by one into a row that is known whole -/
theorem setCells_row {b : Nat} {t : TypeId} : ∀ (vs : List Value) (o : Nat) (cur : List Value) (w : World), w.heap[b]? = some (.cells cur.toArray t (0, 0)) → o + vs.length ≤ cur.length →
    (w.setCells b o vs).heap[b]? = some (.cells (splice cur o vs).toArray t (0, 0)) ∧ Far b w (w.setCells b o vs)
  | [], o, cur, w, h, _ => ⟨by rw [World.setCells]; simpa [splice] using h, Far.refl _ _⟩
  | v :: r, o, cur, w, h, hl => by
    simp only [List.length_cons] at hl
    have h1 : (w.setCell ⟨b, o, none⟩ v).heap[b]? = some (.cells (cur.set o v).toArray t (0, 0)) := by
      simp [World.setCell, Array.getElem?_modify, h]
    obtain ⟨h2, h3⟩ := setCells_row r (o + 1) (cur.set o v) (w.setCell ⟨b, o, none⟩ v) h1 (by rw [List.length_set]; omega)
    refine ⟨?_, (Far.set w b o v).trans h3⟩
    rw [World.setCells, h2]
    congr 3
    have := list_seg_step cur o v r (by omega)
    simp only [splice, List.append_assoc, List.length_cons] at this ⊢
    rw [this, List.cons_append]
/-- the builtin copy, into a row that is known whole; nothing else is changed -/
theorem wpList_copy_far {P : Program} {w : World} {ops : Array Oper} {rest : List Oper} {o : Oper} {a : Act} {Q : Exit → Act → World → Prop} (hgd : o.guard = none) (d s : Operand) (dT sT : TypeId)
    (ho : o.op = .call { callee := .builtin .copy, args := #[d, s], argTypes := #[dT, sT] }) (elem : TypeId) (hu : P.underlying dT = some (.slice elem)) (hsz : (P.info? elem).map (·.size) = some 1)
    (dp sp : Option Addr) (dLen dCap sLen sCap : Nat) (hd : a.eval d = .slice dp dLen dCap) (hs : a.eval s = .slice sp sLen sCap)
    (g off : Nat) (cur : List Value) (t : TypeId) (hg : w.heap[g]? = some (.cells cur.toArray t (0, 0))) (cs : List Value) (hn : cs.length = Nat.min sLen dLen)
    (hpos : 0 < cs.length → dp = some ⟨g, off, none⟩ ∧ ∃ ad, sp = some ad ∧ ∀ j v, cs[j]? = some v → w.cell? (ad.add j) = some v)
    (hfit : off + cs.length ≤ cur.length) (h1 : ∀ v ∈ cs, v.oneCell' = true)
    (h : ∀ w', Hid (w'.heap[g]? = some (.cells (splice cur off cs).toArray t (0, 0))) → Far g w w' → wpList P ops Q rest (a.put o.dst (goInt cs.length)) w') :
    wpList P ops Q (o :: rest) a w := by
  by_cases h0 : cs.length = 0
  · obtain rfl : cs = [] := List.eq_nil_of_length_eq_zero h0
    refine wpList_copy_nothing hgd d s dT sT ho elem hu hsz dp sp dLen dCap sLen sCap hd hs (by simpa using hn.symm) ?_
    exact h w (Lib.hid (by simpa [splice] using hg)) (Far.refl _ _)
  · obtain ⟨rfl, ad, rfl, hsrc⟩ := hpos (by omega)
    refine wpList_copy_own hgd d s dT sT ho elem hu hsz g off dLen dCap ad sLen sCap hd hs cur.toArray t hg cs hn hsrc (by simpa using hfit) h1 ?_
    exact h _ (Lib.hid (by simpa [splice] using setRow_heap w g _ _ t _ hg)) (Far.row _ _ _)
end Go.Proofs.YtealjgfijlencaaDoor
