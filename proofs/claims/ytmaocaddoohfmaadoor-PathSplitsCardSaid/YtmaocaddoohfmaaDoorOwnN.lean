/- A slice of whole numbers of one kind that the call made. -/
import Derived.Test.YtmaocaddoohfmaaDoorBox
import Derived.Laws.OwnMore
import Derived.Laws.AppendOwn
namespace Go.Proofs.YtmaocaddoohfmaaDoor
open Go.RowKit
set_option linter.unusedVariables false
def OwnN (k : IntKind) (t : TypeId) (base : Nat) (w : World) (v : Value) (vs : List Int) : Prop := w.ownsRow base t 1 v vs.length (vs.map (Value.int k))
section
variable {k : IntKind} {t : TypeId} {base : Nat} {w w' : World} {v : Value} {vs : List Int}
theorem OwnN.nil (k : IntKind) (t : TypeId) (base : Nat) (w : World) : OwnN k t base w (.slice none 0 0) [] := ⟨by simp, .inl ⟨rfl, rfl⟩⟩
theorem OwnN.new (h : OwnN k t base w v vs) (n : New w w') : OwnN k t base w' v vs := by
  refine ⟨h.1, ?_⟩
  rcases h.2 with hn | ⟨g, cap, cur, rfl, hb, hg, rest⟩
  · exact .inl hn
  · exact .inr ⟨g, cap, cur, rfl, hb, by rw [n.block (Array.getElem?_eq_some_iff.1 hg).1]; exact hg, rest⟩
theorem OwnN.less {b2 : Nat} (h : OwnN k t base w v vs) (n : b2 ≤ base) : OwnN k t b2 w v vs := by
  refine ⟨h.1, ?_⟩
  rcases h.2 with hn | ⟨g, cap, cur, rfl, hb, rest⟩
  · exact .inl hn
  · exact .inr ⟨g, cap, cur, rfl, Nat.le_trans n hb, rest⟩
theorem OwnN.push {w0 wr w1 : World} {v' : Value} {n : Int} {o : Obj} (hnx : New w0 wr) (hb : w0.heap.size ≤ base)
    (hown : OwnN k t base wr v vs) (hown' : w1.ownsRow base t 1 v' (vs.length + 1) (vs.map (Value.int k) ++ [.int k n])) (hgrow : (wr.alloc o).grownBy w1 v.ownBlock) : OwnN k t base w1 v' (vs ++ [n]) ∧ New w0 w1 := by
  refine ⟨?_, (hnx.allocO o).grown hgrow fun k hk => Nat.le_trans hb (World.ownsRow.lt hown k hk).1⟩
  unfold OwnN; simpa using hown'
/-- where it lies, and its numbers -/
theorem OwnN.read (h : OwnN k t base w v vs) : ∃ p cap, v = .slice p vs.length cap ∧ ∀ (j : Nat) x, vs[j]? = some x → ∃ g, p = some ⟨g, 0, none⟩ ∧ vs.length ≤ cap ∧ g < w.heap.size ∧ w.cell? ⟨g, j, none⟩ = some (.int k x) := by
  rcases h.2 with ⟨rfl, hn⟩ | ⟨g, cap, cur, rfl, hb, hg, h1, h2, h3, h4⟩
  · have : vs = [] := List.eq_nil_of_length_eq_zero hn
    subst this
    exact ⟨none, 0, rfl, fun j x hx => by simp at hx⟩
  · refine ⟨_, cap, rfl, fun j x hx => ⟨g, rfl, h1, (Array.getElem?_eq_some_iff.1 hg).1, ?_⟩⟩
    have hj := (List.getElem?_eq_some_iff.1 hx).1
    rw [World.ownsRow.cellAt h j (by omega), List.getElem?_map, hx]; rfl
end
end Go.Proofs.YtmaocaddoohfmaaDoor
