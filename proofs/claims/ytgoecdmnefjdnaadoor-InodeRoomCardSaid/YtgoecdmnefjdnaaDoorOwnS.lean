/- A slice of texts that the call made. -/
import Derived.Test.YtgoecdmnefjdnaaDoorBa
import Derived.Laws.OwnMore
namespace Go.Proofs.YtgoecdmnefjdnaaDoor
open Go.RowKit
set_option linter.unusedVariables false
theorem str_info : (Tryd.prog.info? 9).map (fun i => (i.zero, i.size, i.bytes)) = some (some (.string ⟨#[]⟩), 1, 16) := by kernel_rfl
/-- a slice of texts that the call made -/
def OwnS (base : Nat) (w : World) (v : Value) (ls : List (List UInt8)) : Prop := w.ownsRow base 9 1 v ls.length (ls.map fun l => Value.string (ba l))
theorem OwnS.nil (base : Nat) (w : World) : OwnS base w (.slice none 0 0) [] := ⟨by simp, .inl ⟨rfl, rfl⟩⟩
theorem OwnS.new {base : Nat} {w w' : World} {v : Value} {ls : List (List UInt8)} (h : OwnS base w v ls) (k : New w w') : OwnS base w' v ls := by
  refine ⟨h.1, ?_⟩
  rcases h.2 with hn | ⟨g, cap, cur, rfl, hb, hg, rest⟩
  · exact .inl hn
  · exact .inr ⟨g, cap, cur, rfl, hb, by rw [k.block (Array.getElem?_eq_some_iff.1 hg).1]; exact hg, rest⟩
theorem OwnS.push {base : Nat} {w0 wr w1 : World} {v v' : Value} {ls : List (List UInt8)} {l : List UInt8} {o : Obj} (hnx : New w0 wr) (hb : w0.heap.size ≤ base)
    (hown : OwnS base wr v ls) (hown' : w1.ownsRow base 9 1 v' (ls.length + 1) ((ls.map fun l => Value.string (ba l)) ++ [.string (ba l)])) (hgrow : (wr.alloc o).grownBy w1 v.ownBlock) : OwnS base w1 v' (ls ++ [l]) ∧ New w0 w1 := by
  refine ⟨?_, (hnx.allocO o).grown hgrow fun k hk => Nat.le_trans hb (World.ownsRow.lt hown k hk).1⟩
  unfold OwnS; simpa using hown'
theorem OwnS.lit (w : World) (l : List UInt8) : OwnS w.heap.size (w.alloc (.cells #[.string (ba l)] 9)) (.slice (some ⟨w.heap.size, 0, none⟩) 1 1) [l] :=
  World.ownsRow_lit w #[.string (ba l)] 1 (Nat.le_refl _) (by unfold maxLen; omega) rfl
/-- where it lies, and its texts -/
theorem OwnS.some {base : Nat} {w : World} {v : Value} {ls : List (List UInt8)} (h : OwnS base w v ls) (hne : ls ≠ []) : ∃ g cap, v = .slice (some ⟨g, 0, none⟩) ls.length cap ∧ ls.length ≤ cap ∧ g < w.heap.size ∧ ∀ (j : Nat) x, ls[j]? = some x → w.cell? ⟨g, j, none⟩ = some (.string (ba x)) := by
  rcases h.2 with ⟨-, hn⟩ | ⟨g, cap, cur, rfl, hb, hg, h1, h2, h3, h4⟩
  · exact absurd (List.eq_nil_of_length_eq_zero hn) hne
  · refine ⟨g, cap, rfl, h1, (Array.getElem?_eq_some_iff.1 hg).1, fun j x hx => ?_⟩
    have hj := (List.getElem?_eq_some_iff.1 hx).1
    rw [World.ownsRow.cellAt h j (by omega), List.getElem?_map, hx]; rfl
end Go.Proofs.YtgoecdmnefjdnaaDoor
