/- For the law that holds the package of frames against the document's list: a struct of two cells in memory, and small facts. -/
import Derived.Test.YtonackipdjnjdaaDoorFrG
import Derived.Test.YtonackipdjnjdaaDoorFrD
import Derived.Test.YtonackipdjnjdaaDoorFrE
import Derived.Test.YtonackipdjnjdaaDoorIntRows
namespace Go.Proofs.YtonackipdjnjdaaDoor
open Go.RowKit
set_option linter.unusedVariables false
/-- a struct of two cells -/
def Bx (w : World) (b : Nat) (x y : Value) : Prop := w.heap[b]? = some (.cells #[x, y] 40 (0, 0))
section
variable {w w' : World} {b : Nat} {x y : Value}
theorem Bx.lt (h : Bx w b x y) : b < w.heap.size := (Array.getElem?_eq_some_iff.1 h).1
theorem Bx.new (h : Bx w b x y) (k : New w w') : Bx w' b x y := by unfold Bx; rw [k.block h.lt]; exact h
theorem Bx.far {rb : Nat} (h : Bx w b x y) (k : Far rb w w') (hr : b ≠ rb) : Bx w' b x y := by unfold Bx; rw [k.2.2.2.2 b h.lt hr]; exact h
theorem Bx.get (h : Bx w b x y) : w.cell? ⟨b, 0, none⟩ = some x ∧ w.cell? ⟨b, 1, none⟩ = some y ∧ w.frozen? ⟨b, 0, none⟩ = false ∧ w.frozen? ⟨b, 1, none⟩ = false := by
  unfold Bx at h
  refine ⟨by rw [cell_of_row w b 0 _ _ _ h]; rfl, by rw [cell_of_row w b 1 _ _ _ h]; rfl, ?_, ?_⟩ <;> simp [World.frozen?, h]
theorem Bx.put (h : Bx w b x y) (u v : Value) : Bx ((w.setCell ⟨b, 0, none⟩ u).setCell ⟨b, 1, none⟩ v) b u v := by
  unfold Bx at h ⊢
  simp [World.setCell, Array.getElem?_modify, h]
theorem Bx.made (w : World) (a c u v : Value) : Bx (((w.alloc (.cells #[a, c] 40)).setCell ⟨w.heap.size, 0, none⟩ u).setCell ⟨w.heap.size, 1, none⟩ v) w.heap.size u v :=
  Bx.put (x := a) (y := c) (heap_alloc_new w _) u v
theorem New.made (w : World) (a c u v : Value) : New w (((w.alloc (.cells #[a, c] 40)).setCell ⟨w.heap.size, 0, none⟩ u).setCell ⟨w.heap.size, 1, none⟩ v) :=
  (((New.refl w).alloc _ _).setAt _ _ (Nat.le_refl _) _).setAt _ _ (Nat.le_refl _) _
theorem New.put {a : World} (h : New a w) (b : Nat) (hb : a.heap.size ≤ b) (u v : Value) : New a ((w.setCell ⟨b, 0, none⟩ u).setCell ⟨b, 1, none⟩ v) := (h.setAt _ _ hb _).setAt _ _ hb _
theorem Fr.off {fb rb : Nat} {rs : List Int} (h : Fr w fb rb rs) (i : Nat) (hf : fb ≠ b) (hr : rb ≠ b) (u : Value) : Fr (w.setCell ⟨b, i, none⟩ u) fb rb rs :=
  ⟨h.1, h.2.1, by rw [Below.heap_setCell w _ _ fb hf]; exact h.2.2.1, by rw [Below.heap_setCell w _ _ rb hr]; exact h.2.2.2⟩
theorem Fr.put {fb rb : Nat} {rs : List Int} (h : Fr w fb rb rs) (hf : fb < b) (hr : rb < b) (u v : Value) : Fr ((w.setCell ⟨b, 0, none⟩ u).setCell ⟨b, 1, none⟩ v) fb rb rs :=
  (h.off 0 (by omega) (by omega) u).off 1 (by omega) (by omega) v
theorem Own.put {z : Value} {l : List Int} (h : Own (b + 1) w z l) (u v : Value) : Own (b + 1) ((w.setCell ⟨b, 0, none⟩ u).setCell ⟨b, 1, none⟩ v) z l :=
  (h.far (p := ⟨b, 0, none⟩) (by simp) u).far (p := ⟨b, 1, none⟩) (by simp) v
end
/-- the first place of a number in a list that has it -/
theorem first_at {l : List Int} {n : Int} (h : 0 < cn l n) : ∃ k, k < l.length ∧ Before l n k ∧ l.getD k 0 = n := by
  have key : ∀ i, Before l n i ∨ ∃ k, k < i ∧ Before l n k ∧ l.getD k 0 = n := by
    intro i
    induction i with
    | zero => exact .inl (Before.zero _ _)
    | succ i ih =>
      rcases ih with h | ⟨k, h1, h2, h3⟩
      · by_cases c : l.getD i 0 = n
        · exact .inr ⟨i, by omega, h, c⟩
        · exact .inl (h.succ c)
      · exact .inr ⟨k, by omega, h2, h3⟩
  rcases key l.length with h1 | h1
  · rw [before_none h1] at h; omega
  · exact h1
theorem none_at {l : List Int} {n : Int} (h : cn l n = 0) : Before l n l.length := fun m hm e => by have := before_some hm e; omega
theorem mod4 (a : Int) : ∃ x : Nat, wrap64 ((IntKind.u64.wrap a).tmod 4) = (x : Int) ∧ x < 4 := by
  obtain ⟨x, h1, h2⟩ := mod_by a 4 (by omega) (by omega)
  exact ⟨x, h1, h2⟩
theorem rfs_pos {rs : List Int} {m : Int} (h : rfs rs m ≠ 0) : ∃ j : Nat, m = (j : Int) ∧ j < rs.length ∧ rs.getD j 0 = rfs rs m := by
  by_cases c : 0 ≤ m ∧ m < rs.length
  · refine ⟨m.toNat, by omega, by omega, ?_⟩
    rw [← rfs_in rs m.toNat (by omega)]; congr 1; omega
  · exact absurd (rfs_out rs m c) h
theorem set_le {rs : List Int} {j : Nat} {n : Int} (h : ∀ m, rs.getD m 0 ≤ n) (i : Nat) (v : Int) (hv : v ≤ n + 1) : ∀ m, (rs.set i v).getD m 0 ≤ n + 1 := by
  intro m
  by_cases c : i < rs.length
  · rw [getD_set _ _ _ _ c]
    split
    · exact hv
    · have := h m; omega
  · rw [List.set_eq_of_length_le (by omega)]; have := h m; omega
theorem cut_len (l : List Int) (k : Nat) (h : k < l.length) : (l.take k ++ l.drop (k + 1)).length ≤ l.length := by simp; omega
end Go.Proofs.YtonackipdjnjdaaDoor
