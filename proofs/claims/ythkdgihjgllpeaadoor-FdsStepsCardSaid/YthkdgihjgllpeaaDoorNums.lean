/- Slices of whole numbers: read, and made by append. -/
import Derived.Test.YthkdgihjgllpeaaDoorRw
namespace Go.Proofs.YthkdgihjgllpeaaDoor
open Go.RowKit
set_option linter.unusedVariables false
set_option maxRecDepth 100000
section
variable {w w' : World}
/-- a slice of numbers that can be read -/
def Nums (w : World) (v : Value) (l : List Int) : Prop := ∃ p cap, v = .slice p l.length cap ∧ (l.length ≤ cap ∧ cap ≤ maxLen) ∧ ∀ i, i < l.length → ∃ a, p = some a ∧ w.cell? (a.add i) = some (.int .i64 (l.getD i 0))
theorem Nums.nil : Nums w (.slice none 0 0) [] := ⟨none, 0, rfl, ⟨Nat.le_refl _, Nat.zero_le _⟩, fun i h => absurd h (Nat.not_lt_zero _)⟩
theorem Nums.new {v : Value} {l : List Int} (h : Nums w v l) (k : New w w') : Nums w' v l := by
  obtain ⟨p, cap, h1, h2, h3⟩ := h
  refine ⟨p, cap, h1, h2, fun i hi => ?_⟩
  obtain ⟨a, ha, hc⟩ := h3 i hi
  exact ⟨a, ha, k.keeps hc⟩
theorem Nums.shape {v : Value} {l : List Int} (h : Nums w v l) : ∃ p cap, v = .slice p l.length cap := by obtain ⟨p, cap, h1, -⟩ := h; exact ⟨p, cap, h1⟩
end
/-- whole numbers -/
def RNum : RTy := ⟨3, 36, 1, 8, .int .i64 0, Tryd.underlying36, by kernel_rfl, by kernel_rfl, by decide, by decide⟩
def nmC (n : Int) : List Value := [.int .i64 n]
theorem nm_wf (l : List Int) : Wf RNum (l.map nmC) := fun r hr => by
  obtain ⟨n, _, rfl⟩ := List.mem_map.1 hr
  exact ⟨rfl, fun x hx => by rw [nmC, List.mem_singleton] at hx; subst hx; rfl⟩
theorem nm_laid (w : World) (n : Int) : Rws RNum (w.alloc (.cells #[.int .i64 n] 3)) (.slice (some ⟨w.heap.size, 0, none⟩) 1 1) [nmC n] :=
  Rws.single (nm_wf [n] _ (by simp)).1 (nm_wf [n] _ (by simp)).2 (heap_alloc_new w _)
theorem OwnW.nums {base : Nat} {w : World} {v : Value} {l : List Int} (h : OwnW RNum base w v (l.map nmC)) : Nums w v l := by
  have R := h.rws
  obtain ⟨p, cap, rfl, h1, h2⟩ := R.shape
  rw [List.length_map] at *
  refine ⟨p, cap, rfl, ⟨h1, h2⟩, fun i hi => ?_⟩
  obtain ⟨a, ha, hc⟩ := R.at_ i 0 (by rw [List.length_map]; exact hi) (.int .i64 (l.getD i 0)) (by
    rw [List.getElem_map, List.getD_eq_getElem?_getD, List.getElem?_eq_getElem hi]; rfl)
  refine ⟨a, ha, ?_⟩
  have : i * RNum.c + 0 = i := by show i * 1 + 0 = i; omega
  rw [this] at hc; exact hc
end Go.Proofs.YthkdgihjgllpeaaDoor
