/- What a statement's own function num makes of an error: 0 of nil, the number of one of the project's errors; in any world in which the library's one variable holds what its text lays. Behind it there are new blocks, and no other cell is changed. -/
import Derived.Test.YtealjgfijlencaaDoorBase
import Derived.Test.YtealjgfijlencaaDoorAs
import Derived.Deep.Draws
import Derived.Handy
namespace Go.Proofs.YtealjgfijlencaaDoor
open Go.RowKit Go.Extern.Stop Go.Stop Go.Extern
set_option linter.unusedVariables false
/-- the library's variable as its text lays it -/
def Laid (w : World) : Prop := w.cell? ⟨0, 0, none⟩ = some (.iface 85 (.agg #[.pointer (some ⟨1, 31, none⟩)]))
theorem Laid.lt {w : World} (h : Laid w) : 0 < w.heap.size := by
  unfold Laid at h
  rcases Nat.lt_or_ge 0 w.heap.size with k | k
  · exact k
  · simp [World.cell?, Array.getElem?_eq_none k] at h
theorem Laid.new {w w' : World} (h : Laid w) (k : New w w') : Laid w' := by
  have hl := h.lt
  unfold Laid at h ⊢
  rw [k.cell (p := ⟨0, 0, none⟩) hl]; exact h
theorem num_nil (w : World) : Calls Tryd.prog 12 #[.nilIface] w fun e w' => e = .returned (.int .i64 0) ∧ New w w' := by
  go_enter Tryd.func12, Tryd.ntmps12
  go_wp2
  go_ret
  exact ⟨rfl, by repeat (first | exact New.refl _ | refine New.alloc ?_ _ _)⟩
set_option maxHeartbeats 1000000 in
theorem num_err (c : Int) (w : World) (hl : Laid w) : Calls Tryd.prog 12 #[.iface 60 (.int .i64 c)] w fun e w' => e = .returned (.int .i64 c) ∧ New w w' := by
  have hlt := hl.lt
  have hgA : Laid (w.alloc (.cells #[.int .i64 0] 60)) := hl.new ((New.refl w).alloc _ _)
  have htA : (w.alloc (.cells #[.int .i64 0] 60)).cell? ⟨w.heap.size, 0, none⟩ = some (.int .i64 0) := by simp
  have hfA : (w.alloc (.cells #[.int .i64 0] 60)).frozen? ⟨w.heap.size, 0, none⟩ = false := by simp
  go_enter Tryd.func12, Tryd.ntmps12
  go_wp2_with (go_at_call 22; refine (as_hit _ _ (.int .i64 0) _ hgA htA hfA).mono ?_; rintro e w' ⟨rfl, rfl⟩)
  go_ret
  refine ⟨rfl, ?_⟩
  repeat (first | with_reducible exact New.refl _ | with_reducible refine New.alloc ?_ _ _ | with_reducible refine New.setCell ?_ (by simp) _)
theorem num_er (c : Int) (w : World) (hl : Laid w) : Calls Tryd.prog 12 #[erN c] w fun e w' => e = .returned (.int .i64 c) ∧ New w w' := by
  by_cases h : c = 0
  · subst h; exact num_nil w
  · rw [erN_pos h]; exact num_err c w hl
end Go.Proofs.YtealjgfijlencaaDoor
