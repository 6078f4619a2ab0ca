/- What a statement's own function num makes of an error: 0 of nil, the number of one of the project's errors; in any world in which the library's one variable holds what its text lays. Behind it there are new blocks, and no other cell is changed. -/
import Derived.Test.YtfchjlfpbfkdfaaDoorAs
import Derived.Deep.Draws
import Derived.Handy
namespace Go.Proofs.YtfchjlfpbfkdfaaDoor
open Go.RowKit Go.Extern.Stop Go.Stop Go.Extern
set_option linter.unusedVariables false
/-- the library's variable as its text lays it -/
def Laid (w : World) : Prop := w.cell? ⟨0, 0, none⟩ = some (.iface 67 (.agg #[.pointer (some ⟨1, 25, none⟩)]))
/-- only new blocks -/
def New (w w' : World) : Prop := Below w.heap.size w w' ∧ Grown w w'
theorem New.refl (w : World) : New w w := ⟨Below.refl _ _, Grown.refl _⟩
theorem new_grown_trans {a b c : World} (h : Grown a b) (k : Grown b c) : Grown a c :=
  ⟨World.keptBut_trans h.1 k.1, fun x => (k.2.1 x).trans (h.2.1 x), Nat.le_trans h.2.2 k.2.2⟩
theorem New.trans {a b c : World} (h : New a b) (k : New b c) : New a c := ⟨h.1.trans (k.1.mono h.1.size), new_grown_trans h.2 k.2⟩
theorem New.drewN {a b : World} (h : New a b) (n : Nat) : New a (b.drewN n) := ⟨h.1.trans ⟨rfl, rfl, rfl, Nat.le_refl _, fun _ _ => rfl⟩, h.2⟩
theorem New.alloc {a b : World} (h : New a b) (cs : Array Value) (t : TypeId) : New a (b.alloc (.cells cs t)) := ⟨h.1.alloc h.1.size _, h.2.alloc _ _⟩
theorem New.setCell {a b : World} (h : New a b) {p : Addr} (hp : a.heap.size ≤ p.block) (v : Value) : New a (b.setCell p v) := ⟨h.1.setCell hp _, h.2.setCell hp _⟩
theorem Laid.lt {w : World} (h : Laid w) : 0 < w.heap.size := by
  unfold Laid at h
  rcases Nat.lt_or_ge 0 w.heap.size with k | k
  · exact k
  · simp [World.cell?, Array.getElem?_eq_none k] at h
theorem Laid.new {w w' : World} (h : Laid w) (k : New w w') : Laid w' := by
  have hl := h.lt
  unfold Laid at h ⊢
  rw [k.1.cell (p := ⟨0, 0, none⟩) hl]; exact h
theorem num_nil (w : World) : Calls Tryd.prog 9 #[.nilIface] w fun e w' => e = .returned (.int .i64 0) ∧ New w w' := by
  go_enter Tryd.func9, Tryd.ntmps9
  go_wp2
  go_ret
  exact ⟨rfl, by repeat (first | exact New.refl _ | refine New.alloc ?_ _ _)⟩
set_option maxHeartbeats 1000000 in
theorem num_err (c : Int) (w : World) (hl : Laid w) : Calls Tryd.prog 9 #[.iface 43 (.int .i64 c)] w fun e w' => e = .returned (.int .i64 c) ∧ New w w' := by
  have hlt := hl.lt
  have hgA : Laid (w.alloc (.cells #[.int .i64 0] 43)) := hl.new ((New.refl w).alloc _ _)
  have htA : (w.alloc (.cells #[.int .i64 0] 43)).cell? ⟨w.heap.size, 0, none⟩ = some (.int .i64 0) := by simp
  have hfA : (w.alloc (.cells #[.int .i64 0] 43)).frozen? ⟨w.heap.size, 0, none⟩ = false := by simp
  go_enter Tryd.func9, Tryd.ntmps9
  go_wp2_with (go_at_call 15; refine (as_hit _ _ (.int .i64 0) _ hgA htA hfA).mono ?_; rintro e w' ⟨rfl, rfl⟩)
  go_ret
  refine ⟨rfl, ?_⟩
  repeat (first | with_reducible exact New.refl _ | with_reducible refine New.alloc ?_ _ _ | with_reducible refine New.setCell ?_ (by simp) _)
end Go.Proofs.YtfchjlfpbfkdfaaDoor
