/- An array of whole numbers by value, held against itself: the same. -/
import Derived.Test.YthkdgihjgllpeaaDoorBase
import Derived.Laws.StructEq
import Derived.ChangeKeysEq
import Derived.Lib.SmallJoins
namespace Go.Proofs.YthkdgihjgllpeaaDoor
open Go.RowKit Go.Joins
set_option linter.unusedVariables false
theorem run_eqItems_same {P : Program} (d : Nat) {e : TypeId} {q : IntKind} (he : P.underlying e = some (.int q)) (xs : Array Value) : ∀ (is : List Nat) (w : World), (∀ i ∈ is, ∃ k a, xs[i]? = some (.int k a)) →
    (Op.eqItems (d + 1) e 1 xs xs is).run P w = .ok true w
  | [], w, _ => by simp [Op.eqItems]
  | i :: is, w, h => by
    obtain ⟨k, a, ha⟩ := h i (by simp)
    have hg : (isAgg e).run P w = .ok false w := by
      unfold isAgg
      rw [Sem.run_bind, run_underlying he w]
      rfl
    have hp : (part e xs i).run P w = .ok (.int k a) w := by
      unfold part
      rw [Sem.run_bind, hg]
      simp only [Result.andThen_ok, Bool.false_eq_true, if_false, ha, Sem.run_pure]
    have ih := run_eqItems_same d he xs is w fun j hj => h j (by simp [hj])
    simp [Op.eqItems, Sem.run_bind, hp, run_equalIn_int w d e k q a a he, ih]
theorem run_equalIn_row {P : Program} (d n : Nat) {t e : TypeId} {q : IntKind} (ht : P.underlying t = some (.array n e)) (he : P.underlying e = some (.int q)) (hs : P.cellsOf e = 1) (xs : Array Value) (w : World) (h : ∀ i, i < n → ∃ k a, xs[i]? = some (.int k a)) :
    (Op.equalIn (d + 2) t (.agg xs) (.agg xs)).run P w = .ok true w := by
  obtain ⟨i, hi⟩ := info_of_underlying he
  rw [run_equalIn_array w (d + 1) xs xs ht hi, hs]
  exact run_eqItems_same d he xs _ w fun j hj => h j (List.mem_range.1 hj)
end Go.Proofs.YthkdgihjgllpeaaDoor
