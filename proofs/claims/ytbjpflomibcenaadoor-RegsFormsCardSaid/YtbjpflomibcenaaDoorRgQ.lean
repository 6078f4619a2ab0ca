/- Registers held against the same registers: equal. -/
import Derived.Test.YtbjpflomibcenaaDoorRgS
import Derived.Laws.StructEq
import Derived.ChangeKeysEq
namespace Go.Proofs.YtbjpflomibcenaaDoor
open Go.RowKit Go.Joins
set_option linter.unusedVariables false
theorem run_eqItems_same {P : Program} (d : Nat) {e : TypeId} {q : IntKind} (he : P.underlying e = some (.int q)) (xs : Array Value) : ∀ (is : List Nat) (w : World), (∀ i ∈ is, ∃ k a, xs[i]? = some (.int k a)) →
    (Op.eqItems (d + 1) e 1 xs xs is).run P w = .ok true w
  | [], w, _ => by simp [Op.eqItems]
  | i :: is, w, h => by
    obtain ⟨k, a, ha⟩ := h i (by simp)
    have hg : (isAgg e).run P w = .ok false w := by
      unfold isAgg
      rw [Sem.run_bind, run_underlying he w]
      rfl
    have hp : (part e xs i).run P w = .ok (.int k a) w := by
      unfold part
      rw [Sem.run_bind, hg]
      simp only [Result.andThen_ok, Bool.false_eq_true, if_false, ha, Sem.run_pure]
    have ih := run_eqItems_same d he xs is w fun j hj => h j (by simp [hj])
    simp [Op.eqItems, Sem.run_bind, hp, run_equalIn_int w d e k q a a he, ih]
theorem run_equalIn_row {P : Program} (d n : Nat) {t e : TypeId} {q : IntKind} (ht : P.underlying t = some (.array n e)) (he : P.underlying e = some (.int q)) (hs : P.cellsOf e = 1) (xs : Array Value) (w : World) (h : ∀ i, i < n → ∃ k a, xs[i]? = some (.int k a)) :
    (Op.equalIn (d + 2) t (.agg xs) (.agg xs)).run P w = .ok true w := by
  obtain ⟨i, hi⟩ := info_of_underlying he
  rw [run_equalIn_array w (d + 1) xs xs ht hi, hs]
  exact run_eqItems_same d he xs _ w fun j hj => h j (List.mem_range.1 hj)
set_option maxHeartbeats 4000000 in
set_option maxRecDepth 100000 in
theorem rc_equal (x f : Nat → Int) (w : World) : (Op.equalIn 10000 29 (.agg (rc x f).toArray) (.agg (rc x f).toArray)).run Tryd.prog w = .ok true w := by
  have hl : (rc x f).toArray = #[.int .u32 (x 0), .int .u32 (x 1), .int .u32 (x 2), .int .u32 (x 3), .int .u32 (x 4), .int .u32 (x 5), .int .u32 (x 6), .int .u32 (x 7), .int .u32 (x 8), .int .u32 (x 9), .int .u32 (x 10), .int .u32 (x 11), .int .u32 (x 12), .int .u32 (x 13), .int .u32 (x 14), .int .u32 (x 15), .int .u32 (x 16), .int .u32 (x 17), .int .u64 (f 0), .int .u64 (f 1), .int .u64 (f 2), .int .u64 (f 3)] := rfl
  have h1 : ∀ w, (Op.equalIn 9999 23 (.agg (nl .u32 16 x).toArray) (.agg (nl .u32 16 x).toArray)).run Tryd.prog w = .ok true w := fun w => run_equalIn_row 9997 16 Tryd.underlying23 Tryd.underlying22 (by kernel_rfl) _ w fun i hi => ⟨_, _, by rw [List.getElem?_toArray]; exact nl_at x hi⟩
  have h2 : ∀ w, (Op.equalIn 9999 25 (.agg (nl .u64 4 f).toArray) (.agg (nl .u64 4 f).toArray)).run Tryd.prog w = .ok true w := fun w => run_equalIn_row 9997 4 Tryd.underlying25 Tryd.underlying24 (by kernel_rfl) _ w fun i hi => ⟨_, _, by rw [List.getElem?_toArray]; exact nl_at f hi⟩
  have l1 : (nl .u32 16 x).toArray = #[.int .u32 (x 0), .int .u32 (x 1), .int .u32 (x 2), .int .u32 (x 3), .int .u32 (x 4), .int .u32 (x 5), .int .u32 (x 6), .int .u32 (x 7), .int .u32 (x 8), .int .u32 (x 9), .int .u32 (x 10), .int .u32 (x 11), .int .u32 (x 12), .int .u32 (x 13), .int .u32 (x 14), .int .u32 (x 15)] := rfl
  have l2 : (nl .u64 4 f).toArray = #[.int .u64 (f 0), .int .u64 (f 1), .int .u64 (f 2), .int .u64 (f 3)] := rfl
  rw [l1] at h1
  rw [l2] at h2
  rw [hl]
  simp [go_sem, h1, h2]
theorem rc_eql (x f : Nat → Int) (w : World) : (binOp .eql 29 (.agg (rc x f).toArray) (.agg (rc x f).toArray)).run Tryd.prog w = .ok (.bool true) w := by
  rw [run_eql_struct, rc_equal]; rfl
theorem rc_neq (x f : Nat → Int) (w : World) : (binOp .neq 29 (.agg (rc x f).toArray) (.agg (rc x f).toArray)).run Tryd.prog w = .ok (.bool false) w := by
  rw [run_neq_struct, rc_equal]; rfl
end Go.Proofs.YtbjpflomibcenaaDoor
