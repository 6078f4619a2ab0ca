/- What errors.As does, asked whether an error is one of the project's own numbers of errors: nil is none; such a number is found, and told. And what a statement's own function num makes of an error: contracts, in any world in which the library's one variable holds what its text lays; behind them there are new blocks, and no other cell is changed. -/
import Derived.Test.YtbjpflomibcenaaProg
import Derived.WalkKit
import Derived.LaidEql
import Derived.Stop.Asserts
import Derived.RowKitTokens
import Derived.RowKit3
import Derived.Below
namespace Go.Proofs.Ytbjpflomibcenaa
open Go.RowKit Go.Extern.Stop Go.Stop Go.Extern
set_option linter.unusedVariables false
theorem as_kindE (w : World) : ((ReflectliteType.abiMethod fun t => (fun a : Nat => Value.int IntKind.u8 (a : Int)) <$> Rtype.kind t) #[.pointer (some ⟨0, 47, none⟩)]).run Try.prog w = .ok (.int .u8 2) w := by kernel_rfl
theorem as_bind {α β : Type} {P : Program} {m : Sem β} {x : Sem α} {F : α → Sem β} {a : α} {w : World} (h : m = x >>= F) (hx : x.run P w = .ok a w) : m.run P w = (F a).run P w := by
  rw [h, Sem.run_bind, hx]; rfl
theorem as_valueOfE (c : Int) (w : World) : (ReflectliteValue.unpack (.iface 47 (.int .i64 c))).run Try.prog w
    = .ok (.agg #[.pointer (some ⟨0, 47, none⟩), .pointer (some ⟨w.heap.size, 0, none⟩), .int .u64 130]) (w.alloc (.cells #[.int .i64 c] 47)) := by kernel_rfl
theorem as_mkE (p : Addr) (w : World) : (ReflectliteValue.mk 47 p ReflectliteValue.flagAddr).run Try.prog w = .ok (.agg #[.pointer (some ⟨0, 47, none⟩), .pointer (some p), .int .u64 386]) w := by kernel_rfl
theorem as_partsEa (a : Addr) (w : World) : (ReflectliteValue.parts (.agg #[.pointer (some ⟨0, 47, none⟩), .pointer (some a), .int .u64 386])).run Try.prog w = .ok (some (47, a, 386)) w := by kernel_rfl
theorem as_partsE (a : Addr) (w : World) : (ReflectliteValue.parts (.agg #[.pointer (some ⟨0, 47, none⟩), .pointer (some a), .int .u64 130])).run Try.prog w = .ok (some (47, a, 130)) w := by kernel_rfl
theorem as_directE (w : World) : (Rtype.directlyAssignable 47 47).run Try.prog w = .ok true w := by kernel_rfl
theorem as_setE (ta b : Addr) (c : Int) (old : Value) (W : World) (hb : W.cell? b = some (.int .i64 c)) (ht : W.cell? ta = some old) (hf : W.frozen? ta = false) :
    (ReflectliteValue.set #[.agg #[.pointer (some ⟨0, 47, none⟩), .pointer (some ta), .int .u64 386], .agg #[.pointer (some ⟨0, 47, none⟩), .pointer (some b), .int .u64 130]]).run Try.prog W
      = .ok (.tuple #[]) (W.setCell ta (.int .i64 c)) := by
  refine Eq.trans (as_bind rfl (as_partsEa ta W)) ?_
  refine Eq.trans (as_bind rfl (as_partsE b W)) ?_
  simp [ReflectliteValue.flagAddr, loadVar, isAgg, underlying, Try.underlying47, hb, Result.andThen, as_directE, storeVar, Value.cells, storeCells, Addr.add]
  rw [run_store Try.prog W ta _ _ (by rfl)]
  simp [ht, hf]
end Go.Proofs.Ytbjpflomibcenaa
