/- Numbers of files: eight numbers loaded whole in a region that draws its order. -/
import Derived.Test.YthkdgihjgllpeaaDoorFdE
import Derived.Deep.RegionHeld
namespace Go.Proofs.YthkdgihjgllpeaaDoor
open Go.RowKit Go.Joins
set_option linter.unusedVariables false
theorem yields_box8 {ops : Array Oper} {S : World → Prop} {op : Oper} {a : Act} (hw : Region.wanted op (yielded ops a.tmps) = true) (x : Operand) (ho : op.op = .load 22 x)
    (b : Nat) (hx : a.eval x = .pointer (some ⟨b, 0, none⟩)) (l : List Int) (h8 : l.length = 8) (t : TypeId) (hS : ∀ w, S w → Box w b (i8 l).toArray t) : YieldsIf Tryd.prog ops S op (.agg (i8 l).toArray) a :=
  yieldsIf_load_mid hw 22 x ho b 0 hx (i8 l) _ (fun w h => (hS w h).range) Tryd.underlying22 rfl (by rw [i8_len, h8]; exact a8_info)
theorem yields_boxT {ops : Array Oper} {S : World → Prop} {op : Oper} {a : Act} (hw : Region.wanted op (yielded ops a.tmps) = true) (x : Operand) (ho : op.op = .load 24 x)
    (b : Nat) (hx : a.eval x = .pointer (some ⟨b, 0, none⟩)) (l : List Int) (h8 : l.length = 8) (t : TypeId) (hS : ∀ w, S w → Box w b (i8 l).toArray t) : YieldsIf Tryd.prog ops S op (.agg (i8 l).toArray) a :=
  yieldsIf_load_mid hw 24 x ho b 0 hx (i8 l) _ (fun w h => (hS w h).range) Tryd.underlying24 rfl (by rw [i8_len, h8]; exact tb_info)
end Go.Proofs.YthkdgihjgllpeaaDoor
