/- The row's last step for a law whose arguments and variables lie in no memory that she reads (numbers, bools, strings), where of the world behind the call only this is known: what was there is as it was ('New'). -/
import Derived.Test.YtealjgfijlencaaDoorBase
import Derived.ChangeSame
namespace Go.Proofs.YtealjgfijlencaaDoor
open Go.RowKit Go.WideShapes Go.ChangeShapes
set_option linter.unusedVariables false
theorem post_of_new {H : Type} {enc : TypeId × Value → H} {P : Program} {f : Func} {s : ChangeSpec} {apart fresh handsOn again : Bool} {W W' : World} {args : Array Value} {v : Value} {ds gs : List (DataW H)}
    (whole : DataW.Whole enc P f.params.toList s.vars apart W args.toList ds gs [])
    (res : ∀ (b : Nat) (sp : Nat → Bool) (hd : Bool), DataW.TrodAll enc P W' b sp hd f.resultTypes.toList (v.resultList f.resultTypes.size) (s.fn H (ds ++ gs)).results [])
    (same : ∀ sp : Nat → Bool, DataW.TrodAll enc P W' 0 sp true f.params.toList args.toList (s.fn H (ds ++ gs)).args [])
    (vars : ∀ sp : Nat → Bool, DataW.TrodVars enc P W' sp s.vars (s.fn H (ds ++ gs)).vars [])
    (new : New W W')
    (fits : ∀ (j : Nat) (t : TypeId) (r : Value), f.resultTypes[j]? = some t → (v.resultList f.resultTypes.size)[j]? = some r → Value.okWide P W' .any 0 t r) :
    s.post enc P f apart fresh handsOn again W args v W' := by
  refine ⟨ds, gs, [], [], [], [], whole, res _ _ _, same _, vars _, Below.frame new _, fun _ => ⟨fits, _, _, [], ⟨[], [], trodAll_append (same _) (res _ _ _), vars _, rfl, ?_, ?_⟩, ?_⟩⟩
  · intro b off h; cases h
  · intro _; simp
  · intro p h; cases h
end Go.Proofs.YtealjgfijlencaaDoor
