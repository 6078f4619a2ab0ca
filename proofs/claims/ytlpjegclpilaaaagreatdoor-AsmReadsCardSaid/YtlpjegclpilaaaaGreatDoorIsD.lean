/- The document's own answers on instructions as numbers, in one form for right and wrong instructions and numbers: the same numbers as the package's. -/
import Derived.Test.YtlpjegclpilaaaaGreatDoorIsB
import Derived.Test.YtlpjegclpilaaaaGreatDoorIsC
namespace Go.Proofs.YtlpjegclpilaaaaGreatDoor
open Go.RowKit
set_option linter.unusedVariables false
theorem irencode_any (o a b m : Int) (w : World) : Calls Tryz.prog 35 #[.agg #[.int .i64 o, .int .i64 a, .int .i64 b, .int .i64 m]] w fun e w' => e = .returned (.tuple #[.int .u32 (icv o a b m), .int .i64 (ice o a b m)]) ∧ New w w' := by
  rcases ic_cases o a b m with ⟨k, e1, e2⟩ | ⟨k, e1, e2⟩
  · rw [e1, e2]; exact irencode_ok o a b m w k
  · rw [e1, e2]; exact irencode_no o a b m w k
end Go.Proofs.YtlpjegclpilaaaaGreatDoor
