/- The document's own answers on instructions as numbers, in one form for right and wrong instructions and numbers: the same numbers as the package's. -/
import Derived.Test.YtmllcppndlcgnaaDoorIsB
import Derived.Test.YtmllcppndlcgnaaDoorIsC
namespace Go.Proofs.YtmllcppndlcgnaaDoor
open Go.RowKit
set_option linter.unusedVariables false
theorem irencode_any (o a b m : Int) (w : World) : Calls Tryd.prog 6 #[.agg #[.int .i64 o, .int .i64 a, .int .i64 b, .int .i64 m]] w fun e w' => e = .returned (.tuple #[.int .u32 (icv o a b m), .int .i64 (ice o a b m)]) ∧ New w w' := by
  rcases ic_cases o a b m with ⟨k, e1, e2⟩ | ⟨k, e1, e2⟩
  · rw [e1, e2]; exact irencode_ok o a b m w k
  · rw [e1, e2]; exact irencode_no o a b m w k
theorem irdecode_any (v : Int) (w : World) (h0 : 0 ≤ v) (h1 : v ≤ 4294967295) :
    Calls Tryd.prog 8 #[.int .u32 v] w fun e w' => e = .returned (.tuple #[.agg #[.int .i64 (idn v (v / 16777216)), .int .i64 (idn v (v / 1048576 % 16)), .int .i64 (idn v (v / 65536 % 16)), .int .i64 (idn v (imv v))], .int .i64 (ide v)]) ∧ New w w' := by
  unfold idn ide imv
  by_cases k : v / 16777216 ≤ 41
  · simp only [if_pos k]
    by_cases g : v % 65536 < 32768
    · simp only [if_pos g]; exact irdecode_okp v w h0 h1 k g
    · simp only [if_neg g]; exact irdecode_okn v w h0 h1 k (by omega)
  · simp only [if_neg k]
    by_cases g : v % 65536 < 32768
    · exact irdecode_nop v w h0 h1 (by omega) g
    · exact irdecode_non v w h0 h1 (by omega) (by omega)
end Go.Proofs.YtmllcppndlcgnaaDoor
