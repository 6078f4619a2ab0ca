/- The document's own answers on the entries of page tables: contracts, for any entry and any number, in any world; behind each there are only new blocks. -/
import Derived.Test.YtpjmcdlkockbdaaDoorEnA
namespace Go.Proofs.YtpjmcdlkockbdaaDoor
open Go.RowKit
set_option linter.unusedVariables false
section
variable (f p : Int) (c : Bool) (w : World)
theorem rmay_ok (h0 : 0 ≤ f) (h1 : f < 1024) (h2 : 0 ≤ p) (h3 : p ≤ 7) :
    Calls Tryd.prog 41 #[.agg #[.int .i64 f, .int .u8 p, .bool c]] w fun e w' => e = .returned (.bool true) ∧ New w w' := by
  go_enter Tryd.func41, Tryd.ntmps41
  go_wp2
  go_ret
  exact ⟨rfl, (New.refl _).alloc _ _⟩
theorem rmay_no (h2 : 0 ≤ p) (h : ¬ (0 ≤ f ∧ f < 1024 ∧ p ≤ 7)) :
    Calls Tryd.prog 41 #[.agg #[.int .i64 f, .int .u8 p, .bool c]] w fun e w' => e = .returned (.bool false) ∧ New w w' := by
  by_cases c1 : 0 ≤ f
  · by_cases c2 : f ≤ 1023
    · have c3 : ¬ p ≤ 7 := by omega
      have d3 : decide (p ≤ 7) = false := by simpa using c3
      clear h c3
      go_enter Tryd.func41, Tryd.ntmps41
      go_wp2
      go_ret
      exact ⟨rfl, (New.refl _).alloc _ _⟩
    · have d2 : decide (f ≤ 1023) = false := by simpa using c2
      clear h c2
      go_enter Tryd.func41, Tryd.ntmps41
      go_wp2
      go_ret
      exact ⟨rfl, (New.refl _).alloc _ _⟩
  · have d1 : decide (0 ≤ f) = false := by simpa using c1
    clear h c1
    go_enter Tryd.func41, Tryd.ntmps41
    go_wp2
    go_ret
    exact ⟨rfl, (New.refl _).alloc _ _⟩
end
end Go.Proofs.YtpjmcdlkockbdaaDoor
