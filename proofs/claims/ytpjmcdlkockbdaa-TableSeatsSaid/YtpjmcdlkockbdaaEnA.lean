/- What the package of the entries of page tables does, and the document's own answers beside it: contracts, for any entry and any number, in any world; behind each there are only new blocks. -/
import Derived.Test.YtpjmcdlkockbdaaBase
import Derived.Test.YtpjmcdlkockbdaaEnMath
namespace Go.Proofs.Ytpjmcdlkockbdaa
open Go.RowKit
set_option linter.unusedVariables false
/-- an entry, as a value -/
def En (f p : Int) (c : Bool) : Value := .agg #[.int .i64 f, .int .u8 p, .bool c]
section
variable (f p : Int) (c : Bool) (w : World)
theorem echeck_ok (h0 : 0 ≤ f) (h1 : f < 1024) (h2 : 0 ≤ p) (h3 : p ≤ 7) :
    Calls Try.prog 18 #[.agg #[.int .i64 f, .int .u8 p, .bool c]] w fun e w' => e = .returned .nilIface ∧ New w w' := by
  go_enter Try.func18, Try.ntmps18
  go_wp2
  go_ret
  exact ⟨rfl, (New.refl _).alloc _ _⟩
theorem echeck_no (h2 : 0 ≤ p) (h : ¬ (0 ≤ f ∧ f < 1024 ∧ p ≤ 7)) :
    Calls Try.prog 18 #[.agg #[.int .i64 f, .int .u8 p, .bool c]] w fun e w' => e = .returned (.iface 43 (.int .i64 22)) ∧ New w w' := by
  by_cases c1 : f < 0
  · go_enter Try.func18, Try.ntmps18
    go_wp2
    go_ret
    exact ⟨rfl, (New.refl _).alloc _ _⟩
  · have d1 : decide (f < 0) = false := by simpa using c1
    by_cases c2 : 1024 ≤ f
    · clear h
      go_enter Try.func18, Try.ntmps18
      go_wp2
      go_ret
      exact ⟨rfl, (New.refl _).alloc _ _⟩
    · have d2 : decide (1024 ≤ f) = false := by simpa using c2
      have c3 : 7 < p := by omega
      clear h
      go_enter Try.func18, Try.ntmps18
      go_wp2
      go_ret
      exact ⟨rfl, (New.refl _).alloc _ _⟩
theorem encode_ok (h0 : 0 ≤ f) (h1 : f < 1024) (h2 : 0 ≤ p) (h3 : p ≤ 7) :
    Calls Try.prog 28 #[.agg #[.int .i64 f, .int .u8 p, .bool c]] w fun e w' => e = .returned (.tuple #[.int .u32 (ennum f p c), .nilIface]) ∧ New w w' := by
  have hX := echeck_ok f p c (w.alloc (.cells #[.int .i64 f, .int .u8 p, .bool c] 39)) h0 h1 h2 h3
  cases c
  · go_enter Try.func28, Try.ntmps28
    go_wp2_with fail
    refine hX.mono ?_
    rintro e w1 ⟨rfl, n1⟩
    obtain ⟨hc, hf⟩ := n1.bcell
    go_wp2
    go_ret2
    refine ⟨?_, ?_⟩
    · simp [ennum, cwn]
    · exact ((New.refl _).alloc _ _).trans n1
  · go_enter Try.func28, Try.ntmps28
    go_wp2_with fail
    refine hX.mono ?_
    rintro e w1 ⟨rfl, n1⟩
    obtain ⟨hc, hf⟩ := n1.bcell
    go_wp2
    go_ret2
    refine ⟨?_, ?_⟩
    · simp [ennum, cwn]
    · exact ((New.refl _).alloc _ _).trans n1
theorem encode_no (h2 : 0 ≤ p) (h : ¬ (0 ≤ f ∧ f < 1024 ∧ p ≤ 7)) :
    Calls Try.prog 28 #[.agg #[.int .i64 f, .int .u8 p, .bool c]] w fun e w' => e = .returned (.tuple #[.int .u32 0, .iface 43 (.int .i64 22)]) ∧ New w w' := by
  have hX := echeck_no f p c (w.alloc (.cells #[.int .i64 f, .int .u8 p, .bool c] 39)) h2 h
  clear h
  go_enter Try.func28, Try.ntmps28
  go_wp2_with fail
  refine hX.mono ?_
  rintro e w1 ⟨rfl, n1⟩
  go_wp2
  go_ret2
  exact ⟨rfl, ((New.refl _).alloc _ _).trans n1⟩
end
end Go.Proofs.Ytpjmcdlkockbdaa
