/- What the package of the entries of page tables does, and the document's own answers beside it: contracts, for any entry and any number, in any world; behind each there are only new blocks. -/
import Derived.Test.YtgofkdcmcchomaaDoorBase
import Derived.Test.YtgofkdcmcchomaaDoorEnMath
namespace Go.Proofs.YtgofkdcmcchomaaDoor
open Go.RowKit
set_option linter.unusedVariables false
/-- an entry, as a value -/
def En (f p : Int) (c : Bool) : Value := .agg #[.int .i64 f, .int .u8 p, .bool c]
section
variable (f p : Int) (c : Bool) (w : World)
theorem echeck_ok (h0 : 0 ≤ f) (h1 : f < 1024) (h2 : 0 ≤ p) (h3 : p ≤ 7) :
    Calls Tryd.prog 9 #[.agg #[.int .i64 f, .int .u8 p, .bool c]] w fun e w' => e = .returned .nilIface ∧ New w w' := by
  go_enter Tryd.func9, Tryd.ntmps9
  go_wp2
  go_ret
  exact ⟨rfl, (New.refl _).alloc _ _⟩
theorem echeck_no (h2 : 0 ≤ p) (h : ¬ (0 ≤ f ∧ f < 1024 ∧ p ≤ 7)) :
    Calls Tryd.prog 9 #[.agg #[.int .i64 f, .int .u8 p, .bool c]] w fun e w' => e = .returned (.iface 44 (.int .i64 22)) ∧ New w w' := by
  by_cases c1 : f < 0
  · go_enter Tryd.func9, Tryd.ntmps9
    go_wp2
    go_ret
    exact ⟨rfl, (New.refl _).alloc _ _⟩
  · have d1 : decide (f < 0) = false := by simpa using c1
    by_cases c2 : 1024 ≤ f
    · clear h
      go_enter Tryd.func9, Tryd.ntmps9
      go_wp2
      go_ret
      exact ⟨rfl, (New.refl _).alloc _ _⟩
    · have d2 : decide (1024 ≤ f) = false := by simpa using c2
      have c3 : 7 < p := by omega
      clear h
      go_enter Tryd.func9, Tryd.ntmps9
      go_wp2
      go_ret
      exact ⟨rfl, (New.refl _).alloc _ _⟩
theorem encode_ok (h0 : 0 ≤ f) (h1 : f < 1024) (h2 : 0 ≤ p) (h3 : p ≤ 7) :
    Calls Tryd.prog 5 #[.agg #[.int .i64 f, .int .u8 p, .bool c]] w fun e w' => e = .returned (.tuple #[.int .u32 (ennum f p c), .nilIface]) ∧ New w w' := by
  have hX := echeck_ok f p c (w.alloc (.cells #[.int .i64 f, .int .u8 p, .bool c] 25)) h0 h1 h2 h3
  cases c
  · go_enter Tryd.func5, Tryd.ntmps5
    go_wp2_with fail
    refine hX.mono ?_
    rintro e w1 ⟨rfl, n1⟩
    obtain ⟨hc, hf⟩ := n1.bcell
    go_wp2
    go_ret2
    refine ⟨?_, ?_⟩
    · simp [ennum, cwn]
    · exact ((New.refl _).alloc _ _).trans n1
  · go_enter Tryd.func5, Tryd.ntmps5
    go_wp2_with fail
    refine hX.mono ?_
    rintro e w1 ⟨rfl, n1⟩
    obtain ⟨hc, hf⟩ := n1.bcell
    go_wp2
    go_ret2
    refine ⟨?_, ?_⟩
    · simp [ennum, cwn]
    · exact ((New.refl _).alloc _ _).trans n1
theorem encode_no (h2 : 0 ≤ p) (h : ¬ (0 ≤ f ∧ f < 1024 ∧ p ≤ 7)) :
    Calls Tryd.prog 5 #[.agg #[.int .i64 f, .int .u8 p, .bool c]] w fun e w' => e = .returned (.tuple #[.int .u32 0, .iface 44 (.int .i64 22)]) ∧ New w w' := by
  have hX := echeck_no f p c (w.alloc (.cells #[.int .i64 f, .int .u8 p, .bool c] 25)) h2 h
  clear h
  go_enter Tryd.func5, Tryd.ntmps5
  go_wp2_with fail
  refine hX.mono ?_
  rintro e w1 ⟨rfl, n1⟩
  go_wp2
  go_ret2
  exact ⟨rfl, ((New.refl _).alloc _ _).trans n1⟩
theorem isUse_yes (u : Int) (hu : u = 1 ∨ u = 2 ∨ u = 4) : Calls Tryd.prog 16 #[.int .u8 u] w fun e w' => e = .returned (.bool true) ∧ w = w' := by
  rcases hu with rfl | rfl | rfl
  · go_enter Tryd.func16, Tryd.ntmps16
    go_wp2
    go_ret
    exact ⟨rfl, rfl⟩
  · go_enter Tryd.func16, Tryd.ntmps16
    go_wp2
    go_ret
    exact ⟨rfl, rfl⟩
  · go_enter Tryd.func16, Tryd.ntmps16
    go_wp2
    go_ret
    exact ⟨rfl, rfl⟩
theorem isUse_not (u : Int) (hu : ¬ (u = 1 ∨ u = 2 ∨ u = 4)) : Calls Tryd.prog 16 #[.int .u8 u] w fun e w' => e = .returned (.bool false) ∧ w = w' := by
  have d1 : (u == 1) = false := by simp; omega
  have d2 : (u == 2) = false := by simp; omega
  have d3 : (u == 4) = false := by simp; omega
  clear hu
  go_enter Tryd.func16, Tryd.ntmps16
  go_wp2
  go_ret
  exact ⟨rfl, rfl⟩
theorem may_no (u : Int) (h2 : 0 ≤ p) (h : ¬ (0 ≤ f ∧ f < 1024 ∧ p ≤ 7)) :
    Calls Tryd.prog 11 #[.agg #[.int .i64 f, .int .u8 p, .bool c], .int .u8 u] w fun e w' => e = .returned (.bool false) ∧ New w w' := by
  have hX := echeck_no f p c (w.alloc (.cells #[.int .i64 f, .int .u8 p, .bool c] 25)) h2 h
  clear h
  go_enter Tryd.func11, Tryd.ntmps11
  go_wp2_with fail
  refine hX.mono ?_
  rintro e w1 ⟨rfl, n1⟩
  go_wp2
  go_ret
  exact ⟨rfl, ((New.refl _).alloc _ _).trans n1⟩
theorem may_not (u : Int) (h0 : 0 ≤ f) (h1 : f < 1024) (h2 : 0 ≤ p) (h3 : p ≤ 7) (hu : ¬ (u = 1 ∨ u = 2 ∨ u = 4)) :
    Calls Tryd.prog 11 #[.agg #[.int .i64 f, .int .u8 p, .bool c], .int .u8 u] w fun e w' => e = .returned (.bool false) ∧ New w w' := by
  have hX := echeck_ok f p c (w.alloc (.cells #[.int .i64 f, .int .u8 p, .bool c] 25)) h0 h1 h2 h3
  have hY := fun w => isUse_not w u hu
  clear hu
  go_enter Tryd.func11, Tryd.ntmps11
  go_wp2_with fail
  refine hX.mono ?_
  rintro e w1 ⟨rfl, n1⟩
  go_wp2_with fail
  refine (hY _).mono ?_
  rintro e w2 ⟨rfl, rfl⟩
  go_wp2
  go_ret
  exact ⟨rfl, ((New.refl _).alloc _ _).trans n1⟩
theorem may_ok (u : Int) (h0 : 0 ≤ f) (h1 : f < 1024) (h2 : 0 ≤ p) (h3 : p ≤ 7) (hu : u = 1 ∨ u = 2 ∨ u = 4) :
    Calls Tryd.prog 11 #[.agg #[.int .i64 f, .int .u8 p, .bool c], .int .u8 u] w fun e w' => e = .returned (.bool (usb p u)) ∧ New w w' := by
  have hX := echeck_ok f p c (w.alloc (.cells #[.int .i64 f, .int .u8 p, .bool c] 25)) h0 h1 h2 h3
  have hY := fun w => isUse_yes w u hu
  have HB := Lib.hid (and_use p u h2 (by omega) hu)
  have u0 : 1 ≤ u := by omega
  clear hu
  go_enter Tryd.func11, Tryd.ntmps11
  go_wp2_with fail
  refine hX.mono ?_
  rintro e w1 ⟨rfl, n1⟩
  obtain ⟨hc, hf⟩ := n1.bcell
  go_wp2_with fail
  refine (hY _).mono ?_
  rintro e w2 ⟨rfl, rfl⟩
  go_wp2_with fail
  go_ret
  refine ⟨?_, ((New.refl _).alloc _ _).trans n1⟩
  rw [HB.out]
  cases usb p u
  · rfl
  · simp; omega
end
end Go.Proofs.YtgofkdcmcchomaaDoor
