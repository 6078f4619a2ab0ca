/- What the package of regions asks of one region, and of two: contracts, for any of them, in any world; behind each there are only new blocks. -/
import Derived.Test.YtfkjgbenjdmedaaDoorBase
import Derived.Test.YtfkjgbenjdmedaaDoorBox
import Derived.Test.YtfkjgbenjdmedaaDoorReMath
namespace Go.Proofs.YtfkjgbenjdmedaaDoor
open Go.RowKit
set_option linter.unusedVariables false
set_option maxRecDepth 100000
/-- a bool, and only new blocks -/
def BoolN (b : Bool) (w : World) (e : Ending) (w' : World) : Prop := e = .returned (.bool b) ∧ New w w'
def IntN (n : Int) (w : World) (e : Ending) (w' : World) : Prop := e = .returned (.int .i64 n) ∧ New w w'
section
variable (w : World)
theorem arePages_any (a b : Int) : Calls Tryd.prog 31 #[.int .i64 a, .int .i64 b] w fun e w' => e = .returned (.bool (okP a b)) ∧ w = w' := by
  unfold okP
  by_cases c0 : 0 ≤ a
  · have d0 : decide (0 ≤ a) = true := by simpa using c0
    rw [d0]
    by_cases c1 : a < b
    · have d1 : decide (a < b) = true := by simpa using c1
      rw [d1]
      generalize hd2 : decide (b ≤ 4096) = d2
      go_enter Tryd.func31, Tryd.ntmps31
      go_wp2
      go_ret
      exact ⟨by cases d2 <;> rfl, rfl⟩
    · have d1 : decide (a < b) = false := by simpa using c1
      rw [d1]
      go_enter Tryd.func31, Tryd.ntmps31
      go_wp2
      go_ret
      exact ⟨rfl, rfl⟩
  · have d0 : decide (0 ≤ a) = false := by simpa using c0
    rw [d0]
    go_enter Tryd.func31, Tryd.ntmps31
    go_wp2
    go_ret
    exact ⟨rfl, rfl⟩
theorem isRegion_any (r : Rg) : Calls Tryd.prog 23 #[.agg #[.int .i64 r.f, .int .i64 r.t, .int .u8 (r.p : Int)]] w (BoolN (okR r) w) := by
  obtain ⟨f, t, p⟩ := r
  unfold okR
  simp only
  have q := fun w => arePages_any w f t
  generalize okP f t = d at *
  cases d with
  | false =>
    go_enter Tryd.func23, Tryd.ntmps23
    go_wp2_with (go_at_call 31; (with_reducible refine (q _).mono ?_); rintro e w' ⟨rfl, rfl⟩)
    go_ret
    exact ⟨rfl, by repeat (first | exact New.refl _ | refine New.alloc ?_ _ _)⟩
  | true =>
    have e : decide ((p : Int) ≤ 7) = decide (p ≤ 7) := by
      by_cases h : p ≤ 7
      · rw [decide_eq_true h, decide_eq_true (by omega)]
      · rw [decide_eq_false h, decide_eq_false (by omega)]
    generalize decide (p ≤ 7) = d2 at *
    go_enter Tryd.func23, Tryd.ntmps23
    go_wp2_with (go_at_call 31; (with_reducible refine (q _).mono ?_); rintro e w' ⟨rfl, rfl⟩)
    go_ret
    exact ⟨rfl, by repeat (first | exact New.refl _ | refine New.alloc ?_ _ _)⟩
theorem areOne_any (a b : Rg) : Calls Tryd.prog 43 #[.agg #[.int .i64 a.f, .int .i64 a.t, .int .u8 (a.p : Int)], .agg #[.int .i64 b.f, .int .i64 b.t, .int .u8 (b.p : Int)]] w (BoolN (oneR a b) w) := by
  obtain ⟨f, t, p⟩ := a
  obtain ⟨g, u, q⟩ := b
  unfold oneR
  simp only
  have e : ((p : Int) == (q : Int)) = decide (p = q) := by
    by_cases h : p = q
    · rw [decide_eq_true h]; simp [h]
    · rw [decide_eq_false h]; simp; omega
  have e1 : (t == g) = decide (t = g) := by
    by_cases h : t = g
    · rw [decide_eq_true h]; simp [h]
    · rw [decide_eq_false h]; simpa using h
  generalize decide (t = g) = d1 at *
  generalize decide (p = q) = d2 at *
  cases d1 with
  | false =>
    go_enter Tryd.func43, Tryd.ntmps43
    go_wp2
    go_ret
    exact ⟨rfl, by repeat (first | exact New.refl _ | refine New.alloc ?_ _ _)⟩
  | true =>
    go_enter Tryd.func43, Tryd.ntmps43
    go_wp2
    go_ret
    exact ⟨rfl, by repeat (first | exact New.refl _ | refine New.alloc ?_ _ _)⟩
theorem mayFollow_any (a b : Rg) : Calls Tryd.prog 34 #[.agg #[.int .i64 a.f, .int .i64 a.t, .int .u8 (a.p : Int)], .agg #[.int .i64 b.f, .int .i64 b.t, .int .u8 (b.p : Int)]] w (BoolN (folR a b) w) := by
  have q := fun w => areOne_any w a b
  unfold folR
  generalize oneR a b = d at *
  obtain ⟨f, t, p⟩ := a
  obtain ⟨g, u, z⟩ := b
  simp only at *
  by_cases c : t ≤ g
  · have d1 : decide (t ≤ g) = true := by simpa using c
    rw [d1]
    clear c
    go_enter Tryd.func34, Tryd.ntmps34
    go_wp2_with (go_at_call 43; (with_reducible refine (q _).mono ?_); rintro e w' ⟨rfl, hn⟩)
    go_ret
    exact ⟨rfl, New.trans (by repeat (first | exact New.refl _ | refine New.alloc ?_ _ _)) hn⟩
  · have d1 : decide (t ≤ g) = false := by simpa using c
    rw [d1]
    clear c
    go_enter Tryd.func34, Tryd.ntmps34
    go_wp2
    go_ret
    exact ⟨rfl, by repeat (first | exact New.refl _ | refine New.alloc ?_ _ _)⟩
end
end Go.Proofs.YtfkjgbenjdmedaaDoor
