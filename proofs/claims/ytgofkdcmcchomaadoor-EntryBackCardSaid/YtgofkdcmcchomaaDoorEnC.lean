/- The document's own answers on the entries of page tables: contracts, for any entry and any number, in any world; behind each there are only new blocks. -/
import Derived.Test.YtgofkdcmcchomaaDoorEnA
namespace Go.Proofs.YtgofkdcmcchomaaDoor
open Go.RowKit
set_option linter.unusedVariables false
section
variable (f p : Int) (c : Bool) (w : World)
theorem rmay_ok (h0 : 0 ≤ f) (h1 : f < 1024) (h2 : 0 ≤ p) (h3 : p ≤ 7) :
    Calls Tryd.prog 14 #[.agg #[.int .i64 f, .int .u8 p, .bool c]] w fun e w' => e = .returned (.bool true) ∧ New w w' := by
  go_enter Tryd.func14, Tryd.ntmps14
  go_wp2
  go_ret
  exact ⟨rfl, (New.refl _).alloc _ _⟩
theorem rmay_no (h2 : 0 ≤ p) (h : ¬ (0 ≤ f ∧ f < 1024 ∧ p ≤ 7)) :
    Calls Tryd.prog 14 #[.agg #[.int .i64 f, .int .u8 p, .bool c]] w fun e w' => e = .returned (.bool false) ∧ New w w' := by
  by_cases c1 : 0 ≤ f
  · by_cases c2 : f ≤ 1023
    · have c3 : ¬ p ≤ 7 := by omega
      have d3 : decide (p ≤ 7) = false := by simpa using c3
      clear h c3
      go_enter Tryd.func14, Tryd.ntmps14
      go_wp2
      go_ret
      exact ⟨rfl, (New.refl _).alloc _ _⟩
    · have d2 : decide (f ≤ 1023) = false := by simpa using c2
      clear h c2
      go_enter Tryd.func14, Tryd.ntmps14
      go_wp2
      go_ret
      exact ⟨rfl, (New.refl _).alloc _ _⟩
  · have d1 : decide (0 ≤ f) = false := by simpa using c1
    clear h c1
    go_enter Tryd.func14, Tryd.ntmps14
    go_wp2
    go_ret
    exact ⟨rfl, (New.refl _).alloc _ _⟩
theorem rencode_ok (h0 : 0 ≤ f) (h1 : f < 1024) (h2 : 0 ≤ p) (h3 : p ≤ 7) :
    Calls Tryd.prog 6 #[.agg #[.int .i64 f, .int .u8 p, .bool c]] w fun e w' => e = .returned (.tuple #[.int .u32 (ennum f p c), .int .i64 0]) ∧ New w w' := by
  have hX := rmay_ok f p c (w.alloc (.cells #[.int .i64 f, .int .u8 p, .bool c] 23)) h0 h1 h2 h3
  cases c
  · go_enter Tryd.func6, Tryd.ntmps6
    go_wp2_with fail
    refine hX.mono ?_
    rintro e w1 ⟨rfl, n1⟩
    obtain ⟨hc, hf⟩ := n1.bcell
    go_wp2
    go_ret2
    refine ⟨?_, ?_⟩
    · simp [ennum, cwn]; omega
    · exact ((New.refl _).alloc _ _).trans n1
  · go_enter Tryd.func6, Tryd.ntmps6
    go_wp2_with fail
    refine hX.mono ?_
    rintro e w1 ⟨rfl, n1⟩
    obtain ⟨hc, hf⟩ := n1.bcell
    go_wp2
    go_ret2
    refine ⟨?_, ?_⟩
    · simp [ennum, cwn]; omega
    · exact ((New.refl _).alloc _ _).trans n1
theorem rencode_no (h2 : 0 ≤ p) (h : ¬ (0 ≤ f ∧ f < 1024 ∧ p ≤ 7)) :
    Calls Tryd.prog 6 #[.agg #[.int .i64 f, .int .u8 p, .bool c]] w fun e w' => e = .returned (.tuple #[.int .u32 0, .int .i64 22]) ∧ New w w' := by
  have hX := rmay_no f p c (w.alloc (.cells #[.int .i64 f, .int .u8 p, .bool c] 23)) h2 h
  clear h
  go_enter Tryd.func6, Tryd.ntmps6
  go_wp2_with fail
  refine hX.mono ?_
  rintro e w1 ⟨rfl, n1⟩
  go_wp2
  go_ret2
  exact ⟨rfl, ((New.refl _).alloc _ _).trans n1⟩
theorem rused_no (u : Int) (h2 : 0 ≤ p) (h : ¬ (0 ≤ f ∧ f < 1024 ∧ p ≤ 7)) :
    Calls Tryd.prog 12 #[.agg #[.int .i64 f, .int .u8 p, .bool c], .int .u8 u] w fun e w' => e = .returned (.bool false) ∧ New w w' := by
  have hX := rmay_no f p c (w.alloc (.cells #[.int .i64 f, .int .u8 p, .bool c] 23)) h2 h
  clear h
  go_enter Tryd.func12, Tryd.ntmps12
  go_wp2_with fail
  refine hX.mono ?_
  rintro e w1 ⟨rfl, n1⟩
  go_wp2
  go_ret
  exact ⟨rfl, ((New.refl _).alloc _ _).trans n1⟩
theorem rused_not (u : Int) (h0 : 0 ≤ f) (h1 : f < 1024) (h2 : 0 ≤ p) (h3 : p ≤ 7) (hu : ¬ (u = 1 ∨ u = 2 ∨ u = 4)) :
    Calls Tryd.prog 12 #[.agg #[.int .i64 f, .int .u8 p, .bool c], .int .u8 u] w fun e w' => e = .returned (.bool false) ∧ New w w' := by
  have hX := rmay_ok f p c (w.alloc (.cells #[.int .i64 f, .int .u8 p, .bool c] 23)) h0 h1 h2 h3
  have d1 : (u != 1) = true := by simp; omega
  have d2 : (u != 2) = true := by simp; omega
  have d3 : (u != 4) = true := by simp; omega
  clear hu
  go_enter Tryd.func12, Tryd.ntmps12
  go_wp2_with fail
  refine hX.mono ?_
  rintro e w1 ⟨rfl, n1⟩
  go_wp2_with fail
  go_ret
  exact ⟨rfl, ((New.refl _).alloc _ _).trans n1⟩
theorem rused_ok (u : Int) (h0 : 0 ≤ f) (h1 : f < 1024) (h2 : 0 ≤ p) (h3 : p ≤ 7) (hu : u = 1 ∨ u = 2 ∨ u = 4) :
    Calls Tryd.prog 12 #[.agg #[.int .i64 f, .int .u8 p, .bool c], .int .u8 u] w fun e w' => e = .returned (.bool (usb p u)) ∧ New w w' := by
  have hX := rmay_ok f p c (w.alloc (.cells #[.int .i64 f, .int .u8 p, .bool c] 23)) h0 h1 h2 h3
  rcases hu with rfl | rfl | rfl
  all_goals
    go_enter Tryd.func12, Tryd.ntmps12
    go_wp2_with fail
    refine hX.mono ?_
    rintro e w1 ⟨rfl, n1⟩
    obtain ⟨hc, hf⟩ := n1.bcell
    go_wp2_with fail
    go_ret
    refine ⟨?_, ((New.refl _).alloc _ _).trans n1⟩
    unfold usb
    simp
    rfl
theorem rdecode_zero (w : World) : Calls Tryd.prog 8 #[.int .u32 0] w fun e w' => e = .returned (.tuple #[.agg #[.int .i64 0, .int .u8 0, .bool false], .bool false, .int .i64 0]) ∧ New w w' := by
  go_enter Tryd.func8, Tryd.ntmps8
  go_wp2
  exact bodyPost_ret (v := .tuple #[.agg #[.int .i64 0, .int .u8 0, .bool false], .bool false, .int .i64 0]) (by simp [results, Tryd.results8, go_sem]) rfl ⟨rfl, (New.refl _).alloc _ _⟩
theorem rdecode_ok (v : Int) (w : World) (h0 : 1 ≤ v) (h1 : v ≤ 4294967295) (h : EnNum v) :
    Calls Tryd.prog 8 #[.int .u32 v] w fun e w' => e = .returned (.tuple #[.agg #[.int .i64 (v / 256), .int .u8 (v % 8), .bool (cwb v)], .bool true, .int .i64 0]) ∧ New w w' := by
  obtain ⟨g1, g2, g3⟩ := h
  have d1 : decide (1023 < v / 256) = false := by simp; omega
  have d2 : decide (v % 256 < 128) = false := by simp; omega
  have d3 : decide (15 < v % 128) = false := by simp; omega
  go_enter Tryd.func8, Tryd.ntmps8
  go_wp2
  exact bodyPost_ret (v := .tuple #[.agg #[.int .i64 (v / 256), .int .u8 (v % 8), .bool (decide (8 ≤ v % 16))], .bool true, .int .i64 0]) (by simp [results, Tryd.results8, go_sem]) rfl ⟨rfl, (New.refl _).alloc _ _⟩
theorem rdecode_no (v : Int) (w : World) (h0 : 1 ≤ v) (h1 : v ≤ 4294967295) (h : ¬ EnNum v) :
    Calls Tryd.prog 8 #[.int .u32 v] w fun e w' => e = .returned (.tuple #[.agg #[.int .i64 0, .int .u8 0, .bool false], .bool false, .int .i64 22]) ∧ New w w' := by
  unfold EnNum at h
  by_cases c1 : v / 256 < 1024
  · have d1 : decide (1023 < v / 256) = false := by simp; omega
    by_cases c2 : v % 256 < 128
    · have d2 : decide (v % 256 < 128) = true := by simp; omega
      clear h c1
      go_enter Tryd.func8, Tryd.ntmps8
      go_wp2
      exact bodyPost_ret (v := .tuple #[.agg #[.int .i64 0, .int .u8 0, .bool false], .bool false, .int .i64 22]) (by simp [results, Tryd.results8, go_sem]) rfl ⟨rfl, (New.refl _).alloc _ _⟩
    · have d2 : decide (v % 256 < 128) = false := by simp; omega
      have d3 : decide (15 < v % 128) = true := by simp; omega
      clear h c1 c2
      go_enter Tryd.func8, Tryd.ntmps8
      go_wp2
      exact bodyPost_ret (v := .tuple #[.agg #[.int .i64 0, .int .u8 0, .bool false], .bool false, .int .i64 22]) (by simp [results, Tryd.results8, go_sem]) rfl ⟨rfl, (New.refl _).alloc _ _⟩
  · have d1 : decide (1023 < v / 256) = true := by simp; omega
    clear h c1
    go_enter Tryd.func8, Tryd.ntmps8
    go_wp2
    exact bodyPost_ret (v := .tuple #[.agg #[.int .i64 0, .int .u8 0, .bool false], .bool false, .int .i64 22]) (by simp [results, Tryd.results8, go_sem]) rfl ⟨rfl, (New.refl _).alloc _ _⟩
end
end Go.Proofs.YtgofkdcmcchomaaDoor
