/- The document's own answers on instructions as numbers: contracts, for any instruction and any number, in any world; behind each there are only new blocks. -/
import Derived.Test.YtlpjegclpilaaaaGreatDoorIsA
namespace Go.Proofs.YtlpjegclpilaaaaGreatDoor
open Go.RowKit
set_option linter.unusedVariables false
section
variable (o a b m : Int) (w : World)
theorem irmay_ok (h : InOk o a b m) :
    Calls Tryz.prog 20 #[.agg #[.int .i64 o, .int .i64 a, .int .i64 b, .int .i64 m]] w fun e w' => e = .returned (.bool true) ∧ New w w' := by
  obtain ⟨h1, h2, h3, h4, h5, h6, h7, h8⟩ := h
  go_enter Tryz.func20, Tryz.ntmps20
  go_wp2
  go_ret
  exact ⟨rfl, (New.refl _).alloc _ _⟩
theorem irmay_no (h : ¬ InOk o a b m) :
    Calls Tryz.prog 20 #[.agg #[.int .i64 o, .int .i64 a, .int .i64 b, .int .i64 m]] w fun e w' => e = .returned (.bool false) ∧ New w w' := by
  unfold InOk at h
  by_cases c0 : 0 ≤ o
  rotate_left
  · have d0 : decide (0 ≤ o) = false := by simpa using c0
    clear h c0
    go_enter Tryz.func20, Tryz.ntmps20
    go_wp2
    go_ret
    exact ⟨rfl, (New.refl _).alloc _ _⟩
  by_cases c1 : o ≤ 41
  rotate_left
  · have d1 : decide (o ≤ 41) = false := by simpa using c1
    clear h c1
    go_enter Tryz.func20, Tryz.ntmps20
    go_wp2
    go_ret
    exact ⟨rfl, (New.refl _).alloc _ _⟩
  by_cases c2 : 0 ≤ a
  rotate_left
  · have d2 : decide (0 ≤ a) = false := by simpa using c2
    clear h c2
    go_enter Tryz.func20, Tryz.ntmps20
    go_wp2
    go_ret
    exact ⟨rfl, (New.refl _).alloc _ _⟩
  by_cases c3 : a ≤ 15
  rotate_left
  · have d3 : decide (a ≤ 15) = false := by simpa using c3
    clear h c3
    go_enter Tryz.func20, Tryz.ntmps20
    go_wp2
    go_ret
    exact ⟨rfl, (New.refl _).alloc _ _⟩
  by_cases c4 : 0 ≤ b
  rotate_left
  · have d4 : decide (0 ≤ b) = false := by simpa using c4
    clear h c4
    go_enter Tryz.func20, Tryz.ntmps20
    go_wp2
    go_ret
    exact ⟨rfl, (New.refl _).alloc _ _⟩
  by_cases c5 : b ≤ 15
  rotate_left
  · have d5 : decide (b ≤ 15) = false := by simpa using c5
    clear h c5
    go_enter Tryz.func20, Tryz.ntmps20
    go_wp2
    go_ret
    exact ⟨rfl, (New.refl _).alloc _ _⟩
  by_cases c6 : -32768 ≤ m
  rotate_left
  · have d6 : decide (-32768 ≤ m) = false := by simpa using c6
    clear h c6
    go_enter Tryz.func20, Tryz.ntmps20
    go_wp2
    go_ret
    exact ⟨rfl, (New.refl _).alloc _ _⟩
  have d7 : decide (m ≤ 32767) = false := by simp; omega
  clear h
  go_enter Tryz.func20, Tryz.ntmps20
  go_wp2
  go_ret
  exact ⟨rfl, (New.refl _).alloc _ _⟩
theorem irencode_ok (h : InOk o a b m) :
    Calls Tryz.prog 35 #[.agg #[.int .i64 o, .int .i64 a, .int .i64 b, .int .i64 m]] w fun e w' => e = .returned (.tuple #[.int .u32 (innum o a b m), .int .i64 0]) ∧ New w w' := by
  have hX := irmay_ok o a b m (w.alloc (.cells #[.int .i64 o, .int .i64 a, .int .i64 b, .int .i64 m] 23)) h
  obtain ⟨h1, h2, h3, h4, h5, h6, h7, h8⟩ := h
  by_cases c : m < 0
  · go_enter Tryz.func35, Tryz.ntmps35
    go_wp2_with fail
    refine hX.mono ?_
    rintro e w1 ⟨rfl, n1⟩
    obtain ⟨hc, hf⟩ := n1.bcell
    go_wp2
    go_ret2
    refine ⟨?_, ?_⟩
    · simp [innum]; omega
    · exact ((New.refl _).alloc _ _).trans n1
  · go_enter Tryz.func35, Tryz.ntmps35
    go_wp2_with fail
    refine hX.mono ?_
    rintro e w1 ⟨rfl, n1⟩
    obtain ⟨hc, hf⟩ := n1.bcell
    go_wp2
    go_ret2
    refine ⟨?_, ?_⟩
    · simp [innum]; omega
    · exact ((New.refl _).alloc _ _).trans n1
theorem irencode_no (h : ¬ InOk o a b m) :
    Calls Tryz.prog 35 #[.agg #[.int .i64 o, .int .i64 a, .int .i64 b, .int .i64 m]] w fun e w' => e = .returned (.tuple #[.int .u32 0, .int .i64 22]) ∧ New w w' := by
  have hX := irmay_no o a b m (w.alloc (.cells #[.int .i64 o, .int .i64 a, .int .i64 b, .int .i64 m] 23)) h
  clear h
  go_enter Tryz.func35, Tryz.ntmps35
  go_wp2_with fail
  refine hX.mono ?_
  rintro e w1 ⟨rfl, n1⟩
  go_wp2
  go_ret2
  exact ⟨rfl, ((New.refl _).alloc _ _).trans n1⟩
end
end Go.Proofs.YtlpjegclpilaaaaGreatDoor
