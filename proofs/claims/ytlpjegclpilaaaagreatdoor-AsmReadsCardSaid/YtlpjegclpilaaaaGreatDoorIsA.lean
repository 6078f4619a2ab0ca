/- What the package of instructions as numbers does, and the document's own answers beside it: contracts, for any instruction and any number, in any world; behind each there are only new blocks. -/
import Derived.Test.YtlpjegclpilaaaaGreatDoorBase
import Derived.Test.YtlpjegclpilaaaaGreatDoorIsMath
namespace Go.Proofs.YtlpjegclpilaaaaGreatDoor
open Go.RowKit
set_option linter.unusedVariables false
section
variable (o a b m : Int) (w : World)
theorem isReg_yes (n : Int) (h0 : 0 ≤ n) (h1 : n ≤ 15) : Calls Tryz.prog 46 #[.int .i64 n] w fun e w' => e = .returned (.bool true) ∧ w = w' := by
  go_enter Tryz.func46, Tryz.ntmps46
  go_wp2
  go_ret
  exact ⟨by first | (simp; done) | (simp; omega), rfl⟩
theorem isReg_no (n : Int) (h : n < 0 ∨ 15 < n) : Calls Tryz.prog 46 #[.int .i64 n] w fun e w' => e = .returned (.bool false) ∧ w = w' := by
  by_cases c : 0 ≤ n
  · have d : decide (n < 16) = false := by simp; omega
    clear h
    go_enter Tryz.func46, Tryz.ntmps46
    go_wp2
    go_ret
    exact ⟨rfl, rfl⟩
  · have d : decide (0 ≤ n) = false := by simp; omega
    clear h
    go_enter Tryz.func46, Tryz.ntmps46
    go_wp2
    go_ret
    exact ⟨rfl, rfl⟩
theorem isImm_yes (n : Int) (h0 : -32768 ≤ n) (h1 : n ≤ 32767) : Calls Tryz.prog 47 #[.int .i64 n] w fun e w' => e = .returned (.bool true) ∧ w = w' := by
  go_enter Tryz.func47, Tryz.ntmps47
  go_wp2
  go_ret
  exact ⟨by first | (simp; done) | (simp; omega), rfl⟩
theorem isImm_no (n : Int) (h : n < -32768 ∨ 32767 < n) : Calls Tryz.prog 47 #[.int .i64 n] w fun e w' => e = .returned (.bool false) ∧ w = w' := by
  by_cases c : -32768 ≤ n
  · have d : decide (n ≤ 32767) = false := by simp; omega
    clear h
    go_enter Tryz.func47, Tryz.ntmps47
    go_wp2
    go_ret
    exact ⟨rfl, rfl⟩
  · have d : decide (-32768 ≤ n) = false := by simp; omega
    clear h
    go_enter Tryz.func47, Tryz.ntmps47
    go_wp2
    go_ret
    exact ⟨rfl, rfl⟩
theorem icheck_ok (h : InOk o a b m) :
    Calls Tryz.prog 28 #[.agg #[.int .i64 o, .int .i64 a, .int .i64 b, .int .i64 m]] w fun e w' => e = .returned .nilIface ∧ New w w' := by
  obtain ⟨h1, h2, h3, h4, h5, h6, h7, h8⟩ := h
  have qa := fun w => isReg_yes w a h3 h4
  have qb := fun w => isReg_yes w b h5 h6
  have qm := fun w => isImm_yes w m h7 h8
  clear h3 h4 h5 h6 h7 h8
  go_enter Tryz.func28, Tryz.ntmps28
  go_wp2_with fail
  refine (qa _).mono ?_
  rintro e w1 ⟨rfl, rfl⟩
  go_wp2_with fail
  refine (qb _).mono ?_
  rintro e w1 ⟨rfl, rfl⟩
  go_wp2_with fail
  refine (qm _).mono ?_
  rintro e w1 ⟨rfl, rfl⟩
  go_wp2_with fail
  go_ret
  exact ⟨rfl, (New.refl _).alloc _ _⟩
theorem icheck_no (h : ¬ InOk o a b m) :
    Calls Tryz.prog 28 #[.agg #[.int .i64 o, .int .i64 a, .int .i64 b, .int .i64 m]] w fun e w' => e = .returned (.iface 55 (.int .i64 22)) ∧ New w w' := by
  unfold InOk at h
  by_cases c1 : o < 0
  · clear h
    go_enter Tryz.func28, Tryz.ntmps28
    go_wp2
    go_ret
    exact ⟨rfl, (New.refl _).alloc _ _⟩
  · have d1 : decide (o < 0) = false := by simpa using c1
    by_cases c2 : 42 ≤ o
    · clear h
      go_enter Tryz.func28, Tryz.ntmps28
      go_wp2
      go_ret
      exact ⟨rfl, (New.refl _).alloc _ _⟩
    · have d2 : decide (42 ≤ o) = false := by simpa using c2
      by_cases c3 : a < 0 ∨ 15 < a
      · have qa := fun w => isReg_no w a c3
        clear h c3
        go_enter Tryz.func28, Tryz.ntmps28
        go_wp2_with fail
        refine (qa _).mono ?_
        rintro e w1 ⟨rfl, rfl⟩
        go_wp2_with fail
        go_ret
        exact ⟨rfl, (New.refl _).alloc _ _⟩
      · have qa := fun w => isReg_yes w a (by omega) (by omega)
        by_cases c4 : b < 0 ∨ 15 < b
        · have qb := fun w => isReg_no w b c4
          clear h c3 c4
          go_enter Tryz.func28, Tryz.ntmps28
          go_wp2_with fail
          refine (qa _).mono ?_
          rintro e w1 ⟨rfl, rfl⟩
          go_wp2_with fail
          refine (qb _).mono ?_
          rintro e w1 ⟨rfl, rfl⟩
          go_wp2_with fail
          go_ret
          exact ⟨rfl, (New.refl _).alloc _ _⟩
        · have qb := fun w => isReg_yes w b (by omega) (by omega)
          have qm := fun w => isImm_no w m (by omega)
          clear h c3 c4
          go_enter Tryz.func28, Tryz.ntmps28
          go_wp2_with fail
          refine (qa _).mono ?_
          rintro e w1 ⟨rfl, rfl⟩
          go_wp2_with fail
          refine (qb _).mono ?_
          rintro e w1 ⟨rfl, rfl⟩
          go_wp2_with fail
          refine (qm _).mono ?_
          rintro e w1 ⟨rfl, rfl⟩
          go_wp2_with fail
          go_ret
          exact ⟨rfl, (New.refl _).alloc _ _⟩
theorem iencode_ok (h : InOk o a b m) :
    Calls Tryz.prog 17 #[.agg #[.int .i64 o, .int .i64 a, .int .i64 b, .int .i64 m]] w fun e w' => e = .returned (.tuple #[.int .u32 (innum o a b m), .nilIface]) ∧ New w w' := by
  have hX := icheck_ok o a b m (w.alloc (.cells #[.int .i64 o, .int .i64 a, .int .i64 b, .int .i64 m] 28)) h
  obtain ⟨h1, h2, h3, h4, h5, h6, h7, h8⟩ := h
  go_enter Tryz.func17, Tryz.ntmps17
  go_wp2_with fail
  refine hX.mono ?_
  rintro e w1 ⟨rfl, n1⟩
  obtain ⟨hc, hf⟩ := n1.bcell
  go_wp2
  go_ret2
  refine ⟨?_, ?_⟩
  · simp [innum, u16_wr]; omega
  · exact ((New.refl _).alloc _ _).trans n1
theorem iencode_no (h : ¬ InOk o a b m) :
    Calls Tryz.prog 17 #[.agg #[.int .i64 o, .int .i64 a, .int .i64 b, .int .i64 m]] w fun e w' => e = .returned (.tuple #[.int .u32 0, .iface 55 (.int .i64 22)]) ∧ New w w' := by
  have hX := icheck_no o a b m (w.alloc (.cells #[.int .i64 o, .int .i64 a, .int .i64 b, .int .i64 m] 28)) h
  clear h
  go_enter Tryz.func17, Tryz.ntmps17
  go_wp2_with fail
  refine hX.mono ?_
  rintro e w1 ⟨rfl, n1⟩
  go_wp2
  go_ret2
  exact ⟨rfl, ((New.refl _).alloc _ _).trans n1⟩
end
end Go.Proofs.YtlpjegclpilaaaaGreatDoor
