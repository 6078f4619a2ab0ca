/- The one closed test that every statement of the layer of sets of signals ends with returns true, in any world in which the library's table holds what its text lays; behind it there are only new blocks. -/
import Derived.Test.YtfhoonjofphddaaDoorSetE
namespace Go.Proofs.YtfhoonjofphddaaDoor
open Go.RowKit
set_option linter.unusedVariables false
theorem s_one : one 1 = 1 := by decide +kernel
theorem s_add : addS 1 9 = 257 := by decide +kernel
theorem s_del : delS 257 1 = 256 := by decide +kernel
theorem s_first : firstS 256 = 9 := by decide +kernel
theorem s_cnt : cnt 257 = 2 := by decide +kernel
theorem s_has : hasS 257 9 = true := by decide +kernel
theorem s_txt : txt (low 257) = ⟨#[48, 48, 48, 48, 48, 49, 48, 49]⟩ := by
  have : (txt (low 257)).data = #[48, 48, 48, 48, 48, 49, 48, 49] := by decide +kernel
  exact congrArg ByteArray.mk this
theorem s_pv : pv [48, 48, 48, 48, 48, 49, 48, 49] = 257 := by decide +kernel
theorem s_pec : pec [48, 48, 48, 48, 48, 49, 48, 49] = 0 := by decide +kernel
theorem s_parse (w : World) : Calls Tryd.prog 21 #[.string ⟨#[48, 48, 48, 48, 48, 49, 48, 49]⟩] w fun e w' => e = .returned (.tuple #[.int .u32 257, .nilIface]) ∧ w = w' := by
  refine (parse_any ⟨#[48, 48, 48, 48, 48, 49, 48, 49]⟩ w (by decide +kernel)).mono fun e w' h => ⟨?_, h.2⟩
  have e1 := h.1
  rw [show (⟨#[48, 48, 48, 48, 48, 49, 48, 49]⟩ : ByteArray).data.toList = [48, 48, 48, 48, 48, 49, 48, 49] from rfl, s_pv, s_pec] at e1
  exact e1
theorem s_o (w : World) : Calls Tryd.prog 14 #[.int .i64 1] w fun e w' => e = .returned (.int .u32 1) ∧ w = w' := by
  have h := one_any 1 w (by omega) (by omega); rw [s_one] at h; exact h
theorem s_a (w : World) : Calls Tryd.prog 8 #[.int .u32 1, .int .i64 9] w fun e w' => e = .returned (.int .u32 257) ∧ w = w' := by
  have h := add_any 1 9 w (by omega) (by omega) (by omega) (by omega); rw [s_add] at h; exact h
theorem s_d (w : World) : Calls Tryd.prog 10 #[.int .u32 257, .int .i64 1] w fun e w' => e = .returned (.int .u32 256) ∧ w = w' := by
  have h := del_any 257 1 w (by omega) (by omega) (by omega) (by omega); rw [s_del] at h; exact h
theorem s_h (w : World) : Calls Tryd.prog 12 #[.int .u32 257, .int .i64 9] w fun e w' => e = .returned (.bool true) ∧ w = w' := by
  have h := has_any 257 9 w (by omega) (by omega) (by omega) (by omega); rw [s_has] at h; exact h
theorem s_f (w : World) (hT : Tab32 w) : Calls Tryd.prog 19 #[.int .u32 256] w fun e w' => e = .returned (.int .i64 9) ∧ w = w' := by
  have h := first_any 256 w hT (by omega) (by omega); rw [s_first] at h; exact h
theorem s_c (w : World) : Calls Tryd.prog 18 #[.int .u32 257] w fun e w' => e = .returned (.int .i64 2) ∧ ∃ n, w' = w.drewN n := by
  have h := count_any 257 w (by omega) (by omega); rw [s_cnt] at h; exact h
theorem s_t (w : World) : Calls Tryd.prog 23 #[.int .u32 257] w (StrN ⟨#[48, 48, 48, 48, 48, 49, 48, 49]⟩ w) := by
  have h := text_any 257 w (by omega) (by omega); rw [s_txt] at h; exact h
set_option maxHeartbeats 1000000 in
theorem sure_any (w : World) (hT : Tab32 w) : Calls Tryd.prog 20 #[] w (BoolN true w) := by
  go_enter Tryd.func20, Tryd.ntmps20
  go_wp2_with (first | ((with_reducible refine (s_o _).mono ?_); rintro e w' ⟨rfl, rfl⟩) | ((with_reducible refine (s_a _).mono ?_); rintro e w' ⟨rfl, rfl⟩) | ((with_reducible refine (s_parse _).mono ?_); rintro e w' ⟨rfl, rfl⟩) | ((with_reducible refine (s_t _).mono ?_); rintro e w1 ⟨rfl, hN⟩) | ((with_reducible refine (s_d _).mono ?_); rintro e w' ⟨rfl, rfl⟩) | ((with_reducible refine (s_f _ (hT.new (by assumption))).mono ?_); rintro e w' ⟨rfl, rfl⟩) | ((with_reducible refine (s_c _).mono ?_); rintro e w' ⟨rfl, n, rfl⟩) | ((with_reducible refine (s_h _).mono ?_); rintro e w' ⟨rfl, rfl⟩))
  go_ret
  exact ⟨rfl, hN.drewN _⟩
end Go.Proofs.YtfhoonjofphddaaDoor
