/- The one closed test that every statement of the layer of numbers of 32 bits ends with returns true, in any world, which only has new blocks behind it. -/
import Derived.Test.YtfchjlfpbfkdfaaDoorWordE
import Derived.Test.YtfchjlfpbfkdfaaDoorWordC
import Derived.Laws.BytesArg
namespace Go.Proofs.YtfchjlfpbfkdfaaDoor
open Go.RowKit
set_option linter.unusedVariables false
theorem zs1 : zs 1 = 31 := by decide +kernel
theorem sx80 : sx 128 8 = 4294967168 := by decide +kernel
set_option maxHeartbeats 400000 in
theorem sure_both (w : World) : Calls Tryd.prog 10 #[] w fun e w' => e = .returned (.bool true) ∧ Below w.heap.size w w' ∧ Grown w w' := by
  have z := Lib.hid zs1
  have s := Lib.hid sx80
  have hcv : ∀ n, (convert 22 9 (.slice (some ⟨w.heap.size, 0, none⟩) 4 4)).run Tryd.prog ((w.alloc (.cells #[.int .u8 4, .int .u8 3, .int .u8 2, .int .u8 1] 5)).drewN n) = .ok (.string ⟨#[4, 3, 2, 1]⟩) ((w.alloc (.cells #[.int .u8 4, .int .u8 3, .int .u8 2, .int .u8 1] 5)).drewN n) := by
    intro n
    rw [run_convert_bytes_arg _ 22 5 Tryd.underlying22 Tryd.underlying5 _ 0 4 4 [4, 3, 2, 1] rfl ?_ _ Tryd.underlying9]
    · rfl
    · intro i hi
      rcases i with _ | _ | _ | _ | i
      all_goals first | omega | simp
  go_enter Tryd.func10, Tryd.ntmps10
  go_wp2_with (first | (go_at_call 16; (with_reducible refine (add_any _ _ _ _ (by omega) (by omega) (by omega) (by omega)).mono ?_); rintro e w' ⟨rfl, rfl⟩) | (go_at_call 7; (with_reducible refine (store4 _ _ (by omega) (by omega)).mono ?_); rintro e w' ⟨rfl, rfl⟩) | (go_at_call 5; (with_reducible refine (load4 4 3 2 1 ⟨w.heap.size, 0, none⟩ _ (by omega) (by omega) (by omega) (by omega) (by omega) (by omega) (by omega) (by omega) (by simp) (by simp) (by simp) (by simp)).mono ?_); rintro e w' ⟨rfl, rfl⟩) | (go_at_call 12; (with_reducible refine (wsigned_any _ _ _ (by omega) (by omega) (by omega) (by omega)).mono ?_); rintro e w' ⟨rfl, n, rfl⟩) | (go_at_call 17; (with_reducible refine (zeros_any _ _ (by omega) (by omega)).mono ?_); rintro e w' ⟨rfl, rfl⟩) | (go_at_call 18; (with_reducible refine (sext_in _ _ _ (by omega) (by omega) (by omega) (by omega)).mono ?_); rintro e w' ⟨rfl, rfl⟩))
  go_ret
  refine ⟨ret_bool (by rw [s.out]; rfl), ((Below.refl _ _).alloc (Nat.le_refl _) _).trans ⟨rfl, rfl, rfl, Nat.le_refl _, fun _ _ => rfl⟩, ?_⟩
  exact grown_drewN ((Grown.refl _).alloc _ _) _
theorem sure_any (w : World) : Calls Tryd.prog 10 #[] w fun e w' => e = .returned (.bool true) ∧ Grown w w' :=
  (sure_both w).mono fun _ _ h => ⟨h.1, h.2.2⟩
end Go.Proofs.YtfchjlfpbfkdfaaDoor
