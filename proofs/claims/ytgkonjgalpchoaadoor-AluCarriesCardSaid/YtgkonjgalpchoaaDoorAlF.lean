/- The one closed test that every statement of what instructions reckon ends with returns true, in any world, which only has new blocks behind it. -/
import Derived.Test.YtgkonjgalpchoaaDoorAlE
import Derived.Test.YtgkonjgalpchoaaDoorAlB
namespace Go.Proofs.YtgkonjgalpchoaaDoor
open Go.RowKit
set_option linter.unusedVariables false
set_option maxRecDepth 100000
theorem al_k1 : dov 16 5 5 = 5 ∧ dof 16 5 5 16 = 17 ∧ doe 16 5 = 0 := by decide +kernel
theorem al_k2 : flv 36 so_one 0 = 9218868437227405312 ∧ fle 36 = 0 := ⟨k_div, rfl⟩
theorem al_k3 : tkv 22 17 = true ∧ tke 22 = 0 := by decide +kernel
theorem al_k4 : fcv (cmpv 0 1) 0 = 2 := by decide +kernel
theorem al_sure_any (w : World) : Calls Tryd.prog 12 #[] w fun e w' => e = .returned (.bool true) ∧ New w w' := by
  have q1 := fun w => do_any 16 5 5 16 w (by omega) (by omega) (by omega) (by omega) (by omega) (by omega)
  rw [al_k1.1, al_k1.2.1, al_k1.2.2, erN_zero] at q1
  have q2 : ∀ w, Calls Tryd.prog 13 #[.int .i64 36, .int .u64 4607182418800017408, .int .u64 0] w fun e w' => e = .returned (.tuple #[.int .u64 9218868437227405312, .nilIface]) ∧ New w w' :=
    fun w => (float_any 36 so_one 0 w).mono fun e w' ⟨h1, h2⟩ => ⟨by rw [h1, al_k2.1, al_k2.2]; rfl, h2⟩
  have q3 := fun w => taken_any 22 17 w (by omega) (by omega)
  rw [al_k3.1, al_k3.2, erN_zero] at q3
  have q4 : ∀ w, Calls Tryd.prog 15 #[.int .u64 0, .int .u64 1, .int .u32 0] w fun e w' => e = .returned (.int .u32 2) ∧ New w w' :=
    fun w => (fcmp_any 0 1 0 w (by unfold U; omega) (by unfold U; omega) (by omega) (by omega)).mono fun e w' ⟨h1, h2⟩ => ⟨by rw [h1, al_k4], h2⟩
  go_enter Tryd.func12, Tryd.ntmps12
  go_wp2_with (first | (go_at_call 7; (with_reducible refine (q1 _).mono ?_); rintro e w1 ⟨rfl, n1⟩) | (go_at_call 13; (with_reducible refine (q2 _).mono ?_); rintro e w2 ⟨rfl, n2⟩) | (go_at_call 9; (with_reducible refine (q3 _).mono ?_); rintro e w3 ⟨rfl, n3⟩) | (go_at_call 15; (with_reducible refine (q4 _).mono ?_); rintro e w4 ⟨rfl, n4⟩))
  go_ret
  exact ⟨rfl, ((n1.trans n2).trans n3).trans n4⟩
end Go.Proofs.YtgkonjgalpchoaaDoor
