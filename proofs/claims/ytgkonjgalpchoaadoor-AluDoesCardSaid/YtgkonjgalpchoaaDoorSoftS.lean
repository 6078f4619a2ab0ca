/- What the document's own rounding of binary64 numbers does, also of 0, and what it makes of whole numbers with their signs; contracts, in any world, behind which there are new blocks. -/
import Derived.Test.YtgkonjgalpchoaaDoorSoftR
namespace Go.Proofs.YtgkonjgalpchoaaDoor
open Go.RowKit
set_option linter.unusedVariables false
set_option maxRecDepth 100000 in
set_option maxHeartbeats 1000000 in
theorem rround_zero (neg : Bool) (E : Int) (w : World) (hE : -5000 ≤ E) (hE' : E ≤ 5000) :
    Calls Tryd.prog 66 #[.agg #[.bool neg, .int .u64 0, .int .i64 E, .bool false]] w fun e w' => e = .returned (.int .u64 (so_rd neg 0 E false)) ∧ New w w' := by
  have EV := Lib.hid (show ((so_rd neg 0 E false : Nat) : Int) = wdI neg 0 from by rw [rd_zero, wd_int]; rfl)
  by_cases c : E < -1074
  all_goals
    go_enter Tryd.func66, Tryd.ntmps66
    go_wp2
    go_region
    go_wp2
    go_rounds 1
    refine wp_loop_rounds 1 ?_
    rw [rounds_succ]
    go_wp2_with (go_at_call 65; (with_reducible refine (so_rsigned_any _ _ _ (by omega) (by omega)).mono ?_); rintro e w' ⟨rfl, rfl⟩)
    go_ret
    exact ⟨ret_int (by rw [EV.out]), ((New.refl _).alloc _ _).drew⟩
theorem rround_any (neg : Bool) (M : Nat) (E : Int) (more : Bool) (w : World) (hM : M ≤ 9223372036854775807) (hE : -5000 ≤ E) (hE' : E ≤ 5000) (hm : more = true → 4503599627370496 ≤ M) :
    Calls Tryd.prog 66 #[.agg #[.bool neg, .int .u64 M, .int .i64 E, .bool more]] w fun e w' => e = .returned (.int .u64 (so_rd neg M E more)) ∧ New w w' := by
  by_cases h0 : M = 0
  · subst h0
    have : more = false := by cases more with
      | false => rfl
      | true => have := hm rfl; omega
    subst this
    exact rround_zero neg E w hE hE'
  · exact rround_pos neg M E more w hM hE hE' hm (by omega)
end Go.Proofs.YtgkonjgalpchoaaDoor
