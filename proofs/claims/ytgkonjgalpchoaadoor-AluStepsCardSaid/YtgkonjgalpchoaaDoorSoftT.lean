/- What the document's own answers on binary64 numbers do with the parts of a number, and whole numbers to and fro; contracts, in any world, behind which there are new blocks. -/
import Derived.Test.YtgkonjgalpchoaaDoorSoftS
namespace Go.Proofs.YtgkonjgalpchoaaDoor
open Go.RowKit
set_option linter.unusedVariables false
/-- a number as the document's answers have it -/
def numv (neg : Bool) (m : Nat) (p : Int) (more : Bool) : Value := .agg #[.bool neg, .int .u64 m, .int .i64 p, .bool more]
theorem open_of {a : Nat} {w : World} {x p : Int} (hx : x = (mg a : Int)) (hp : p = pl a) :
    Ending.returned (.agg #[.bool (sgn a), .int .u64 x, .int .i64 p, .bool false]) = .returned (.agg #[.bool (sgn a), .int .u64 (mg a), .int .i64 (pl a), .bool false]) ∧
    (w.alloc (.cells #[.bool (sgn a), .int .u64 (mg a), .int .i64 (pl a), .bool false] 92)) = (w.alloc (.cells #[.bool (sgn a), .int .u64 x, .int .i64 p, .bool false] 92)) := by
  subst hx; subst hp; exact ⟨rfl, rfl⟩
theorem ropen_any (a : Nat) (w : World) (h : U a) :
    Calls Tryd.prog 64 #[.int .u64 a] w fun e w' => e = .returned (.agg #[.bool (sgn a), .int .u64 (mg a), .int .i64 (pl a), .bool false]) ∧ (w.alloc (.cells #[.bool (sgn a), .int .u64 (mg a), .int .i64 (pl a), .bool false] 92)) = w' := by
  unfold U at h
  by_cases c : ex a = 0
  · have k1 : ((a : Int) / 4503599627370496 % 2048 == 0) = true := by unfold ex at c; simp; omega
    have E1 := Lib.hid (show ((a : Int) % 4503599627370496) = (mg a : Int) from by unfold mg; rw [if_pos c]; rfl)
    have E2 := Lib.hid (show -1074 = pl a from by unfold pl; rw [if_pos c])
    clear c
    go_enter Tryd.func64, Tryd.ntmps64
    go_wp2_with (go_at_call 63; (with_reducible refine (rneg_any _ _).mono ?_); rintro e w' ⟨rfl, rfl⟩)
    exact bodyPost_ret (v := .agg #[.bool (sgn a), .int .u64 ((a : Int) % 4503599627370496), .int .i64 (-1074), .bool false]) (by simp [results, Tryd.results64, go_sem]) rfl (open_of E1.out E2.out)
  · have k1 : ((a : Int) / 4503599627370496 % 2048 == 0) = false := by unfold ex at c; simp; omega
    have E1 := Lib.hid (show ((a : Int) % 4503599627370496 + 4503599627370496) = (mg a : Int) from by unfold mg; rw [if_neg c]; unfold fr; omega)
    have E2 := Lib.hid (show (a : Int) / 4503599627370496 % 2048 - 1075 = pl a from by unfold pl; rw [if_neg c]; unfold ex; omega)
    clear c
    go_enter Tryd.func64, Tryd.ntmps64
    go_wp2_with (go_at_call 63; (with_reducible refine (rneg_any _ _).mono ?_); rintro e w' ⟨rfl, rfl⟩)
    exact bodyPost_ret (v := .agg #[.bool (sgn a), .int .u64 ((a : Int) % 4503599627370496 + 4503599627370496), .int .i64 ((a : Int) / 4503599627370496 % 2048 - 1075), .bool false]) (by simp [results, Tryd.results64, go_sem]) rfl (open_of E1.out E2.out)
theorem rround_int (neg : Bool) (x E : Int) (more : Bool) (w : World) (h0 : 0 ≤ x) (hM : x ≤ 9223372036854775807) (hE : -5000 ≤ E) (hE' : E ≤ 5000) (hm : more = true → 4503599627370496 ≤ x) :
    Calls Tryd.prog 66 #[.agg #[.bool neg, .int .u64 x, .int .i64 E, .bool more]] w fun e w' => e = .returned (.int .u64 (so_rd neg x.toNat E more)) ∧ New w w' := by
  obtain ⟨m, rfl⟩ := Int.eq_ofNat_of_zero_le h0
  rw [Int.toNat_natCast]
  exact rround_any neg m E more w (by omega) hE hE' (fun k => by have := hm k; omega)
theorem pattern_of (n : Int) (w : World) : Calls Tryd.prog 59 #[.float .f64 (floatOfInt .f64 n)] w fun e w' => e = .returned (.int .u64 (ofi n)) ∧ w = w' := by
  have e : floatOfInt .f64 n = ofi n := nearest_rnd _ _ _
  rw [e]
  have h := ofi_ok n
  have hp : pat (ofi n) = ofi n := by unfold pat; rw [if_neg h.2]
  exact (pattern_any (ofi n) w h.1).mono fun e w' ⟨h1, h2⟩ => ⟨by rw [h1, hp], h2⟩
end Go.Proofs.YtgkonjgalpchoaaDoor
