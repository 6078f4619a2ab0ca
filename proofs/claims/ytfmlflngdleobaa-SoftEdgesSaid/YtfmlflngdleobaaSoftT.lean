/- What the document's own answers on binary64 numbers do with the parts of a number, and whole numbers to and fro; contracts, in any world, behind which there are new blocks. -/
import Derived.Test.YtfmlflngdleobaaSoftS
namespace Go.Proofs.Ytfmlflngdleobaa
open Go.RowKit
set_option linter.unusedVariables false
/-- a number as the document's answers have it -/
def numv (neg : Bool) (m : Nat) (p : Int) (more : Bool) : Value := .agg #[.bool neg, .int .u64 m, .int .i64 p, .bool more]
theorem open_of {a : Nat} {w : World} {x p : Int} (hx : x = (mg a : Int)) (hp : p = pl a) :
    Ending.returned (.agg #[.bool (sgn a), .int .u64 x, .int .i64 p, .bool false]) = .returned (.agg #[.bool (sgn a), .int .u64 (mg a), .int .i64 (pl a), .bool false]) ∧
    (w.alloc (.cells #[.bool (sgn a), .int .u64 (mg a), .int .i64 (pl a), .bool false] 43)) = (w.alloc (.cells #[.bool (sgn a), .int .u64 x, .int .i64 p, .bool false] 43)) := by
  subst hx; subst hp; exact ⟨rfl, rfl⟩
theorem ropen_any (a : Nat) (w : World) (h : U a) :
    Calls Try.prog 40 #[.int .u64 a] w fun e w' => e = .returned (.agg #[.bool (sgn a), .int .u64 (mg a), .int .i64 (pl a), .bool false]) ∧ (w.alloc (.cells #[.bool (sgn a), .int .u64 (mg a), .int .i64 (pl a), .bool false] 43)) = w' := by
  unfold U at h
  by_cases c : ex a = 0
  · have k1 : ((a : Int) / 4503599627370496 % 2048 == 0) = true := by unfold ex at c; simp; omega
    have E1 := Lib.hid (show ((a : Int) % 4503599627370496) = (mg a : Int) from by unfold mg; rw [if_pos c]; rfl)
    have E2 := Lib.hid (show -1074 = pl a from by unfold pl; rw [if_pos c])
    clear c
    go_enter Try.func40, Try.ntmps40
    go_wp2_with (go_at_call 39; (with_reducible refine (rneg_any _ _).mono ?_); rintro e w' ⟨rfl, rfl⟩)
    exact bodyPost_ret (v := .agg #[.bool (sgn a), .int .u64 ((a : Int) % 4503599627370496), .int .i64 (-1074), .bool false]) (by simp [results, Try.results40, go_sem]) rfl (open_of E1.out E2.out)
  · have k1 : ((a : Int) / 4503599627370496 % 2048 == 0) = false := by unfold ex at c; simp; omega
    have E1 := Lib.hid (show ((a : Int) % 4503599627370496 + 4503599627370496) = (mg a : Int) from by unfold mg; rw [if_neg c]; unfold fr; omega)
    have E2 := Lib.hid (show (a : Int) / 4503599627370496 % 2048 - 1075 = pl a from by unfold pl; rw [if_neg c]; unfold ex; omega)
    clear c
    go_enter Try.func40, Try.ntmps40
    go_wp2_with (go_at_call 39; (with_reducible refine (rneg_any _ _).mono ?_); rintro e w' ⟨rfl, rfl⟩)
    exact bodyPost_ret (v := .agg #[.bool (sgn a), .int .u64 ((a : Int) % 4503599627370496 + 4503599627370496), .int .i64 ((a : Int) / 4503599627370496 % 2048 - 1075), .bool false]) (by simp [results, Try.results40, go_sem]) rfl (open_of E1.out E2.out)
theorem rround_int (neg : Bool) (x E : Int) (more : Bool) (w : World) (h0 : 0 ≤ x) (hM : x ≤ 9223372036854775807) (hE : -5000 ≤ E) (hE' : E ≤ 5000) (hm : more = true → 4503599627370496 ≤ x) :
    Calls Try.prog 42 #[.agg #[.bool neg, .int .u64 x, .int .i64 E, .bool more]] w fun e w' => e = .returned (.int .u64 (rd neg x.toNat E more)) ∧ New w w' := by
  obtain ⟨m, rfl⟩ := Int.eq_ofNat_of_zero_le h0
  rw [Int.toNat_natCast]
  exact rround_any neg m E more w (by omega) hE hE' (fun k => by have := hm k; omega)
theorem rfromint_any (v : Nat) (w : World) (h : v ≤ 4294967295) : Calls Try.prog 31 #[.int .u32 v] w fun e w' => e = .returned (.int .u64 (ofi (sg32 v))) ∧ New w w' := by
  by_cases c : 2147483648 ≤ v
  · have k : (2147483648 : Int) ≤ (v : Int) := by omega
    have E := Lib.hid (ofi_neg v c h)
    go_enter Try.func31, Try.ntmps31
    go_wp2_with (go_at_call 42; (with_reducible refine (rround_int _ _ _ _ _ (by omega) (by omega) (by omega) (by omega) (by simp)).mono ?_); rintro e w' ⟨rfl, hg⟩)
    go_ret
    exact ⟨ret_int (by rw [← E.out]), by assumption⟩
  · have k : decide ((2147483648 : Int) ≤ (v : Int)) = false := by simp; omega
    have E := Lib.hid (ofi_pos v (by omega))
    clear c
    go_enter Try.func31, Try.ntmps31
    go_wp2_with (go_at_call 42; (with_reducible refine (rround_int _ _ _ _ _ (by omega) (by omega) (by omega) (by omega) (by simp)).mono ?_); rintro e w' ⟨rfl, hg⟩)
    go_ret
    exact ⟨ret_int (by rw [← E.out]), by assumption⟩
theorem pattern_of (n : Int) (w : World) : Calls Try.prog 36 #[.float .f64 (floatOfInt .f64 n)] w fun e w' => e = .returned (.int .u64 (ofi n)) ∧ w = w' := by
  have e : floatOfInt .f64 n = ofi n := nearest_rnd _ _ _
  rw [e]
  have h := ofi_ok n
  have hp : pat (ofi n) = ofi n := by unfold pat; rw [if_neg h.2]
  exact (pattern_any (ofi n) w h.1).mono fun e w' ⟨h1, h2⟩ => ⟨by rw [h1, hp], h2⟩
theorem fromint_any (v : Nat) (w : World) (h : v ≤ 4294967295) : Calls Try.prog 30 #[.int .u32 v] w fun e w' => e = .returned (.int .u64 (ofi (sg32 v))) ∧ w = w' := by
  have E := Lib.hid (show wrap32 (v : Int) = sg32 v from by unfold sg32 wrap32; split <;> omega)
  by_cases c : v < 2147483648
  · have E' := Lib.hid (show (v : Int) = sg32 v from by unfold sg32; rw [if_pos c])
    go_enter Try.func30, Try.ntmps30
    go_wp2_with (go_at_call 36; (with_reducible refine (pattern_of _ _).mono ?_); rintro e w' ⟨rfl, rfl⟩)
    go_ret
    exact ⟨ret_int (by first | rw [E.out] | rw [← E'.out]), rfl⟩
  · go_enter Try.func30, Try.ntmps30
    go_wp2_with (go_at_call 36; (with_reducible refine (pattern_of _ _).mono ?_); rintro e w' ⟨rfl, rfl⟩)
    go_ret
    exact ⟨ret_int (by rw [E.out]), rfl⟩
theorem toint_any (a : Nat) (w : World) (h : U a) : Calls Try.prog 32 #[.int .u64 a] w fun e w' => e = .returned (.int .u32 (toi a)) ∧ w = w' := by
  by_cases h4 : cls a = 4
  · have E := Lib.hid (show toi a = 0 from by unfold toi; rw [if_pos h4])
    have k : (cls a == 4) = true := by simpa using h4
    clear h4
    go_enter Try.func32, Try.ntmps32
    go_wp2_with (first | (go_at_call 37; (with_reducible refine (number_any _ _).mono ?_); rintro e w' ⟨rfl, rfl⟩) | (go_at_call 49; (with_reducible refine (isnan_any _ _ (by assumption)).mono ?_); rintro e w' ⟨rfl, rfl⟩))
    go_ret
    exact ⟨ret_int (by rw [E.out]; rfl), rfl⟩
  · have k : (cls a == 4) = false := by simpa using h4
    obtain ⟨o1, o2, r1, r2, p1, p2⟩ := bounds a h h4
    by_cases c1 : sgn a = false ∧ (cls a = 3 ∨ 2147483647 ≤ tq (mg a) (pl a))
    · have E := Lib.hid (toi_hi a h4 c1)
      have ho : o1 ≠ .lt := fun e => (p1.1 e) c1
      have k1 : (FloatKind.f64.format.order a 4746794007244308480 == some .gt || FloatKind.f64.format.order a 4746794007244308480 == some .eq) = true := by
        rw [show FloatKind.f64.format.order a 4746794007244308480 = some o1 from r1]; cases o1 <;> first | rfl | exact absurd rfl ho
      clear r1 r2 p1 p2 c1 h4 ho
      go_enter Try.func32, Try.ntmps32
      go_wp2_with (first | (go_at_call 37; (with_reducible refine (number_any _ _).mono ?_); rintro e w' ⟨rfl, rfl⟩) | (go_at_call 49; (with_reducible refine (isnan_any _ _ (by assumption)).mono ?_); rintro e w' ⟨rfl, rfl⟩))
      go_ret
      exact ⟨ret_int (by rw [E.out]; rfl), rfl⟩
    · have e1 : o1 = .lt := p1.2 c1
      subst e1
      have k1 : (FloatKind.f64.format.order a 4746794007244308480 == some .gt) = false := by rw [show FloatKind.f64.format.order a 4746794007244308480 = some .lt from r1]; rfl
      have k1' : (FloatKind.f64.format.order a 4746794007244308480 == some .eq) = false := by rw [show FloatKind.f64.format.order a 4746794007244308480 = some .lt from r1]; rfl
      by_cases c2 : sgn a = true ∧ (cls a = 3 ∨ 2147483648 ≤ tq (mg a) (pl a))
      · have E := Lib.hid (toi_lo a h4 c2)
        have ho : o2 ≠ .gt := fun e => (p2.1 e) c2
        have k2 : (FloatKind.f64.format.order a 13970166044103278592 == some .lt || FloatKind.f64.format.order a 13970166044103278592 == some .eq) = true := by
          rw [show FloatKind.f64.format.order a 13970166044103278592 = some o2 from r2]; cases o2 <;> first | rfl | exact absurd rfl ho
        clear r1 r2 p1 p2 c1 c2 h4 ho
        go_enter Try.func32, Try.ntmps32
        go_wp2_with (first | (go_at_call 37; (with_reducible refine (number_any _ _).mono ?_); rintro e w' ⟨rfl, rfl⟩) | (go_at_call 49; (with_reducible refine (isnan_any _ _ (by assumption)).mono ?_); rintro e w' ⟨rfl, rfl⟩))
        go_ret
        exact ⟨ret_int (by rw [E.out]; rfl), rfl⟩
      · have e2 : o2 = .gt := p2.2 c2
        subst e2
        have k2 : (FloatKind.f64.format.order a 13970166044103278592 == some .lt) = false := by rw [show FloatKind.f64.format.order a 13970166044103278592 = some .gt from r2]; rfl
        have k2' : (FloatKind.f64.format.order a 13970166044103278592 == some .eq) = false := by rw [show FloatKind.f64.format.order a 13970166044103278592 = some .gt from r2]; rfl
        obtain ⟨hf, b1, b2, b3⟩ := toi_mid a h4 c1 c2
        have hv : floatToIntVal .f64 a .i32 = some (stq a) := by
          unfold floatToIntVal
          rw [show (FloatKind.f64.decode a).toInt .zero = some (stq a) from toInt_fin a h hf]
          show (if IntKind.i32.min ≤ stq a ∧ stq a ≤ IntKind.i32.max then some (stq a) else none) = _
          rw [if_pos ⟨b1, b2⟩]
        have hc : ∀ w, (convert 39 21 (.float .f64 a)).run Try.prog w = .ok (.int .i32 (stq a)) w := fun w => run_convert_float_int w 39 21 .f64 .i32 a (stq a) (by rw [Try.underlying39]; rfl) Try.underlying21 hv
        have B := Lib.hid b3
        clear r1 r2 p1 p2 c1 c2 h4 hv b3 hf
        go_enter Try.func32, Try.ntmps32
        go_wp2_with (first | (go_at_call 37; (with_reducible refine (number_any _ _).mono ?_); rintro e w' ⟨rfl, rfl⟩) | (go_at_call 49; (with_reducible refine (isnan_any _ _ (by assumption)).mono ?_); rintro e w' ⟨rfl, rfl⟩))
        go_ret
        exact ⟨ret_int (by rw [B.out]; split <;> omega), rfl⟩
end Go.Proofs.Ytfmlflngdleobaa
