/- What the package of binary64 numbers by their bits does: sums, differences, products, quotients, roots, comparisons, whole numbers. Contracts, for all bits, in any world; behind it the tape may have been asked (what bits a result that is no number has), and no memory is changed. -/
import Derived.Test.YtgkonjgalpchoaaSoftA
import Derived.Below
import Derived.RowKit3
import Derived.Laws.Externs
import Derived.Laws.FloatArith
import Derived.Laws.NewFold
namespace Go.Proofs.Ytgkonjgalpchoaa
open Go.RowKit
set_option linter.unusedVariables false
theorem number_any (a : Nat) (w : World) : Calls Try.prog 31 #[.int .u64 a] w fun e w' => e = .returned (.float .f64 a) ∧ w = w' := by
  have h52 := @run_callFunc_extern Try.prog 35 _ Extern.MathFloatBits.float64frombits Try.func35 (by kernel_rfl) (by kernel_rfl) (by kernel_rfl) (by kernel_rfl)
  have hr : ∀ w, (Extern.MathFloatBits.float64frombits #[.int .u64 a]).run Try.prog w = .ok (.float .f64 a) w := fun _ => rfl
  go_enter Try.func31, Try.ntmps31
  go_wp2
  go_ret
  exact ⟨rfl, rfl⟩
theorem isnan_any (a : Nat) (w : World) (h : U a) : Calls Try.prog 33 #[.float .f64 a] w fun e w' => e = .returned (.bool (cls a == 4)) ∧ w = w' := by
  have H := Lib.hid (order_self a h)
  go_enter Try.func33, Try.ntmps33
  go_wp2
  go_ret
  exact ⟨ret_bool H.out, rfl⟩
theorem pattern_any (a : Nat) (w : World) (h : U a) : Calls Try.prog 30 #[.float .f64 a] w fun e w' => e = .returned (.int .u64 (pat a)) ∧ w = w' := by
  have h52 := @run_callFunc_extern Try.prog 34 _ Extern.MathFloatBits.float64bits Try.func34 (by kernel_rfl) (by kernel_rfl) (by kernel_rfl) (by kernel_rfl)
  have hr : ∀ w, (Extern.MathFloatBits.float64bits #[.float .f64 a]).run Try.prog w = .ok (.int .u64 a) w := fun _ => rfl
  by_cases c : cls a = 4
  · have E := Lib.hid (show pat a = Emp from by unfold pat; rw [if_pos c])
    have k : (cls a == 4) = true := by simpa using c
    clear c
    go_enter Try.func30, Try.ntmps30
    go_wp2_with (go_at_call 33; (with_reducible refine (isnan_any _ _ (by assumption)).mono ?_); rintro e w' ⟨rfl, rfl⟩)
    go_ret
    exact ⟨ret_int (by rw [E.out]; rfl), rfl⟩
  · have E := Lib.hid (show pat a = a from by unfold pat; rw [if_neg c])
    have k : (cls a == 4) = false := by simpa using c
    clear c
    go_enter Try.func30, Try.ntmps30
    go_wp2_with (go_at_call 33; (with_reducible refine (isnan_any _ _ (by assumption)).mono ?_); rintro e w' ⟨rfl, rfl⟩)
    go_ret
    exact ⟨ret_int (by rw [E.out]), rfl⟩
/-- a result that is no number: some bits, by the tape -/
def nbits (x y : Nat) (w : World) : Nat := (Question.nanBits .f64 x y).cut (w.tape w.drawn (.nanBits .f64 x y))
theorem nbits_ok (x y : Nat) (w : World) : U (nbits x y w) ∧ cls (nbits x y w) = 4 := nan_bits (w.tape w.drawn (.nanBits .f64 x y))
theorem run_nan (op : BinOp) (t : TypeId) (x y : Nat) (w : World) (ho : op = .add ∨ op = .sub ∨ op = .mul ∨ op = .quo) (h : floatBits op .f64 x y = none) :
    ∃ b, U b ∧ cls b = 4 ∧ (binOp op t (.float .f64 x) (.float .f64 y)).run Try.prog w = .ok (.float .f64 b) w.drew := by
  refine ⟨nbits x y w, (nbits_ok x y w).1, (nbits_ok x y w).2, ?_⟩
  unfold floatBits at h
  rcases ho with rfl | rfl | rfl | rfl
  all_goals (simp only at h; simp [binOp, Op.floatArith, h]; rfl)
theorem opv_some {r : Nat} (hc : cls r ≠ 4) : pat r = opv (some r) := by
  unfold pat opv; rw [if_neg hc]; rfl
theorem opv_none {r : Nat} (hc : cls r = 4) : pat r = opv none := by
  unfold pat opv; rw [if_pos hc]; rfl
theorem so_add_any (a b : Nat) (w : World) : Calls Try.prog 23 #[.int .u64 a, .int .u64 b] w fun e w' => e = .returned (.int .u64 (opv (Ieee.double.add a b))) ∧ New w w' := by
  cases ho : Ieee.double.add a b with
  | some r =>
    have hop : ∀ t w, (binOp .add t (.float .f64 a) (.float .f64 b)).run Try.prog w = .ok (.float .f64 r) w := fun t w => run_float_arith w .add t .f64 a b r ho
    have hu : U r := u_of_lt (Ieee.Format.add_lt _ ho)
    have E := Lib.hid (opv_some (add_ok ho))
    clear ho
    go_enter Try.func23, Try.ntmps23
    go_wp2_with (first | (go_at_call 31; (with_reducible refine (number_any _ _).mono ?_); rintro e w' ⟨rfl, rfl⟩) | (go_at_call 30; (with_reducible refine (pattern_any _ _ (by assumption)).mono ?_); rintro e w' ⟨rfl, rfl⟩))
    go_ret
    exact ⟨ret_int (by rw [E.out]), New.refl _⟩
  | none =>
    obtain ⟨r, hu, hc, hop⟩ := run_nan .add 55 a b w (by simp) ho
    have E := Lib.hid (opv_none hc)
    clear ho hc
    go_enter Try.func23, Try.ntmps23
    go_wp2_with (first | (go_at_call 31; (with_reducible refine (number_any _ _).mono ?_); rintro e w' ⟨rfl, rfl⟩) | (go_at_call 30; (with_reducible refine (pattern_any _ _ (by assumption)).mono ?_); rintro e w' ⟨rfl, rfl⟩))
    go_ret
    exact ⟨ret_int (by rw [E.out]), (New.refl _).drew⟩
theorem so_sub_any (a b : Nat) (w : World) : Calls Try.prog 24 #[.int .u64 a, .int .u64 b] w fun e w' => e = .returned (.int .u64 (opv (Ieee.double.sub a b))) ∧ New w w' := by
  cases ho : Ieee.double.sub a b with
  | some r =>
    have hop : ∀ t w, (binOp .sub t (.float .f64 a) (.float .f64 b)).run Try.prog w = .ok (.float .f64 r) w := fun t w => run_float_arith w .sub t .f64 a b r ho
    have hu : U r := u_of_lt (Ieee.Format.sub_lt _ ho)
    have E := Lib.hid (opv_some (sub_ok ho))
    clear ho
    go_enter Try.func24, Try.ntmps24
    go_wp2_with (first | (go_at_call 31; (with_reducible refine (number_any _ _).mono ?_); rintro e w' ⟨rfl, rfl⟩) | (go_at_call 30; (with_reducible refine (pattern_any _ _ (by assumption)).mono ?_); rintro e w' ⟨rfl, rfl⟩))
    go_ret
    exact ⟨ret_int (by rw [E.out]), New.refl _⟩
  | none =>
    obtain ⟨r, hu, hc, hop⟩ := run_nan .sub 55 a b w (by simp) ho
    have E := Lib.hid (opv_none hc)
    clear ho hc
    go_enter Try.func24, Try.ntmps24
    go_wp2_with (first | (go_at_call 31; (with_reducible refine (number_any _ _).mono ?_); rintro e w' ⟨rfl, rfl⟩) | (go_at_call 30; (with_reducible refine (pattern_any _ _ (by assumption)).mono ?_); rintro e w' ⟨rfl, rfl⟩))
    go_ret
    exact ⟨ret_int (by rw [E.out]), (New.refl _).drew⟩
theorem so_mul_any (a b : Nat) (w : World) : Calls Try.prog 25 #[.int .u64 a, .int .u64 b] w fun e w' => e = .returned (.int .u64 (opv (Ieee.double.mul a b))) ∧ New w w' := by
  cases ho : Ieee.double.mul a b with
  | some r =>
    have hop : ∀ t w, (binOp .mul t (.float .f64 a) (.float .f64 b)).run Try.prog w = .ok (.float .f64 r) w := fun t w => run_float_arith w .mul t .f64 a b r ho
    have hu : U r := u_of_lt (Ieee.Format.mul_lt _ ho)
    have E := Lib.hid (opv_some (mul_ok ho))
    clear ho
    go_enter Try.func25, Try.ntmps25
    go_wp2_with (first | (go_at_call 31; (with_reducible refine (number_any _ _).mono ?_); rintro e w' ⟨rfl, rfl⟩) | (go_at_call 30; (with_reducible refine (pattern_any _ _ (by assumption)).mono ?_); rintro e w' ⟨rfl, rfl⟩))
    go_ret
    exact ⟨ret_int (by rw [E.out]), New.refl _⟩
  | none =>
    obtain ⟨r, hu, hc, hop⟩ := run_nan .mul 55 a b w (by simp) ho
    have E := Lib.hid (opv_none hc)
    clear ho hc
    go_enter Try.func25, Try.ntmps25
    go_wp2_with (first | (go_at_call 31; (with_reducible refine (number_any _ _).mono ?_); rintro e w' ⟨rfl, rfl⟩) | (go_at_call 30; (with_reducible refine (pattern_any _ _ (by assumption)).mono ?_); rintro e w' ⟨rfl, rfl⟩))
    go_ret
    exact ⟨ret_int (by rw [E.out]), (New.refl _).drew⟩
theorem div_any (a b : Nat) (w : World) : Calls Try.prog 26 #[.int .u64 a, .int .u64 b] w fun e w' => e = .returned (.int .u64 (opv (Ieee.double.div a b))) ∧ New w w' := by
  cases ho : Ieee.double.div a b with
  | some r =>
    have hop : ∀ t w, (binOp .quo t (.float .f64 a) (.float .f64 b)).run Try.prog w = .ok (.float .f64 r) w := fun t w => run_float_arith w .quo t .f64 a b r ho
    have hu : U r := u_of_lt (Ieee.Format.div_lt _ ho)
    have E := Lib.hid (opv_some (div_ok ho))
    clear ho
    go_enter Try.func26, Try.ntmps26
    go_wp2_with (first | (go_at_call 31; (with_reducible refine (number_any _ _).mono ?_); rintro e w' ⟨rfl, rfl⟩) | (go_at_call 30; (with_reducible refine (pattern_any _ _ (by assumption)).mono ?_); rintro e w' ⟨rfl, rfl⟩))
    go_ret
    exact ⟨ret_int (by rw [E.out]), New.refl _⟩
  | none =>
    obtain ⟨r, hu, hc, hop⟩ := run_nan .quo 55 a b w (by simp) ho
    have E := Lib.hid (opv_none hc)
    clear ho hc
    go_enter Try.func26, Try.ntmps26
    go_wp2_with (first | (go_at_call 31; (with_reducible refine (number_any _ _).mono ?_); rintro e w' ⟨rfl, rfl⟩) | (go_at_call 30; (with_reducible refine (pattern_any _ _ (by assumption)).mono ?_); rintro e w' ⟨rfl, rfl⟩))
    go_ret
    exact ⟨ret_int (by rw [E.out]), (New.refl _).drew⟩
theorem sqrt_eq (a : Nat) : Extern.MathSqrt.sqrt #[.float .f64 a] = (match Ieee.double.sqrt a with | some r => pure (.float .f64 r) | none => do pure (.float .f64 (← choose (.nanBits .f64 a a)))) := rfl
theorem run_sqrt_some (a r : Nat) (w : World) (h : Ieee.double.sqrt a = some r) : (Extern.MathSqrt.sqrt #[.float .f64 a]).run Try.prog w = .ok (.float .f64 r) w := by
  rw [sqrt_eq, h]; rfl
theorem run_sqrt_none (a : Nat) (w : World) (h : Ieee.double.sqrt a = none) : (Extern.MathSqrt.sqrt #[.float .f64 a]).run Try.prog w = .ok (.float .f64 (nbits a a w)) w.drew := by
  rw [sqrt_eq, h]; rfl
theorem sqrt_any (a : Nat) (w : World) : Calls Try.prog 27 #[.int .u64 a] w fun e w' => e = .returned (.int .u64 (opv (Ieee.double.sqrt a))) ∧ New w w' := by
  have h53 := @run_callFunc_extern Try.prog 36 _ Extern.MathSqrt.sqrt Try.func36 (by kernel_rfl) (by kernel_rfl) (by kernel_rfl) (by kernel_rfl)
  have so_low : ∀ r, (∀ w, (Extern.MathSqrt.sqrt #[.float .f64 a]).run Try.prog w = .ok (.float .f64 r) w) → ∀ w, Calls Try.prog 32 #[.float .f64 a] w fun e w' => e = .returned (.float .f64 r) ∧ w = w' := by
    intro r hr w
    go_enter Try.func32, Try.ntmps32
    go_wp2
    go_ret
    exact ⟨rfl, rfl⟩
  cases ho : Ieee.double.sqrt a with
  | some r =>
    have L := Lib.hid (so_low r (fun w => run_sqrt_some a r w ho))
    have hu : U r := u_of_lt (Ieee.Format.sqrt_lt _ ho)
    have E := Lib.hid (opv_some (sqrt_ok ho))
    clear ho h53 so_low
    go_enter Try.func27, Try.ntmps27
    go_wp2_with (first | (go_at_call 31; (with_reducible refine (number_any _ _).mono ?_); rintro e w' ⟨rfl, rfl⟩) | (go_at_call 30; (with_reducible refine (pattern_any _ _ (by assumption)).mono ?_); rintro e w' ⟨rfl, rfl⟩) | (go_at_call 32; (with_reducible refine (L.out _).mono ?_); rintro e w' ⟨rfl, rfl⟩))
    go_ret
    exact ⟨ret_int (by rw [E.out]), New.refl _⟩
  | none =>
    have hr := run_sqrt_none a w ho
    have hu := (nbits_ok a a w).1
    have E := Lib.hid (opv_none (nbits_ok a a w).2)
    have L : Calls Try.prog 32 #[.float .f64 a] w fun e w' => e = .returned (.float .f64 (nbits a a w)) ∧ w.drew = w' := by
      clear ho E so_low hu
      go_enter Try.func32, Try.ntmps32
      go_wp2
      go_ret
      exact ⟨rfl, rfl⟩
    have L' := Lib.hid L
    clear ho h53 so_low hr L
    go_enter Try.func27, Try.ntmps27
    go_wp2_with (first | (go_at_call 31; (with_reducible refine (number_any _ _).mono ?_); rintro e w' ⟨rfl, rfl⟩) | (go_at_call 30; (with_reducible refine (pattern_any _ _ (by assumption)).mono ?_); rintro e w' ⟨rfl, rfl⟩) | (go_at_call 32; (with_reducible refine (L'.out).mono ?_); rintro e w' ⟨rfl, rfl⟩))
    go_ret
    exact ⟨ret_int (by rw [E.out]), (New.refl _).drew⟩
theorem cmp_any (a b : Nat) (w : World) (h : U a) (h' : U b) : Calls Try.prog 28 #[.int .u64 a, .int .u64 b] w fun e w' => e = .returned (.int .i64 (cmpv a b)) ∧ w = w' := by
  cases hn : nn a b with
  | true =>
    have E := Lib.hid (order_none a b h h' hn).1
    have k := (order_none a b h h' hn).2
    have k1 : (FloatKind.f64.format.order a b == some .lt) = false := by rw [show FloatKind.f64.format.order a b = none from k]; rfl
    have k2 : (FloatKind.f64.format.order a b == some .gt) = false := by rw [show FloatKind.f64.format.order a b = none from k]; rfl
    have k3 : (FloatKind.f64.format.order a b == some .eq) = false := by rw [show FloatKind.f64.format.order a b = none from k]; rfl
    clear k hn
    go_enter Try.func28, Try.ntmps28
    go_wp2_with (go_at_call 31; (with_reducible refine (number_any _ _).mono ?_); rintro e w' ⟨rfl, rfl⟩)
    go_ret
    exact ⟨ret_int (by rw [E.out]), rfl⟩
  | false =>
    rcases order_three a b h h' hn with ⟨E, k⟩ | ⟨E, k⟩ | ⟨E, k⟩
    · have E' := Lib.hid E
      have k1 : (FloatKind.f64.format.order a b == some .lt) = true := by rw [show FloatKind.f64.format.order a b = some .lt from k]; rfl
      have k2 : (FloatKind.f64.format.order a b == some .gt) = false := by rw [show FloatKind.f64.format.order a b = some .lt from k]; rfl
      have k3 : (FloatKind.f64.format.order a b == some .eq) = false := by rw [show FloatKind.f64.format.order a b = some .lt from k]; rfl
      clear k hn E
      go_enter Try.func28, Try.ntmps28
      go_wp2_with (go_at_call 31; (with_reducible refine (number_any _ _).mono ?_); rintro e w' ⟨rfl, rfl⟩)
      go_ret
      exact ⟨ret_int (by rw [E'.out]), rfl⟩
    · have E' := Lib.hid E
      have k1 : (FloatKind.f64.format.order a b == some .lt) = false := by rw [show FloatKind.f64.format.order a b = some .gt from k]; rfl
      have k2 : (FloatKind.f64.format.order a b == some .gt) = true := by rw [show FloatKind.f64.format.order a b = some .gt from k]; rfl
      have k3 : (FloatKind.f64.format.order a b == some .eq) = false := by rw [show FloatKind.f64.format.order a b = some .gt from k]; rfl
      clear k hn E
      go_enter Try.func28, Try.ntmps28
      go_wp2_with (go_at_call 31; (with_reducible refine (number_any _ _).mono ?_); rintro e w' ⟨rfl, rfl⟩)
      go_ret
      exact ⟨ret_int (by rw [E'.out]), rfl⟩
    · have E' := Lib.hid E
      have k1 : (FloatKind.f64.format.order a b == some .lt) = false := by rw [show FloatKind.f64.format.order a b = some .eq from k]; rfl
      have k2 : (FloatKind.f64.format.order a b == some .gt) = false := by rw [show FloatKind.f64.format.order a b = some .eq from k]; rfl
      have k3 : (FloatKind.f64.format.order a b == some .eq) = true := by rw [show FloatKind.f64.format.order a b = some .eq from k]; rfl
      clear k hn E
      go_enter Try.func28, Try.ntmps28
      go_wp2_with (go_at_call 31; (with_reducible refine (number_any _ _).mono ?_); rintro e w' ⟨rfl, rfl⟩)
      go_ret
      exact ⟨ret_int (by rw [E'.out]), rfl⟩
end Go.Proofs.Ytgkonjgalpchoaa
