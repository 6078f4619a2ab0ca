/- What the package of binary64 numbers by their bits does: sums, differences, products, quotients, roots, comparisons, whole numbers. Contracts, for all bits, in any world; behind it the tape may have been asked (what bits a result that is no number has), and no memory is changed. -/
import Derived.Test.YtfmlflngdleobaaSoftA
import Derived.Below
import Derived.RowKit3
import Derived.Laws.Externs
import Derived.Laws.FloatArith
import Derived.Laws.NewFold
namespace Go.Proofs.Ytfmlflngdleobaa
open Go.RowKit
set_option linter.unusedVariables false
/-- only new blocks -/
def New (w w' : World) : Prop := Below w.heap.size w w' ∧ Grown w w'
theorem New.refl (w : World) : New w w := ⟨Below.refl _ _, Grown.refl _⟩
theorem new_grown_trans {a b c : World} (h : Grown a b) (k : Grown b c) : Grown a c :=
  ⟨World.keptBut_trans h.1 k.1, fun x => (k.2.1 x).trans (h.2.1 x), Nat.le_trans h.2.2 k.2.2⟩
theorem New.trans {a b c : World} (h : New a b) (k : New b c) : New a c := ⟨h.1.trans (k.1.mono h.1.size), new_grown_trans h.2 k.2⟩
theorem New.drewN {a b : World} (h : New a b) (n : Nat) : New a (b.drewN n) := ⟨h.1.trans ⟨rfl, rfl, rfl, Nat.le_refl _, fun _ _ => rfl⟩, h.2⟩
theorem New.drew {a b : World} (h : New a b) : New a b.drew := h.drewN 1
theorem New.alloc {a b : World} (h : New a b) (cs : Array Value) (t : TypeId) : New a (b.alloc (.cells cs t)) := ⟨h.1.alloc h.1.size _, h.2.alloc _ _⟩
theorem New.setCell {a b : World} (h : New a b) {p : Addr} (hp : a.heap.size ≤ p.block) (v : Value) : New a (b.setCell p v) := ⟨h.1.setCell hp _, h.2.setCell hp _⟩
theorem number_any (a : Nat) (w : World) : Calls Try.prog 37 #[.int .u64 a] w fun e w' => e = .returned (.float .f64 a) ∧ w = w' := by
  have h52 := @run_callFunc_extern Try.prog 52 _ Extern.MathFloatBits.float64frombits Try.func52 (by kernel_rfl) (by kernel_rfl) (by kernel_rfl) (by kernel_rfl)
  have hr : ∀ w, (Extern.MathFloatBits.float64frombits #[.int .u64 a]).run Try.prog w = .ok (.float .f64 a) w := fun _ => rfl
  go_enter Try.func37, Try.ntmps37
  go_wp2
  go_ret
  exact ⟨rfl, rfl⟩
theorem isnan_any (a : Nat) (w : World) (h : U a) : Calls Try.prog 49 #[.float .f64 a] w fun e w' => e = .returned (.bool (cls a == 4)) ∧ w = w' := by
  have H := Lib.hid (order_self a h)
  go_enter Try.func49, Try.ntmps49
  go_wp2
  go_ret
  exact ⟨ret_bool H.out, rfl⟩
theorem pattern_any (a : Nat) (w : World) (h : U a) : Calls Try.prog 36 #[.float .f64 a] w fun e w' => e = .returned (.int .u64 (pat a)) ∧ w = w' := by
  have h52 := @run_callFunc_extern Try.prog 51 _ Extern.MathFloatBits.float64bits Try.func51 (by kernel_rfl) (by kernel_rfl) (by kernel_rfl) (by kernel_rfl)
  have hr : ∀ w, (Extern.MathFloatBits.float64bits #[.float .f64 a]).run Try.prog w = .ok (.int .u64 a) w := fun _ => rfl
  by_cases c : cls a = 4
  · have E := Lib.hid (show pat a = Emp from by unfold pat; rw [if_pos c])
    have k : (cls a == 4) = true := by simpa using c
    clear c
    go_enter Try.func36, Try.ntmps36
    go_wp2_with (go_at_call 49; (with_reducible refine (isnan_any _ _ (by assumption)).mono ?_); rintro e w' ⟨rfl, rfl⟩)
    go_ret
    exact ⟨ret_int (by rw [E.out]; rfl), rfl⟩
  · have E := Lib.hid (show pat a = a from by unfold pat; rw [if_neg c])
    have k : (cls a == 4) = false := by simpa using c
    clear c
    go_enter Try.func36, Try.ntmps36
    go_wp2_with (go_at_call 49; (with_reducible refine (isnan_any _ _ (by assumption)).mono ?_); rintro e w' ⟨rfl, rfl⟩)
    go_ret
    exact ⟨ret_int (by rw [E.out]), rfl⟩
/-- a result that is no number: some bits, by the tape -/
def nbits (x y : Nat) (w : World) : Nat := (Question.nanBits .f64 x y).cut (w.tape w.drawn (.nanBits .f64 x y))
theorem nbits_ok (x y : Nat) (w : World) : U (nbits x y w) ∧ cls (nbits x y w) = 4 := nan_bits (w.tape w.drawn (.nanBits .f64 x y))
theorem run_nan (op : BinOp) (t : TypeId) (x y : Nat) (w : World) (ho : op = .add ∨ op = .sub ∨ op = .mul ∨ op = .quo) (h : floatBits op .f64 x y = none) :
    ∃ b, U b ∧ cls b = 4 ∧ (binOp op t (.float .f64 x) (.float .f64 y)).run Try.prog w = .ok (.float .f64 b) w.drew := by
  refine ⟨nbits x y w, (nbits_ok x y w).1, (nbits_ok x y w).2, ?_⟩
  unfold floatBits at h
  rcases ho with rfl | rfl | rfl | rfl
  all_goals (simp only at h; simp [binOp, Op.floatArith, h]; rfl)
theorem opv_some {r : Nat} (hc : cls r ≠ 4) : pat r = opv (some r) := by
  unfold pat opv; rw [if_neg hc]; rfl
theorem opv_none {r : Nat} (hc : cls r = 4) : pat r = opv none := by
  unfold pat opv; rw [if_pos hc]; rfl
theorem add_any (a b : Nat) (w : World) : Calls Try.prog 9 #[.int .u64 a, .int .u64 b] w fun e w' => e = .returned (.int .u64 (opv (Ieee.double.add a b))) ∧ New w w' := by
  cases ho : Ieee.double.add a b with
  | some r =>
    have hop : ∀ t w, (binOp .add t (.float .f64 a) (.float .f64 b)).run Try.prog w = .ok (.float .f64 r) w := fun t w => run_float_arith w .add t .f64 a b r ho
    have hu : U r := u_of_lt (Ieee.Format.add_lt _ ho)
    have E := Lib.hid (opv_some (add_ok ho))
    clear ho
    go_enter Try.func9, Try.ntmps9
    go_wp2_with (first | (go_at_call 37; (with_reducible refine (number_any _ _).mono ?_); rintro e w' ⟨rfl, rfl⟩) | (go_at_call 36; (with_reducible refine (pattern_any _ _ (by assumption)).mono ?_); rintro e w' ⟨rfl, rfl⟩))
    go_ret
    exact ⟨ret_int (by rw [E.out]), New.refl _⟩
  | none =>
    obtain ⟨r, hu, hc, hop⟩ := run_nan .add 39 a b w (by simp) ho
    have E := Lib.hid (opv_none hc)
    clear ho hc
    go_enter Try.func9, Try.ntmps9
    go_wp2_with (first | (go_at_call 37; (with_reducible refine (number_any _ _).mono ?_); rintro e w' ⟨rfl, rfl⟩) | (go_at_call 36; (with_reducible refine (pattern_any _ _ (by assumption)).mono ?_); rintro e w' ⟨rfl, rfl⟩))
    go_ret
    exact ⟨ret_int (by rw [E.out]), (New.refl _).drew⟩
theorem sub_any (a b : Nat) (w : World) : Calls Try.prog 11 #[.int .u64 a, .int .u64 b] w fun e w' => e = .returned (.int .u64 (opv (Ieee.double.sub a b))) ∧ New w w' := by
  cases ho : Ieee.double.sub a b with
  | some r =>
    have hop : ∀ t w, (binOp .sub t (.float .f64 a) (.float .f64 b)).run Try.prog w = .ok (.float .f64 r) w := fun t w => run_float_arith w .sub t .f64 a b r ho
    have hu : U r := u_of_lt (Ieee.Format.sub_lt _ ho)
    have E := Lib.hid (opv_some (sub_ok ho))
    clear ho
    go_enter Try.func11, Try.ntmps11
    go_wp2_with (first | (go_at_call 37; (with_reducible refine (number_any _ _).mono ?_); rintro e w' ⟨rfl, rfl⟩) | (go_at_call 36; (with_reducible refine (pattern_any _ _ (by assumption)).mono ?_); rintro e w' ⟨rfl, rfl⟩))
    go_ret
    exact ⟨ret_int (by rw [E.out]), New.refl _⟩
  | none =>
    obtain ⟨r, hu, hc, hop⟩ := run_nan .sub 39 a b w (by simp) ho
    have E := Lib.hid (opv_none hc)
    clear ho hc
    go_enter Try.func11, Try.ntmps11
    go_wp2_with (first | (go_at_call 37; (with_reducible refine (number_any _ _).mono ?_); rintro e w' ⟨rfl, rfl⟩) | (go_at_call 36; (with_reducible refine (pattern_any _ _ (by assumption)).mono ?_); rintro e w' ⟨rfl, rfl⟩))
    go_ret
    exact ⟨ret_int (by rw [E.out]), (New.refl _).drew⟩
theorem mul_any (a b : Nat) (w : World) : Calls Try.prog 16 #[.int .u64 a, .int .u64 b] w fun e w' => e = .returned (.int .u64 (opv (Ieee.double.mul a b))) ∧ New w w' := by
  cases ho : Ieee.double.mul a b with
  | some r =>
    have hop : ∀ t w, (binOp .mul t (.float .f64 a) (.float .f64 b)).run Try.prog w = .ok (.float .f64 r) w := fun t w => run_float_arith w .mul t .f64 a b r ho
    have hu : U r := u_of_lt (Ieee.Format.mul_lt _ ho)
    have E := Lib.hid (opv_some (mul_ok ho))
    clear ho
    go_enter Try.func16, Try.ntmps16
    go_wp2_with (first | (go_at_call 37; (with_reducible refine (number_any _ _).mono ?_); rintro e w' ⟨rfl, rfl⟩) | (go_at_call 36; (with_reducible refine (pattern_any _ _ (by assumption)).mono ?_); rintro e w' ⟨rfl, rfl⟩))
    go_ret
    exact ⟨ret_int (by rw [E.out]), New.refl _⟩
  | none =>
    obtain ⟨r, hu, hc, hop⟩ := run_nan .mul 39 a b w (by simp) ho
    have E := Lib.hid (opv_none hc)
    clear ho hc
    go_enter Try.func16, Try.ntmps16
    go_wp2_with (first | (go_at_call 37; (with_reducible refine (number_any _ _).mono ?_); rintro e w' ⟨rfl, rfl⟩) | (go_at_call 36; (with_reducible refine (pattern_any _ _ (by assumption)).mono ?_); rintro e w' ⟨rfl, rfl⟩))
    go_ret
    exact ⟨ret_int (by rw [E.out]), (New.refl _).drew⟩
theorem div_any (a b : Nat) (w : World) : Calls Try.prog 18 #[.int .u64 a, .int .u64 b] w fun e w' => e = .returned (.int .u64 (opv (Ieee.double.div a b))) ∧ New w w' := by
  cases ho : Ieee.double.div a b with
  | some r =>
    have hop : ∀ t w, (binOp .quo t (.float .f64 a) (.float .f64 b)).run Try.prog w = .ok (.float .f64 r) w := fun t w => run_float_arith w .quo t .f64 a b r ho
    have hu : U r := u_of_lt (Ieee.Format.div_lt _ ho)
    have E := Lib.hid (opv_some (div_ok ho))
    clear ho
    go_enter Try.func18, Try.ntmps18
    go_wp2_with (first | (go_at_call 37; (with_reducible refine (number_any _ _).mono ?_); rintro e w' ⟨rfl, rfl⟩) | (go_at_call 36; (with_reducible refine (pattern_any _ _ (by assumption)).mono ?_); rintro e w' ⟨rfl, rfl⟩))
    go_ret
    exact ⟨ret_int (by rw [E.out]), New.refl _⟩
  | none =>
    obtain ⟨r, hu, hc, hop⟩ := run_nan .quo 39 a b w (by simp) ho
    have E := Lib.hid (opv_none hc)
    clear ho hc
    go_enter Try.func18, Try.ntmps18
    go_wp2_with (first | (go_at_call 37; (with_reducible refine (number_any _ _).mono ?_); rintro e w' ⟨rfl, rfl⟩) | (go_at_call 36; (with_reducible refine (pattern_any _ _ (by assumption)).mono ?_); rintro e w' ⟨rfl, rfl⟩))
    go_ret
    exact ⟨ret_int (by rw [E.out]), (New.refl _).drew⟩
theorem sqrt_eq (a : Nat) : Extern.MathSqrt.sqrt #[.float .f64 a] = (match Ieee.double.sqrt a with | some r => pure (.float .f64 r) | none => do pure (.float .f64 (← choose (.nanBits .f64 a a)))) := rfl
theorem run_sqrt_some (a r : Nat) (w : World) (h : Ieee.double.sqrt a = some r) : (Extern.MathSqrt.sqrt #[.float .f64 a]).run Try.prog w = .ok (.float .f64 r) w := by
  rw [sqrt_eq, h]; rfl
theorem run_sqrt_none (a : Nat) (w : World) (h : Ieee.double.sqrt a = none) : (Extern.MathSqrt.sqrt #[.float .f64 a]).run Try.prog w = .ok (.float .f64 (nbits a a w)) w.drew := by
  rw [sqrt_eq, h]; rfl
theorem sqrt_any (a : Nat) (w : World) : Calls Try.prog 20 #[.int .u64 a] w fun e w' => e = .returned (.int .u64 (opv (Ieee.double.sqrt a))) ∧ New w w' := by
  have h53 := @run_callFunc_extern Try.prog 53 _ Extern.MathSqrt.sqrt Try.func53 (by kernel_rfl) (by kernel_rfl) (by kernel_rfl) (by kernel_rfl)
  have low : ∀ r, (∀ w, (Extern.MathSqrt.sqrt #[.float .f64 a]).run Try.prog w = .ok (.float .f64 r) w) → ∀ w, Calls Try.prog 45 #[.float .f64 a] w fun e w' => e = .returned (.float .f64 r) ∧ w = w' := by
    intro r hr w
    go_enter Try.func45, Try.ntmps45
    go_wp2
    go_ret
    exact ⟨rfl, rfl⟩
  cases ho : Ieee.double.sqrt a with
  | some r =>
    have L := Lib.hid (low r (fun w => run_sqrt_some a r w ho))
    have hu : U r := u_of_lt (Ieee.Format.sqrt_lt _ ho)
    have E := Lib.hid (opv_some (sqrt_ok ho))
    clear ho h53 low
    go_enter Try.func20, Try.ntmps20
    go_wp2_with (first | (go_at_call 37; (with_reducible refine (number_any _ _).mono ?_); rintro e w' ⟨rfl, rfl⟩) | (go_at_call 36; (with_reducible refine (pattern_any _ _ (by assumption)).mono ?_); rintro e w' ⟨rfl, rfl⟩) | (go_at_call 45; (with_reducible refine (L.out _).mono ?_); rintro e w' ⟨rfl, rfl⟩))
    go_ret
    exact ⟨ret_int (by rw [E.out]), New.refl _⟩
  | none =>
    have hr := run_sqrt_none a w ho
    have hu := (nbits_ok a a w).1
    have E := Lib.hid (opv_none (nbits_ok a a w).2)
    have L : Calls Try.prog 45 #[.float .f64 a] w fun e w' => e = .returned (.float .f64 (nbits a a w)) ∧ w.drew = w' := by
      clear ho E low hu
      go_enter Try.func45, Try.ntmps45
      go_wp2
      go_ret
      exact ⟨rfl, rfl⟩
    have L' := Lib.hid L
    clear ho h53 low hr L
    go_enter Try.func20, Try.ntmps20
    go_wp2_with (first | (go_at_call 37; (with_reducible refine (number_any _ _).mono ?_); rintro e w' ⟨rfl, rfl⟩) | (go_at_call 36; (with_reducible refine (pattern_any _ _ (by assumption)).mono ?_); rintro e w' ⟨rfl, rfl⟩) | (go_at_call 45; (with_reducible refine (L'.out).mono ?_); rintro e w' ⟨rfl, rfl⟩))
    go_ret
    exact ⟨ret_int (by rw [E.out]), (New.refl _).drew⟩
theorem cmp_any (a b : Nat) (w : World) (h : U a) (h' : U b) : Calls Try.prog 22 #[.int .u64 a, .int .u64 b] w fun e w' => e = .returned (.int .i64 (cmpv a b)) ∧ w = w' := by
  cases hn : nn a b with
  | true =>
    have E := Lib.hid (order_none a b h h' hn).1
    have k := (order_none a b h h' hn).2
    have k1 : (FloatKind.f64.format.order a b == some .lt) = false := by rw [show FloatKind.f64.format.order a b = none from k]; rfl
    have k2 : (FloatKind.f64.format.order a b == some .gt) = false := by rw [show FloatKind.f64.format.order a b = none from k]; rfl
    have k3 : (FloatKind.f64.format.order a b == some .eq) = false := by rw [show FloatKind.f64.format.order a b = none from k]; rfl
    clear k hn
    go_enter Try.func22, Try.ntmps22
    go_wp2_with (go_at_call 37; (with_reducible refine (number_any _ _).mono ?_); rintro e w' ⟨rfl, rfl⟩)
    go_ret
    exact ⟨ret_int (by rw [E.out]), rfl⟩
  | false =>
    rcases order_three a b h h' hn with ⟨E, k⟩ | ⟨E, k⟩ | ⟨E, k⟩
    · have E' := Lib.hid E
      have k1 : (FloatKind.f64.format.order a b == some .lt) = true := by rw [show FloatKind.f64.format.order a b = some .lt from k]; rfl
      have k2 : (FloatKind.f64.format.order a b == some .gt) = false := by rw [show FloatKind.f64.format.order a b = some .lt from k]; rfl
      have k3 : (FloatKind.f64.format.order a b == some .eq) = false := by rw [show FloatKind.f64.format.order a b = some .lt from k]; rfl
      clear k hn E
      go_enter Try.func22, Try.ntmps22
      go_wp2_with (go_at_call 37; (with_reducible refine (number_any _ _).mono ?_); rintro e w' ⟨rfl, rfl⟩)
      go_ret
      exact ⟨ret_int (by rw [E'.out]), rfl⟩
    · have E' := Lib.hid E
      have k1 : (FloatKind.f64.format.order a b == some .lt) = false := by rw [show FloatKind.f64.format.order a b = some .gt from k]; rfl
      have k2 : (FloatKind.f64.format.order a b == some .gt) = true := by rw [show FloatKind.f64.format.order a b = some .gt from k]; rfl
      have k3 : (FloatKind.f64.format.order a b == some .eq) = false := by rw [show FloatKind.f64.format.order a b = some .gt from k]; rfl
      clear k hn E
      go_enter Try.func22, Try.ntmps22
      go_wp2_with (go_at_call 37; (with_reducible refine (number_any _ _).mono ?_); rintro e w' ⟨rfl, rfl⟩)
      go_ret
      exact ⟨ret_int (by rw [E'.out]), rfl⟩
    · have E' := Lib.hid E
      have k1 : (FloatKind.f64.format.order a b == some .lt) = false := by rw [show FloatKind.f64.format.order a b = some .eq from k]; rfl
      have k2 : (FloatKind.f64.format.order a b == some .gt) = false := by rw [show FloatKind.f64.format.order a b = some .eq from k]; rfl
      have k3 : (FloatKind.f64.format.order a b == some .eq) = true := by rw [show FloatKind.f64.format.order a b = some .eq from k]; rfl
      clear k hn E
      go_enter Try.func22, Try.ntmps22
      go_wp2_with (go_at_call 37; (with_reducible refine (number_any _ _).mono ?_); rintro e w' ⟨rfl, rfl⟩)
      go_ret
      exact ⟨ret_int (by rw [E'.out]), rfl⟩
theorem min_any (a b : Nat) (w : World) (h : U a) (h' : U b) : Calls Try.prog 24 #[.int .u64 a, .int .u64 b] w fun e w' => e = .returned (.int .u64 (minv a b)) ∧ w = w' := by
  have h2 := cmpv_two a b
  cases hn : nn a b with
  | true =>
    have E := Lib.hid (show minv a b = Emp from by unfold minv; rw [hn, if_pos rfl])
    have k : (cmpv a b == 2) = true := by simpa using h2.2 hn
    clear h2 hn
    go_enter Try.func24, Try.ntmps24
    go_wp2_with (go_at_call 22; (with_reducible refine (cmp_any _ _ _ (by assumption) (by assumption)).mono ?_); rintro e w' ⟨rfl, rfl⟩)
    go_ret
    exact ⟨ret_int (by rw [E.out]; rfl), rfl⟩
  | false =>
    have k0 : (cmpv a b == 2) = false := by
      rw [Bool.eq_false_iff]; intro c; rw [h2.1 (by simpa using c)] at hn; cases hn
    by_cases c : ord a b ≤ 0
    · have E := Lib.hid (show minv a b = a from by unfold minv; rw [hn, if_neg Bool.false_ne_true, if_pos c])
      clear h2 hn
      go_enter Try.func24, Try.ntmps24
      go_wp2_with (first | (go_at_call 22; (with_reducible refine (cmp_any _ _ _ (by assumption) (by assumption)).mono ?_); rintro e w' ⟨rfl, rfl⟩) | (go_at_call 28; (with_reducible refine (order_any _ _ _ (by assumption) (by assumption)).mono ?_); rintro e w' ⟨rfl, rfl⟩))
      go_ret
      exact ⟨ret_int (by rw [E.out]), rfl⟩
    · have E := Lib.hid (show minv a b = b from by unfold minv; rw [hn, if_neg Bool.false_ne_true, if_neg c])
      have k : decide (ord a b ≤ 0) = false := by simpa using c
      clear h2 hn c
      go_enter Try.func24, Try.ntmps24
      go_wp2_with (first | (go_at_call 22; (with_reducible refine (cmp_any _ _ _ (by assumption) (by assumption)).mono ?_); rintro e w' ⟨rfl, rfl⟩) | (go_at_call 28; (with_reducible refine (order_any _ _ _ (by assumption) (by assumption)).mono ?_); rintro e w' ⟨rfl, rfl⟩))
      go_ret
      exact ⟨ret_int (by rw [E.out]), rfl⟩
theorem max_any (a b : Nat) (w : World) (h : U a) (h' : U b) : Calls Try.prog 26 #[.int .u64 a, .int .u64 b] w fun e w' => e = .returned (.int .u64 (maxv a b)) ∧ w = w' := by
  have h2 := cmpv_two a b
  cases hn : nn a b with
  | true =>
    have E := Lib.hid (show maxv a b = Emp from by unfold maxv; rw [hn, if_pos rfl])
    have k : (cmpv a b == 2) = true := by simpa using h2.2 hn
    clear h2 hn
    go_enter Try.func26, Try.ntmps26
    go_wp2_with (go_at_call 22; (with_reducible refine (cmp_any _ _ _ (by assumption) (by assumption)).mono ?_); rintro e w' ⟨rfl, rfl⟩)
    go_ret
    exact ⟨ret_int (by rw [E.out]; rfl), rfl⟩
  | false =>
    have k0 : (cmpv a b == 2) = false := by
      rw [Bool.eq_false_iff]; intro c; rw [h2.1 (by simpa using c)] at hn; cases hn
    by_cases c : 0 ≤ ord a b
    · have E := Lib.hid (show maxv a b = a from by unfold maxv; rw [hn, if_neg Bool.false_ne_true, if_pos c])
      clear h2 hn
      go_enter Try.func26, Try.ntmps26
      go_wp2_with (first | (go_at_call 22; (with_reducible refine (cmp_any _ _ _ (by assumption) (by assumption)).mono ?_); rintro e w' ⟨rfl, rfl⟩) | (go_at_call 28; (with_reducible refine (order_any _ _ _ (by assumption) (by assumption)).mono ?_); rintro e w' ⟨rfl, rfl⟩))
      go_ret
      exact ⟨ret_int (by rw [E.out]), rfl⟩
    · have E := Lib.hid (show maxv a b = b from by unfold maxv; rw [hn, if_neg Bool.false_ne_true, if_neg c])
      have k : decide (0 ≤ ord a b) = false := by simpa using c
      clear h2 hn c
      go_enter Try.func26, Try.ntmps26
      go_wp2_with (first | (go_at_call 22; (with_reducible refine (cmp_any _ _ _ (by assumption) (by assumption)).mono ?_); rintro e w' ⟨rfl, rfl⟩) | (go_at_call 28; (with_reducible refine (order_any _ _ _ (by assumption) (by assumption)).mono ?_); rintro e w' ⟨rfl, rfl⟩))
      go_ret
      exact ⟨ret_int (by rw [E.out]), rfl⟩
end Go.Proofs.Ytfmlflngdleobaa
