/- Sums and products do not hang on the order, whole numbers come back, a number less itself is 0, what is no number stays none, and the lesser one is never above the greater one, for any binary64 numbers given by their bits; the statement holds for every input, with no condition. -/
import Derived.Test.YtfmlflngdleobaaRows
import Derived.Test.YtfmlflngdleobaaSoftO
import Derived.Test.YtfmlflngdleobaaSoftLast
import Derived.WalkKit
import Derived.ProofKit
import Derived.OpenShut
import Derived.ShutString
namespace Go.Proofs.Ytfmlflngdleobaa.softLaws
open Go.ChangeShapes Go.WideShapes Go.ChangeAt Go.RowKit
open Go.ChangeMaps (open_string shut_string)
set_option linter.unusedVariables false      -- a walk need not use every 'w<i>' (that an integer argument fits its kind)

theorem own : ownKnob Try.prog.godebug = none := by kernel_rfl

/-! ### STEP 1: THE WALK: the Go text returns true. 'Grown w w'': the world has at most new blocks (Derived/RowKit3.lean). Part the cases AHEAD of 'go_enter' where a test parts the walk; take each callee by a contract of your own. -/
set_option maxRecDepth 100000 in
set_option maxHeartbeats 4000000 in
theorem walk (a0 : Int) (a1 : Int) (a2 : Int) (w0 : (Lit.int .u64 a0).wf = true) (w1 : (Lit.int .u64 a1).wf = true) (w2 : (Lit.int .u32 a2).wf = true) (w : World) :
    Calls Try.prog 6 #[.int .u64 a0, .int .u64 a1, .int .u32 a2] w fun e w' => e = .returned (.bool true) ∧ Grown w w' := by
  obtain ⟨x, rfl, hx⟩ := u64_bd w0
  obtain ⟨y, rfl, hy⟩ := u64_bd w1
  obtain ⟨v, rfl, hv⟩ := u32_bd w2
  have ov := ofi_u (sg32 v)
  have D1 := Lib.hid (show ∀ W, Calls Try.prog 18 #[.int .u64 4503599627370496, .int .u64 x] W fun e w' => e = .returned (.int .u64 (opv (Ieee.double.div 4503599627370496 x))) ∧ New W w' from fun W => div_any 4503599627370496 x W)
  have A0 := Lib.hid (show ∀ W, Calls Try.prog 9 #[.int .u64 x, .int .u64 0] W fun e w' => e = .returned (.int .u64 (opv (Ieee.double.add x 0))) ∧ New W w' from fun W => add_any x 0 W)
  have M1 := Lib.hid (show ∀ W, Calls Try.prog 16 #[.int .u64 x, .int .u64 4607182418800017408] W fun e w' => e = .returned (.int .u64 (opv (Ieee.double.mul x 4607182418800017408))) ∧ New W w' from fun W => mul_any x 4607182418800017408 W)
  have D2 := Lib.hid (show ∀ W, Calls Try.prog 18 #[.int .u64 x, .int .u64 4607182418800017408] W fun e w' => e = .returned (.int .u64 (opv (Ieee.double.div x 4607182418800017408))) ∧ New W w' from fun W => div_any x 4607182418800017408 W)
  have e1e : (((opv (Ieee.double.add x y) : Nat) : Int) == ((opv (Ieee.double.add y x) : Nat) : Int)) = true := by rw [add_comm']; simp
  have e1n : (((opv (Ieee.double.add x y) : Nat) : Int) != ((opv (Ieee.double.add y x) : Nat) : Int)) = false := by rw [add_comm']; simp
  have e2e : (((opv (Ieee.double.mul x y) : Nat) : Int) == ((opv (Ieee.double.mul y x) : Nat) : Int)) = true := by rw [mul_comm']; simp
  have e2n : (((opv (Ieee.double.mul x y) : Nat) : Int) != ((opv (Ieee.double.mul y x) : Nat) : Int)) = false := by rw [mul_comm']; simp
  have e3e : (((toi (ofi (sg32 v)) : Nat) : Int) == (v : Int)) = true := by rw [toi_back v hv]; simp
  have e3n : (((toi (ofi (sg32 v)) : Nat) : Int) != (v : Int)) = false := by rw [toi_back v hv]; simp
  have e4e : (ord x y == -ord y x) = true := by rw [ord_neg]; simp
  have e4n : (ord x y != -ord y x) = false := by rw [ord_neg]; simp
  obtain ⟨o1, o2⟩ := ord_bd y x
  by_cases h4 : cls x = 4
  · have c4 : (cls x == 4) = true := by simpa using h4
    have c4n : (cls x != 4) = false := by simpa using h4
    have hn : nn x y = true := by unfold nn; rw [h4]; rfl
    have hm : minv y x = Emp := min_nan x y h4
    have hc : cmpv x y = 2 := (cmpv_two x y).2 hn
    have r1 := add_nan x y hx hy hn
    have r2 := mul_nan x y hx hy hn
    have r3 := div_nan x y hx hy hn
    have r4 := sqrt_nan x hx h4
    have f1e : (((opv (Ieee.double.add x y) : Nat) : Int) == 9221120237041090560) = true := by rw [r1]; rfl
    have f1n : (((opv (Ieee.double.add x y) : Nat) : Int) != 9221120237041090560) = false := by rw [r1]; rfl
    have f2e : (((opv (Ieee.double.mul x y) : Nat) : Int) == 9221120237041090560) = true := by rw [r2]; rfl
    have f2n : (((opv (Ieee.double.mul x y) : Nat) : Int) != 9221120237041090560) = false := by rw [r2]; rfl
    have f3e : (((opv (Ieee.double.div x y) : Nat) : Int) == 9221120237041090560) = true := by rw [r3]; rfl
    have f3n : (((opv (Ieee.double.div x y) : Nat) : Int) != 9221120237041090560) = false := by rw [r3]; rfl
    have f4e : (((opv (Ieee.double.sqrt x) : Nat) : Int) == 9221120237041090560) = true := by rw [r4]; rfl
    have f4n : (((opv (Ieee.double.sqrt x) : Nat) : Int) != 9221120237041090560) = false := by rw [r4]; rfl
    have f5e : (((minv y x : Nat) : Int) == 9221120237041090560) = true := by rw [hm]; rfl
    have f5n : (((minv y x : Nat) : Int) != 9221120237041090560) = false := by rw [hm]; rfl
    have f6e : (cmpv x y == 2) = true := by rw [hc]; rfl
    have f6n : (cmpv x y != 2) = false := by rw [hc]; rfl
    clear h4 hn hm hc r1 r2 r3 r4
    go_enter Try.func6, Try.ntmps6
    go_wp2_with (first | (go_at_call 18; (with_reducible refine (D1.out _).mono ?_); rintro e w1 ⟨rfl, hg1⟩) | (go_at_call 9; (with_reducible refine (A0.out _).mono ?_); rintro e w1 ⟨rfl, hg1⟩) | (go_at_call 16; (with_reducible refine (M1.out _).mono ?_); rintro e w1 ⟨rfl, hg1⟩) | (go_at_call 18; (with_reducible refine (D2.out _).mono ?_); rintro e w1 ⟨rfl, hg1⟩) | (go_at_call 9; (with_reducible refine (add_any _ _ _).mono ?_); rintro e w1 ⟨rfl, hg1⟩) | (go_at_call 11; (with_reducible refine (sub_any _ _ _).mono ?_); rintro e w1 ⟨rfl, hg1⟩) | (go_at_call 16; (with_reducible refine (mul_any _ _ _).mono ?_); rintro e w1 ⟨rfl, hg1⟩) | (go_at_call 18; (with_reducible refine (div_any _ _ _).mono ?_); rintro e w1 ⟨rfl, hg1⟩) | (go_at_call 20; (with_reducible refine (sqrt_any _ _).mono ?_); rintro e w1 ⟨rfl, hg1⟩) | (go_at_call 13; (with_reducible refine (class_any _ _ (by assumption)).mono ?_); rintro e w' ⟨rfl, rfl⟩) | (go_at_call 22; (with_reducible refine (cmp_any _ _ _ (by assumption) (by assumption)).mono ?_); rintro e w' ⟨rfl, rfl⟩) | (go_at_call 24; (with_reducible refine (min_any _ _ _ (by assumption) (by assumption)).mono ?_); rintro e w' ⟨rfl, rfl⟩) | (go_at_call 26; (with_reducible refine (max_any _ _ _ (by assumption) (by assumption)).mono ?_); rintro e w' ⟨rfl, rfl⟩) | (go_at_call 28; (with_reducible refine (order_any _ _ _ (by assumption) (by assumption)).mono ?_); rintro e w' ⟨rfl, rfl⟩) | (go_at_call 30; (with_reducible refine (fromint_any _ _ (by assumption)).mono ?_); rintro e w' ⟨rfl, rfl⟩) | (go_at_call 32; (with_reducible refine (toint_any _ _ (by assumption)).mono ?_); rintro e w' ⟨rfl, rfl⟩) | (go_at_call 15; (with_reducible refine (sure_any _).mono ?_); rintro e w1 ⟨rfl, hg1⟩))
    go_ret
    refine ⟨rfl, New.grown ?_⟩
    repeat (first | assumption | refine New.trans ?_ (by assumption))
  · have c4 : (cls x == 4) = false := by simpa using h4
    have c4n : (cls x != 4) = true := by simpa using h4
    by_cases h3 : cls x = 3
    · have c3 : (cls x == 3) = true := by simpa using h3
      have r1 := sub_inf x hx h3
      have r2 : ((opv (Ieee.double.div 4503599627370496 x) : Nat) : Int) % 9223372036854775808 = 0 := by
        rw [div_special 4503599627370496 x (by unfold U; omega) hx (by unfold nn; rw [h3]; decide) (Or.inr (Or.inl h3))]
        rw [if_neg (by rw [h3]; decide), if_neg (by rw [h3]; decide)]
        cases mneg 4503599627370496 x <;> decide
      have f1e : (((opv (Ieee.double.sub x x) : Nat) : Int) == 9221120237041090560) = true := by rw [r1]; rfl
      have f1n : (((opv (Ieee.double.sub x x) : Nat) : Int) != 9221120237041090560) = false := by rw [r1]; rfl
      have f2e : ((((opv (Ieee.double.div 4503599627370496 x) : Nat) : Int) % 9223372036854775808) == 0) = true := by rw [r2]; rfl
      have f2n : ((((opv (Ieee.double.div 4503599627370496 x) : Nat) : Int) % 9223372036854775808) != 0) = false := by rw [r2]; rfl
      clear r1 r2
      have HC := Lib.hid h3
      clear h3
      by_cases y4 : cls y = 4
      · have d4 : (cls y == 4) = true := by simpa using y4
        have d4n : (cls y != 4) = false := by simpa using y4
        clear y4 h4 HC
        go_enter Try.func6, Try.ntmps6
        go_wp2_with (first | (go_at_call 18; (with_reducible refine (D1.out _).mono ?_); rintro e w1 ⟨rfl, hg1⟩) | (go_at_call 9; (with_reducible refine (A0.out _).mono ?_); rintro e w1 ⟨rfl, hg1⟩) | (go_at_call 16; (with_reducible refine (M1.out _).mono ?_); rintro e w1 ⟨rfl, hg1⟩) | (go_at_call 18; (with_reducible refine (D2.out _).mono ?_); rintro e w1 ⟨rfl, hg1⟩) | (go_at_call 9; (with_reducible refine (add_any _ _ _).mono ?_); rintro e w1 ⟨rfl, hg1⟩) | (go_at_call 11; (with_reducible refine (sub_any _ _ _).mono ?_); rintro e w1 ⟨rfl, hg1⟩) | (go_at_call 16; (with_reducible refine (mul_any _ _ _).mono ?_); rintro e w1 ⟨rfl, hg1⟩) | (go_at_call 18; (with_reducible refine (div_any _ _ _).mono ?_); rintro e w1 ⟨rfl, hg1⟩) | (go_at_call 20; (with_reducible refine (sqrt_any _ _).mono ?_); rintro e w1 ⟨rfl, hg1⟩) | (go_at_call 13; (with_reducible refine (class_any _ _ (by assumption)).mono ?_); rintro e w' ⟨rfl, rfl⟩) | (go_at_call 22; (with_reducible refine (cmp_any _ _ _ (by assumption) (by assumption)).mono ?_); rintro e w' ⟨rfl, rfl⟩) | (go_at_call 24; (with_reducible refine (min_any _ _ _ (by assumption) (by assumption)).mono ?_); rintro e w' ⟨rfl, rfl⟩) | (go_at_call 26; (with_reducible refine (max_any _ _ _ (by assumption) (by assumption)).mono ?_); rintro e w' ⟨rfl, rfl⟩) | (go_at_call 28; (with_reducible refine (order_any _ _ _ (by assumption) (by assumption)).mono ?_); rintro e w' ⟨rfl, rfl⟩) | (go_at_call 30; (with_reducible refine (fromint_any _ _ (by assumption)).mono ?_); rintro e w' ⟨rfl, rfl⟩) | (go_at_call 32; (with_reducible refine (toint_any _ _ (by assumption)).mono ?_); rintro e w' ⟨rfl, rfl⟩) | (go_at_call 15; (with_reducible refine (sure_any _).mono ?_); rintro e w1 ⟨rfl, hg1⟩))
        go_ret
        refine ⟨rfl, New.grown ?_⟩
        repeat (first | assumption | refine New.trans ?_ (by assumption))
      · have d4 : (cls y == 4) = false := by simpa using y4
        have d4n : (cls y != 4) = true := by simpa using y4
        have hn : nn x y = false := by unfold nn; simp [h4, y4]
        obtain ⟨m1, m2, m3⟩ := mm_cases x y hn
        have M3 := Lib.hid m3
        have m4 : ∀ a b : Nat, (minv x y = a) → (maxv x y = b) → ord a b ≤ 0 := by rintro a b rfl rfl; exact m3
        rcases m1 with h | h <;> rcases m2 with h' | h'
        all_goals
          have MN := Lib.hid (show ∀ W, Calls Try.prog 24 #[.int .u64 x, .int .u64 y] W fun e w' => e = .returned (.int .u64 _) ∧ W = w' from fun W => h ▸ min_any x y W hx hy)
          have MX := Lib.hid (show ∀ W, Calls Try.prog 26 #[.int .u64 x, .int .u64 y] W fun e w' => e = .returned (.int .u64 _) ∧ W = w' from fun W => h' ▸ max_any x y W hx hy)
          have k0 := Bool.eq_false_iff.2 (fun k => absurd (of_decide_eq_true k) (Int.not_lt.2 (m4 _ _ h h')))
          have k1 : ((x : Int) != (x : Int)) = false := by simp
          have k2 : ((y : Int) != (y : Int)) = false := by simp
          clear h h' y4 h4 HC hn m3 m4 M3
          by_cases hxy : x = y
          · subst hxy
            go_enter Try.func6, Try.ntmps6
            go_wp2_with (first | (go_at_call 24; (with_reducible refine (MN.out _).mono ?_); rintro e w' ⟨rfl, rfl⟩) | (go_at_call 26; (with_reducible refine (MX.out _).mono ?_); rintro e w' ⟨rfl, rfl⟩) | (go_at_call 18; (with_reducible refine (D1.out _).mono ?_); rintro e w1 ⟨rfl, hg1⟩) | (go_at_call 9; (with_reducible refine (A0.out _).mono ?_); rintro e w1 ⟨rfl, hg1⟩) | (go_at_call 16; (with_reducible refine (M1.out _).mono ?_); rintro e w1 ⟨rfl, hg1⟩) | (go_at_call 18; (with_reducible refine (D2.out _).mono ?_); rintro e w1 ⟨rfl, hg1⟩) | (go_at_call 9; (with_reducible refine (add_any _ _ _).mono ?_); rintro e w1 ⟨rfl, hg1⟩) | (go_at_call 11; (with_reducible refine (sub_any _ _ _).mono ?_); rintro e w1 ⟨rfl, hg1⟩) | (go_at_call 16; (with_reducible refine (mul_any _ _ _).mono ?_); rintro e w1 ⟨rfl, hg1⟩) | (go_at_call 18; (with_reducible refine (div_any _ _ _).mono ?_); rintro e w1 ⟨rfl, hg1⟩) | (go_at_call 20; (with_reducible refine (sqrt_any _ _).mono ?_); rintro e w1 ⟨rfl, hg1⟩) | (go_at_call 13; (with_reducible refine (class_any _ _ (by assumption)).mono ?_); rintro e w' ⟨rfl, rfl⟩) | (go_at_call 22; (with_reducible refine (cmp_any _ _ _ (by assumption) (by assumption)).mono ?_); rintro e w' ⟨rfl, rfl⟩) | (go_at_call 24; (with_reducible refine (min_any _ _ _ (by assumption) (by assumption)).mono ?_); rintro e w' ⟨rfl, rfl⟩) | (go_at_call 26; (with_reducible refine (max_any _ _ _ (by assumption) (by assumption)).mono ?_); rintro e w' ⟨rfl, rfl⟩) | (go_at_call 28; (with_reducible refine (order_any _ _ _ (by assumption) (by assumption)).mono ?_); rintro e w' ⟨rfl, rfl⟩) | (go_at_call 30; (with_reducible refine (fromint_any _ _ (by assumption)).mono ?_); rintro e w' ⟨rfl, rfl⟩) | (go_at_call 32; (with_reducible refine (toint_any _ _ (by assumption)).mono ?_); rintro e w' ⟨rfl, rfl⟩) | (go_at_call 15; (with_reducible refine (sure_any _).mono ?_); rintro e w1 ⟨rfl, hg1⟩))
            go_ret
            refine ⟨rfl, New.grown ?_⟩
            repeat (first | assumption | refine New.trans ?_ (by assumption))
          · have k3 : ((x : Int) == (y : Int)) = false := by simp; omega
            have k4 : ((y : Int) == (x : Int)) = false := by simp; omega
            have k5 : ((x : Int) != (y : Int)) = true := by simp; omega
            have k6 : ((y : Int) != (x : Int)) = true := by simp; omega
            clear hxy
            go_enter Try.func6, Try.ntmps6
            go_wp2_with (first | (go_at_call 24; (with_reducible refine (MN.out _).mono ?_); rintro e w' ⟨rfl, rfl⟩) | (go_at_call 26; (with_reducible refine (MX.out _).mono ?_); rintro e w' ⟨rfl, rfl⟩) | (go_at_call 18; (with_reducible refine (D1.out _).mono ?_); rintro e w1 ⟨rfl, hg1⟩) | (go_at_call 9; (with_reducible refine (A0.out _).mono ?_); rintro e w1 ⟨rfl, hg1⟩) | (go_at_call 16; (with_reducible refine (M1.out _).mono ?_); rintro e w1 ⟨rfl, hg1⟩) | (go_at_call 18; (with_reducible refine (D2.out _).mono ?_); rintro e w1 ⟨rfl, hg1⟩) | (go_at_call 9; (with_reducible refine (add_any _ _ _).mono ?_); rintro e w1 ⟨rfl, hg1⟩) | (go_at_call 11; (with_reducible refine (sub_any _ _ _).mono ?_); rintro e w1 ⟨rfl, hg1⟩) | (go_at_call 16; (with_reducible refine (mul_any _ _ _).mono ?_); rintro e w1 ⟨rfl, hg1⟩) | (go_at_call 18; (with_reducible refine (div_any _ _ _).mono ?_); rintro e w1 ⟨rfl, hg1⟩) | (go_at_call 20; (with_reducible refine (sqrt_any _ _).mono ?_); rintro e w1 ⟨rfl, hg1⟩) | (go_at_call 13; (with_reducible refine (class_any _ _ (by assumption)).mono ?_); rintro e w' ⟨rfl, rfl⟩) | (go_at_call 22; (with_reducible refine (cmp_any _ _ _ (by assumption) (by assumption)).mono ?_); rintro e w' ⟨rfl, rfl⟩) | (go_at_call 24; (with_reducible refine (min_any _ _ _ (by assumption) (by assumption)).mono ?_); rintro e w' ⟨rfl, rfl⟩) | (go_at_call 26; (with_reducible refine (max_any _ _ _ (by assumption) (by assumption)).mono ?_); rintro e w' ⟨rfl, rfl⟩) | (go_at_call 28; (with_reducible refine (order_any _ _ _ (by assumption) (by assumption)).mono ?_); rintro e w' ⟨rfl, rfl⟩) | (go_at_call 30; (with_reducible refine (fromint_any _ _ (by assumption)).mono ?_); rintro e w' ⟨rfl, rfl⟩) | (go_at_call 32; (with_reducible refine (toint_any _ _ (by assumption)).mono ?_); rintro e w' ⟨rfl, rfl⟩) | (go_at_call 15; (with_reducible refine (sure_any _).mono ?_); rintro e w1 ⟨rfl, hg1⟩))
            go_ret
            refine ⟨rfl, New.grown ?_⟩
            repeat (first | assumption | refine New.trans ?_ (by assumption))
    · have c3 : (cls x == 3) = false := by simpa using h3
      have fx := (fin_cls x).2 ⟨h3, h4⟩
      have f1e : (((opv (Ieee.double.sub x x) : Nat) : Int) == 0) = true := by rw [sub_self x hx fx]; rfl
      have f1n : (((opv (Ieee.double.sub x x) : Nat) : Int) != 0) = false := by rw [sub_self x hx fx]; rfl
      have r0 := add_zero_cmp x hx fx
      have f2e : (cmpv (opv (Ieee.double.add x 0)) x == 0) = true := by rw [r0]; rfl
      have f2n : (cmpv (opv (Ieee.double.add x 0)) x != 0) = false := by rw [r0]; rfl
      have f3e : (((opv (Ieee.double.mul x 4607182418800017408) : Nat) : Int) == (x : Int)) = true := by rw [mul_one' x hx fx]; simp
      have f3n : (((opv (Ieee.double.mul x 4607182418800017408) : Nat) : Int) != (x : Int)) = false := by rw [mul_one' x hx fx]; simp
      have f4e : (((opv (Ieee.double.div x 4607182418800017408) : Nat) : Int) == (x : Int)) = true := by rw [div_one' x hx fx]; simp
      have f4n : (((opv (Ieee.double.div x 4607182418800017408) : Nat) : Int) != (x : Int)) = false := by rw [div_one' x hx fx]; simp
      have ua : U (opv (Ieee.double.add x 0)) := by
        cases ho : Ieee.double.add x 0 with
        | none => unfold U opv Emp; simp
        | some r => exact u_of_lt (Ieee.Format.add_lt _ ho)
      clear r0 fx
      have HC := Lib.hid h3
      clear h3
      by_cases y4 : cls y = 4
      · have d4 : (cls y == 4) = true := by simpa using y4
        have d4n : (cls y != 4) = false := by simpa using y4
        clear y4 h4 HC
        go_enter Try.func6, Try.ntmps6
        go_wp2_with (first | (go_at_call 18; (with_reducible refine (D1.out _).mono ?_); rintro e w1 ⟨rfl, hg1⟩) | (go_at_call 9; (with_reducible refine (A0.out _).mono ?_); rintro e w1 ⟨rfl, hg1⟩) | (go_at_call 16; (with_reducible refine (M1.out _).mono ?_); rintro e w1 ⟨rfl, hg1⟩) | (go_at_call 18; (with_reducible refine (D2.out _).mono ?_); rintro e w1 ⟨rfl, hg1⟩) | (go_at_call 9; (with_reducible refine (add_any _ _ _).mono ?_); rintro e w1 ⟨rfl, hg1⟩) | (go_at_call 11; (with_reducible refine (sub_any _ _ _).mono ?_); rintro e w1 ⟨rfl, hg1⟩) | (go_at_call 16; (with_reducible refine (mul_any _ _ _).mono ?_); rintro e w1 ⟨rfl, hg1⟩) | (go_at_call 18; (with_reducible refine (div_any _ _ _).mono ?_); rintro e w1 ⟨rfl, hg1⟩) | (go_at_call 20; (with_reducible refine (sqrt_any _ _).mono ?_); rintro e w1 ⟨rfl, hg1⟩) | (go_at_call 13; (with_reducible refine (class_any _ _ (by assumption)).mono ?_); rintro e w' ⟨rfl, rfl⟩) | (go_at_call 22; (with_reducible refine (cmp_any _ _ _ (by assumption) (by assumption)).mono ?_); rintro e w' ⟨rfl, rfl⟩) | (go_at_call 24; (with_reducible refine (min_any _ _ _ (by assumption) (by assumption)).mono ?_); rintro e w' ⟨rfl, rfl⟩) | (go_at_call 26; (with_reducible refine (max_any _ _ _ (by assumption) (by assumption)).mono ?_); rintro e w' ⟨rfl, rfl⟩) | (go_at_call 28; (with_reducible refine (order_any _ _ _ (by assumption) (by assumption)).mono ?_); rintro e w' ⟨rfl, rfl⟩) | (go_at_call 30; (with_reducible refine (fromint_any _ _ (by assumption)).mono ?_); rintro e w' ⟨rfl, rfl⟩) | (go_at_call 32; (with_reducible refine (toint_any _ _ (by assumption)).mono ?_); rintro e w' ⟨rfl, rfl⟩) | (go_at_call 15; (with_reducible refine (sure_any _).mono ?_); rintro e w1 ⟨rfl, hg1⟩))
        go_ret
        refine ⟨rfl, New.grown ?_⟩
        repeat (first | assumption | refine New.trans ?_ (by assumption))
      · have d4 : (cls y == 4) = false := by simpa using y4
        have d4n : (cls y != 4) = true := by simpa using y4
        have hn : nn x y = false := by unfold nn; simp [h4, y4]
        obtain ⟨m1, m2, m3⟩ := mm_cases x y hn
        have M3 := Lib.hid m3
        have m4 : ∀ a b : Nat, (minv x y = a) → (maxv x y = b) → ord a b ≤ 0 := by rintro a b rfl rfl; exact m3
        rcases m1 with h | h <;> rcases m2 with h' | h'
        all_goals
          have MN := Lib.hid (show ∀ W, Calls Try.prog 24 #[.int .u64 x, .int .u64 y] W fun e w' => e = .returned (.int .u64 _) ∧ W = w' from fun W => h ▸ min_any x y W hx hy)
          have MX := Lib.hid (show ∀ W, Calls Try.prog 26 #[.int .u64 x, .int .u64 y] W fun e w' => e = .returned (.int .u64 _) ∧ W = w' from fun W => h' ▸ max_any x y W hx hy)
          have k0 := Bool.eq_false_iff.2 (fun k => absurd (of_decide_eq_true k) (Int.not_lt.2 (m4 _ _ h h')))
          have k1 : ((x : Int) != (x : Int)) = false := by simp
          have k2 : ((y : Int) != (y : Int)) = false := by simp
          clear h h' y4 h4 HC hn m3 m4 M3
          by_cases hxy : x = y
          · subst hxy
            go_enter Try.func6, Try.ntmps6
            go_wp2_with (first | (go_at_call 24; (with_reducible refine (MN.out _).mono ?_); rintro e w' ⟨rfl, rfl⟩) | (go_at_call 26; (with_reducible refine (MX.out _).mono ?_); rintro e w' ⟨rfl, rfl⟩) | (go_at_call 18; (with_reducible refine (D1.out _).mono ?_); rintro e w1 ⟨rfl, hg1⟩) | (go_at_call 9; (with_reducible refine (A0.out _).mono ?_); rintro e w1 ⟨rfl, hg1⟩) | (go_at_call 16; (with_reducible refine (M1.out _).mono ?_); rintro e w1 ⟨rfl, hg1⟩) | (go_at_call 18; (with_reducible refine (D2.out _).mono ?_); rintro e w1 ⟨rfl, hg1⟩) | (go_at_call 9; (with_reducible refine (add_any _ _ _).mono ?_); rintro e w1 ⟨rfl, hg1⟩) | (go_at_call 11; (with_reducible refine (sub_any _ _ _).mono ?_); rintro e w1 ⟨rfl, hg1⟩) | (go_at_call 16; (with_reducible refine (mul_any _ _ _).mono ?_); rintro e w1 ⟨rfl, hg1⟩) | (go_at_call 18; (with_reducible refine (div_any _ _ _).mono ?_); rintro e w1 ⟨rfl, hg1⟩) | (go_at_call 20; (with_reducible refine (sqrt_any _ _).mono ?_); rintro e w1 ⟨rfl, hg1⟩) | (go_at_call 13; (with_reducible refine (class_any _ _ (by assumption)).mono ?_); rintro e w' ⟨rfl, rfl⟩) | (go_at_call 22; (with_reducible refine (cmp_any _ _ _ (by assumption) (by assumption)).mono ?_); rintro e w' ⟨rfl, rfl⟩) | (go_at_call 24; (with_reducible refine (min_any _ _ _ (by assumption) (by assumption)).mono ?_); rintro e w' ⟨rfl, rfl⟩) | (go_at_call 26; (with_reducible refine (max_any _ _ _ (by assumption) (by assumption)).mono ?_); rintro e w' ⟨rfl, rfl⟩) | (go_at_call 28; (with_reducible refine (order_any _ _ _ (by assumption) (by assumption)).mono ?_); rintro e w' ⟨rfl, rfl⟩) | (go_at_call 30; (with_reducible refine (fromint_any _ _ (by assumption)).mono ?_); rintro e w' ⟨rfl, rfl⟩) | (go_at_call 32; (with_reducible refine (toint_any _ _ (by assumption)).mono ?_); rintro e w' ⟨rfl, rfl⟩) | (go_at_call 15; (with_reducible refine (sure_any _).mono ?_); rintro e w1 ⟨rfl, hg1⟩))
            go_ret
            refine ⟨rfl, New.grown ?_⟩
            repeat (first | assumption | refine New.trans ?_ (by assumption))
          · have k3 : ((x : Int) == (y : Int)) = false := by simp; omega
            have k4 : ((y : Int) == (x : Int)) = false := by simp; omega
            have k5 : ((x : Int) != (y : Int)) = true := by simp; omega
            have k6 : ((y : Int) != (x : Int)) = true := by simp; omega
            clear hxy
            go_enter Try.func6, Try.ntmps6
            go_wp2_with (first | (go_at_call 24; (with_reducible refine (MN.out _).mono ?_); rintro e w' ⟨rfl, rfl⟩) | (go_at_call 26; (with_reducible refine (MX.out _).mono ?_); rintro e w' ⟨rfl, rfl⟩) | (go_at_call 18; (with_reducible refine (D1.out _).mono ?_); rintro e w1 ⟨rfl, hg1⟩) | (go_at_call 9; (with_reducible refine (A0.out _).mono ?_); rintro e w1 ⟨rfl, hg1⟩) | (go_at_call 16; (with_reducible refine (M1.out _).mono ?_); rintro e w1 ⟨rfl, hg1⟩) | (go_at_call 18; (with_reducible refine (D2.out _).mono ?_); rintro e w1 ⟨rfl, hg1⟩) | (go_at_call 9; (with_reducible refine (add_any _ _ _).mono ?_); rintro e w1 ⟨rfl, hg1⟩) | (go_at_call 11; (with_reducible refine (sub_any _ _ _).mono ?_); rintro e w1 ⟨rfl, hg1⟩) | (go_at_call 16; (with_reducible refine (mul_any _ _ _).mono ?_); rintro e w1 ⟨rfl, hg1⟩) | (go_at_call 18; (with_reducible refine (div_any _ _ _).mono ?_); rintro e w1 ⟨rfl, hg1⟩) | (go_at_call 20; (with_reducible refine (sqrt_any _ _).mono ?_); rintro e w1 ⟨rfl, hg1⟩) | (go_at_call 13; (with_reducible refine (class_any _ _ (by assumption)).mono ?_); rintro e w' ⟨rfl, rfl⟩) | (go_at_call 22; (with_reducible refine (cmp_any _ _ _ (by assumption) (by assumption)).mono ?_); rintro e w' ⟨rfl, rfl⟩) | (go_at_call 24; (with_reducible refine (min_any _ _ _ (by assumption) (by assumption)).mono ?_); rintro e w' ⟨rfl, rfl⟩) | (go_at_call 26; (with_reducible refine (max_any _ _ _ (by assumption) (by assumption)).mono ?_); rintro e w' ⟨rfl, rfl⟩) | (go_at_call 28; (with_reducible refine (order_any _ _ _ (by assumption) (by assumption)).mono ?_); rintro e w' ⟨rfl, rfl⟩) | (go_at_call 30; (with_reducible refine (fromint_any _ _ (by assumption)).mono ?_); rintro e w' ⟨rfl, rfl⟩) | (go_at_call 32; (with_reducible refine (toint_any _ _ (by assumption)).mono ?_); rintro e w' ⟨rfl, rfl⟩) | (go_at_call 15; (with_reducible refine (sure_any _).mono ?_); rintro e w1 ⟨rfl, hg1⟩))
            go_ret
            refine ⟨rfl, New.grown ?_⟩
            repeat (first | assumption | refine New.trans ?_ (by assumption))

/-! ### THE ROW's STEP: WRITTEN OUT: LEAVE IT -/
set_option maxRecDepth 100000 in
theorem lifted (os : Os) (started : os.Started) (H : Type) (enc : TypeId × Value → H) :
    ReturnsInHanded {} Try.checked os 6 .any (Rows.softLawsSpec.pre6 enc Try.prog Try.f6 Rows.softLawsRow.domain false) (Rows.softLawsSpec.post enc Try.prog Try.f6 false true false false) := by
  refine returnsInHanded_of_change (C := Try.checked) own started (by kernel_rfl) Try.func6
    (ChangeSpec.witness6 (enc := enc) (C := Try.checked) false ⟨#[], #[.int .u64 0, .int .u64 0, .int .u32 0], []⟩ 8 (by kernel_rfl) (by kernel_rfl) (by kernel_rfl) (by kernel_rfl)) ?_
  intro W base args ds gs before hval0 hW hcnd _
  have hval : ∀ (j : Nat) t v, Try.f6.params[j]? = some t → args[j]? = some v → Value.okWide Try.prog W .any base t v := hval0
  have hW' := hW
  obtain ⟨p, q, hA0, hV, rfl, hfz, hnd⟩ := hW
  have hA : DataW.TrodAll enc Try.prog W 0 (fun _ => true) true Try.f6.params.toList args.toList ds p := hA0
  rw [Try.params6] at hA hval
  obtain ⟨v0, vs0, d0, ds0, p0, q0, hargs, rfl, rfl, h0, r0⟩ := trodAll_cons hA
  obtain ⟨v1, vs1, d1, ds1, p1, q1, rfl, rfl, rfl, h1, r1⟩ := trodAll_cons r0
  obtain ⟨v2, vs2, d2, ds2, p2, q2, rfl, rfl, rfl, h2, r2⟩ := trodAll_cons r1
  obtain ⟨rfl, rfl, rfl⟩ := trodAll_nil r2
  obtain rfl : args = #[v0, v1, v2] := by cases args; simp_all
  obtain ⟨rfl, rfl⟩ := trodVars_none hV
  obtain ⟨a0, rfl, rfl, rfl, w0⟩ := open_int Try.underlying22 (hval 0 22 v0 rfl rfl) h0
  obtain ⟨a1, rfl, rfl, rfl, w1⟩ := open_int Try.underlying22 (hval 1 22 v1 rfl rfl) h1
  obtain ⟨a2, rfl, rfl, rfl, w2⟩ := open_int Try.underlying28 (hval 2 28 v2 rfl rfl) h2
  clear hA0 hval0
  simp only [List.append_nil] at hW'
  refine (walk a0 a1 a2 w0 w1 w2 W).mono fun e W' ⟨he, hg⟩ => ?_
  subst he
  exact ⟨_, rfl, post_of_same (pa := []) (pv := []) hW' (fun _ _ _ => (trodAll_cons_mk (shut_bool Try.underlying4 _) trodAll_mk0)) (fun sp _ => (trodAll_cons_mk (shut_int Try.underlying22 w0) (trodAll_cons_mk (shut_int Try.underlying22 w1) (trodAll_cons_mk (shut_int Try.underlying28 w2) trodAll_mk0)))) (fun _ _ => rfl) rfl
    (hg.frame _) hg.2.1 (ok_one (by kernel_rfl) rfl (okWide_bool_mk Try.underlying4 _))⟩

theorem over : Rows.softLawsRow.holds Try.pinned (OpenSpec.ofChange Rows.softLawsSpec) :=
  OpenClaim.holds_of_wide 6 Try.f6 rfl rfl rfl rfl rfl rfl rfl ⟨rfl, rfl, rfl, rfl, rfl⟩ rfl rfl rfl rfl rfl (by kernel_rfl) Try.func6 (by kernel_rfl)
    (of_decide_eq_true (by kernel_rfl)) (by unfold Func.isWrapper; first | (rw [if_pos (by decide +kernel)]; kernel_rfl) | (rw [if_neg (by decide +kernel)]; exact ⟨rfl, rfl⟩))
    (fun os started H enc _ => lifted os started H enc)

/-- ████ THE STATEMENT ████ -/
theorem proved : Rows.SoftLawsSaid :=
  over
#print axioms proved
end Go.Proofs.Ytfmlflngdleobaa.softLaws
