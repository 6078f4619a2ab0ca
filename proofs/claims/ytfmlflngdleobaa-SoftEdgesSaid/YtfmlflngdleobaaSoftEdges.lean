/- What comes of the edges of binary64 numbers, by any number, is as stated: by 0 it is endless, with both signs, 0 times what is endless is no number, and so on; the statement holds for every input, with no condition. -/
import Derived.Test.YtfmlflngdleobaaRows
import Derived.Test.YtfmlflngdleobaaSoftO
import Derived.Test.YtfmlflngdleobaaSoftLast
import Derived.WalkKit
import Derived.ProofKit
import Derived.OpenShut
import Derived.ShutString
namespace Go.Proofs.Ytfmlflngdleobaa.softEdges
open Go.ChangeShapes Go.WideShapes Go.ChangeAt Go.RowKit
open Go.ChangeMaps (open_string shut_string)
set_option linter.unusedVariables false      -- a walk need not use every 'w<i>' (that an integer argument fits its kind)

theorem own : ownKnob Try.prog.godebug = none := by kernel_rfl

/-! ### STEP 1: THE WALK: the Go text returns true. 'Grown w w'': the world has at most new blocks (Derived/RowKit3.lean). Part the cases AHEAD of 'go_enter' where a test parts the walk; take each callee by a contract of your own. -/
set_option maxRecDepth 100000 in
set_option maxHeartbeats 4000000 in
theorem walk (a0 : Int) (a1 : Bool) (w0 : (Lit.int .u64 a0).wf = true) (w : World) :
    Calls Try.prog 8 #[.int .u64 a0, .bool a1] w fun e w' => e = .returned (.bool true) ∧ Grown w w' := by
  obtain ⟨x, rfl, hx⟩ := u64_bd w0
  have shr : ((x : Int) / 9223372036854775808 == 1) = sgn x := by
    unfold sgn; unfold U at hx; rw [Bool.eq_iff_iff]; simp; omega
  cases a1
  · have uz : U 0 := by unfold U; omega
    have uf : U 9218868437227405312 := by unfold U; omega
    have cz : cls 0 = 0 := by decide
    have cf : cls 9218868437227405312 = 3 := by decide
    have sz : sgn 0 = false := by decide
    have sf : sgn 9218868437227405312 = false := by decide
    have I1 := Lib.hid (show ∀ W, Calls Try.prog 16 #[.int .u64 0, .int .u64 9218868437227405312] W fun e w' => e = .returned (.int .u64 9221120237041090560) ∧ New W w' from fun W => (mul_any 0 9218868437227405312 W).mono fun e w' hh => ⟨by rw [hh.1, show opv (Ieee.double.mul 0 9218868437227405312) = 9221120237041090560 from by decide +kernel]; rfl, hh.2⟩)
    have I2 := Lib.hid (show ∀ W, Calls Try.prog 11 #[.int .u64 9218868437227405312, .int .u64 9218868437227405312] W fun e w' => e = .returned (.int .u64 9221120237041090560) ∧ New W w' from fun W => (sub_any 9218868437227405312 9218868437227405312 W).mono fun e w' hh => ⟨by rw [hh.1, show opv (Ieee.double.sub 9218868437227405312 9218868437227405312) = 9221120237041090560 from by decide +kernel]; rfl, hh.2⟩)
    have I3 := Lib.hid (show ∀ W, Calls Try.prog 18 #[.int .u64 0, .int .u64 0] W fun e w' => e = .returned (.int .u64 9221120237041090560) ∧ New W w' from fun W => (div_any 0 0 W).mono fun e w' hh => ⟨by rw [hh.1, show opv (Ieee.double.div 0 0) = 9221120237041090560 from by decide +kernel]; rfl, hh.2⟩)
    have I4 := Lib.hid (show ∀ W, Calls Try.prog 18 #[.int .u64 9218868437227405312, .int .u64 9218868437227405312] W fun e w' => e = .returned (.int .u64 9221120237041090560) ∧ New W w' from fun W => (div_any 9218868437227405312 9218868437227405312 W).mono fun e w' hh => ⟨by rw [hh.1, show opv (Ieee.double.div 9218868437227405312 9218868437227405312) = 9221120237041090560 from by decide +kernel]; rfl, hh.2⟩)
    have I5 := Lib.hid (show ∀ W, Calls Try.prog 20 #[.int .u64 0] W fun e w' => e = .returned (.int .u64 0) ∧ New W w' from fun W => (sqrt_any 0 W).mono fun e w' hh => ⟨by rw [hh.1, show opv (Ieee.double.sqrt 0) = 0 from by decide +kernel]; rfl, hh.2⟩)
    have I6 := Lib.hid (show ∀ W, Calls Try.prog 20 #[.int .u64 9218868437227405312] W fun e w' => e = .returned (.int .u64 9218868437227405312) ∧ New W w' from fun W => (sqrt_any 9218868437227405312 W).mono fun e w' hh => ⟨by rw [hh.1, show opv (Ieee.double.sqrt 9218868437227405312) = 9218868437227405312 from by decide +kernel]; rfl, hh.2⟩)
    rcases (show cls x = 4 ∨ cls x = 3 ∨ cls x = 0 ∨ (cls x ≠ 4 ∧ cls x ≠ 3 ∧ cls x ≠ 0) by omega) with h | h | h | h
    · have k4 : (cls x == 4) = true := by simp; omega
      have k3 : (cls x == 3) = false := by simp; omega
      have k0 : (cls x == 0) = false := by simp; omega
      clear h uf cz cf sz sf shr
      go_enter Try.func8, Try.ntmps8
      go_wp2_with (first | (go_at_call 16; (with_reducible refine (I1.out _).mono ?_); rintro e w1 ⟨rfl, hg1⟩) | (go_at_call 11; (with_reducible refine (I2.out _).mono ?_); rintro e w1 ⟨rfl, hg1⟩) | (go_at_call 18; (with_reducible refine (I3.out _).mono ?_); rintro e w1 ⟨rfl, hg1⟩) | (go_at_call 18; (with_reducible refine (I4.out _).mono ?_); rintro e w1 ⟨rfl, hg1⟩) | (go_at_call 20; (with_reducible refine (I5.out _).mono ?_); rintro e w1 ⟨rfl, hg1⟩) | (go_at_call 20; (with_reducible refine (I6.out _).mono ?_); rintro e w1 ⟨rfl, hg1⟩) | (go_at_call 13; (with_reducible refine (class_any _ _ (by assumption)).mono ?_); rintro e w' ⟨rfl, rfl⟩) | (go_at_call 15; (with_reducible refine (sure_any _).mono ?_); rintro e w1 ⟨rfl, hg1⟩))
      go_ret
      refine ⟨rfl, New.grown ?_⟩
      repeat (first | assumption | refine New.trans ?_ (by assumption))
    · have k4 : (cls x == 4) = false := by simp; omega
      have k3 : (cls x == 3) = true := by simp; omega
      have k0 : (cls x == 0) = false := by simp; omega
      clear h uf cz cf sz sf shr
      go_enter Try.func8, Try.ntmps8
      go_wp2_with (first | (go_at_call 16; (with_reducible refine (I1.out _).mono ?_); rintro e w1 ⟨rfl, hg1⟩) | (go_at_call 11; (with_reducible refine (I2.out _).mono ?_); rintro e w1 ⟨rfl, hg1⟩) | (go_at_call 18; (with_reducible refine (I3.out _).mono ?_); rintro e w1 ⟨rfl, hg1⟩) | (go_at_call 18; (with_reducible refine (I4.out _).mono ?_); rintro e w1 ⟨rfl, hg1⟩) | (go_at_call 20; (with_reducible refine (I5.out _).mono ?_); rintro e w1 ⟨rfl, hg1⟩) | (go_at_call 20; (with_reducible refine (I6.out _).mono ?_); rintro e w1 ⟨rfl, hg1⟩) | (go_at_call 13; (with_reducible refine (class_any _ _ (by assumption)).mono ?_); rintro e w' ⟨rfl, rfl⟩) | (go_at_call 15; (with_reducible refine (sure_any _).mono ?_); rintro e w1 ⟨rfl, hg1⟩))
      go_ret
      refine ⟨rfl, New.grown ?_⟩
      repeat (first | assumption | refine New.trans ?_ (by assumption))
    · have k4 : (cls x == 4) = false := by simp; omega
      have k3 : (cls x == 3) = false := by simp; omega
      have k0 : (cls x == 0) = true := by simp; omega
      have fx := (fin_cls x).2 ⟨by omega, by omega⟩
      have hn : nn 9218868437227405312 x = false := by unfold nn; rw [cf, h]; rfl
      have J1 := Lib.hid (show ∀ W, Calls Try.prog 9 #[.int .u64 x, .int .u64 9218868437227405312] W fun e w' => e = .returned (.int .u64 9218868437227405312) ∧ New W w' from fun W => (add_any x 9218868437227405312 W).mono fun e w' hh => ⟨by rw [hh.1, show opv (Ieee.double.add x 9218868437227405312) = 9218868437227405312 from by rw [add_comm' x 9218868437227405312, add_inf 9218868437227405312 x uf hx hn cf, if_neg (by omega)]]; rfl, hh.2⟩)
      have J2 := Lib.hid (show ∀ W, Calls Try.prog 22 #[.int .u64 x, .int .u64 0] W fun e w' => e = .returned (.int .i64 0) ∧ W = w' from fun W => (cmp_any x 0 W hx uz).mono fun e w' hh => ⟨by rw [hh.1, show cmpv x 0 = 0 from by unfold cmpv; rw [show nn x 0 = false from by unfold nn; rw [cz, h]; rfl, if_neg Bool.false_ne_true, show zz x 0 = true from by unfold zz; rw [cz, h]; rfl, if_pos rfl]], hh.2⟩)
      clear h hn fx uf cz cf sz sf shr
      go_enter Try.func8, Try.ntmps8
      go_wp2_with (first | (go_at_call 9; (with_reducible refine (J1.out _).mono ?_); rintro e w1 ⟨rfl, hg1⟩) | (go_at_call 22; (with_reducible refine (J2.out _).mono ?_); rintro e w' ⟨rfl, rfl⟩) | (go_at_call 16; (with_reducible refine (I1.out _).mono ?_); rintro e w1 ⟨rfl, hg1⟩) | (go_at_call 11; (with_reducible refine (I2.out _).mono ?_); rintro e w1 ⟨rfl, hg1⟩) | (go_at_call 18; (with_reducible refine (I3.out _).mono ?_); rintro e w1 ⟨rfl, hg1⟩) | (go_at_call 18; (with_reducible refine (I4.out _).mono ?_); rintro e w1 ⟨rfl, hg1⟩) | (go_at_call 20; (with_reducible refine (I5.out _).mono ?_); rintro e w1 ⟨rfl, hg1⟩) | (go_at_call 20; (with_reducible refine (I6.out _).mono ?_); rintro e w1 ⟨rfl, hg1⟩) | (go_at_call 13; (with_reducible refine (class_any _ _ (by assumption)).mono ?_); rintro e w' ⟨rfl, rfl⟩) | (go_at_call 15; (with_reducible refine (sure_any _).mono ?_); rintro e w1 ⟨rfl, hg1⟩))
      go_ret
      refine ⟨rfl, New.grown ?_⟩
      repeat (first | assumption | refine New.trans ?_ (by assumption))
    · have k4 : (cls x == 4) = false := by simp; omega
      have k3 : (cls x == 3) = false := by simp; omega
      have k0 : (cls x == 0) = false := by simp; omega
      have fx := (fin_cls x).2 ⟨by omega, by omega⟩
      have m0 : 0 < mg x := by have := cls0_mg x; omega
      have hn : nn 9218868437227405312 x = false := by unfold nn; rw [cf]; simp; omega
      have hn' : nn x 0 = false := by unfold nn; rw [cz]; simp; omega
      have hn'' : nn x 9218868437227405312 = false := by unfold nn; rw [cf]; simp; omega
      have SE := sqrt_empty x hx fx m0
      have J1 := Lib.hid (show ∀ W, Calls Try.prog 9 #[.int .u64 x, .int .u64 9218868437227405312] W fun e w' => e = .returned (.int .u64 9218868437227405312) ∧ New W w' from fun W => (add_any x 9218868437227405312 W).mono fun e w' hh => ⟨by rw [hh.1, show opv (Ieee.double.add x 9218868437227405312) = 9218868437227405312 from by rw [add_comm' x 9218868437227405312, add_inf 9218868437227405312 x uf hx hn cf, if_neg (by omega)]]; rfl, hh.2⟩)
      cases hs : sgn x
      · have mz : mneg x 0 = false := by unfold mneg; rw [hs, sz]; rfl
        have mf : mneg x 9218868437227405312 = false := by unfold mneg; rw [hs, sf]; rfl
        have mf' : mneg 9218868437227405312 x = false := by unfold mneg; rw [hs, sf]; rfl
        have J2 := Lib.hid (show ∀ W, Calls Try.prog 18 #[.int .u64 x, .int .u64 0] W fun e w' => e = .returned (.int .u64 9218868437227405312) ∧ New W w' from fun W => (div_any x 0 W).mono fun e w' hh => ⟨by rw [hh.1, show opv (Ieee.double.div x 0) = 9218868437227405312 from by rw [div_special x 0 hx uz hn' (Or.inr (Or.inr cz)), if_neg (by omega), if_pos (Or.inr cz), mz]; rfl]; rfl, hh.2⟩)
        have J3 := Lib.hid (show ∀ W, Calls Try.prog 16 #[.int .u64 x, .int .u64 9218868437227405312] W fun e w' => e = .returned (.int .u64 9218868437227405312) ∧ New W w' from fun W => (mul_any x 9218868437227405312 W).mono fun e w' hh => ⟨by rw [hh.1, show opv (Ieee.double.mul x 9218868437227405312) = 9218868437227405312 from by rw [mul_comm' x 9218868437227405312, mul_inf 9218868437227405312 x uf hx hn cf, if_neg (by omega), mf']; rfl]; rfl, hh.2⟩)
        have J4 := Lib.hid (show ∀ W, Calls Try.prog 18 #[.int .u64 x, .int .u64 9218868437227405312] W fun e w' => e = .returned (.int .u64 0) ∧ New W w' from fun W => (div_any x 9218868437227405312 W).mono fun e w' hh => ⟨by rw [hh.1, show opv (Ieee.double.div x 9218868437227405312) = 0 from by rw [div_special x 9218868437227405312 hx uf hn'' (Or.inr (Or.inl cf)), if_neg (by omega), if_neg (by omega), mf]; rfl]; rfl, hh.2⟩)
        rw [hs] at shr SE
        have q : (((opv (Ieee.double.sqrt x) : Nat) : Int) == 9221120237041090560) = false := by
          have h9 : opv (Ieee.double.sqrt x) ≠ 9221120237041090560 := fun k => by have := SE.1 k; cases this
          simp; omega
        clear h hn hn' hn'' fx m0 SE hs mz mf mf' uf cz cf sz sf
        go_enter Try.func8, Try.ntmps8
        go_wp2_with (first | (go_at_call 9; (with_reducible refine (J1.out _).mono ?_); rintro e w1 ⟨rfl, hg1⟩) | (go_at_call 18; (with_reducible refine (J2.out _).mono ?_); rintro e w1 ⟨rfl, hg1⟩) | (go_at_call 16; (with_reducible refine (J3.out _).mono ?_); rintro e w1 ⟨rfl, hg1⟩) | (go_at_call 18; (with_reducible refine (J4.out _).mono ?_); rintro e w1 ⟨rfl, hg1⟩) | (go_at_call 16; (with_reducible refine (I1.out _).mono ?_); rintro e w1 ⟨rfl, hg1⟩) | (go_at_call 11; (with_reducible refine (I2.out _).mono ?_); rintro e w1 ⟨rfl, hg1⟩) | (go_at_call 18; (with_reducible refine (I3.out _).mono ?_); rintro e w1 ⟨rfl, hg1⟩) | (go_at_call 18; (with_reducible refine (I4.out _).mono ?_); rintro e w1 ⟨rfl, hg1⟩) | (go_at_call 20; (with_reducible refine (I5.out _).mono ?_); rintro e w1 ⟨rfl, hg1⟩) | (go_at_call 20; (with_reducible refine (I6.out _).mono ?_); rintro e w1 ⟨rfl, hg1⟩) | (go_at_call 13; (with_reducible refine (class_any _ _ (by assumption)).mono ?_); rintro e w' ⟨rfl, rfl⟩) | (go_at_call 15; (with_reducible refine (sure_any _).mono ?_); rintro e w1 ⟨rfl, hg1⟩) | (go_at_call 20; (with_reducible refine (sqrt_any _ _).mono ?_); rintro e w1 ⟨rfl, hg1⟩))
        go_ret
        refine ⟨rfl, New.grown ?_⟩
        repeat (first | assumption | refine New.trans ?_ (by assumption))
      · have mz : mneg x 0 = true := by unfold mneg; rw [hs, sz]; rfl
        have mf : mneg x 9218868437227405312 = true := by unfold mneg; rw [hs, sf]; rfl
        have mf' : mneg 9218868437227405312 x = true := by unfold mneg; rw [hs, sf]; rfl
        have J2 := Lib.hid (show ∀ W, Calls Try.prog 18 #[.int .u64 x, .int .u64 0] W fun e w' => e = .returned (.int .u64 18442240474082181120) ∧ New W w' from fun W => (div_any x 0 W).mono fun e w' hh => ⟨by rw [hh.1, show opv (Ieee.double.div x 0) = 18442240474082181120 from by rw [div_special x 0 hx uz hn' (Or.inr (Or.inr cz)), if_neg (by omega), if_pos (Or.inr cz), mz]; rfl]; rfl, hh.2⟩)
        have J3 := Lib.hid (show ∀ W, Calls Try.prog 16 #[.int .u64 x, .int .u64 9218868437227405312] W fun e w' => e = .returned (.int .u64 18442240474082181120) ∧ New W w' from fun W => (mul_any x 9218868437227405312 W).mono fun e w' hh => ⟨by rw [hh.1, show opv (Ieee.double.mul x 9218868437227405312) = 18442240474082181120 from by rw [mul_comm' x 9218868437227405312, mul_inf 9218868437227405312 x uf hx hn cf, if_neg (by omega), mf']; rfl]; rfl, hh.2⟩)
        have J4 := Lib.hid (show ∀ W, Calls Try.prog 18 #[.int .u64 x, .int .u64 9218868437227405312] W fun e w' => e = .returned (.int .u64 9223372036854775808) ∧ New W w' from fun W => (div_any x 9218868437227405312 W).mono fun e w' hh => ⟨by rw [hh.1, show opv (Ieee.double.div x 9218868437227405312) = 9223372036854775808 from by rw [div_special x 9218868437227405312 hx uf hn'' (Or.inr (Or.inl cf)), if_neg (by omega), if_neg (by omega), mf]; rfl]; rfl, hh.2⟩)
        rw [hs] at shr SE
        have q : (((opv (Ieee.double.sqrt x) : Nat) : Int) == 9221120237041090560) = true := by rw [SE.2 rfl]; rfl
        clear h hn hn' hn'' fx m0 SE hs mz mf mf' uf cz cf sz sf
        go_enter Try.func8, Try.ntmps8
        go_wp2_with (first | (go_at_call 9; (with_reducible refine (J1.out _).mono ?_); rintro e w1 ⟨rfl, hg1⟩) | (go_at_call 18; (with_reducible refine (J2.out _).mono ?_); rintro e w1 ⟨rfl, hg1⟩) | (go_at_call 16; (with_reducible refine (J3.out _).mono ?_); rintro e w1 ⟨rfl, hg1⟩) | (go_at_call 18; (with_reducible refine (J4.out _).mono ?_); rintro e w1 ⟨rfl, hg1⟩) | (go_at_call 16; (with_reducible refine (I1.out _).mono ?_); rintro e w1 ⟨rfl, hg1⟩) | (go_at_call 11; (with_reducible refine (I2.out _).mono ?_); rintro e w1 ⟨rfl, hg1⟩) | (go_at_call 18; (with_reducible refine (I3.out _).mono ?_); rintro e w1 ⟨rfl, hg1⟩) | (go_at_call 18; (with_reducible refine (I4.out _).mono ?_); rintro e w1 ⟨rfl, hg1⟩) | (go_at_call 20; (with_reducible refine (I5.out _).mono ?_); rintro e w1 ⟨rfl, hg1⟩) | (go_at_call 20; (with_reducible refine (I6.out _).mono ?_); rintro e w1 ⟨rfl, hg1⟩) | (go_at_call 13; (with_reducible refine (class_any _ _ (by assumption)).mono ?_); rintro e w' ⟨rfl, rfl⟩) | (go_at_call 15; (with_reducible refine (sure_any _).mono ?_); rintro e w1 ⟨rfl, hg1⟩) | (go_at_call 20; (with_reducible refine (sqrt_any _ _).mono ?_); rintro e w1 ⟨rfl, hg1⟩))
        go_ret
        refine ⟨rfl, New.grown ?_⟩
        repeat (first | assumption | refine New.trans ?_ (by assumption))
  · have uz : U 9223372036854775808 := by unfold U; omega
    have uf : U 18442240474082181120 := by unfold U; omega
    have cz : cls 9223372036854775808 = 0 := by decide
    have cf : cls 18442240474082181120 = 3 := by decide
    have sz : sgn 9223372036854775808 = true := by decide
    have sf : sgn 18442240474082181120 = true := by decide
    have I1 := Lib.hid (show ∀ W, Calls Try.prog 16 #[.int .u64 9223372036854775808, .int .u64 18442240474082181120] W fun e w' => e = .returned (.int .u64 9221120237041090560) ∧ New W w' from fun W => (mul_any 9223372036854775808 18442240474082181120 W).mono fun e w' hh => ⟨by rw [hh.1, show opv (Ieee.double.mul 9223372036854775808 18442240474082181120) = 9221120237041090560 from by decide +kernel]; rfl, hh.2⟩)
    have I2 := Lib.hid (show ∀ W, Calls Try.prog 11 #[.int .u64 18442240474082181120, .int .u64 18442240474082181120] W fun e w' => e = .returned (.int .u64 9221120237041090560) ∧ New W w' from fun W => (sub_any 18442240474082181120 18442240474082181120 W).mono fun e w' hh => ⟨by rw [hh.1, show opv (Ieee.double.sub 18442240474082181120 18442240474082181120) = 9221120237041090560 from by decide +kernel]; rfl, hh.2⟩)
    have I3 := Lib.hid (show ∀ W, Calls Try.prog 18 #[.int .u64 9223372036854775808, .int .u64 9223372036854775808] W fun e w' => e = .returned (.int .u64 9221120237041090560) ∧ New W w' from fun W => (div_any 9223372036854775808 9223372036854775808 W).mono fun e w' hh => ⟨by rw [hh.1, show opv (Ieee.double.div 9223372036854775808 9223372036854775808) = 9221120237041090560 from by decide +kernel]; rfl, hh.2⟩)
    have I4 := Lib.hid (show ∀ W, Calls Try.prog 18 #[.int .u64 18442240474082181120, .int .u64 18442240474082181120] W fun e w' => e = .returned (.int .u64 9221120237041090560) ∧ New W w' from fun W => (div_any 18442240474082181120 18442240474082181120 W).mono fun e w' hh => ⟨by rw [hh.1, show opv (Ieee.double.div 18442240474082181120 18442240474082181120) = 9221120237041090560 from by decide +kernel]; rfl, hh.2⟩)
    have I5 := Lib.hid (show ∀ W, Calls Try.prog 20 #[.int .u64 9223372036854775808] W fun e w' => e = .returned (.int .u64 9223372036854775808) ∧ New W w' from fun W => (sqrt_any 9223372036854775808 W).mono fun e w' hh => ⟨by rw [hh.1, show opv (Ieee.double.sqrt 9223372036854775808) = 9223372036854775808 from by decide +kernel]; rfl, hh.2⟩)
    have I6 := Lib.hid (show ∀ W, Calls Try.prog 20 #[.int .u64 18442240474082181120] W fun e w' => e = .returned (.int .u64 9221120237041090560) ∧ New W w' from fun W => (sqrt_any 18442240474082181120 W).mono fun e w' hh => ⟨by rw [hh.1, show opv (Ieee.double.sqrt 18442240474082181120) = 9221120237041090560 from by decide +kernel]; rfl, hh.2⟩)
    rcases (show cls x = 4 ∨ cls x = 3 ∨ cls x = 0 ∨ (cls x ≠ 4 ∧ cls x ≠ 3 ∧ cls x ≠ 0) by omega) with h | h | h | h
    · have k4 : (cls x == 4) = true := by simp; omega
      have k3 : (cls x == 3) = false := by simp; omega
      have k0 : (cls x == 0) = false := by simp; omega
      clear h uf cz cf sz sf shr
      go_enter Try.func8, Try.ntmps8
      go_wp2_with (first | (go_at_call 16; (with_reducible refine (I1.out _).mono ?_); rintro e w1 ⟨rfl, hg1⟩) | (go_at_call 11; (with_reducible refine (I2.out _).mono ?_); rintro e w1 ⟨rfl, hg1⟩) | (go_at_call 18; (with_reducible refine (I3.out _).mono ?_); rintro e w1 ⟨rfl, hg1⟩) | (go_at_call 18; (with_reducible refine (I4.out _).mono ?_); rintro e w1 ⟨rfl, hg1⟩) | (go_at_call 20; (with_reducible refine (I5.out _).mono ?_); rintro e w1 ⟨rfl, hg1⟩) | (go_at_call 20; (with_reducible refine (I6.out _).mono ?_); rintro e w1 ⟨rfl, hg1⟩) | (go_at_call 13; (with_reducible refine (class_any _ _ (by assumption)).mono ?_); rintro e w' ⟨rfl, rfl⟩) | (go_at_call 15; (with_reducible refine (sure_any _).mono ?_); rintro e w1 ⟨rfl, hg1⟩))
      go_ret
      refine ⟨rfl, New.grown ?_⟩
      repeat (first | assumption | refine New.trans ?_ (by assumption))
    · have k4 : (cls x == 4) = false := by simp; omega
      have k3 : (cls x == 3) = true := by simp; omega
      have k0 : (cls x == 0) = false := by simp; omega
      clear h uf cz cf sz sf shr
      go_enter Try.func8, Try.ntmps8
      go_wp2_with (first | (go_at_call 16; (with_reducible refine (I1.out _).mono ?_); rintro e w1 ⟨rfl, hg1⟩) | (go_at_call 11; (with_reducible refine (I2.out _).mono ?_); rintro e w1 ⟨rfl, hg1⟩) | (go_at_call 18; (with_reducible refine (I3.out _).mono ?_); rintro e w1 ⟨rfl, hg1⟩) | (go_at_call 18; (with_reducible refine (I4.out _).mono ?_); rintro e w1 ⟨rfl, hg1⟩) | (go_at_call 20; (with_reducible refine (I5.out _).mono ?_); rintro e w1 ⟨rfl, hg1⟩) | (go_at_call 20; (with_reducible refine (I6.out _).mono ?_); rintro e w1 ⟨rfl, hg1⟩) | (go_at_call 13; (with_reducible refine (class_any _ _ (by assumption)).mono ?_); rintro e w' ⟨rfl, rfl⟩) | (go_at_call 15; (with_reducible refine (sure_any _).mono ?_); rintro e w1 ⟨rfl, hg1⟩))
      go_ret
      refine ⟨rfl, New.grown ?_⟩
      repeat (first | assumption | refine New.trans ?_ (by assumption))
    · have k4 : (cls x == 4) = false := by simp; omega
      have k3 : (cls x == 3) = false := by simp; omega
      have k0 : (cls x == 0) = true := by simp; omega
      have fx := (fin_cls x).2 ⟨by omega, by omega⟩
      have hn : nn 18442240474082181120 x = false := by unfold nn; rw [cf, h]; rfl
      have J1 := Lib.hid (show ∀ W, Calls Try.prog 9 #[.int .u64 x, .int .u64 18442240474082181120] W fun e w' => e = .returned (.int .u64 18442240474082181120) ∧ New W w' from fun W => (add_any x 18442240474082181120 W).mono fun e w' hh => ⟨by rw [hh.1, show opv (Ieee.double.add x 18442240474082181120) = 18442240474082181120 from by rw [add_comm' x 18442240474082181120, add_inf 18442240474082181120 x uf hx hn cf, if_neg (by omega)]]; rfl, hh.2⟩)
      have J2 := Lib.hid (show ∀ W, Calls Try.prog 22 #[.int .u64 x, .int .u64 9223372036854775808] W fun e w' => e = .returned (.int .i64 0) ∧ W = w' from fun W => (cmp_any x 9223372036854775808 W hx uz).mono fun e w' hh => ⟨by rw [hh.1, show cmpv x 9223372036854775808 = 0 from by unfold cmpv; rw [show nn x 9223372036854775808 = false from by unfold nn; rw [cz, h]; rfl, if_neg Bool.false_ne_true, show zz x 9223372036854775808 = true from by unfold zz; rw [cz, h]; rfl, if_pos rfl]], hh.2⟩)
      clear h hn fx uf cz cf sz sf shr
      go_enter Try.func8, Try.ntmps8
      go_wp2_with (first | (go_at_call 9; (with_reducible refine (J1.out _).mono ?_); rintro e w1 ⟨rfl, hg1⟩) | (go_at_call 22; (with_reducible refine (J2.out _).mono ?_); rintro e w' ⟨rfl, rfl⟩) | (go_at_call 16; (with_reducible refine (I1.out _).mono ?_); rintro e w1 ⟨rfl, hg1⟩) | (go_at_call 11; (with_reducible refine (I2.out _).mono ?_); rintro e w1 ⟨rfl, hg1⟩) | (go_at_call 18; (with_reducible refine (I3.out _).mono ?_); rintro e w1 ⟨rfl, hg1⟩) | (go_at_call 18; (with_reducible refine (I4.out _).mono ?_); rintro e w1 ⟨rfl, hg1⟩) | (go_at_call 20; (with_reducible refine (I5.out _).mono ?_); rintro e w1 ⟨rfl, hg1⟩) | (go_at_call 20; (with_reducible refine (I6.out _).mono ?_); rintro e w1 ⟨rfl, hg1⟩) | (go_at_call 13; (with_reducible refine (class_any _ _ (by assumption)).mono ?_); rintro e w' ⟨rfl, rfl⟩) | (go_at_call 15; (with_reducible refine (sure_any _).mono ?_); rintro e w1 ⟨rfl, hg1⟩))
      go_ret
      refine ⟨rfl, New.grown ?_⟩
      repeat (first | assumption | refine New.trans ?_ (by assumption))
    · have k4 : (cls x == 4) = false := by simp; omega
      have k3 : (cls x == 3) = false := by simp; omega
      have k0 : (cls x == 0) = false := by simp; omega
      have fx := (fin_cls x).2 ⟨by omega, by omega⟩
      have m0 : 0 < mg x := by have := cls0_mg x; omega
      have hn : nn 18442240474082181120 x = false := by unfold nn; rw [cf]; simp; omega
      have hn' : nn x 9223372036854775808 = false := by unfold nn; rw [cz]; simp; omega
      have hn'' : nn x 18442240474082181120 = false := by unfold nn; rw [cf]; simp; omega
      have SE := sqrt_empty x hx fx m0
      have J1 := Lib.hid (show ∀ W, Calls Try.prog 9 #[.int .u64 x, .int .u64 18442240474082181120] W fun e w' => e = .returned (.int .u64 18442240474082181120) ∧ New W w' from fun W => (add_any x 18442240474082181120 W).mono fun e w' hh => ⟨by rw [hh.1, show opv (Ieee.double.add x 18442240474082181120) = 18442240474082181120 from by rw [add_comm' x 18442240474082181120, add_inf 18442240474082181120 x uf hx hn cf, if_neg (by omega)]]; rfl, hh.2⟩)
      cases hs : sgn x
      · have mz : mneg x 9223372036854775808 = true := by unfold mneg; rw [hs, sz]; rfl
        have mf : mneg x 18442240474082181120 = true := by unfold mneg; rw [hs, sf]; rfl
        have mf' : mneg 18442240474082181120 x = true := by unfold mneg; rw [hs, sf]; rfl
        have J2 := Lib.hid (show ∀ W, Calls Try.prog 18 #[.int .u64 x, .int .u64 9223372036854775808] W fun e w' => e = .returned (.int .u64 18442240474082181120) ∧ New W w' from fun W => (div_any x 9223372036854775808 W).mono fun e w' hh => ⟨by rw [hh.1, show opv (Ieee.double.div x 9223372036854775808) = 18442240474082181120 from by rw [div_special x 9223372036854775808 hx uz hn' (Or.inr (Or.inr cz)), if_neg (by omega), if_pos (Or.inr cz), mz]; rfl]; rfl, hh.2⟩)
        have J3 := Lib.hid (show ∀ W, Calls Try.prog 16 #[.int .u64 x, .int .u64 18442240474082181120] W fun e w' => e = .returned (.int .u64 18442240474082181120) ∧ New W w' from fun W => (mul_any x 18442240474082181120 W).mono fun e w' hh => ⟨by rw [hh.1, show opv (Ieee.double.mul x 18442240474082181120) = 18442240474082181120 from by rw [mul_comm' x 18442240474082181120, mul_inf 18442240474082181120 x uf hx hn cf, if_neg (by omega), mf']; rfl]; rfl, hh.2⟩)
        have J4 := Lib.hid (show ∀ W, Calls Try.prog 18 #[.int .u64 x, .int .u64 18442240474082181120] W fun e w' => e = .returned (.int .u64 9223372036854775808) ∧ New W w' from fun W => (div_any x 18442240474082181120 W).mono fun e w' hh => ⟨by rw [hh.1, show opv (Ieee.double.div x 18442240474082181120) = 9223372036854775808 from by rw [div_special x 18442240474082181120 hx uf hn'' (Or.inr (Or.inl cf)), if_neg (by omega), if_neg (by omega), mf]; rfl]; rfl, hh.2⟩)
        rw [hs] at shr SE
        have q : (((opv (Ieee.double.sqrt x) : Nat) : Int) == 9221120237041090560) = false := by
          have h9 : opv (Ieee.double.sqrt x) ≠ 9221120237041090560 := fun k => by have := SE.1 k; cases this
          simp; omega
        clear h hn hn' hn'' fx m0 SE hs mz mf mf' uf cz cf sz sf
        go_enter Try.func8, Try.ntmps8
        go_wp2_with (first | (go_at_call 9; (with_reducible refine (J1.out _).mono ?_); rintro e w1 ⟨rfl, hg1⟩) | (go_at_call 18; (with_reducible refine (J2.out _).mono ?_); rintro e w1 ⟨rfl, hg1⟩) | (go_at_call 16; (with_reducible refine (J3.out _).mono ?_); rintro e w1 ⟨rfl, hg1⟩) | (go_at_call 18; (with_reducible refine (J4.out _).mono ?_); rintro e w1 ⟨rfl, hg1⟩) | (go_at_call 16; (with_reducible refine (I1.out _).mono ?_); rintro e w1 ⟨rfl, hg1⟩) | (go_at_call 11; (with_reducible refine (I2.out _).mono ?_); rintro e w1 ⟨rfl, hg1⟩) | (go_at_call 18; (with_reducible refine (I3.out _).mono ?_); rintro e w1 ⟨rfl, hg1⟩) | (go_at_call 18; (with_reducible refine (I4.out _).mono ?_); rintro e w1 ⟨rfl, hg1⟩) | (go_at_call 20; (with_reducible refine (I5.out _).mono ?_); rintro e w1 ⟨rfl, hg1⟩) | (go_at_call 20; (with_reducible refine (I6.out _).mono ?_); rintro e w1 ⟨rfl, hg1⟩) | (go_at_call 13; (with_reducible refine (class_any _ _ (by assumption)).mono ?_); rintro e w' ⟨rfl, rfl⟩) | (go_at_call 15; (with_reducible refine (sure_any _).mono ?_); rintro e w1 ⟨rfl, hg1⟩) | (go_at_call 20; (with_reducible refine (sqrt_any _ _).mono ?_); rintro e w1 ⟨rfl, hg1⟩))
        go_ret
        refine ⟨rfl, New.grown ?_⟩
        repeat (first | assumption | refine New.trans ?_ (by assumption))
      · have mz : mneg x 9223372036854775808 = false := by unfold mneg; rw [hs, sz]; rfl
        have mf : mneg x 18442240474082181120 = false := by unfold mneg; rw [hs, sf]; rfl
        have mf' : mneg 18442240474082181120 x = false := by unfold mneg; rw [hs, sf]; rfl
        have J2 := Lib.hid (show ∀ W, Calls Try.prog 18 #[.int .u64 x, .int .u64 9223372036854775808] W fun e w' => e = .returned (.int .u64 9218868437227405312) ∧ New W w' from fun W => (div_any x 9223372036854775808 W).mono fun e w' hh => ⟨by rw [hh.1, show opv (Ieee.double.div x 9223372036854775808) = 9218868437227405312 from by rw [div_special x 9223372036854775808 hx uz hn' (Or.inr (Or.inr cz)), if_neg (by omega), if_pos (Or.inr cz), mz]; rfl]; rfl, hh.2⟩)
        have J3 := Lib.hid (show ∀ W, Calls Try.prog 16 #[.int .u64 x, .int .u64 18442240474082181120] W fun e w' => e = .returned (.int .u64 9218868437227405312) ∧ New W w' from fun W => (mul_any x 18442240474082181120 W).mono fun e w' hh => ⟨by rw [hh.1, show opv (Ieee.double.mul x 18442240474082181120) = 9218868437227405312 from by rw [mul_comm' x 18442240474082181120, mul_inf 18442240474082181120 x uf hx hn cf, if_neg (by omega), mf']; rfl]; rfl, hh.2⟩)
        have J4 := Lib.hid (show ∀ W, Calls Try.prog 18 #[.int .u64 x, .int .u64 18442240474082181120] W fun e w' => e = .returned (.int .u64 0) ∧ New W w' from fun W => (div_any x 18442240474082181120 W).mono fun e w' hh => ⟨by rw [hh.1, show opv (Ieee.double.div x 18442240474082181120) = 0 from by rw [div_special x 18442240474082181120 hx uf hn'' (Or.inr (Or.inl cf)), if_neg (by omega), if_neg (by omega), mf]; rfl]; rfl, hh.2⟩)
        rw [hs] at shr SE
        have q : (((opv (Ieee.double.sqrt x) : Nat) : Int) == 9221120237041090560) = true := by rw [SE.2 rfl]; rfl
        clear h hn hn' hn'' fx m0 SE hs mz mf mf' uf cz cf sz sf
        go_enter Try.func8, Try.ntmps8
        go_wp2_with (first | (go_at_call 9; (with_reducible refine (J1.out _).mono ?_); rintro e w1 ⟨rfl, hg1⟩) | (go_at_call 18; (with_reducible refine (J2.out _).mono ?_); rintro e w1 ⟨rfl, hg1⟩) | (go_at_call 16; (with_reducible refine (J3.out _).mono ?_); rintro e w1 ⟨rfl, hg1⟩) | (go_at_call 18; (with_reducible refine (J4.out _).mono ?_); rintro e w1 ⟨rfl, hg1⟩) | (go_at_call 16; (with_reducible refine (I1.out _).mono ?_); rintro e w1 ⟨rfl, hg1⟩) | (go_at_call 11; (with_reducible refine (I2.out _).mono ?_); rintro e w1 ⟨rfl, hg1⟩) | (go_at_call 18; (with_reducible refine (I3.out _).mono ?_); rintro e w1 ⟨rfl, hg1⟩) | (go_at_call 18; (with_reducible refine (I4.out _).mono ?_); rintro e w1 ⟨rfl, hg1⟩) | (go_at_call 20; (with_reducible refine (I5.out _).mono ?_); rintro e w1 ⟨rfl, hg1⟩) | (go_at_call 20; (with_reducible refine (I6.out _).mono ?_); rintro e w1 ⟨rfl, hg1⟩) | (go_at_call 13; (with_reducible refine (class_any _ _ (by assumption)).mono ?_); rintro e w' ⟨rfl, rfl⟩) | (go_at_call 15; (with_reducible refine (sure_any _).mono ?_); rintro e w1 ⟨rfl, hg1⟩) | (go_at_call 20; (with_reducible refine (sqrt_any _ _).mono ?_); rintro e w1 ⟨rfl, hg1⟩))
        go_ret
        refine ⟨rfl, New.grown ?_⟩
        repeat (first | assumption | refine New.trans ?_ (by assumption))

/-! ### THE ROW's STEP: WRITTEN OUT: LEAVE IT -/
set_option maxRecDepth 100000 in
theorem lifted (os : Os) (started : os.Started) (H : Type) (enc : TypeId × Value → H) :
    ReturnsInHanded {} Try.checked os 8 .any (Rows.softEdgesSpec.pre6 enc Try.prog Try.f8 Rows.softEdgesRow.domain false) (Rows.softEdgesSpec.post enc Try.prog Try.f8 false true false false) := by
  refine returnsInHanded_of_change (C := Try.checked) own started (by kernel_rfl) Try.func8
    (ChangeSpec.witness6 (enc := enc) (C := Try.checked) false ⟨#[], #[.int .u64 0, .bool false], []⟩ 8 (by kernel_rfl) (by kernel_rfl) (by kernel_rfl) (by kernel_rfl)) ?_
  intro W base args ds gs before hval0 hW hcnd _
  have hval : ∀ (j : Nat) t v, Try.f8.params[j]? = some t → args[j]? = some v → Value.okWide Try.prog W .any base t v := hval0
  have hW' := hW
  obtain ⟨p, q, hA0, hV, rfl, hfz, hnd⟩ := hW
  have hA : DataW.TrodAll enc Try.prog W 0 (fun _ => true) true Try.f8.params.toList args.toList ds p := hA0
  rw [Try.params8] at hA hval
  obtain ⟨v0, vs0, d0, ds0, p0, q0, hargs, rfl, rfl, h0, r0⟩ := trodAll_cons hA
  obtain ⟨v1, vs1, d1, ds1, p1, q1, rfl, rfl, rfl, h1, r1⟩ := trodAll_cons r0
  obtain ⟨rfl, rfl, rfl⟩ := trodAll_nil r1
  obtain rfl : args = #[v0, v1] := by cases args; simp_all
  obtain ⟨rfl, rfl⟩ := trodVars_none hV
  obtain ⟨a0, rfl, rfl, rfl, w0⟩ := open_int Try.underlying22 (hval 0 22 v0 rfl rfl) h0
  obtain ⟨a1, rfl, rfl, rfl⟩ := open_bool Try.underlying4 (hval 1 4 v1 rfl rfl) h1
  clear hA0 hval0
  simp only [List.append_nil] at hW'
  refine (walk a0 a1 w0 W).mono fun e W' ⟨he, hg⟩ => ?_
  subst he
  exact ⟨_, rfl, post_of_same (pa := []) (pv := []) hW' (fun _ _ _ => (trodAll_cons_mk (shut_bool Try.underlying4 _) trodAll_mk0)) (fun sp _ => (trodAll_cons_mk (shut_int Try.underlying22 w0) (trodAll_cons_mk (shut_bool Try.underlying4 _) trodAll_mk0))) (fun _ _ => rfl) rfl
    (hg.frame _) hg.2.1 (ok_one (by kernel_rfl) rfl (okWide_bool_mk Try.underlying4 _))⟩

theorem over : Rows.softEdgesRow.holds Try.pinned (OpenSpec.ofChange Rows.softEdgesSpec) :=
  OpenClaim.holds_of_wide 8 Try.f8 rfl rfl rfl rfl rfl rfl rfl ⟨rfl, rfl, rfl, rfl, rfl⟩ rfl rfl rfl rfl rfl (by kernel_rfl) Try.func8 (by kernel_rfl)
    (of_decide_eq_true (by kernel_rfl)) (by unfold Func.isWrapper; first | (rw [if_pos (by decide +kernel)]; kernel_rfl) | (rw [if_neg (by decide +kernel)]; exact ⟨rfl, rfl⟩))
    (fun os started H enc _ => lifted os started H enc)

/-- ████ THE STATEMENT ████ -/
theorem proved : Rows.SoftEdgesSaid :=
  over
#print axioms proved
end Go.Proofs.Ytfmlflngdleobaa.softEdges
