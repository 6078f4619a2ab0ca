/- What instructions reckon with floats, and how two are held against each other, of the package and of the document: contracts, for any operation and any bits, in any world; behind each there are only new blocks. -/
import Derived.Test.YtgkonjgalpchoaaDoorSoftO
import Derived.Test.YtgkonjgalpchoaaDoorAlA
namespace Go.Proofs.YtgkonjgalpchoaaDoor
open Go.RowKit
set_option linter.unusedVariables false
set_option maxRecDepth 100000
/-- the answer of an operation of two floats; 0 where there is none -/
def flv (op : Int) (x y : Nat) : Nat :=
  if op = 33 then opv (Ieee.double.add x y) else if op = 34 then opv (Ieee.double.sub x y) else if op = 35 then opv (Ieee.double.mul x y) else if op = 36 then opv (Ieee.double.div x y) else if op = 37 then opv (Ieee.double.sqrt y) else 0
def fle (op : Int) : Int := if 33 ≤ op ∧ op ≤ 37 then 0 else 22
/-- the flags of what came of a comparison -/
def fcv (c old : Int) : Int := flg (c == 0) 1 + flg (c == -1) 2 + flg (c == 2) 4 + old / 16 % 2 * 16
theorem float_cases (op : Int) : op = 33 ∨ op = 34 ∨ op = 35 ∨ op = 36 ∨ op = 37 ∨ (op ≠ 33 ∧ op ≠ 34 ∧ op ≠ 35 ∧ op ≠ 36 ∧ op ≠ 37) := by omega
theorem flv_no (op : Int) (x y : Nat) (h : op ≠ 33 ∧ op ≠ 34 ∧ op ≠ 35 ∧ op ≠ 36 ∧ op ≠ 37) : flv op x y = 0 ∧ fle op = 22 := by
  obtain ⟨h1, h2, h3, h4, h5⟩ := h
  unfold flv fle
  rw [if_neg h1, if_neg h2, if_neg h3, if_neg h4, if_neg h5, if_neg (by omega)]
  exact ⟨rfl, rfl⟩
theorem float_any (op : Int) (x y : Nat) (w : World) :
    Calls Tryd.prog 13 #[.int .i64 op, .int .u64 x, .int .u64 y] w fun e w' => e = .returned (.tuple #[.int .u64 (flv op x y), erN (fle op)]) ∧ New w w' := by
  rcases float_cases op with rfl | rfl | rfl | rfl | rfl | h
  · rw [show erN (fle 33) = .nilIface from rfl]
    have q : ∀ w, Calls Tryd.prog 31 #[.int .u64 x, .int .u64 y] w fun e w' => e = .returned (.int .u64 (flv 33 x y)) ∧ New w w' := fun w => so_add_any x y w
    generalize flv 33 x y = V at *
    go_enter Tryd.func13, Tryd.ntmps13
    go_wp2_with (go_at_call 31; (with_reducible refine (q _).mono ?_); rintro e w' ⟨rfl, n1⟩)
    go_ret2
    exact ⟨rfl, n1⟩
  · rw [show erN (fle 34) = .nilIface from rfl]
    have q : ∀ w, Calls Tryd.prog 32 #[.int .u64 x, .int .u64 y] w fun e w' => e = .returned (.int .u64 (flv 34 x y)) ∧ New w w' := fun w => so_sub_any x y w
    generalize flv 34 x y = V at *
    go_enter Tryd.func13, Tryd.ntmps13
    go_wp2_with (go_at_call 32; (with_reducible refine (q _).mono ?_); rintro e w' ⟨rfl, n1⟩)
    go_ret2
    exact ⟨rfl, n1⟩
  · rw [show erN (fle 35) = .nilIface from rfl]
    have q : ∀ w, Calls Tryd.prog 33 #[.int .u64 x, .int .u64 y] w fun e w' => e = .returned (.int .u64 (flv 35 x y)) ∧ New w w' := fun w => so_mul_any x y w
    generalize flv 35 x y = V at *
    go_enter Tryd.func13, Tryd.ntmps13
    go_wp2_with (go_at_call 33; (with_reducible refine (q _).mono ?_); rintro e w' ⟨rfl, n1⟩)
    go_ret2
    exact ⟨rfl, n1⟩
  · rw [show erN (fle 36) = .nilIface from rfl]
    have q : ∀ w, Calls Tryd.prog 34 #[.int .u64 x, .int .u64 y] w fun e w' => e = .returned (.int .u64 (flv 36 x y)) ∧ New w w' := fun w => div_any x y w
    generalize flv 36 x y = V at *
    go_enter Tryd.func13, Tryd.ntmps13
    go_wp2_with (go_at_call 34; (with_reducible refine (q _).mono ?_); rintro e w' ⟨rfl, n1⟩)
    go_ret2
    exact ⟨rfl, n1⟩
  · rw [show erN (fle 37) = .nilIface from rfl]
    have q : ∀ w, Calls Tryd.prog 35 #[.int .u64 y] w fun e w' => e = .returned (.int .u64 (flv 37 x y)) ∧ New w w' := fun w => sqrt_any y w
    generalize flv 37 x y = V at *
    go_enter Tryd.func13, Tryd.ntmps13
    go_wp2_with (go_at_call 35; (with_reducible refine (q _).mono ?_); rintro e w' ⟨rfl, n1⟩)
    go_ret2
    exact ⟨rfl, n1⟩
  · obtain ⟨e1, e2⟩ := flv_no op x y h
    rw [e1, e2, show erN 22 = .iface 61 (.int .i64 22) from rfl]
    obtain ⟨o1, o2, o3, o4, o5⟩ := h
    clear e1 e2
    go_enter Tryd.func13, Tryd.ntmps13
    go_wp2
    go_ret2
    exact ⟨rfl, New.refl _⟩
theorem rfloat_any (op : Int) (x y : Nat) (hx : U x) (hy : U y) (w : World) :
    Calls Tryd.prog 14 #[.int .i64 op, .int .u64 x, .int .u64 y] w fun e w' => e = .returned (.tuple #[.int .u64 (flv op x y), .int .i64 (fle op)]) ∧ New w w' := by
  rcases float_cases op with rfl | rfl | rfl | rfl | rfl | h
  · rw [show fle 33 = 0 from rfl]
    have q : ∀ w, Calls Tryd.prog 36 #[.int .u64 x, .int .u64 y] w fun e w' => e = .returned (.int .u64 (flv 33 x y)) ∧ New w w' := fun w => so_radd_any x y w hx hy
    generalize flv 33 x y = V at *
    go_enter Tryd.func14, Tryd.ntmps14
    go_wp2_with (go_at_call 36; (with_reducible refine (q _).mono ?_); rintro e w' ⟨rfl, n1⟩)
    go_ret2
    exact ⟨rfl, n1⟩
  · rw [show fle 34 = 0 from rfl]
    by_cases c : cls y = 4
    · have k : (cls y == 4) = true := by simpa using c
      have e : flv 34 x y = 9221120237041090560 := by
        show opv (Ieee.double.sub x y) = Emp
        rw [sub_add x y hx hy, minusv, if_pos c]
        exact add_nan x y hx hy (by unfold nn; simp [c])
      rw [e]
      clear c e
      go_enter Tryd.func14, Tryd.ntmps14
      go_wp2_with (go_at_call 37; (with_reducible refine (rclass_any _ _ hy).mono ?_); rintro e w' ⟨rfl, rfl⟩)
      go_ret2
      exact ⟨rfl, New.refl _⟩
    · have k : (cls y == 4) = false := by simpa using c
      have q : ∀ w, Calls Tryd.prog 36 #[.int .u64 x, .int .u64 (flip y)] w fun e w' => e = .returned (.int .u64 (flv 34 x y)) ∧ New w w' := fun w => by
        have h := so_radd_any x (flip y) w hx (flip_u y hy)
        have e : flv 34 x y = opv (Ieee.double.add x (flip y)) := by
          show opv (Ieee.double.sub x y) = _
          rw [sub_add x y hx hy, minusv, if_neg c]
        rw [e]; exact h
      generalize flv 34 x y = V at *
      clear c
      go_enter Tryd.func14, Tryd.ntmps14
      go_wp2_with (first | (go_at_call 37; (with_reducible refine (rclass_any _ _ hy).mono ?_); rintro e w' ⟨rfl, rfl⟩) | (go_at_call 38; (with_reducible refine (rminus_any _ _ hy).mono ?_); rintro e w' ⟨rfl, rfl⟩) | (go_at_call 36; (with_reducible refine (q _).mono ?_); rintro e w' ⟨rfl, n1⟩))
      go_ret2
      exact ⟨rfl, n1⟩
  · rw [show fle 35 = 0 from rfl]
    have q : ∀ w, Calls Tryd.prog 39 #[.int .u64 x, .int .u64 y] w fun e w' => e = .returned (.int .u64 (flv 35 x y)) ∧ New w w' := fun w => so_rmul_any x y w hx hy
    generalize flv 35 x y = V at *
    go_enter Tryd.func14, Tryd.ntmps14
    go_wp2_with (go_at_call 39; (with_reducible refine (q _).mono ?_); rintro e w' ⟨rfl, n1⟩)
    go_ret2
    exact ⟨rfl, n1⟩
  · rw [show fle 36 = 0 from rfl]
    have q : ∀ w, Calls Tryd.prog 40 #[.int .u64 x, .int .u64 y] w fun e w' => e = .returned (.int .u64 (flv 36 x y)) ∧ New w w' := fun w => rdiv_any x y w hx hy
    generalize flv 36 x y = V at *
    go_enter Tryd.func14, Tryd.ntmps14
    go_wp2_with (go_at_call 40; (with_reducible refine (q _).mono ?_); rintro e w' ⟨rfl, n1⟩)
    go_ret2
    exact ⟨rfl, n1⟩
  · rw [show fle 37 = 0 from rfl]
    have q : ∀ w, Calls Tryd.prog 41 #[.int .u64 y] w fun e w' => e = .returned (.int .u64 (flv 37 x y)) ∧ New w w' := fun w => rsqrt_any y w hy
    generalize flv 37 x y = V at *
    go_enter Tryd.func14, Tryd.ntmps14
    go_wp2_with (go_at_call 41; (with_reducible refine (q _).mono ?_); rintro e w' ⟨rfl, n1⟩)
    go_ret2
    exact ⟨rfl, n1⟩
  · obtain ⟨e1, e2⟩ := flv_no op x y h
    rw [e1, e2]
    obtain ⟨o1, o2, o3, o4, o5⟩ := h
    clear e1 e2
    go_enter Tryd.func14, Tryd.ntmps14
    go_wp2
    go_ret2
    exact ⟨rfl, New.refl _⟩
theorem fcmp_any (x y : Nat) (old : Int) (w : World) (hx : U x) (hy : U y) (k0 : 0 ≤ old) (k1 : old ≤ 4294967295) :
    Calls Tryd.prog 15 #[.int .u64 x, .int .u64 y, .int .u32 old] w fun e w' => e = .returned (.int .u32 (fcv (cmpv x y) old)) ∧ New w w' := by
  have E1 := Lib.hid (and16 old k0 k1)
  have q := fun w => cmp_any x y w hx hy
  generalize cmpv x y = c at *
  go_enter Tryd.func15, Tryd.ntmps15
  go_wp2_with (first | (go_at_call 42; (with_reducible refine (q _).mono ?_); rintro e w' ⟨rfl, rfl⟩) | (go_at_call 43; (with_reducible refine (flag_any _ _ _).mono ?_); rintro e w' ⟨rfl, rfl⟩))
  go_ret
  refine ⟨ret_int ?_, New.refl _⟩
  unfold fcv
  rw [E1.out, ← or_three _ _ _ _ (step_two old)]
theorem cmpv_four (x y : Nat) : cmpv x y = -1 ∨ cmpv x y = 0 ∨ cmpv x y = 1 ∨ cmpv x y = 2 := by
  unfold cmpv
  have := ord_bd x y
  split
  · omega
  · split <;> omega
theorem rfcmp_any (x y : Nat) (old : Int) (w : World) (hx : U x) (hy : U y) (k0 : 0 ≤ old) (k1 : old ≤ 4294967295) :
    Calls Tryd.prog 16 #[.int .u64 x, .int .u64 y, .int .u32 old] w fun e w' => e = .returned (.int .u32 (fcv (cmpv x y) old)) ∧ New w w' := by
  have q := fun w => rcmp_any x y w hx hy
  have h4 := cmpv_four x y
  generalize cmpv x y = c at *
  have E := Lib.hid (show fcv c old = flg (c == 0) 1 + flg (c == -1) 2 + flg (c == 2) 4 + old / 16 % 2 * 16 from rfl)
  obtain ⟨s, hs⟩ : ∃ s, old / 16 % 2 = s := ⟨_, rfl⟩
  have s0 : 0 ≤ s := by omega
  have s1 : s ≤ 1 := by omega
  rcases h4 with rfl | rfl | rfl | rfl
  all_goals
    go_enter Tryd.func16, Tryd.ntmps16
    go_wp2_with (go_at_call 44; (with_reducible refine (q _).mono ?_); rintro e w' ⟨rfl, rfl⟩)
    go_ret
    exact ⟨ret_int (by rw [E.out, hs]; simp [flg]; try omega), New.refl _⟩
end Go.Proofs.YtgkonjgalpchoaaDoor
