/- What instructions reckon with floats, and how two are held against each other, of the package and of the document: contracts, for any operation and any bits, in any world; behind each there are only new blocks. -/
import Derived.Test.YtgkonjgalpchoaaSoftO
import Derived.Test.YtgkonjgalpchoaaAlA
namespace Go.Proofs.Ytgkonjgalpchoaa
open Go.RowKit
set_option linter.unusedVariables false
set_option maxRecDepth 100000
/-- the answer of an operation of two floats; 0 where there is none -/
def flv (op : Int) (x y : Nat) : Nat :=
  if op = 33 then opv (Ieee.double.add x y) else if op = 34 then opv (Ieee.double.sub x y) else if op = 35 then opv (Ieee.double.mul x y) else if op = 36 then opv (Ieee.double.div x y) else if op = 37 then opv (Ieee.double.sqrt y) else 0
def fle (op : Int) : Int := if 33 ≤ op ∧ op ≤ 37 then 0 else 22
/-- the flags of what came of a comparison -/
def fcv (c old : Int) : Int := flg (c == 0) 1 + flg (c == -1) 2 + flg (c == 2) 4 + old / 16 % 2 * 16
theorem float_cases (op : Int) : op = 33 ∨ op = 34 ∨ op = 35 ∨ op = 36 ∨ op = 37 ∨ (op ≠ 33 ∧ op ≠ 34 ∧ op ≠ 35 ∧ op ≠ 36 ∧ op ≠ 37) := by omega
theorem flv_no (op : Int) (x y : Nat) (h : op ≠ 33 ∧ op ≠ 34 ∧ op ≠ 35 ∧ op ≠ 36 ∧ op ≠ 37) : flv op x y = 0 ∧ fle op = 22 := by
  obtain ⟨h1, h2, h3, h4, h5⟩ := h
  unfold flv fle
  rw [if_neg h1, if_neg h2, if_neg h3, if_neg h4, if_neg h5, if_neg (by omega)]
  exact ⟨rfl, rfl⟩
theorem float_any (op : Int) (x y : Nat) (w : World) :
    Calls Try.prog 13 #[.int .i64 op, .int .u64 x, .int .u64 y] w fun e w' => e = .returned (.tuple #[.int .u64 (flv op x y), erN (fle op)]) ∧ New w w' := by
  rcases float_cases op with rfl | rfl | rfl | rfl | rfl | h
  · rw [show erN (fle 33) = .nilIface from rfl]
    have q : ∀ w, Calls Try.prog 23 #[.int .u64 x, .int .u64 y] w fun e w' => e = .returned (.int .u64 (flv 33 x y)) ∧ New w w' := fun w => so_add_any x y w
    generalize flv 33 x y = V at *
    go_enter Try.func13, Try.ntmps13
    go_wp2_with (go_at_call 23; (with_reducible refine (q _).mono ?_); rintro e w' ⟨rfl, n1⟩)
    go_ret2
    exact ⟨rfl, n1⟩
  · rw [show erN (fle 34) = .nilIface from rfl]
    have q : ∀ w, Calls Try.prog 24 #[.int .u64 x, .int .u64 y] w fun e w' => e = .returned (.int .u64 (flv 34 x y)) ∧ New w w' := fun w => so_sub_any x y w
    generalize flv 34 x y = V at *
    go_enter Try.func13, Try.ntmps13
    go_wp2_with (go_at_call 24; (with_reducible refine (q _).mono ?_); rintro e w' ⟨rfl, n1⟩)
    go_ret2
    exact ⟨rfl, n1⟩
  · rw [show erN (fle 35) = .nilIface from rfl]
    have q : ∀ w, Calls Try.prog 25 #[.int .u64 x, .int .u64 y] w fun e w' => e = .returned (.int .u64 (flv 35 x y)) ∧ New w w' := fun w => so_mul_any x y w
    generalize flv 35 x y = V at *
    go_enter Try.func13, Try.ntmps13
    go_wp2_with (go_at_call 25; (with_reducible refine (q _).mono ?_); rintro e w' ⟨rfl, n1⟩)
    go_ret2
    exact ⟨rfl, n1⟩
  · rw [show erN (fle 36) = .nilIface from rfl]
    have q : ∀ w, Calls Try.prog 26 #[.int .u64 x, .int .u64 y] w fun e w' => e = .returned (.int .u64 (flv 36 x y)) ∧ New w w' := fun w => div_any x y w
    generalize flv 36 x y = V at *
    go_enter Try.func13, Try.ntmps13
    go_wp2_with (go_at_call 26; (with_reducible refine (q _).mono ?_); rintro e w' ⟨rfl, n1⟩)
    go_ret2
    exact ⟨rfl, n1⟩
  · rw [show erN (fle 37) = .nilIface from rfl]
    have q : ∀ w, Calls Try.prog 27 #[.int .u64 y] w fun e w' => e = .returned (.int .u64 (flv 37 x y)) ∧ New w w' := fun w => sqrt_any y w
    generalize flv 37 x y = V at *
    go_enter Try.func13, Try.ntmps13
    go_wp2_with (go_at_call 27; (with_reducible refine (q _).mono ?_); rintro e w' ⟨rfl, n1⟩)
    go_ret2
    exact ⟨rfl, n1⟩
  · obtain ⟨e1, e2⟩ := flv_no op x y h
    rw [e1, e2, show erN 22 = .iface 40 (.int .i64 22) from rfl]
    obtain ⟨o1, o2, o3, o4, o5⟩ := h
    clear e1 e2
    go_enter Try.func13, Try.ntmps13
    go_wp2
    go_ret2
    exact ⟨rfl, New.refl _⟩
theorem fcmp_any (x y : Nat) (old : Int) (w : World) (hx : U x) (hy : U y) (k0 : 0 ≤ old) (k1 : old ≤ 4294967295) :
    Calls Try.prog 14 #[.int .u64 x, .int .u64 y, .int .u32 old] w fun e w' => e = .returned (.int .u32 (fcv (cmpv x y) old)) ∧ New w w' := by
  have E1 := Lib.hid (and16 old k0 k1)
  have q := fun w => cmp_any x y w hx hy
  generalize cmpv x y = c at *
  go_enter Try.func14, Try.ntmps14
  go_wp2_with (first | (go_at_call 28; (with_reducible refine (q _).mono ?_); rintro e w' ⟨rfl, rfl⟩) | (go_at_call 18; (with_reducible refine (flag_any _ _ _).mono ?_); rintro e w' ⟨rfl, rfl⟩))
  go_ret
  refine ⟨ret_int ?_, New.refl _⟩
  unfold fcv
  rw [E1.out, ← or_three _ _ _ _ (step_two old)]
theorem cmpv_four (x y : Nat) : cmpv x y = -1 ∨ cmpv x y = 0 ∨ cmpv x y = 1 ∨ cmpv x y = 2 := by
  unfold cmpv
  have := ord_bd x y
  split
  · omega
  · split <;> omega
end Go.Proofs.Ytgkonjgalpchoaa
