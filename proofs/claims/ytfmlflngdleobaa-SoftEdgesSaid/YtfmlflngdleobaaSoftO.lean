/- What every statement of the layer of binary64 numbers goes through: differences by sums, the one closed test that each ends with, whole numbers held within 32 bits; contracts, in any world, behind which there are new blocks. -/
import Derived.Test.YtfmlflngdleobaaSoftV
import Derived.Test.YtfmlflngdleobaaSoftY
import Derived.Test.YtfmlflngdleobaaSoftZ
import Derived.Test.YtfmlflngdleobaaSoftI
namespace Go.Proofs.Ytfmlflngdleobaa
open Go.RowKit
set_option linter.unusedVariables false
theorem New.grown {a b : World} (h : New a b) : Grown a b := h.2
theorem u64_bd {a : Int} (h : (Lit.int .u64 a).wf = true) : ∃ n : Nat, a = n ∧ U n := by
  simp only [Lit.wf, Bool.and_eq_true, decide_eq_true_eq] at h
  have h1 : IntKind.u64.min = 0 := rfl
  have h2 : IntKind.u64.max = 18446744073709551615 := rfl
  obtain ⟨n, rfl⟩ := Int.eq_ofNat_of_zero_le (show 0 ≤ a by omega)
  exact ⟨n, rfl, by unfold U; omega⟩
theorem u32_bd {a : Int} (h : (Lit.int .u32 a).wf = true) : ∃ n : Nat, a = n ∧ n ≤ 4294967295 := by
  simp only [Lit.wf, Bool.and_eq_true, decide_eq_true_eq] at h
  have h1 : IntKind.u32.min = 0 := rfl
  have h2 : IntKind.u32.max = 4294967295 := rfl
  obtain ⟨n, rfl⟩ := Int.eq_ofNat_of_zero_le (show 0 ≤ a by omega)
  exact ⟨n, rfl, by omega⟩
def minusv (b : Nat) : Nat := if cls b = 4 then b else flip b
theorem flip_parts (b : Nat) (h : U b) : ex (flip b) = ex b ∧ fr (flip b) = fr b ∧ sgn (flip b) = !sgn b := by
  unfold flip ex fr sgn; unfold U at h
  by_cases c : 9223372036854775808 ≤ b
  · simp only [c, decide_true, if_true]
    refine ⟨by omega, by omega, by simp; omega⟩
  · simp only [c, decide_false, Bool.false_eq_true, if_false]
    refine ⟨by omega, by omega, by simp⟩
theorem minusv_u (b : Nat) (h : U b) : U (minusv b) := by unfold minusv; split; exact h; exact flip_u b h
theorem read_flip (b : Nat) (h : U b) : Ieee.double.read (flip b) = (Ieee.double.read b).opposite := by
  obtain ⟨e1, e2, e3⟩ := flip_parts b h
  rw [read_eq b h, read_eq (flip b) (flip_u b h)]
  unfold fin mg pl
  rw [e1, e2, e3]
  by_cases c : ex b = 2047
  · by_cases d : fr b = 0 <;> simp [c, d, Ieee.Datum.opposite]
  · simp [c, Ieee.Datum.opposite]
theorem sub_add (a b : Nat) (ha : U a) (hb : U b) : opv (Ieee.double.sub a b) = opv (Ieee.double.add a (minusv b)) := by
  unfold minusv
  by_cases c : cls b = 4
  · rw [if_pos c, add_nan a b ha hb (by unfold nn; simp [c])]
    unfold Ieee.Format.sub
    rw [read_nan b hb c]; cases Ieee.double.read a <;> rfl
  · rw [if_neg c]
    unfold Ieee.Format.sub Ieee.Format.add
    rw [read_flip b hb]
theorem lminus_any (b : Nat) (w : World) (h : U b) : Calls Try.prog 12 #[.int .u64 b] w fun e w' => e = .returned (.int .u64 (minusv b)) ∧ w = w' := by
  by_cases c : cls b = 4
  · have k : (cls b == 4) = true := by simpa using c
    have E := Lib.hid (show minusv b = b from by unfold minusv; rw [if_pos c])
    clear c
    go_enter Try.func12, Try.ntmps12
    go_wp2_with (first | (go_at_call 14; (with_reducible refine (rclass_any _ _ (by assumption)).mono ?_); rintro e w' ⟨rfl, rfl⟩) | (go_at_call 43; (with_reducible refine (rminus_any _ _ (by assumption)).mono ?_); rintro e w' ⟨rfl, rfl⟩))
    go_ret
    exact ⟨ret_int (by rw [E.out]), rfl⟩
  · have k : (cls b == 4) = false := by simpa using c
    have E := Lib.hid (show minusv b = flip b from by unfold minusv; rw [if_neg c])
    clear c
    go_enter Try.func12, Try.ntmps12
    go_wp2_with (first | (go_at_call 14; (with_reducible refine (rclass_any _ _ (by assumption)).mono ?_); rintro e w' ⟨rfl, rfl⟩) | (go_at_call 43; (with_reducible refine (rminus_any _ _ (by assumption)).mono ?_); rintro e w' ⟨rfl, rfl⟩))
    go_ret
    exact ⟨ret_int (by rw [E.out]), rfl⟩
def one : Nat := 4607182418800017408
def dbl : Nat := 4611686018427387904
theorem k_add : opv (Ieee.double.add one one) = 4611686018427387904 := by decide +kernel
theorem k_div : opv (Ieee.double.div one 0) = 9218868437227405312 := by decide +kernel
theorem k_sqrt : opv (Ieee.double.sqrt 9223372036854775808) = 9223372036854775808 := by decide +kernel
theorem k_cmp : cmpv one dbl = -1 := by decide +kernel
theorem k_toi : toi dbl = 2 := by decide +kernel
theorem k_ofi : ofi (sg32 4294967295) = 13830554455654793216 := by decide +kernel
theorem k_cls : cls 1 = 1 := by decide +kernel
theorem k_mul : opv (Ieee.double.mul dbl dbl) = 4616189618054758400 := by decide +kernel
theorem sure_any (w : World) : Calls Try.prog 15 #[] w fun e w' => e = .returned (.bool true) ∧ New w w' := by
  have s1 : ∀ w, Calls Try.prog 9 #[.int .u64 4607182418800017408, .int .u64 4607182418800017408] w fun e w' => e = .returned (.int .u64 4611686018427387904) ∧ New w w' :=
    fun w => (add_any one one w).mono fun e w' ⟨h1, h2⟩ => ⟨by rw [h1, k_add]; rfl, h2⟩
  have s2 : ∀ w, Calls Try.prog 18 #[.int .u64 4607182418800017408, .int .u64 0] w fun e w' => e = .returned (.int .u64 9218868437227405312) ∧ New w w' :=
    fun w => (div_any one 0 w).mono fun e w' ⟨h1, h2⟩ => ⟨by rw [h1, k_div]; rfl, h2⟩
  have s3 : ∀ w, Calls Try.prog 20 #[.int .u64 9223372036854775808] w fun e w' => e = .returned (.int .u64 9223372036854775808) ∧ New w w' :=
    fun w => (sqrt_any 9223372036854775808 w).mono fun e w' ⟨h1, h2⟩ => ⟨by rw [h1, k_sqrt]; rfl, h2⟩
  have s4 : ∀ w, Calls Try.prog 22 #[.int .u64 4607182418800017408, .int .u64 4611686018427387904] w fun e w' => e = .returned (.int .i64 (-1)) ∧ w = w' :=
    fun w => (cmp_any one dbl w (by unfold U one; omega) (by unfold U dbl; omega)).mono fun e w' ⟨h1, h2⟩ => ⟨by rw [h1, k_cmp], h2⟩
  have s5 : ∀ w, Calls Try.prog 32 #[.int .u64 4611686018427387904] w fun e w' => e = .returned (.int .u32 2) ∧ w = w' :=
    fun w => (toint_any dbl w (by unfold U dbl; omega)).mono fun e w' ⟨h1, h2⟩ => ⟨by rw [h1, k_toi]; rfl, h2⟩
  have s6 : ∀ w, Calls Try.prog 30 #[.int .u32 4294967295] w fun e w' => e = .returned (.int .u64 13830554455654793216) ∧ w = w' :=
    fun w => (fromint_any 4294967295 w (by omega)).mono fun e w' ⟨h1, h2⟩ => ⟨by rw [h1, k_ofi]; rfl, h2⟩
  have s7 : ∀ w, Calls Try.prog 13 #[.int .u64 1] w fun e w' => e = .returned (.int .i64 1) ∧ w = w' :=
    fun w => (class_any 1 w (by unfold U; omega)).mono fun e w' ⟨h1, h2⟩ => ⟨by rw [h1, k_cls], h2⟩
  have s8 : ∀ w, Calls Try.prog 16 #[.int .u64 4611686018427387904, .int .u64 4611686018427387904] w fun e w' => e = .returned (.int .u64 4616189618054758400) ∧ New w w' :=
    fun w => (mul_any dbl dbl w).mono fun e w' ⟨h1, h2⟩ => ⟨by rw [h1, k_mul]; rfl, h2⟩
  have S1 := Lib.hid s1
  have S2 := Lib.hid s2
  have S3 := Lib.hid s3
  have S4 := Lib.hid s4
  have S5 := Lib.hid s5
  have S6 := Lib.hid s6
  have S7 := Lib.hid s7
  have S8 := Lib.hid s8
  clear s1 s2 s3 s4 s5 s6 s7 s8
  go_enter Try.func15, Try.ntmps15
  go_wp2_with (first | (go_at_call 9; (with_reducible refine (S1.out _).mono ?_); rintro e w1 ⟨rfl, hg1⟩) | (go_at_call 18; (with_reducible refine (S2.out _).mono ?_); rintro e w2 ⟨rfl, hg2⟩) | (go_at_call 20; (with_reducible refine (S3.out _).mono ?_); rintro e w3 ⟨rfl, hg3⟩) | (go_at_call 22; (with_reducible refine (S4.out _).mono ?_); rintro e w' ⟨rfl, rfl⟩) | (go_at_call 32; (with_reducible refine (S5.out _).mono ?_); rintro e w' ⟨rfl, rfl⟩) | (go_at_call 30; (with_reducible refine (S6.out _).mono ?_); rintro e w' ⟨rfl, rfl⟩) | (go_at_call 13; (with_reducible refine (S7.out _).mono ?_); rintro e w' ⟨rfl, rfl⟩) | (go_at_call 16; (with_reducible refine (S8.out _).mono ?_); rintro e w8 ⟨rfl, hg8⟩))
  go_ret
  exact ⟨rfl, (((hg1.trans hg2).trans hg3).trans hg8)⟩
end Go.Proofs.Ytfmlflngdleobaa
