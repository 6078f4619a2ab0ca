/- What the small functions on binary64 numbers by their bits do, of the package and of the document's own answers: kinds, signs, places in the row of all bits. Contracts, for all bits, in any world, which stays. -/
import Derived.Test.YtfmlflngdleobaaProg
import Derived.Test.YtfmlflngdleobaaSoftMath
import Derived.RowKit
import Derived.IntWalk
import Derived.WalkKit
import Derived.ProofKit
import Derived.OpenShut
import Derived.Handy
import Derived.Outline
import Derived.WalkLawsBesides
import Derived.WalkSpells
import Derived.Lib.Hide
import Derived.Deep.Draws
import Derived.Laws.BitsAllLaws
namespace Go.Proofs.Ytfmlflngdleobaa
open Go.RowKit
set_option linter.unusedVariables false
theorem ret_int {k : IntKind} {a b : Int} (h : a = b) : Ending.returned (.int k a) = .returned (.int k b) := by rw [h]
theorem ret_bool {a b : Bool} (h : a = b) : Ending.returned (.bool a) = .returned (.bool b) := by rw [h]
theorem rclass_any (a : Nat) (w : World) (h : U a) :
    Calls Try.prog 14 #[.int .u64 a] w fun e w' => e = .returned (.int .i64 (cls a)) ∧ w = w' := by
  unfold U at h
  by_cases c1 : a / 4503599627370496 % 2048 = 2047
  · have k1 : ((a : Int) / 4503599627370496 % 2048 == 2047) = true := by simp; omega
    by_cases c2 : a % 4503599627370496 = 0
    · have E := Lib.hid (show cls a = 3 from by unfold cls ex fr; rw [if_pos c1, if_pos c2])
      have k2 : ((a : Int) % 4503599627370496 == 0) = true := by simp; omega
      clear c1 c2
      go_enter Try.func14, Try.ntmps14
      go_wp2
      go_ret
      exact ⟨ret_int (by rw [E.out]), rfl⟩
    · have E := Lib.hid (show cls a = 4 from by unfold cls ex fr; rw [if_pos c1, if_neg c2])
      have k2 : ((a : Int) % 4503599627370496 == 0) = false := by simp; omega
      clear c1 c2
      go_enter Try.func14, Try.ntmps14
      go_wp2
      go_ret
      exact ⟨ret_int (by rw [E.out]), rfl⟩
  · have k1 : ((a : Int) / 4503599627370496 % 2048 == 2047) = false := by simp; omega
    by_cases c3 : a / 4503599627370496 % 2048 = 0
    · have k3 : ((a : Int) / 4503599627370496 % 2048 == 0) = true := by simp; omega
      by_cases c2 : a % 4503599627370496 = 0
      · have E := Lib.hid (show cls a = 0 from by unfold cls ex fr; rw [if_neg c1, if_pos c3, if_pos c2])
        have k2 : ((a : Int) % 4503599627370496 == 0) = true := by simp; omega
        clear c1 c2 c3
        go_enter Try.func14, Try.ntmps14
        go_wp2
        go_ret
        exact ⟨ret_int (by rw [E.out]), rfl⟩
      · have E := Lib.hid (show cls a = 1 from by unfold cls ex fr; rw [if_neg c1, if_pos c3, if_neg c2])
        have k2 : ((a : Int) % 4503599627370496 == 0) = false := by simp; omega
        clear c1 c2 c3
        go_enter Try.func14, Try.ntmps14
        go_wp2
        go_ret
        exact ⟨ret_int (by rw [E.out]), rfl⟩
    · have k3 : ((a : Int) / 4503599627370496 % 2048 == 0) = false := by simp; omega
      have E := Lib.hid (show cls a = 2 from by unfold cls ex fr; rw [if_neg c1, if_neg c3])
      clear c1 c3
      go_enter Try.func14, Try.ntmps14
      go_wp2
      go_ret
      exact ⟨ret_int (by rw [E.out]), rfl⟩
theorem land_ex (a : Nat) (h : U a) : bits .and .u64 (a : Int) 9218868437227405312 = ((ex a * 4503599627370496 : Nat) : Int) := by
  unfold U at h
  rw [← and_ex, ← u64_and_nat a 9218868437227405312 (by omega) (by omega)]; rfl
theorem land_fr (a : Nat) (h : U a) : bits .and .u64 (a : Int) 4503599627370495 = ((fr a : Nat) : Int) := by
  unfold U at h
  rw [← and_fr, ← u64_and_nat a 4503599627370495 (by omega) (by omega)]; rfl
theorem land_sign (a : Nat) (h : U a) : bits .and .u64 (a : Int) 9223372036854775808 = ((if sgn a then 9223372036854775808 else 0 : Nat) : Int) := by
  rw [← and_sign a h]
  unfold U at h
  rw [← u64_and_nat a 9223372036854775808 (by omega) (by omega)]; rfl
theorem lor_sign (a : Nat) (h : a < 9223372036854775808) : bits .or .u64 (a : Int) 9223372036854775808 = ((a + 9223372036854775808 : Nat) : Int) := by
  rw [← or_sign a h, ← u64_or_nat a 9223372036854775808 (by omega) (by omega)]; rfl
theorem lnot_all (a : Nat) (h : U a) : bits .xor .u64 IntKind.u64.max (a : Int) = ((18446744073709551615 - a : Nat) : Int) := by
  rw [← xor_all a h]
  unfold U at h
  rw [← u64_xor_nat 18446744073709551615 a (by omega) (by omega)]; rfl
theorem class_any (a : Nat) (w : World) (h : U a) :
    Calls Try.prog 13 #[.int .u64 a] w fun e w' => e = .returned (.int .i64 (cls a)) ∧ w = w' := by
  have h1 := ex_lt a
  have h2 := fr_lt a
  have b1 := land_ex a h
  have b2 := land_fr a h
  by_cases c1 : ex a = 2047
  · have k1 : (bits .and .u64 (a : Int) 9218868437227405312 == 9218868437227405312) = true := by rw [b1, c1]; rfl
    by_cases c2 : fr a = 0
    · have k2 : (bits .and .u64 (a : Int) 4503599627370495 != 0) = false := by rw [b2, c2]; rfl
      have E := Lib.hid (show cls a = 3 from by unfold cls; rw [if_pos c1, if_pos c2])
      clear c1 c2 b1 b2
      go_enter Try.func13, Try.ntmps13
      go_wp2
      go_ret
      exact ⟨ret_int (by rw [E.out]), rfl⟩
    · have k2 : (bits .and .u64 (a : Int) 4503599627370495 != 0) = true := by rw [b2]; simp; omega
      have E := Lib.hid (show cls a = 4 from by unfold cls; rw [if_pos c1, if_neg c2])
      clear c1 c2 b1 b2
      go_enter Try.func13, Try.ntmps13
      go_wp2
      go_ret
      exact ⟨ret_int (by rw [E.out]), rfl⟩
  · have k1 : (bits .and .u64 (a : Int) 9218868437227405312 == 9218868437227405312) = false := by rw [b1]; simp; omega
    by_cases c3 : ex a = 0
    · have k3 : (bits .and .u64 (a : Int) 9218868437227405312 != 0) = false := by rw [b1, c3]; rfl
      by_cases c2 : fr a = 0
      · have k2 : (bits .and .u64 (a : Int) 4503599627370495 != 0) = false := by rw [b2, c2]; rfl
        have E := Lib.hid (show cls a = 0 from by unfold cls; rw [if_neg c1, if_pos c3, if_pos c2])
        clear c1 c2 c3 b1 b2
        go_enter Try.func13, Try.ntmps13
        go_wp2
        go_ret
        exact ⟨ret_int (by rw [E.out]), rfl⟩
      · have k2 : (bits .and .u64 (a : Int) 4503599627370495 != 0) = true := by rw [b2]; simp; omega
        have E := Lib.hid (show cls a = 1 from by unfold cls; rw [if_neg c1, if_pos c3, if_neg c2])
        clear c1 c2 c3 b1 b2
        go_enter Try.func13, Try.ntmps13
        go_wp2
        go_ret
        exact ⟨ret_int (by rw [E.out]), rfl⟩
    · have k3 : (bits .and .u64 (a : Int) 9218868437227405312 != 0) = true := by rw [b1]; simp; omega
      have E := Lib.hid (show cls a = 2 from by unfold cls; rw [if_neg c1, if_neg c3])
      clear c1 c3 b1 b2
      go_enter Try.func13, Try.ntmps13
      go_wp2
      go_ret
      exact ⟨ret_int (by rw [E.out]), rfl⟩
theorem rneg_any (a : Nat) (w : World) : Calls Try.prog 39 #[.int .u64 a] w fun e w' => e = .returned (.bool (sgn a)) ∧ w = w' := by
  go_enter Try.func39, Try.ntmps39
  go_wp2
  go_ret
  exact ⟨ret_bool (by unfold sgn; rw [Bool.eq_iff_iff]; simp; omega), rfl⟩
theorem rsigned_any (n : Bool) (x : Int) (w : World) (h0 : 0 ≤ x) (h : x < 9223372036854775808) : Calls Try.prog 41 #[.bool n, .int .u64 x] w fun e w' => e = .returned (.int .u64 (wdI n x)) ∧ w = w' := by
  cases n
  · go_enter Try.func41, Try.ntmps41
    go_wp2
    go_ret
    exact ⟨rfl, rfl⟩
  · go_enter Try.func41, Try.ntmps41
    go_wp2
    go_ret
    exact ⟨rfl, rfl⟩
theorem rminus_any (a : Nat) (w : World) (h : U a) : Calls Try.prog 43 #[.int .u64 a] w fun e w' => e = .returned (.int .u64 (flip a)) ∧ w = w' := by
  unfold U at h
  cases c : sgn a
  · have E := Lib.hid (show flip a = a + 9223372036854775808 from by unfold flip; simp [c])
    have hb : a < 9223372036854775808 := by unfold sgn at c; simpa using c
    have C := Lib.hid c
    clear c
    go_enter Try.func43, Try.ntmps43
    go_wp2_with (go_at_call 39; (with_reducible refine (rneg_any _ _).mono ?_); rintro e w' ⟨rfl, rfl⟩; rw [C.out])
    go_ret
    exact ⟨ret_int (by rw [E.out]; omega), rfl⟩
  · have E := Lib.hid (show flip a = a - 9223372036854775808 from by unfold flip; simp [c])
    have hb : 9223372036854775808 ≤ a := by unfold sgn at c; simpa using c
    have C := Lib.hid c
    clear c
    go_enter Try.func43, Try.ntmps43
    go_wp2_with (go_at_call 39; (with_reducible refine (rneg_any _ _).mono ?_); rintro e w' ⟨rfl, rfl⟩; rw [C.out])
    go_ret
    exact ⟨ret_int (by rw [E.out]; omega), rfl⟩
theorem rkey_any (a : Nat) (w : World) (h : U a) : Calls Try.prog 48 #[.int .u64 a] w fun e w' => e = .returned (.int .u64 (key a)) ∧ w = w' := by
  unfold U at h
  cases c : sgn a
  · have E := Lib.hid (show key a = a + 9223372036854775808 from by unfold key; simp [c])
    have hb : a < 9223372036854775808 := by unfold sgn at c; simpa using c
    have C := Lib.hid c
    clear c
    go_enter Try.func48, Try.ntmps48
    go_wp2_with (go_at_call 39; (with_reducible refine (rneg_any _ _).mono ?_); rintro e w' ⟨rfl, rfl⟩; rw [C.out])
    go_ret
    exact ⟨ret_int (by rw [E.out]; omega), rfl⟩
  · have E := Lib.hid (show key a = 18446744073709551615 - a from by unfold key; simp [c])
    have hb : 9223372036854775808 ≤ a := by unfold sgn at c; simpa using c
    have C := Lib.hid c
    clear c
    go_enter Try.func48, Try.ntmps48
    go_wp2_with (go_at_call 39; (with_reducible refine (rneg_any _ _).mono ?_); rintro e w' ⟨rfl, rfl⟩; rw [C.out])
    go_ret
    exact ⟨ret_int (by rw [E.out]; omega), rfl⟩
theorem place_any (a : Nat) (w : World) (h : U a) : Calls Try.prog 47 #[.int .u64 a] w fun e w' => e = .returned (.int .u64 (key a)) ∧ w = w' := by
  have b1 := land_sign a h
  unfold U at h
  cases c : sgn a
  · have E := Lib.hid (show key a = a + 9223372036854775808 from by unfold key; simp [c])
    have hb : a < 9223372036854775808 := by unfold sgn at c; simpa using c
    have b2 := lor_sign a hb
    have k : (bits .and .u64 (a : Int) 9223372036854775808 != 0) = false := by rw [b1, c]; rfl
    have B := Lib.hid b2
    clear c b1 b2
    go_enter Try.func47, Try.ntmps47
    go_wp2
    go_ret
    exact ⟨ret_int (by rw [E.out, B.out]), rfl⟩
  · have E := Lib.hid (show key a = 18446744073709551615 - a from by unfold key; simp [c])
    have hb : 9223372036854775808 ≤ a := by unfold sgn at c; simpa using c
    have k : (bits .and .u64 (a : Int) 9223372036854775808 != 0) = true := by rw [b1, c]; rfl
    have B := Lib.hid (lnot_all a h)
    clear c b1
    go_enter Try.func47, Try.ntmps47
    go_wp2
    go_ret
    exact ⟨ret_int (by rw [E.out, B.out]), rfl⟩
theorem cisnan_any (a : Nat) (w : World) : Calls Try.prog 54 #[.int .u64 a] w fun e w' => e = .returned (.bool false) ∧ w = w' := by
  go_enter Try.func54, Try.ntmps54
  go_wp2
  go_ret
  exact ⟨rfl, rfl⟩
theorem ccompare_any (a b : Nat) (w : World) : Calls Try.prog 46 #[.int .u64 a, .int .u64 b] w fun e w' => e = .returned (.int .i64 (ncmp a b)) ∧ w = w' := by
  rcases Nat.lt_trichotomy a b with c | c | c
  · have E := Lib.hid (show ncmp a b = -1 from by unfold ncmp; rw [if_pos c])
    have k1 : decide (a < b) = true := by simpa using c
    clear c
    go_enter Try.func46, Try.ntmps46
    go_wp2_with (go_at_call 54; (with_reducible refine (cisnan_any _ _).mono ?_); rintro e w' ⟨rfl, rfl⟩)
    go_ret
    exact ⟨ret_int (by rw [E.out]), rfl⟩
  · subst c
    have k1 : decide (a < a) = false := by simp
    go_enter Try.func46, Try.ntmps46
    go_wp2_with (go_at_call 54; (with_reducible refine (cisnan_any _ _).mono ?_); rintro e w' ⟨rfl, rfl⟩)
    go_ret
    exact ⟨ret_int (by unfold ncmp; simp), rfl⟩
  · have E := Lib.hid (show ncmp a b = 1 from by unfold ncmp; rw [if_neg (by omega), if_pos c])
    have k1 : decide (a < b) = false := by simp; omega
    have k2 : decide (b < a) = true := by simpa using c
    clear c
    go_enter Try.func46, Try.ntmps46
    go_wp2_with (go_at_call 54; (with_reducible refine (cisnan_any _ _).mono ?_); rintro e w' ⟨rfl, rfl⟩)
    go_ret
    exact ⟨ret_int (by rw [E.out]), rfl⟩
theorem order_any (a b : Nat) (w : World) (h : U a) (h' : U b) : Calls Try.prog 28 #[.int .u64 a, .int .u64 b] w fun e w' => e = .returned (.int .i64 (ord a b)) ∧ w = w' := by
  go_enter Try.func28, Try.ntmps28
  go_wp2_with (first | (go_at_call 47; (with_reducible refine (place_any _ _ (by assumption)).mono ?_); rintro e w' ⟨rfl, rfl⟩) | (go_at_call 46; (with_reducible refine (ccompare_any _ _ _).mono ?_); rintro e w' ⟨rfl, rfl⟩))
  go_ret
  exact ⟨rfl, rfl⟩
theorem rorder_any (a b : Nat) (w : World) (h : U a) (h' : U b) : Calls Try.prog 29 #[.int .u64 a, .int .u64 b] w fun e w' => e = .returned (.int .i64 (ord a b)) ∧ w = w' := by
  rcases ord_cases a b with ⟨e, c⟩ | ⟨e, c⟩ | ⟨e, c⟩
  · have E := Lib.hid e
    have k1 : decide (key a < key b) = true := by simpa using c
    clear c e
    go_enter Try.func29, Try.ntmps29
    go_wp2_with (go_at_call 48; (with_reducible refine (rkey_any _ _ (by assumption)).mono ?_); rintro e w' ⟨rfl, rfl⟩)
    go_ret
    exact ⟨ret_int (by rw [E.out]), rfl⟩
  · have E := Lib.hid e
    have k1 : decide (key a < key b) = false := by simp; omega
    have k2 : decide (key b < key a) = true := by simpa using c
    clear c e
    go_enter Try.func29, Try.ntmps29
    go_wp2_with (go_at_call 48; (with_reducible refine (rkey_any _ _ (by assumption)).mono ?_); rintro e w' ⟨rfl, rfl⟩)
    go_ret
    exact ⟨ret_int (by rw [E.out]), rfl⟩
  · have E := Lib.hid e
    have k1 : decide (key a < key b) = false := by simp; omega
    have k2 : decide (key b < key a) = false := by simp; omega
    clear c e
    go_enter Try.func29, Try.ntmps29
    go_wp2_with (go_at_call 48; (with_reducible refine (rkey_any _ _ (by assumption)).mono ?_); rintro e w' ⟨rfl, rfl⟩)
    go_ret
    exact ⟨ret_int (by rw [E.out]), rfl⟩
theorem rnone_any (a b : Nat) (w : World) (h : U a) (h' : U b) : Calls Try.prog 38 #[.int .u64 a, .int .u64 b] w fun e w' => e = .returned (.bool (nn a b)) ∧ w = w' := by
  cases c : (cls a == 4)
  · have E := Lib.hid (show nn a b = (cls b == 4) from by unfold nn; rw [c]; rfl)
    go_enter Try.func38, Try.ntmps38
    go_wp2_with (go_at_call 14; (with_reducible refine (rclass_any _ _ (by assumption)).mono ?_); rintro e w' ⟨rfl, rfl⟩)
    go_ret
    exact ⟨ret_bool (by rw [E.out]), rfl⟩
  · have E := Lib.hid (show nn a b = true from by unfold nn; rw [c]; rfl)
    go_enter Try.func38, Try.ntmps38
    go_wp2_with (go_at_call 14; (with_reducible refine (rclass_any _ _ (by assumption)).mono ?_); rintro e w' ⟨rfl, rfl⟩)
    go_ret
    exact ⟨ret_bool (by rw [E.out]), rfl⟩
theorem rcmp_any (a b : Nat) (w : World) (h : U a) (h' : U b) : Calls Try.prog 23 #[.int .u64 a, .int .u64 b] w fun e w' => e = .returned (.int .i64 (cmpv a b)) ∧ w = w' := by
  cases hn : nn a b with
  | true =>
    have E := Lib.hid (show cmpv a b = 2 from by unfold cmpv; rw [hn, if_pos rfl])
    go_enter Try.func23, Try.ntmps23
    go_wp2_with (go_at_call 38; (with_reducible refine (rnone_any _ _ _ (by assumption) (by assumption)).mono ?_); rintro e w' ⟨rfl, rfl⟩)
    go_ret
    exact ⟨ret_int (by rw [E.out]), rfl⟩
  | false =>
    cases h0 : (cls a == 0) with
    | false =>
      have E := Lib.hid (show cmpv a b = ord a b from by unfold cmpv zz; rw [hn, h0]; simp)
      go_enter Try.func23, Try.ntmps23
      go_wp2_with (first | (go_at_call 38; (with_reducible refine (rnone_any _ _ _ (by assumption) (by assumption)).mono ?_); rintro e w' ⟨rfl, rfl⟩) | (go_at_call 14; (with_reducible refine (rclass_any _ _ (by assumption)).mono ?_); rintro e w' ⟨rfl, rfl⟩) | (go_at_call 29; (with_reducible refine (rorder_any _ _ _ (by assumption) (by assumption)).mono ?_); rintro e w' ⟨rfl, rfl⟩))
      go_ret
      exact ⟨ret_int (by rw [E.out]), rfl⟩
    | true =>
      cases h1 : (cls b == 0) with
      | false =>
        have E := Lib.hid (show cmpv a b = ord a b from by unfold cmpv zz; rw [hn, h0, h1]; simp)
        go_enter Try.func23, Try.ntmps23
        go_wp2_with (first | (go_at_call 38; (with_reducible refine (rnone_any _ _ _ (by assumption) (by assumption)).mono ?_); rintro e w' ⟨rfl, rfl⟩) | (go_at_call 14; (with_reducible refine (rclass_any _ _ (by assumption)).mono ?_); rintro e w' ⟨rfl, rfl⟩) | (go_at_call 29; (with_reducible refine (rorder_any _ _ _ (by assumption) (by assumption)).mono ?_); rintro e w' ⟨rfl, rfl⟩))
        go_ret
        exact ⟨ret_int (by rw [E.out]), rfl⟩
      | true =>
        have E := Lib.hid (show cmpv a b = 0 from by unfold cmpv zz; rw [hn, h0, h1]; simp)
        go_enter Try.func23, Try.ntmps23
        go_wp2_with (first | (go_at_call 38; (with_reducible refine (rnone_any _ _ _ (by assumption) (by assumption)).mono ?_); rintro e w' ⟨rfl, rfl⟩) | (go_at_call 14; (with_reducible refine (rclass_any _ _ (by assumption)).mono ?_); rintro e w' ⟨rfl, rfl⟩) | (go_at_call 29; (with_reducible refine (rorder_any _ _ _ (by assumption) (by assumption)).mono ?_); rintro e w' ⟨rfl, rfl⟩))
        go_ret
        exact ⟨ret_int (by rw [E.out]), rfl⟩
theorem rmin_any (a b : Nat) (w : World) (h : U a) (h' : U b) : Calls Try.prog 25 #[.int .u64 a, .int .u64 b] w fun e w' => e = .returned (.int .u64 (minv a b)) ∧ w = w' := by
  cases hn : nn a b with
  | true =>
    have E := Lib.hid (show minv a b = Emp from by unfold minv; rw [hn, if_pos rfl])
    go_enter Try.func25, Try.ntmps25
    go_wp2_with (go_at_call 38; (with_reducible refine (rnone_any _ _ _ (by assumption) (by assumption)).mono ?_); rintro e w' ⟨rfl, rfl⟩)
    go_ret
    exact ⟨ret_int (by rw [E.out]; rfl), rfl⟩
  | false =>
    by_cases c : ord a b ≤ 0
    · have E := Lib.hid (show minv a b = a from by unfold minv; rw [hn, if_neg Bool.false_ne_true, if_pos c])
      go_enter Try.func25, Try.ntmps25
      go_wp2_with (first | (go_at_call 38; (with_reducible refine (rnone_any _ _ _ (by assumption) (by assumption)).mono ?_); rintro e w' ⟨rfl, rfl⟩) | (go_at_call 29; (with_reducible refine (rorder_any _ _ _ (by assumption) (by assumption)).mono ?_); rintro e w' ⟨rfl, rfl⟩))
      go_ret
      exact ⟨ret_int (by rw [E.out]), rfl⟩
    · have E := Lib.hid (show minv a b = b from by unfold minv; rw [hn, if_neg Bool.false_ne_true, if_neg c])
      have k : decide (ord a b ≤ 0) = false := by simpa using c
      clear c
      go_enter Try.func25, Try.ntmps25
      go_wp2_with (first | (go_at_call 38; (with_reducible refine (rnone_any _ _ _ (by assumption) (by assumption)).mono ?_); rintro e w' ⟨rfl, rfl⟩) | (go_at_call 29; (with_reducible refine (rorder_any _ _ _ (by assumption) (by assumption)).mono ?_); rintro e w' ⟨rfl, rfl⟩))
      go_ret
      exact ⟨ret_int (by rw [E.out]), rfl⟩
theorem rmax_any (a b : Nat) (w : World) (h : U a) (h' : U b) : Calls Try.prog 27 #[.int .u64 a, .int .u64 b] w fun e w' => e = .returned (.int .u64 (maxv a b)) ∧ w = w' := by
  cases hn : nn a b with
  | true =>
    have E := Lib.hid (show maxv a b = Emp from by unfold maxv; rw [hn, if_pos rfl])
    go_enter Try.func27, Try.ntmps27
    go_wp2_with (go_at_call 38; (with_reducible refine (rnone_any _ _ _ (by assumption) (by assumption)).mono ?_); rintro e w' ⟨rfl, rfl⟩)
    go_ret
    exact ⟨ret_int (by rw [E.out]; rfl), rfl⟩
  | false =>
    by_cases c : 0 ≤ ord a b
    · have E := Lib.hid (show maxv a b = a from by unfold maxv; rw [hn, if_neg Bool.false_ne_true, if_pos c])
      go_enter Try.func27, Try.ntmps27
      go_wp2_with (first | (go_at_call 38; (with_reducible refine (rnone_any _ _ _ (by assumption) (by assumption)).mono ?_); rintro e w' ⟨rfl, rfl⟩) | (go_at_call 29; (with_reducible refine (rorder_any _ _ _ (by assumption) (by assumption)).mono ?_); rintro e w' ⟨rfl, rfl⟩))
      go_ret
      exact ⟨ret_int (by rw [E.out]), rfl⟩
    · have E := Lib.hid (show maxv a b = b from by unfold maxv; rw [hn, if_neg Bool.false_ne_true, if_neg c])
      have k : decide (0 ≤ ord a b) = false := by simpa using c
      clear c
      go_enter Try.func27, Try.ntmps27
      go_wp2_with (first | (go_at_call 38; (with_reducible refine (rnone_any _ _ _ (by assumption) (by assumption)).mono ?_); rintro e w' ⟨rfl, rfl⟩) | (go_at_call 29; (with_reducible refine (rorder_any _ _ _ (by assumption) (by assumption)).mono ?_); rintro e w' ⟨rfl, rfl⟩))
      go_ret
      exact ⟨ret_int (by rw [E.out]), rfl⟩
end Go.Proofs.Ytfmlflngdleobaa
