/- What the small functions on binary64 numbers by their bits do, of the package and of the document's own answers: kinds, signs, places in the row of all bits. Contracts, for all bits, in any world, which stays. -/
import Derived.Test.YtgkonjgalpchoaaDoorBase
import Derived.Test.YtgkonjgalpchoaaDoorSoftMath
import Derived.RowKit
import Derived.IntWalk
import Derived.WalkKit
import Derived.ProofKit
import Derived.OpenShut
import Derived.Handy
import Derived.Outline
import Derived.WalkLawsBesides
import Derived.WalkSpells
import Derived.Lib.Hide
import Derived.Deep.Draws
import Derived.Laws.BitsAllLaws
namespace Go.Proofs.YtgkonjgalpchoaaDoor
open Go.RowKit
set_option linter.unusedVariables false
theorem rclass_any (a : Nat) (w : World) (h : U a) :
    Calls Tryd.prog 37 #[.int .u64 a] w fun e w' => e = .returned (.int .i64 (cls a)) ∧ w = w' := by
  unfold U at h
  by_cases c1 : a / 4503599627370496 % 2048 = 2047
  · have k1 : ((a : Int) / 4503599627370496 % 2048 == 2047) = true := by simp; omega
    by_cases c2 : a % 4503599627370496 = 0
    · have E := Lib.hid (show cls a = 3 from by unfold cls ex fr; rw [if_pos c1, if_pos c2])
      have k2 : ((a : Int) % 4503599627370496 == 0) = true := by simp; omega
      clear c1 c2
      go_enter Tryd.func37, Tryd.ntmps37
      go_wp2
      go_ret
      exact ⟨ret_int (by rw [E.out]), rfl⟩
    · have E := Lib.hid (show cls a = 4 from by unfold cls ex fr; rw [if_pos c1, if_neg c2])
      have k2 : ((a : Int) % 4503599627370496 == 0) = false := by simp; omega
      clear c1 c2
      go_enter Tryd.func37, Tryd.ntmps37
      go_wp2
      go_ret
      exact ⟨ret_int (by rw [E.out]), rfl⟩
  · have k1 : ((a : Int) / 4503599627370496 % 2048 == 2047) = false := by simp; omega
    by_cases c3 : a / 4503599627370496 % 2048 = 0
    · have k3 : ((a : Int) / 4503599627370496 % 2048 == 0) = true := by simp; omega
      by_cases c2 : a % 4503599627370496 = 0
      · have E := Lib.hid (show cls a = 0 from by unfold cls ex fr; rw [if_neg c1, if_pos c3, if_pos c2])
        have k2 : ((a : Int) % 4503599627370496 == 0) = true := by simp; omega
        clear c1 c2 c3
        go_enter Tryd.func37, Tryd.ntmps37
        go_wp2
        go_ret
        exact ⟨ret_int (by rw [E.out]), rfl⟩
      · have E := Lib.hid (show cls a = 1 from by unfold cls ex fr; rw [if_neg c1, if_pos c3, if_neg c2])
        have k2 : ((a : Int) % 4503599627370496 == 0) = false := by simp; omega
        clear c1 c2 c3
        go_enter Tryd.func37, Tryd.ntmps37
        go_wp2
        go_ret
        exact ⟨ret_int (by rw [E.out]), rfl⟩
    · have k3 : ((a : Int) / 4503599627370496 % 2048 == 0) = false := by simp; omega
      have E := Lib.hid (show cls a = 2 from by unfold cls ex fr; rw [if_neg c1, if_neg c3])
      clear c1 c3
      go_enter Tryd.func37, Tryd.ntmps37
      go_wp2
      go_ret
      exact ⟨ret_int (by rw [E.out]), rfl⟩
theorem land_ex (a : Nat) (h : U a) : bits .and .u64 (a : Int) 9218868437227405312 = ((ex a * 4503599627370496 : Nat) : Int) := by
  unfold U at h
  rw [← and_ex, ← u64_and_nat a 9218868437227405312 (by omega) (by omega)]; rfl
theorem land_fr (a : Nat) (h : U a) : bits .and .u64 (a : Int) 4503599627370495 = ((fr a : Nat) : Int) := by
  unfold U at h
  rw [← and_fr, ← u64_and_nat a 4503599627370495 (by omega) (by omega)]; rfl
theorem land_sign (a : Nat) (h : U a) : bits .and .u64 (a : Int) 9223372036854775808 = ((if sgn a then 9223372036854775808 else 0 : Nat) : Int) := by
  rw [← and_sign a h]
  unfold U at h
  rw [← u64_and_nat a 9223372036854775808 (by omega) (by omega)]; rfl
theorem lor_sign (a : Nat) (h : a < 9223372036854775808) : bits .or .u64 (a : Int) 9223372036854775808 = ((a + 9223372036854775808 : Nat) : Int) := by
  rw [← or_sign a h, ← u64_or_nat a 9223372036854775808 (by omega) (by omega)]; rfl
theorem lnot_all (a : Nat) (h : U a) : bits .xor .u64 IntKind.u64.max (a : Int) = ((18446744073709551615 - a : Nat) : Int) := by
  rw [← xor_all a h]
  unfold U at h
  rw [← u64_xor_nat 18446744073709551615 a (by omega) (by omega)]; rfl
theorem rneg_any (a : Nat) (w : World) : Calls Tryd.prog 63 #[.int .u64 a] w fun e w' => e = .returned (.bool (sgn a)) ∧ w = w' := by
  go_enter Tryd.func63, Tryd.ntmps63
  go_wp2
  go_ret
  exact ⟨ret_bool (by unfold sgn; rw [Bool.eq_iff_iff]; simp; omega), rfl⟩
theorem so_rsigned_any (n : Bool) (x : Int) (w : World) (h0 : 0 ≤ x) (h : x < 9223372036854775808) : Calls Tryd.prog 65 #[.bool n, .int .u64 x] w fun e w' => e = .returned (.int .u64 (wdI n x)) ∧ w = w' := by
  cases n
  · go_enter Tryd.func65, Tryd.ntmps65
    go_wp2
    go_ret
    exact ⟨rfl, rfl⟩
  · go_enter Tryd.func65, Tryd.ntmps65
    go_wp2
    go_ret
    exact ⟨rfl, rfl⟩
theorem rminus_any (a : Nat) (w : World) (h : U a) : Calls Tryd.prog 38 #[.int .u64 a] w fun e w' => e = .returned (.int .u64 (flip a)) ∧ w = w' := by
  unfold U at h
  cases c : sgn a
  · have E := Lib.hid (show flip a = a + 9223372036854775808 from by unfold flip; simp [c])
    have hb : a < 9223372036854775808 := by unfold sgn at c; simpa using c
    have C := Lib.hid c
    clear c
    go_enter Tryd.func38, Tryd.ntmps38
    go_wp2_with (go_at_call 63; (with_reducible refine (rneg_any _ _).mono ?_); rintro e w' ⟨rfl, rfl⟩; rw [C.out])
    go_ret
    exact ⟨ret_int (by rw [E.out]; omega), rfl⟩
  · have E := Lib.hid (show flip a = a - 9223372036854775808 from by unfold flip; simp [c])
    have hb : 9223372036854775808 ≤ a := by unfold sgn at c; simpa using c
    have C := Lib.hid c
    clear c
    go_enter Tryd.func38, Tryd.ntmps38
    go_wp2_with (go_at_call 63; (with_reducible refine (rneg_any _ _).mono ?_); rintro e w' ⟨rfl, rfl⟩; rw [C.out])
    go_ret
    exact ⟨ret_int (by rw [E.out]; omega), rfl⟩
theorem rkey_any (a : Nat) (w : World) (h : U a) : Calls Tryd.prog 77 #[.int .u64 a] w fun e w' => e = .returned (.int .u64 (key a)) ∧ w = w' := by
  unfold U at h
  cases c : sgn a
  · have E := Lib.hid (show key a = a + 9223372036854775808 from by unfold key; simp [c])
    have hb : a < 9223372036854775808 := by unfold sgn at c; simpa using c
    have C := Lib.hid c
    clear c
    go_enter Tryd.func77, Tryd.ntmps77
    go_wp2_with (go_at_call 63; (with_reducible refine (rneg_any _ _).mono ?_); rintro e w' ⟨rfl, rfl⟩; rw [C.out])
    go_ret
    exact ⟨ret_int (by rw [E.out]; omega), rfl⟩
  · have E := Lib.hid (show key a = 18446744073709551615 - a from by unfold key; simp [c])
    have hb : 9223372036854775808 ≤ a := by unfold sgn at c; simpa using c
    have C := Lib.hid c
    clear c
    go_enter Tryd.func77, Tryd.ntmps77
    go_wp2_with (go_at_call 63; (with_reducible refine (rneg_any _ _).mono ?_); rintro e w' ⟨rfl, rfl⟩; rw [C.out])
    go_ret
    exact ⟨ret_int (by rw [E.out]; omega), rfl⟩
theorem rorder_any (a b : Nat) (w : World) (h : U a) (h' : U b) : Calls Tryd.prog 68 #[.int .u64 a, .int .u64 b] w fun e w' => e = .returned (.int .i64 (ord a b)) ∧ w = w' := by
  rcases ord_cases a b with ⟨e, c⟩ | ⟨e, c⟩ | ⟨e, c⟩
  · have E := Lib.hid e
    have k1 : decide (key a < key b) = true := by simpa using c
    clear c e
    go_enter Tryd.func68, Tryd.ntmps68
    go_wp2_with (go_at_call 77; (with_reducible refine (rkey_any _ _ (by assumption)).mono ?_); rintro e w' ⟨rfl, rfl⟩)
    go_ret
    exact ⟨ret_int (by rw [E.out]), rfl⟩
  · have E := Lib.hid e
    have k1 : decide (key a < key b) = false := by simp; omega
    have k2 : decide (key b < key a) = true := by simpa using c
    clear c e
    go_enter Tryd.func68, Tryd.ntmps68
    go_wp2_with (go_at_call 77; (with_reducible refine (rkey_any _ _ (by assumption)).mono ?_); rintro e w' ⟨rfl, rfl⟩)
    go_ret
    exact ⟨ret_int (by rw [E.out]), rfl⟩
  · have E := Lib.hid e
    have k1 : decide (key a < key b) = false := by simp; omega
    have k2 : decide (key b < key a) = false := by simp; omega
    clear c e
    go_enter Tryd.func68, Tryd.ntmps68
    go_wp2_with (go_at_call 77; (with_reducible refine (rkey_any _ _ (by assumption)).mono ?_); rintro e w' ⟨rfl, rfl⟩)
    go_ret
    exact ⟨ret_int (by rw [E.out]), rfl⟩
theorem rnone_any (a b : Nat) (w : World) (h : U a) (h' : U b) : Calls Tryd.prog 62 #[.int .u64 a, .int .u64 b] w fun e w' => e = .returned (.bool (nn a b)) ∧ w = w' := by
  cases c : (cls a == 4)
  · have E := Lib.hid (show nn a b = (cls b == 4) from by unfold nn; rw [c]; rfl)
    go_enter Tryd.func62, Tryd.ntmps62
    go_wp2_with (go_at_call 37; (with_reducible refine (rclass_any _ _ (by assumption)).mono ?_); rintro e w' ⟨rfl, rfl⟩)
    go_ret
    exact ⟨ret_bool (by rw [E.out]), rfl⟩
  · have E := Lib.hid (show nn a b = true from by unfold nn; rw [c]; rfl)
    go_enter Tryd.func62, Tryd.ntmps62
    go_wp2_with (go_at_call 37; (with_reducible refine (rclass_any _ _ (by assumption)).mono ?_); rintro e w' ⟨rfl, rfl⟩)
    go_ret
    exact ⟨ret_bool (by rw [E.out]), rfl⟩
theorem rcmp_any (a b : Nat) (w : World) (h : U a) (h' : U b) : Calls Tryd.prog 44 #[.int .u64 a, .int .u64 b] w fun e w' => e = .returned (.int .i64 (cmpv a b)) ∧ w = w' := by
  cases hn : nn a b with
  | true =>
    have E := Lib.hid (show cmpv a b = 2 from by unfold cmpv; rw [hn, if_pos rfl])
    go_enter Tryd.func44, Tryd.ntmps44
    go_wp2_with (go_at_call 62; (with_reducible refine (rnone_any _ _ _ (by assumption) (by assumption)).mono ?_); rintro e w' ⟨rfl, rfl⟩)
    go_ret
    exact ⟨ret_int (by rw [E.out]), rfl⟩
  | false =>
    cases h0 : (cls a == 0) with
    | false =>
      have E := Lib.hid (show cmpv a b = ord a b from by unfold cmpv zz; rw [hn, h0]; simp)
      go_enter Tryd.func44, Tryd.ntmps44
      go_wp2_with (first | (go_at_call 62; (with_reducible refine (rnone_any _ _ _ (by assumption) (by assumption)).mono ?_); rintro e w' ⟨rfl, rfl⟩) | (go_at_call 37; (with_reducible refine (rclass_any _ _ (by assumption)).mono ?_); rintro e w' ⟨rfl, rfl⟩) | (go_at_call 68; (with_reducible refine (rorder_any _ _ _ (by assumption) (by assumption)).mono ?_); rintro e w' ⟨rfl, rfl⟩))
      go_ret
      exact ⟨ret_int (by rw [E.out]), rfl⟩
    | true =>
      cases h1 : (cls b == 0) with
      | false =>
        have E := Lib.hid (show cmpv a b = ord a b from by unfold cmpv zz; rw [hn, h0, h1]; simp)
        go_enter Tryd.func44, Tryd.ntmps44
        go_wp2_with (first | (go_at_call 62; (with_reducible refine (rnone_any _ _ _ (by assumption) (by assumption)).mono ?_); rintro e w' ⟨rfl, rfl⟩) | (go_at_call 37; (with_reducible refine (rclass_any _ _ (by assumption)).mono ?_); rintro e w' ⟨rfl, rfl⟩) | (go_at_call 68; (with_reducible refine (rorder_any _ _ _ (by assumption) (by assumption)).mono ?_); rintro e w' ⟨rfl, rfl⟩))
        go_ret
        exact ⟨ret_int (by rw [E.out]), rfl⟩
      | true =>
        have E := Lib.hid (show cmpv a b = 0 from by unfold cmpv zz; rw [hn, h0, h1]; simp)
        go_enter Tryd.func44, Tryd.ntmps44
        go_wp2_with (first | (go_at_call 62; (with_reducible refine (rnone_any _ _ _ (by assumption) (by assumption)).mono ?_); rintro e w' ⟨rfl, rfl⟩) | (go_at_call 37; (with_reducible refine (rclass_any _ _ (by assumption)).mono ?_); rintro e w' ⟨rfl, rfl⟩) | (go_at_call 68; (with_reducible refine (rorder_any _ _ _ (by assumption) (by assumption)).mono ?_); rintro e w' ⟨rfl, rfl⟩))
        go_ret
        exact ⟨ret_int (by rw [E.out]), rfl⟩
end Go.Proofs.YtgkonjgalpchoaaDoor
