/- What the document's own product of any two binary64 numbers is; a contract, for all bits, in any world, behind which there are new blocks. -/
import Derived.Test.YtgkonjgalpchoaaDoorSoftW
namespace Go.Proofs.YtgkonjgalpchoaaDoor
open Go.RowKit
set_option linter.unusedVariables false
theorem two_of' {base : World} {s t : Bool} {x x' p p' y y' q q' : Int} (hx : x = x') (hp : p = p') (hy : y = y') (hq : q = q') :
    ((base.alloc (.cells #[.bool s, .int .u64 x, .int .i64 p, .bool false] 92)).alloc (.cells #[.bool t, .int .u64 y, .int .i64 q, .bool false] 92)) =
    ((base.alloc (.cells #[.bool s, .int .u64 x', .int .i64 p', .bool false] 92)).alloc (.cells #[.bool t, .int .u64 y', .int .i64 q', .bool false] 92)) := by
  rw [hx, hp, hy, hq]
def mulx (m i : Nat) : Nat := m * 2^i
theorem mulx_succ (m i : Nat) : mulx m (i+1) = 2 * mulx m i := by unfold mulx; rw [Nat.pow_succ]; ac_rfl
set_option maxRecDepth 100000 in
set_option maxHeartbeats 4000000 in
theorem rmul_num (a b : Nat) (w : World) (ha : U a) (hb : U b) (hn : nn a b = false) (fa : fin a = true) (fb : fin b = true) (h0 : 0 < mg a) (h1 : 0 < mg b) :
    Calls Tryd.prog 39 #[.int .u64 a, .int .u64 b] w fun e w' => e = .returned (.int .u64 (opv (Ieee.double.mul a b))) ∧ New w w' := by
  have c1 : (cls a == 3) = false := by simpa using ((fin_cls a).1 fa).1
  have c2 : (cls b == 3) = false := by simpa using ((fin_cls b).1 fb).1
  have c3 : (cls a == 0) = false := by have := cls0_mg a; simp; omega
  have c4 : (cls b == 0) = false := by have := cls0_mg b; simp; omega
  have z0 : ((mg a : Int) == 0) = false := by simp; omega
  have z1 : ((mg b : Int) == 0) = false := by simp; omega
  have m1 := mg_lt a
  have m2 := mg_lt b
  obtain ⟨p1, p2⟩ := pl_bd a fa
  obtain ⟨q1, q2⟩ := pl_bd b fb
  have n1 := nl_le (mg a)
  have n2 := nl_le (mg b)
  obtain ⟨a1, a2⟩ := so_nm_bd _ h0 m1
  obtain ⟨b1, b2⟩ := so_nm_bd _ h1 m2
  have LA := Lib.hid (fun i => nl_iff (mg a) i h0 m1)
  have LB := Lib.hid (fun i => nl_iff (mg b) i h1 m2)
  have RD := Lib.hid (mul_rd a b ha hb fa fb h0 h1)
  have PH : phi (so_nm (mg a)) (so_nm (mg b)) ≤ 4503599627370496 := by
    have h9 : so_nm (mg a) * so_nm (mg b) ≤ 9007199254740992 * 9007199254740992 := Nat.mul_le_mul (by omega) (by omega)
    unfold phi
    generalize so_nm (mg a) * so_nm (mg b) = T at *
    omega
  have PH0 : 1125899906842624 ≤ phi (so_nm (mg a)) (so_nm (mg b)) := by
    have h9 : 4503599627370496 * 4503599627370496 ≤ so_nm (mg a) * so_nm (mg b) := Nat.mul_le_mul a1 b1
    unfold phi
    generalize so_nm (mg a) * so_nm (mg b) = T at *
    omega
  have PL : plo (so_nm (mg a)) (so_nm (mg b)) < 18014398509481984 := Nat.mod_lt _ (by decide)
  have XA := Lib.hid (show mulx (mg a) 0 = mg a from by unfold mulx; simp)
  have XB := Lib.hid (show mulx (mg b) 0 = mg b from by unfold mulx; simp)
  go_enter Tryd.func39, Tryd.ntmps39
  go_upto_block 0 with (first | (go_at_call 62; (with_reducible refine (rnone_any _ _ _ (by assumption) (by assumption)).mono ?_); rintro e w' ⟨rfl, rfl⟩) | (go_at_call 37; (with_reducible refine (rclass_any _ _ (by assumption)).mono ?_); rintro e w' ⟨rfl, rfl⟩) | (go_at_call 63; (with_reducible refine (rneg_any _ _).mono ?_); rintro e w' ⟨rfl, rfl⟩) | (go_at_call 64; (with_reducible refine (ropen_any _ _ (by assumption)).mono ?_); rintro e w' ⟨rfl, rfl⟩))
  go_cut [] (fun wc => wc = ((((w.alloc (.cells #[.bool (sgn a), .int .u64 (mg a), .int .i64 (pl a), .bool false] 92)).alloc (.cells #[.bool (sgn b), .int .u64 (mg b), .int .i64 (pl b), .bool false] 92)).alloc (.cells #[.bool (sgn a), .int .u64 (so_nm (mg a)), .int .i64 (pl a - so_nl (mg a)), .bool false] 92)).alloc (.cells #[.bool (sgn b), .int .u64 (mg b), .int .i64 (pl b), .bool false] 92)))
  case first =>
    go_wp2_with fail
    go_loopg [] (so_nl (mg a)) (fun k wr => ∃ i : Nat, i + k = so_nl (mg a) ∧ wr = ((((w.alloc (.cells #[.bool (sgn a), .int .u64 (mg a), .int .i64 (pl a), .bool false] 92)).alloc (.cells #[.bool (sgn b), .int .u64 (mg b), .int .i64 (pl b), .bool false] 92)).alloc (.cells #[.bool (sgn a), .int .u64 (mulx (mg a) i), .int .i64 (pl a - i), .bool false] 92)).alloc (.cells #[.bool (sgn b), .int .u64 (mg b), .int .i64 (pl b), .bool false] 92)))
    case atStart => exact ⟨0, by omega, by rw [XA.out]; exact two_of' rfl (by omega) rfl (by omega)⟩
    case round =>
      obtain ⟨i, hk, rfl⟩ := hrel
      have hi : (i : Int) ≤ 52 := by omega
      have LI := LA.out i
      change mulx (mg a) i < 4503599627370496 ↔ _ at LI
      have SX := Lib.hid (mulx_succ (mg a) i)
      by_cases hlt : i < so_nl (mg a)
      · have k1 : (mulx (mg a) i : Int) < 4503599627370496 := by have := LI.2 hlt; omega
        have HK := Lib.hid hk
        have HT := Lib.hid hlt
        clear hk hlt LI
        go_wp2_with fail
        go_roundg (gk - 1)
        case measure => have := HK.out; have := HT.out; omega
        case rel => exact ⟨i + 1, by have := HK.out; have := HT.out; omega, two_of' (by rw [SX.out]; omega) (by omega) rfl rfl⟩
      · obtain rfl : i = so_nl (mg a) := by omega
        have k1 : decide ((mulx (mg a) (so_nl (mg a)) : Int) < 4503599627370496) = false := by simp; omega
        clear hk hlt LI
        go_wp2_with fail
        go_meet
        case rel => rfl
  case rest =>
  subst hcut
  go_upto_block 2 with fail
  go_cut [] (fun wc => wc = ((((w.alloc (.cells #[.bool (sgn a), .int .u64 (mg a), .int .i64 (pl a), .bool false] 92)).alloc (.cells #[.bool (sgn b), .int .u64 (mg b), .int .i64 (pl b), .bool false] 92)).alloc (.cells #[.bool (sgn a), .int .u64 (so_nm (mg a)), .int .i64 (pl a - so_nl (mg a)), .bool false] 92)).alloc (.cells #[.bool (sgn b), .int .u64 (so_nm (mg b)), .int .i64 (pl b - so_nl (mg b)), .bool false] 92)))
  case first =>
    go_wp2_with fail
    go_loopg [] (so_nl (mg b)) (fun k wr => ∃ i : Nat, i + k = so_nl (mg b) ∧ wr = ((((w.alloc (.cells #[.bool (sgn a), .int .u64 (mg a), .int .i64 (pl a), .bool false] 92)).alloc (.cells #[.bool (sgn b), .int .u64 (mg b), .int .i64 (pl b), .bool false] 92)).alloc (.cells #[.bool (sgn a), .int .u64 (so_nm (mg a)), .int .i64 (pl a - so_nl (mg a)), .bool false] 92)).alloc (.cells #[.bool (sgn b), .int .u64 (mulx (mg b) i), .int .i64 (pl b - i), .bool false] 92)))
    case atStart => exact ⟨0, by omega, by rw [XB.out]; exact two_of' rfl (by omega) rfl (by omega)⟩
    case round =>
      obtain ⟨i, hk, rfl⟩ := hrel
      have hi : (i : Int) ≤ 52 := by omega
      have LI := LB.out i
      change mulx (mg b) i < 4503599627370496 ↔ _ at LI
      have SX := Lib.hid (mulx_succ (mg b) i)
      by_cases hlt : i < so_nl (mg b)
      · have k1 : (mulx (mg b) i : Int) < 4503599627370496 := by have := LI.2 hlt; omega
        have HK := Lib.hid hk
        have HT := Lib.hid hlt
        clear hk hlt LI
        go_wp2_with fail
        go_roundg (gk - 1)
        case measure => have := HK.out; have := HT.out; omega
        case rel => exact ⟨i + 1, by have := HK.out; have := HT.out; omega, two_of' rfl rfl (by rw [SX.out]; omega) (by omega)⟩
      · obtain rfl : i = so_nl (mg b) := by omega
        have k1 : decide ((mulx (mg b) (so_nl (mg b)) : Int) < 4503599627370496) = false := by simp; omega
        clear hk hlt LI
        go_wp2_with fail
        go_meet
        case rel => rfl
  case rest =>
  subst hcut
  have rnd := rround_int
  go_wp2_with (first | (go_at_call 67; (with_reducible refine (rproduct_any _ _ _ (by omega) (by omega)).mono ?_); rintro e w' ⟨rfl, rfl⟩) | (go_at_call 66; (with_reducible refine (rround_int _ _ _ _ _ (by omega) (by omega) (by omega) (by omega) (by omega)).mono ?_); rintro e w' ⟨rfl, hg⟩))
  go_ret
  refine ⟨ret_int ?_, (((((New.refl _).alloc _ _).alloc _ _).alloc _ _).alloc _ _).trans (by assumption)⟩
  rw [RD.out]
  change _ = ((so_rd (mneg a b) (256 * phi (so_nm (mg a)) (so_nm (mg b)) + plo (so_nm (mg a)) (so_nm (mg b)) / 70368744177664) _ (decide (0 < plo (so_nm (mg a)) (so_nm (mg b)) % 70368744177664)) : Nat) : Int)
  rw [show (256 * (phi (so_nm (mg a)) (so_nm (mg b)) : Int) + (plo (so_nm (mg a)) (so_nm (mg b)) : Int) / 70368744177664).toNat = 256 * phi (so_nm (mg a)) (so_nm (mg b)) + plo (so_nm (mg a)) (so_nm (mg b)) / 70368744177664 from by omega]
  rw [show decide (0 < (plo (so_nm (mg a)) (so_nm (mg b)) : Int) % 70368744177664) = decide (0 < plo (so_nm (mg a)) (so_nm (mg b)) % 70368744177664) from by rw [Bool.eq_iff_iff]; simp; omega]
  rfl
set_option maxRecDepth 100000 in
set_option maxHeartbeats 1000000 in
theorem so_rmul_any (a b : Nat) (w : World) (ha : U a) (hb : U b) :
    Calls Tryd.prog 39 #[.int .u64 a, .int .u64 b] w fun e w' => e = .returned (.int .u64 (opv (Ieee.double.mul a b))) ∧ New w w' := by
  cases hn : nn a b with
  | true =>
    have E := Lib.hid (mul_nan a b ha hb hn)
    go_enter Tryd.func39, Tryd.ntmps39
    go_wp2_with (first | (go_at_call 62; (with_reducible refine (rnone_any _ _ _ (by assumption) (by assumption)).mono ?_); rintro e w' ⟨rfl, rfl⟩) | (go_at_call 37; (with_reducible refine (rclass_any _ _ (by assumption)).mono ?_); rintro e w' ⟨rfl, rfl⟩) | (go_at_call 63; (with_reducible refine (rneg_any _ _).mono ?_); rintro e w' ⟨rfl, rfl⟩) | (go_at_call 64; (with_reducible refine (ropen_any _ _ (by assumption)).mono ?_); rintro e w' ⟨rfl, rfl⟩) | (go_at_call 65; (with_reducible refine (so_rsigned_any _ _ _ (by omega) (by omega)).mono ?_); rintro e w' ⟨rfl, rfl⟩))
    go_ret
    exact ⟨ret_int (by rw [E.out]; rfl), New.refl _⟩
  | false =>
    have n1 : cls a ≠ 4 := by intro c; unfold nn at hn; simp [c] at hn
    have n2 : cls b ≠ 4 := by intro c; unfold nn at hn; simp [c] at hn
    have hn' : nn b a = false := by unfold nn at *; simpa [Bool.or_comm] using hn
    have wI := wd_int (mneg a b)
    by_cases a3 : cls a = 3
    · have ca : (cls a == 3) = true := by simpa using a3
      have ca0 : (cls a == 0) = false := by simp; omega
      have E := mul_inf a b ha hb hn a3
      by_cases b0 : cls b = 0
      · have cb : (cls b == 0) = true := by simpa using b0
        have E' := Lib.hid (show opv (Ieee.double.mul a b) = Emp from by rw [E, if_pos b0])
        clear wI hn' E a3 b0 n1 n2
        go_enter Tryd.func39, Tryd.ntmps39
        go_wp2_with (first | (go_at_call 62; (with_reducible refine (rnone_any _ _ _ (by assumption) (by assumption)).mono ?_); rintro e w' ⟨rfl, rfl⟩) | (go_at_call 37; (with_reducible refine (rclass_any _ _ (by assumption)).mono ?_); rintro e w' ⟨rfl, rfl⟩) | (go_at_call 63; (with_reducible refine (rneg_any _ _).mono ?_); rintro e w' ⟨rfl, rfl⟩) | (go_at_call 64; (with_reducible refine (ropen_any _ _ (by assumption)).mono ?_); rintro e w' ⟨rfl, rfl⟩) | (go_at_call 65; (with_reducible refine (so_rsigned_any _ _ _ (by omega) (by omega)).mono ?_); rintro e w' ⟨rfl, rfl⟩))
        go_ret
        exact ⟨ret_int (by rw [E'.out]; rfl), New.refl _⟩
      · have cb : (cls b == 0) = false := by simpa using b0
        have E' := Lib.hid (show ((opv (Ieee.double.mul a b) : Nat) : Int) = wdI (mneg a b) 9218868437227405312 from by rw [E, if_neg b0, wI]; rfl)
        clear wI hn' E a3 b0 n1 n2
        go_enter Tryd.func39, Tryd.ntmps39
        go_wp2_with (first | (go_at_call 62; (with_reducible refine (rnone_any _ _ _ (by assumption) (by assumption)).mono ?_); rintro e w' ⟨rfl, rfl⟩) | (go_at_call 37; (with_reducible refine (rclass_any _ _ (by assumption)).mono ?_); rintro e w' ⟨rfl, rfl⟩) | (go_at_call 63; (with_reducible refine (rneg_any _ _).mono ?_); rintro e w' ⟨rfl, rfl⟩) | (go_at_call 64; (with_reducible refine (ropen_any _ _ (by assumption)).mono ?_); rintro e w' ⟨rfl, rfl⟩) | (go_at_call 65; (with_reducible refine (so_rsigned_any _ _ _ (by omega) (by omega)).mono ?_); rintro e w' ⟨rfl, rfl⟩))
        go_ret
        exact ⟨ret_int (by rw [E'.out]; rfl), New.refl _⟩
    · have ca : (cls a == 3) = false := by simpa using a3
      by_cases b3 : cls b = 3
      · have cb : (cls b == 3) = true := by simpa using b3
        have cb0 : (cls b == 0) = false := by simp; omega
        have E := mul_inf b a hb ha hn' b3
        rw [mul_comm' b a, mneg_comm b a] at E
        by_cases a0 : cls a = 0
        · have ca0 : (cls a == 0) = true := by simpa using a0
          have E' := Lib.hid (show opv (Ieee.double.mul a b) = Emp from by rw [E, if_pos a0])
          clear wI hn' E a3 b3 a0 n1 n2
          go_enter Tryd.func39, Tryd.ntmps39
          go_wp2_with (first | (go_at_call 62; (with_reducible refine (rnone_any _ _ _ (by assumption) (by assumption)).mono ?_); rintro e w' ⟨rfl, rfl⟩) | (go_at_call 37; (with_reducible refine (rclass_any _ _ (by assumption)).mono ?_); rintro e w' ⟨rfl, rfl⟩) | (go_at_call 63; (with_reducible refine (rneg_any _ _).mono ?_); rintro e w' ⟨rfl, rfl⟩) | (go_at_call 64; (with_reducible refine (ropen_any _ _ (by assumption)).mono ?_); rintro e w' ⟨rfl, rfl⟩) | (go_at_call 65; (with_reducible refine (so_rsigned_any _ _ _ (by omega) (by omega)).mono ?_); rintro e w' ⟨rfl, rfl⟩))
          go_ret
          exact ⟨ret_int (by rw [E'.out]; rfl), New.refl _⟩
        · have ca0 : (cls a == 0) = false := by simpa using a0
          have E' := Lib.hid (show ((opv (Ieee.double.mul a b) : Nat) : Int) = wdI (mneg a b) 9218868437227405312 from by rw [E, if_neg a0, wI]; rfl)
          clear wI hn' E a3 b3 a0 n1 n2
          go_enter Tryd.func39, Tryd.ntmps39
          go_wp2_with (first | (go_at_call 62; (with_reducible refine (rnone_any _ _ _ (by assumption) (by assumption)).mono ?_); rintro e w' ⟨rfl, rfl⟩) | (go_at_call 37; (with_reducible refine (rclass_any _ _ (by assumption)).mono ?_); rintro e w' ⟨rfl, rfl⟩) | (go_at_call 63; (with_reducible refine (rneg_any _ _).mono ?_); rintro e w' ⟨rfl, rfl⟩) | (go_at_call 64; (with_reducible refine (ropen_any _ _ (by assumption)).mono ?_); rintro e w' ⟨rfl, rfl⟩) | (go_at_call 65; (with_reducible refine (so_rsigned_any _ _ _ (by omega) (by omega)).mono ?_); rintro e w' ⟨rfl, rfl⟩))
          go_ret
          exact ⟨ret_int (by rw [E'.out]; rfl), New.refl _⟩
      · have cb : (cls b == 3) = false := by simpa using b3
        have fa := (fin_cls a).2 ⟨a3, n1⟩
        have fb := (fin_cls b).2 ⟨b3, n2⟩
        by_cases za : mg a = 0
        · have ka : ((mg a : Int) == 0) = true := by simp; omega
          have E' := Lib.hid (show ((opv (Ieee.double.mul a b) : Nat) : Int) = wdI (mneg a b) 0 from by rw [mul_zero a b ha hb fa fb (Or.inl za), wI]; rfl)
          have ca0 : (cls a == 0) = true := by simpa using (cls0_mg a).2 za
          clear wI hn' a3 b3 n1 n2 za fa fb
          go_enter Tryd.func39, Tryd.ntmps39
          go_wp2_with (first | (go_at_call 62; (with_reducible refine (rnone_any _ _ _ (by assumption) (by assumption)).mono ?_); rintro e w' ⟨rfl, rfl⟩) | (go_at_call 37; (with_reducible refine (rclass_any _ _ (by assumption)).mono ?_); rintro e w' ⟨rfl, rfl⟩) | (go_at_call 63; (with_reducible refine (rneg_any _ _).mono ?_); rintro e w' ⟨rfl, rfl⟩) | (go_at_call 64; (with_reducible refine (ropen_any _ _ (by assumption)).mono ?_); rintro e w' ⟨rfl, rfl⟩) | (go_at_call 65; (with_reducible refine (so_rsigned_any _ _ _ (by omega) (by omega)).mono ?_); rintro e w' ⟨rfl, rfl⟩))
          go_ret
          exact ⟨ret_int (by rw [E'.out]; rfl), (((((New.refl _).alloc _ _).alloc _ _).alloc _ _).alloc _ _)⟩
        · have ka : ((mg a : Int) == 0) = false := by simp; omega
          have ca0 : (cls a == 0) = false := by have := cls0_mg a; simp; omega
          by_cases zb : mg b = 0
          · have kb : ((mg b : Int) == 0) = true := by simp; omega
            have E' := Lib.hid (show ((opv (Ieee.double.mul a b) : Nat) : Int) = wdI (mneg a b) 0 from by rw [mul_zero a b ha hb fa fb (Or.inr zb), wI]; rfl)
            clear wI hn' a3 b3 n1 n2 za zb fa fb
            go_enter Tryd.func39, Tryd.ntmps39
            go_wp2_with (first | (go_at_call 62; (with_reducible refine (rnone_any _ _ _ (by assumption) (by assumption)).mono ?_); rintro e w' ⟨rfl, rfl⟩) | (go_at_call 37; (with_reducible refine (rclass_any _ _ (by assumption)).mono ?_); rintro e w' ⟨rfl, rfl⟩) | (go_at_call 63; (with_reducible refine (rneg_any _ _).mono ?_); rintro e w' ⟨rfl, rfl⟩) | (go_at_call 64; (with_reducible refine (ropen_any _ _ (by assumption)).mono ?_); rintro e w' ⟨rfl, rfl⟩) | (go_at_call 65; (with_reducible refine (so_rsigned_any _ _ _ (by omega) (by omega)).mono ?_); rintro e w' ⟨rfl, rfl⟩))
            go_ret
            exact ⟨ret_int (by rw [E'.out]; rfl), (((((New.refl _).alloc _ _).alloc _ _).alloc _ _).alloc _ _)⟩
          · exact rmul_num a b w ha hb hn fa fb (by omega) (by omega)
end Go.Proofs.YtgkonjgalpchoaaDoor
