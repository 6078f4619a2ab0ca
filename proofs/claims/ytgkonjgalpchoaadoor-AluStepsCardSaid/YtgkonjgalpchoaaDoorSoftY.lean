/- What the document's own quotient of any two binary64 numbers is; a contract, for all bits, in any world, behind which there are new blocks. -/
import Derived.Test.YtgkonjgalpchoaaDoorSoftX
namespace Go.Proofs.YtgkonjgalpchoaaDoor
open Go.RowKit
set_option linter.unusedVariables false
def so_dq (X Y i : Nat) : Nat := X * 2^i / Y
def dr (X Y i : Nat) : Nat := X * 2^i % Y
theorem u64_val {x y : Int} (h : x = y) : Value.int .u64 x = .int .u64 y := by rw [h]
theorem dq_succ (X Y i : Nat) (h : 0 < Y) : 2 * so_dq X Y i + 2 * dr X Y i / Y = so_dq X Y (i+1) ∧ 2 * dr X Y i % Y = dr X Y (i+1) := div_step X Y i h
theorem so_dq_bd (X Y i : Nat) (hX : X < 9007199254740992) (hY : 4503599627370496 ≤ Y) (hi : i ≤ 60) : so_dq X Y i ≤ 2305843009213693952 ∧ dr X Y i < Y := by
  refine ⟨?_, Nat.mod_lt _ (by omega)⟩
  unfold so_dq
  have h1 : 2^i ≤ 2^60 := Nat.pow_le_pow_right (by decide) hi
  have h2 : X * 2^i ≤ 9007199254740992 * 2^60 := Nat.mul_le_mul (by omega) h1
  have h3 : X * 2^i / Y ≤ 9007199254740992 * 2^60 / 4503599627370496 := Nat.div_le_div h2 hY (by decide)
  omega
theorem dq_zero (X Y : Nat) : so_dq X Y 0 = X / Y ∧ dr X Y 0 = X % Y := by unfold so_dq dr; simp
theorem dq_low (X Y : Nat) (hX : 4503599627370496 ≤ X) (hY : 0 < Y) (hY' : Y < 9007199254740992) : 4503599627370496 ≤ so_dq X Y 60 := by
  unfold so_dq; rw [Nat.le_div_iff_mul_le hY]; omega
set_option maxRecDepth 100000 in
set_option maxHeartbeats 4000000 in
theorem rdiv_num (a b : Nat) (w : World) (ha : U a) (hb : U b) (hn : nn a b = false) (fa : fin a = true) (fb : fin b = true) (h0 : 0 < mg a) (h1 : 0 < mg b) :
    Calls Tryd.prog 40 #[.int .u64 a, .int .u64 b] w fun e w' => e = .returned (.int .u64 (opv (Ieee.double.div a b))) ∧ New w w' := by
  have c1 : (cls a == 3) = false := by simpa using ((fin_cls a).1 fa).1
  have c2 : (cls b == 3) = false := by simpa using ((fin_cls b).1 fb).1
  have c3 : (cls a == 0) = false := by have := cls0_mg a; simp; omega
  have c4 : (cls b == 0) = false := by have := cls0_mg b; simp; omega
  have m1 := mg_lt a
  have m2 := mg_lt b
  obtain ⟨p1, p2⟩ := pl_bd a fa
  obtain ⟨q1, q2⟩ := pl_bd b fb
  have n1 := nl_le (mg a)
  have n2 := nl_le (mg b)
  obtain ⟨a1, a2⟩ := so_nm_bd _ h0 m1
  obtain ⟨b1, b2⟩ := so_nm_bd _ h1 m2
  have LA := Lib.hid (fun i => nl_iff (mg a) i h0 m1)
  have LB := Lib.hid (fun i => nl_iff (mg b) i h1 m2)
  have RD := Lib.hid (div_rd a b ha hb fa fb h0 h1)
  have DL := dq_low (so_nm (mg a)) (so_nm (mg b)) a1 (by omega) b2
  have DB := Lib.hid (fun i => so_dq_bd (so_nm (mg a)) (so_nm (mg b)) i a2 b1)
  have DZ := Lib.hid (dq_zero (so_nm (mg a)) (so_nm (mg b)))
  have XA := Lib.hid (show mulx (mg a) 0 = mg a from by unfold mulx; simp)
  have XB := Lib.hid (show mulx (mg b) 0 = mg b from by unfold mulx; simp)
  go_enter Tryd.func40, Tryd.ntmps40
  go_upto_block 0 with (first | (go_at_call 62; (with_reducible refine (rnone_any _ _ _ (by assumption) (by assumption)).mono ?_); rintro e w' ⟨rfl, rfl⟩) | (go_at_call 37; (with_reducible refine (rclass_any _ _ (by assumption)).mono ?_); rintro e w' ⟨rfl, rfl⟩) | (go_at_call 63; (with_reducible refine (rneg_any _ _).mono ?_); rintro e w' ⟨rfl, rfl⟩) | (go_at_call 64; (with_reducible refine (ropen_any _ _ (by assumption)).mono ?_); rintro e w' ⟨rfl, rfl⟩))
  go_cut [] (fun wc => wc = ((((w.alloc (.cells #[.bool (sgn a), .int .u64 (mg a), .int .i64 (pl a), .bool false] 92)).alloc (.cells #[.bool (sgn b), .int .u64 (mg b), .int .i64 (pl b), .bool false] 92)).alloc (.cells #[.bool (sgn a), .int .u64 (so_nm (mg a)), .int .i64 (pl a - so_nl (mg a)), .bool false] 92)).alloc (.cells #[.bool (sgn b), .int .u64 (mg b), .int .i64 (pl b), .bool false] 92)))
  case first =>
    go_wp2_with fail
    go_loopg [] (so_nl (mg a)) (fun k wr => ∃ i : Nat, i + k = so_nl (mg a) ∧ wr = ((((w.alloc (.cells #[.bool (sgn a), .int .u64 (mg a), .int .i64 (pl a), .bool false] 92)).alloc (.cells #[.bool (sgn b), .int .u64 (mg b), .int .i64 (pl b), .bool false] 92)).alloc (.cells #[.bool (sgn a), .int .u64 (mulx (mg a) i), .int .i64 (pl a - i), .bool false] 92)).alloc (.cells #[.bool (sgn b), .int .u64 (mg b), .int .i64 (pl b), .bool false] 92)))
    case atStart => exact ⟨0, by omega, by rw [XA.out]; exact two_of' rfl (by omega) rfl (by omega)⟩
    case round =>
      obtain ⟨i, hk, rfl⟩ := hrel
      have hi : (i : Int) ≤ 52 := by omega
      have LI := LA.out i
      change mulx (mg a) i < 4503599627370496 ↔ _ at LI
      have SX := Lib.hid (mulx_succ (mg a) i)
      by_cases hlt : i < so_nl (mg a)
      · have k1 : (mulx (mg a) i : Int) < 4503599627370496 := by have := LI.2 hlt; omega
        have HK := Lib.hid hk
        have HT := Lib.hid hlt
        clear hk hlt LI
        go_wp2_with fail
        go_roundg (gk - 1)
        case measure => have := HK.out; have := HT.out; omega
        case rel => exact ⟨i + 1, by have := HK.out; have := HT.out; omega, two_of' (by rw [SX.out]; omega) (by omega) rfl rfl⟩
      · obtain rfl : i = so_nl (mg a) := by omega
        have k1 : decide ((mulx (mg a) (so_nl (mg a)) : Int) < 4503599627370496) = false := by simp; omega
        clear hk hlt LI
        go_wp2_with fail
        go_meet
        case rel => rfl
  case rest =>
  subst hcut
  go_upto_block 2 with fail
  go_cut [] (fun wc => wc = ((((w.alloc (.cells #[.bool (sgn a), .int .u64 (mg a), .int .i64 (pl a), .bool false] 92)).alloc (.cells #[.bool (sgn b), .int .u64 (mg b), .int .i64 (pl b), .bool false] 92)).alloc (.cells #[.bool (sgn a), .int .u64 (so_nm (mg a)), .int .i64 (pl a - so_nl (mg a)), .bool false] 92)).alloc (.cells #[.bool (sgn b), .int .u64 (so_nm (mg b)), .int .i64 (pl b - so_nl (mg b)), .bool false] 92)))
  case first =>
    go_wp2_with fail
    go_loopg [] (so_nl (mg b)) (fun k wr => ∃ i : Nat, i + k = so_nl (mg b) ∧ wr = ((((w.alloc (.cells #[.bool (sgn a), .int .u64 (mg a), .int .i64 (pl a), .bool false] 92)).alloc (.cells #[.bool (sgn b), .int .u64 (mg b), .int .i64 (pl b), .bool false] 92)).alloc (.cells #[.bool (sgn a), .int .u64 (so_nm (mg a)), .int .i64 (pl a - so_nl (mg a)), .bool false] 92)).alloc (.cells #[.bool (sgn b), .int .u64 (mulx (mg b) i), .int .i64 (pl b - i), .bool false] 92)))
    case atStart => exact ⟨0, by omega, by rw [XB.out]; exact two_of' rfl (by omega) rfl (by omega)⟩
    case round =>
      obtain ⟨i, hk, rfl⟩ := hrel
      have hi : (i : Int) ≤ 52 := by omega
      have LI := LB.out i
      change mulx (mg b) i < 4503599627370496 ↔ _ at LI
      have SX := Lib.hid (mulx_succ (mg b) i)
      by_cases hlt : i < so_nl (mg b)
      · have k1 : (mulx (mg b) i : Int) < 4503599627370496 := by have := LI.2 hlt; omega
        have HK := Lib.hid hk
        have HT := Lib.hid hlt
        clear hk hlt LI
        go_wp2_with fail
        go_roundg (gk - 1)
        case measure => have := HK.out; have := HT.out; omega
        case rel => exact ⟨i + 1, by have := HK.out; have := HT.out; omega, two_of' rfl rfl (by rw [SX.out]; omega) (by omega)⟩
      · obtain rfl : i = so_nl (mg b) := by omega
        have k1 : decide ((mulx (mg b) (so_nl (mg b)) : Int) < 4503599627370496) = false := by simp; omega
        clear hk hlt LI
        go_wp2_with fail
        go_meet
        case rel => rfl
  case rest =>
  subst hcut
  go_wp2_with fail
  go_quiet (fail)
  go_wp2_with fail
  go_loop [8, 9, 10] (fun q r k => ∃ i : Nat, i ≤ 60 ∧ k = .int .i64 i ∧ q = .int .u64 (so_dq (so_nm (mg a)) (so_nm (mg b)) i) ∧ r = .int .u64 (dr (so_nm (mg a)) (so_nm (mg b)) i)) (fun _ _ k => 60 - (intOf k).toNat)
  case atStart =>
    have d0 := DZ.out
    have d1 := (DB.out 0 (by omega)).1
    exact ⟨0, by omega, rfl, by rw [d0.1]; exact u64_val (by rw [← Int.natCast_ediv, IntWalk.u64_in _ (by rw [d0.1] at d1; omega)]), by rw [d0.2]; exact u64_val (Int.natCast_emod _ _).symm⟩
  case round =>
    obtain ⟨i, hi, rfl, rfl, rfl⟩ := hrel
    obtain ⟨d1, d2⟩ := DB.out i hi
    by_cases hlt : i < 60
    · obtain ⟨s1, s2⟩ := dq_succ (so_nm (mg a)) (so_nm (mg b)) i (by omega)
      have S1 := Lib.hid s1
      have S2 := Lib.hid s2
      have d3 := (DB.out (i + 1) (by omega)).1
      have d4 : (2 * (dr (so_nm (mg a)) (so_nm (mg b)) i : Int)) / (so_nm (mg b) : Int) ≤ 2 * (dr (so_nm (mg a)) (so_nm (mg b)) i : Int) ∧ 0 ≤ (2 * (dr (so_nm (mg a)) (so_nm (mg b)) i : Int)) / (so_nm (mg b) : Int) := ⟨Int.ediv_le_self _ (by omega), Int.ediv_nonneg (by omega) (by omega)⟩
      obtain ⟨d5, d6⟩ := d4
      clear s1 s2 d3
      go_wp2_with fail
      go_round
      case rel => exact ⟨i + 1, by omega, by go_num, u64_val (by rw [← S1.out]; simp only [Int.natCast_add, Int.natCast_mul, Int.natCast_ediv]; rfl), u64_val (by rw [← S2.out]; simp only [Int.natCast_mul, Int.natCast_emod]; rfl)⟩
      case measure => simp [intOf]; omega
    · obtain rfl : i = 60 := by omega
      go_wp2_with (go_at_call 66; (with_reducible refine (rround_int _ _ _ _ _ (by omega) (by omega) (by omega) (by omega) (by omega)).mono ?_); rintro e w' ⟨rfl, hg⟩)
      go_ret
      refine ⟨ret_int ?_, ((((((New.refl _).alloc _ _).alloc _ _).alloc _ _).alloc _ _).drewN _).trans (by assumption)⟩
      rw [RD.out]
      rw [show decide (0 < dr (so_nm (mg a)) (so_nm (mg b)) 60) = !(dr (so_nm (mg a)) (so_nm (mg b)) 60 == 0) from by rw [Bool.eq_iff_iff]; simp; omega]
      rfl
set_option maxRecDepth 100000 in
set_option maxHeartbeats 2000000 in
theorem rdiv_any (a b : Nat) (w : World) (ha : U a) (hb : U b) :
    Calls Tryd.prog 40 #[.int .u64 a, .int .u64 b] w fun e w' => e = .returned (.int .u64 (opv (Ieee.double.div a b))) ∧ New w w' := by
  cases hn : nn a b with
  | true =>
    have E := Lib.hid (div_nan a b ha hb hn)
    go_enter Tryd.func40, Tryd.ntmps40
    go_wp2_with (first | (go_at_call 62; (with_reducible refine (rnone_any _ _ _ (by assumption) (by assumption)).mono ?_); rintro e w' ⟨rfl, rfl⟩) | (go_at_call 37; (with_reducible refine (rclass_any _ _ (by assumption)).mono ?_); rintro e w' ⟨rfl, rfl⟩) | (go_at_call 63; (with_reducible refine (rneg_any _ _).mono ?_); rintro e w' ⟨rfl, rfl⟩) | (go_at_call 64; (with_reducible refine (ropen_any _ _ (by assumption)).mono ?_); rintro e w' ⟨rfl, rfl⟩) | (go_at_call 65; (with_reducible refine (so_rsigned_any _ _ _ (by omega) (by omega)).mono ?_); rintro e w' ⟨rfl, rfl⟩))
    go_ret
    exact ⟨ret_int (by rw [E.out]; rfl), New.refl _⟩
  | false =>
    have n1 : cls a ≠ 4 := by intro c; unfold nn at hn; simp [c] at hn
    have n2 : cls b ≠ 4 := by intro c; unfold nn at hn; simp [c] at hn
    have wI := wd_int (mneg a b)
    have SP := div_special a b ha hb hn
    rcases (show cls a = 3 ∨ cls a = 0 ∨ (cls a ≠ 3 ∧ cls a ≠ 0) by omega) with hA | hA | hA <;> rcases (show cls b = 3 ∨ cls b = 0 ∨ (cls b ≠ 3 ∧ cls b ≠ 0) by omega) with hB | hB | hB
    · have ka3 : (cls a == 3) = true := by simp; omega
      have ka0 : (cls a == 0) = false := by simp; omega
      have kb3 : (cls b == 3) = true := by simp; omega
      have kb0 : (cls b == 0) = false := by simp; omega
      have E' := Lib.hid (show opv (Ieee.double.div a b) = Emp from by rw [SP (by omega), if_pos (by omega)])
      clear wI SP n1 n2 hA hB
      go_enter Tryd.func40, Tryd.ntmps40
      go_wp2_with (first | (go_at_call 62; (with_reducible refine (rnone_any _ _ _ (by assumption) (by assumption)).mono ?_); rintro e w' ⟨rfl, rfl⟩) | (go_at_call 37; (with_reducible refine (rclass_any _ _ (by assumption)).mono ?_); rintro e w' ⟨rfl, rfl⟩) | (go_at_call 63; (with_reducible refine (rneg_any _ _).mono ?_); rintro e w' ⟨rfl, rfl⟩) | (go_at_call 64; (with_reducible refine (ropen_any _ _ (by assumption)).mono ?_); rintro e w' ⟨rfl, rfl⟩) | (go_at_call 65; (with_reducible refine (so_rsigned_any _ _ _ (by omega) (by omega)).mono ?_); rintro e w' ⟨rfl, rfl⟩))
      go_ret
      exact ⟨ret_int (by rw [E'.out]; rfl), New.refl _⟩
    · have ka3 : (cls a == 3) = true := by simp; omega
      have ka0 : (cls a == 0) = false := by simp; omega
      have kb3 : (cls b == 3) = false := by simp; omega
      have kb0 : (cls b == 0) = true := by simp; omega
      have E' := Lib.hid (show ((opv (Ieee.double.div a b) : Nat) : Int) = wdI (mneg a b) 9218868437227405312 from by rw [SP (by omega), if_neg (by omega), if_pos (by omega), wI]; rfl)
      clear wI SP n1 n2 hA hB
      go_enter Tryd.func40, Tryd.ntmps40
      go_wp2_with (first | (go_at_call 62; (with_reducible refine (rnone_any _ _ _ (by assumption) (by assumption)).mono ?_); rintro e w' ⟨rfl, rfl⟩) | (go_at_call 37; (with_reducible refine (rclass_any _ _ (by assumption)).mono ?_); rintro e w' ⟨rfl, rfl⟩) | (go_at_call 63; (with_reducible refine (rneg_any _ _).mono ?_); rintro e w' ⟨rfl, rfl⟩) | (go_at_call 64; (with_reducible refine (ropen_any _ _ (by assumption)).mono ?_); rintro e w' ⟨rfl, rfl⟩) | (go_at_call 65; (with_reducible refine (so_rsigned_any _ _ _ (by omega) (by omega)).mono ?_); rintro e w' ⟨rfl, rfl⟩))
      go_ret
      exact ⟨ret_int (by rw [E'.out]; rfl), New.refl _⟩
    · have ka3 : (cls a == 3) = true := by simp; omega
      have ka0 : (cls a == 0) = false := by simp; omega
      have kb3 : (cls b == 3) = false := by simp; omega
      have kb0 : (cls b == 0) = false := by simp; omega
      have E' := Lib.hid (show ((opv (Ieee.double.div a b) : Nat) : Int) = wdI (mneg a b) 9218868437227405312 from by rw [SP (by omega), if_neg (by omega), if_pos (by omega), wI]; rfl)
      clear wI SP n1 n2 hA hB
      go_enter Tryd.func40, Tryd.ntmps40
      go_wp2_with (first | (go_at_call 62; (with_reducible refine (rnone_any _ _ _ (by assumption) (by assumption)).mono ?_); rintro e w' ⟨rfl, rfl⟩) | (go_at_call 37; (with_reducible refine (rclass_any _ _ (by assumption)).mono ?_); rintro e w' ⟨rfl, rfl⟩) | (go_at_call 63; (with_reducible refine (rneg_any _ _).mono ?_); rintro e w' ⟨rfl, rfl⟩) | (go_at_call 64; (with_reducible refine (ropen_any _ _ (by assumption)).mono ?_); rintro e w' ⟨rfl, rfl⟩) | (go_at_call 65; (with_reducible refine (so_rsigned_any _ _ _ (by omega) (by omega)).mono ?_); rintro e w' ⟨rfl, rfl⟩))
      go_ret
      exact ⟨ret_int (by rw [E'.out]; rfl), New.refl _⟩
    · have ka3 : (cls a == 3) = false := by simp; omega
      have ka0 : (cls a == 0) = true := by simp; omega
      have kb3 : (cls b == 3) = true := by simp; omega
      have kb0 : (cls b == 0) = false := by simp; omega
      have E' := Lib.hid (show ((opv (Ieee.double.div a b) : Nat) : Int) = wdI (mneg a b) 0 from by rw [SP (by omega), if_neg (by omega), if_neg (by omega), wI]; rfl)
      clear wI SP n1 n2 hA hB
      go_enter Tryd.func40, Tryd.ntmps40
      go_wp2_with (first | (go_at_call 62; (with_reducible refine (rnone_any _ _ _ (by assumption) (by assumption)).mono ?_); rintro e w' ⟨rfl, rfl⟩) | (go_at_call 37; (with_reducible refine (rclass_any _ _ (by assumption)).mono ?_); rintro e w' ⟨rfl, rfl⟩) | (go_at_call 63; (with_reducible refine (rneg_any _ _).mono ?_); rintro e w' ⟨rfl, rfl⟩) | (go_at_call 64; (with_reducible refine (ropen_any _ _ (by assumption)).mono ?_); rintro e w' ⟨rfl, rfl⟩) | (go_at_call 65; (with_reducible refine (so_rsigned_any _ _ _ (by omega) (by omega)).mono ?_); rintro e w' ⟨rfl, rfl⟩))
      go_ret
      exact ⟨ret_int (by rw [E'.out]; rfl), New.refl _⟩
    · have ka3 : (cls a == 3) = false := by simp; omega
      have ka0 : (cls a == 0) = true := by simp; omega
      have kb3 : (cls b == 3) = false := by simp; omega
      have kb0 : (cls b == 0) = true := by simp; omega
      have E' := Lib.hid (show opv (Ieee.double.div a b) = Emp from by rw [SP (by omega), if_pos (by omega)])
      clear wI SP n1 n2 hA hB
      go_enter Tryd.func40, Tryd.ntmps40
      go_wp2_with (first | (go_at_call 62; (with_reducible refine (rnone_any _ _ _ (by assumption) (by assumption)).mono ?_); rintro e w' ⟨rfl, rfl⟩) | (go_at_call 37; (with_reducible refine (rclass_any _ _ (by assumption)).mono ?_); rintro e w' ⟨rfl, rfl⟩) | (go_at_call 63; (with_reducible refine (rneg_any _ _).mono ?_); rintro e w' ⟨rfl, rfl⟩) | (go_at_call 64; (with_reducible refine (ropen_any _ _ (by assumption)).mono ?_); rintro e w' ⟨rfl, rfl⟩) | (go_at_call 65; (with_reducible refine (so_rsigned_any _ _ _ (by omega) (by omega)).mono ?_); rintro e w' ⟨rfl, rfl⟩))
      go_ret
      exact ⟨ret_int (by rw [E'.out]; rfl), New.refl _⟩
    · have ka3 : (cls a == 3) = false := by simp; omega
      have ka0 : (cls a == 0) = true := by simp; omega
      have kb3 : (cls b == 3) = false := by simp; omega
      have kb0 : (cls b == 0) = false := by simp; omega
      have fa := (fin_cls a).2 ⟨by omega, n1⟩
      have fb := (fin_cls b).2 ⟨by omega, n2⟩
      have E' := Lib.hid (show ((opv (Ieee.double.div a b) : Nat) : Int) = wdI (mneg a b) 0 from by rw [div_zero a b ha hb fa fb ((cls0_mg a).1 (by omega)) (by have := cls0_mg b; omega), wI]; rfl)
      clear fa fb
      clear wI SP n1 n2 hA hB
      go_enter Tryd.func40, Tryd.ntmps40
      go_wp2_with (first | (go_at_call 62; (with_reducible refine (rnone_any _ _ _ (by assumption) (by assumption)).mono ?_); rintro e w' ⟨rfl, rfl⟩) | (go_at_call 37; (with_reducible refine (rclass_any _ _ (by assumption)).mono ?_); rintro e w' ⟨rfl, rfl⟩) | (go_at_call 63; (with_reducible refine (rneg_any _ _).mono ?_); rintro e w' ⟨rfl, rfl⟩) | (go_at_call 64; (with_reducible refine (ropen_any _ _ (by assumption)).mono ?_); rintro e w' ⟨rfl, rfl⟩) | (go_at_call 65; (with_reducible refine (so_rsigned_any _ _ _ (by omega) (by omega)).mono ?_); rintro e w' ⟨rfl, rfl⟩))
      go_ret
      exact ⟨ret_int (by rw [E'.out]; rfl), New.refl _⟩
    · have ka3 : (cls a == 3) = false := by simp; omega
      have ka0 : (cls a == 0) = false := by simp; omega
      have kb3 : (cls b == 3) = true := by simp; omega
      have kb0 : (cls b == 0) = false := by simp; omega
      have E' := Lib.hid (show ((opv (Ieee.double.div a b) : Nat) : Int) = wdI (mneg a b) 0 from by rw [SP (by omega), if_neg (by omega), if_neg (by omega), wI]; rfl)
      clear wI SP n1 n2 hA hB
      go_enter Tryd.func40, Tryd.ntmps40
      go_wp2_with (first | (go_at_call 62; (with_reducible refine (rnone_any _ _ _ (by assumption) (by assumption)).mono ?_); rintro e w' ⟨rfl, rfl⟩) | (go_at_call 37; (with_reducible refine (rclass_any _ _ (by assumption)).mono ?_); rintro e w' ⟨rfl, rfl⟩) | (go_at_call 63; (with_reducible refine (rneg_any _ _).mono ?_); rintro e w' ⟨rfl, rfl⟩) | (go_at_call 64; (with_reducible refine (ropen_any _ _ (by assumption)).mono ?_); rintro e w' ⟨rfl, rfl⟩) | (go_at_call 65; (with_reducible refine (so_rsigned_any _ _ _ (by omega) (by omega)).mono ?_); rintro e w' ⟨rfl, rfl⟩))
      go_ret
      exact ⟨ret_int (by rw [E'.out]; rfl), New.refl _⟩
    · have ka3 : (cls a == 3) = false := by simp; omega
      have ka0 : (cls a == 0) = false := by simp; omega
      have kb3 : (cls b == 3) = false := by simp; omega
      have kb0 : (cls b == 0) = true := by simp; omega
      have E' := Lib.hid (show ((opv (Ieee.double.div a b) : Nat) : Int) = wdI (mneg a b) 9218868437227405312 from by rw [SP (by omega), if_neg (by omega), if_pos (by omega), wI]; rfl)
      clear wI SP n1 n2 hA hB
      go_enter Tryd.func40, Tryd.ntmps40
      go_wp2_with (first | (go_at_call 62; (with_reducible refine (rnone_any _ _ _ (by assumption) (by assumption)).mono ?_); rintro e w' ⟨rfl, rfl⟩) | (go_at_call 37; (with_reducible refine (rclass_any _ _ (by assumption)).mono ?_); rintro e w' ⟨rfl, rfl⟩) | (go_at_call 63; (with_reducible refine (rneg_any _ _).mono ?_); rintro e w' ⟨rfl, rfl⟩) | (go_at_call 64; (with_reducible refine (ropen_any _ _ (by assumption)).mono ?_); rintro e w' ⟨rfl, rfl⟩) | (go_at_call 65; (with_reducible refine (so_rsigned_any _ _ _ (by omega) (by omega)).mono ?_); rintro e w' ⟨rfl, rfl⟩))
      go_ret
      exact ⟨ret_int (by rw [E'.out]; rfl), New.refl _⟩
    · exact rdiv_num a b w ha hb hn ((fin_cls a).2 ⟨by omega, n1⟩) ((fin_cls b).2 ⟨by omega, n2⟩) (by have := cls0_mg a; omega) (by have := cls0_mg b; omega)
end Go.Proofs.YtgkonjgalpchoaaDoor
