/- What the document's own root of any binary64 number is; a contract, for all bits, in any world, behind which there are new blocks. -/
import Derived.Test.YtgkonjgalpchoaaDoorSoftX
namespace Go.Proofs.YtgkonjgalpchoaaDoor
open Go.RowKit
set_option linter.unusedVariables false
theorem u64_of' {x y : Int} (h : x = y) : Value.int .u64 x = .int .u64 y := by rw [h]
theorem one_of {base : World} {s : Bool} {x x' p p' : Int} (hx : x = x') (hp : p = p') :
    (base.alloc (.cells #[.bool s, .int .u64 x, .int .i64 p, .bool false] 92)) =
    (base.alloc (.cells #[.bool s, .int .u64 x', .int .i64 p', .bool false] 92)) := by
  rw [hx, hp]
theorem tmod2 (n : Int) : (n.tmod 2 != 0) = (n % 2 != 0) := by
  have h := Int.tmod_eq_emod (a := n) (b := 2)
  rw [Bool.eq_iff_iff]; simp only [bne_iff_ne, ne_eq]
  rw [h, show Int.natAbs 2 = 2 from rfl]; split <;> omega
theorem tdiv2 (n : Int) (h : n % 2 = 0) : n.tdiv 2 = n / 2 := by
  rw [Int.tdiv_eq_ediv, if_pos (Or.inr (Int.dvd_of_emod_eq_zero h))]; omega
def rXm (M i : Nat) : Nat := rX M (min i 27)
theorem rXm_low (M i : Nat) (h : i ≤ 27) : rXm M i = rX M i := by unfold rXm; rw [Nat.min_eq_left h]
theorem rXm_high (M i : Nat) (h : 27 ≤ i) : rXm M (i + 1) = rXm M i := by unfold rXm; rw [Nat.min_eq_right (by omega), Nat.min_eq_right h]
set_option maxRecDepth 100000 in
set_option maxHeartbeats 4000000 in
theorem rsqrt_num (a : Nat) (w : World) (ha : U a) (fa : fin a = true) (h0 : 0 < mg a) (hs : sgn a = false) :
    Calls Tryd.prog 41 #[.int .u64 a] w fun e w' => e = .returned (.int .u64 (opv (Ieee.double.sqrt a))) ∧ New w w' := by
  have c1 : (cls a == 3) = false := by simpa using ((fin_cls a).1 fa).1
  have c2 : (cls a == 4) = false := by simpa using ((fin_cls a).1 fa).2
  have c3 : (cls a == 0) = false := by have := cls0_mg a; simp; omega
  have m1 := mg_lt a
  obtain ⟨p1, p2⟩ := pl_bd a fa
  have n1 := rk_le (mg a) (pl a)
  obtain ⟨a1, a2⟩ := rm_bd (mg a) (pl a) h0 m1
  have LA := Lib.hid (fun i => rk_iff (mg a) (pl a) i h0 m1)
  have RD := Lib.hid (sqrt_num a ha fa h0 hs)
  have EV := rk_even (mg a) (pl a)
  have TD := Lib.hid (tdiv2 _ EV)
  have XA := Lib.hid (show mulx (mg a) 0 = mg a from by unfold mulx; simp)
  have HE := Lib.hid EV
  have HS := Lib.hid hs
  clear EV
  go_enter Tryd.func41, Tryd.ntmps41
  go_upto_block 0 with (first | (go_at_call 37; (with_reducible refine (rclass_any _ _ (by assumption)).mono ?_); rintro e w' ⟨rfl, rfl⟩) | (go_at_call 63; (with_reducible refine (rneg_any _ _).mono ?_); rintro e w' ⟨rfl, rfl⟩) | (go_at_call 64; (with_reducible refine (ropen_any _ _ (by assumption)).mono ?_); rintro e w' ⟨rfl, rfl⟩))
  go_cut [] (fun wc => wc = ((w.alloc (.cells #[.bool false, .int .u64 (mg a), .int .i64 (pl a), .bool false] 92)).alloc (.cells #[.bool false, .int .u64 (rm (mg a) (pl a)), .int .i64 (pl a - rk (mg a) (pl a)), .bool false] 92)))
  case first =>
    go_wp2_with fail
    go_loopg [] (rk (mg a) (pl a)) (fun k wr => ∃ i : Nat, i + k = rk (mg a) (pl a) ∧ wr = ((w.alloc (.cells #[.bool false, .int .u64 (mg a), .int .i64 (pl a), .bool false] 92)).alloc (.cells #[.bool false, .int .u64 (mulx (mg a) i), .int .i64 (pl a - i), .bool false] 92)))
    case atStart => exact ⟨0, by omega, by rw [XA.out]; exact one_of rfl (by omega)⟩
    case round =>
      obtain ⟨i, hk, rfl⟩ := hrel
      have hi : (i : Int) ≤ 53 := by omega
      have LI := LA.out i (by omega)
      change (mulx (mg a) i < 4503599627370496 ∨ _) ↔ _ at LI
      have SX := Lib.hid (mulx_succ (mg a) i)
      have T2 := Lib.hid (tmod2 (pl a - i))
      by_cases hlt : i < rk (mg a) (pl a)
      · by_cases hm : mulx (mg a) i < 4503599627370496
        · have k1 : (mulx (mg a) i : Int) < 4503599627370496 := by omega
          have HK := Lib.hid hk
          have HT := Lib.hid hlt
          clear hk hlt LI hm
          go_wp2_with fail
          go_roundg (gk - 1)
          case measure => have := HK.out; have := HT.out; omega
          case rel => exact ⟨i + 1, by have := HK.out; have := HT.out; omega, one_of (by rw [SX.out]; omega) (by omega)⟩
        · have k1 : decide ((mulx (mg a) i : Int) < 4503599627370496) = false := by simp; omega
          have k2 : ((pl a - (i : Int)).tmod 2 != 0) = true := by rw [T2.out]; have := LI.2 hlt; simp; omega
          have k3 : mulx (mg a) i < 9007199254740992 := by
            have := rm_bd (mg a) (pl a) h0 m1
            have h9 : mulx (mg a) i * 2 ≤ rm (mg a) (pl a) := by
              unfold mulx rm; rw [Nat.mul_assoc, ← Nat.pow_succ]; exact Nat.mul_le_mul_left _ (Nat.pow_le_pow_right (by decide) hlt)
            omega
          have HK := Lib.hid hk
          have HT := Lib.hid hlt
          clear hk hlt LI hm
          go_wp2_with fail
          go_roundg (gk - 1)
          case measure => have := HK.out; have := HT.out; omega
          case rel => exact ⟨i + 1, by have := HK.out; have := HT.out; omega, one_of (by rw [SX.out]; omega) (by omega)⟩
      · obtain rfl : i = rk (mg a) (pl a) := by omega
        have k1 : decide ((mulx (mg a) (rk (mg a) (pl a)) : Int) < 4503599627370496) = false := by simp; omega
        have k2 : ((pl a - (rk (mg a) (pl a) : Int)).tmod 2 != 0) = false := by rw [T2.out]; have := HE.out; simp; omega
        clear hk hlt LI
        go_wp2_with fail
        go_meet
        case rel => rfl
  case rest =>
  subst hcut
  go_wp2_with fail
  go_loopg [4, 5, 6] 57 (fun k r s c wr => ∃ (i root rest : Nat), i + k = 57 ∧ r = .int .u64 root ∧ s = .int .u64 rest ∧ c = .int .i64 i ∧ Rt (rm (mg a) (pl a)) i root rest ∧ wr = ((w.alloc (.cells #[.bool false, .int .u64 (mg a), .int .i64 (pl a), .bool false] 92)).alloc (.cells #[.bool false, .int .u64 (rXm (rm (mg a) (pl a)) i), .int .i64 (pl a - rk (mg a) (pl a)), .bool false] 92)))
  case atStart => exact ⟨0, 0, 0, rfl, rfl, rfl, rfl, rt_zero _ a2, by rw [rXm_low _ _ (by omega), rX_zero _ a2]⟩
  case round =>
    obtain ⟨i, root, rest, hk, rfl, rfl, rfl, hR, rfl⟩ := hrel
    obtain ⟨b1, b2⟩ := rt_bd (rm (mg a) (pl a)) i root rest a2 hR
    have HR := Lib.hid hR
    have HK := Lib.hid hk
    have hi : (i : Int) ≤ 57 := by omega
    clear hR hk
    by_cases h57 : i < 57
    · have hx : rXm (rm (mg a) (pl a)) i < 18014398509481984 := rX_lt _ _
      by_cases h27 : i < 27
      · have e1 := two_low (rm (mg a) (pl a)) i h27
        rw [← rXm_low _ _ (by omega)] at e1
        have E2 := Lib.hid (rX_succ (rm (mg a) (pl a)) i)
        rw [← rXm_low _ _ (by omega), ← rXm_low _ _ (by omega)] at E2
        by_cases hc : 2 * (2 * root) + 1 ≤ 4 * rest + two (rm (mg a) (pl a)) i
        · have k1 : 2 * (2 * (root : Int)) + 1 ≤ 4 * (rest : Int) + (rXm (rm (mg a) (pl a)) i : Int) / 4503599627370496 % 4 := by omega
          have NX := Lib.hid (rt_up (rm (mg a) (pl a)) i root rest h57 HR.out hc)
          have E1 := Lib.hid e1
          clear e1 hc
          go_wp2_with fail
          go_roundg (gk - 1)
          case measure => have := HK.out; omega
          case rel => exact ⟨i + 1, _, _, by have := HK.out; omega, by go_num, u64_of' (by rw [← E1.out]; omega), by go_num, NX.out, one_of (by rw [E2.out]; omega) rfl⟩
        · have k1 : decide (2 * (2 * (root : Int)) + 1 ≤ 4 * (rest : Int) + (rXm (rm (mg a) (pl a)) i : Int) / 4503599627370496 % 4) = false := by simp; omega
          have NX := Lib.hid (rt_stay (rm (mg a) (pl a)) i root rest h57 HR.out hc)
          have E1 := Lib.hid e1
          clear e1 hc
          go_wp2_with fail
          go_roundg (gk - 1)
          case measure => have := HK.out; omega
          case rel => exact ⟨i + 1, _, _, by have := HK.out; omega, by go_num, u64_of' (by rw [← E1.out]; omega), by go_num, NX.out, one_of (by rw [E2.out]; omega) rfl⟩
      · have e1 := two_high (rm (mg a) (pl a)) i (by omega) h57
        have E2 := Lib.hid (rXm_high (rm (mg a) (pl a)) i (by omega))
        by_cases hc : 2 * (2 * root) + 1 ≤ 4 * rest + two (rm (mg a) (pl a)) i
        · have k1 : 2 * (2 * (root : Int)) + 1 ≤ 4 * (rest : Int) := by omega
          have NX := Lib.hid (rt_up (rm (mg a) (pl a)) i root rest h57 HR.out hc)
          have E1 := Lib.hid e1
          clear e1 hc
          go_wp2_with fail
          go_roundg (gk - 1)
          case measure => have := HK.out; omega
          case rel => exact ⟨i + 1, _, _, by have := HK.out; omega, by go_num, u64_of' (by rw [E1.out]; omega), by go_num, NX.out, one_of (by rw [E2.out]) rfl⟩
        · have k1 : decide (2 * (2 * (root : Int)) + 1 ≤ 4 * (rest : Int)) = false := by simp; omega
          have NX := Lib.hid (rt_stay (rm (mg a) (pl a)) i root rest h57 HR.out hc)
          have E1 := Lib.hid e1
          clear e1 hc
          go_wp2_with fail
          go_roundg (gk - 1)
          case measure => have := HK.out; omega
          case rel => exact ⟨i + 1, _, _, by have := HK.out; omega, by go_num, u64_of' (by rw [E1.out]; omega), by go_num, NX.out, one_of (by rw [E2.out]) rfl⟩
    · obtain rfl : i = 57 := by omega
      have td := TD.out
      have so_low := root_low _ _ a1 (rt_root HR.out).1
      have RDX := Lib.hid (RD.out root rest HR.out)
      go_wp2_with (go_at_call 66; (with_reducible refine (rround_int _ _ _ _ _ (by omega) (by omega) (by omega) (by omega) (by omega)).mono ?_); rintro e w' ⟨rfl, hg⟩)
      go_ret
      refine ⟨ret_int ?_, (((New.refl _).alloc _ _).alloc _ _).trans (by assumption)⟩
      rw [RDX.out]
set_option maxRecDepth 100000 in
set_option maxHeartbeats 1000000 in
theorem rsqrt_any (a : Nat) (w : World) (ha : U a) : Calls Tryd.prog 41 #[.int .u64 a] w fun e w' => e = .returned (.int .u64 (opv (Ieee.double.sqrt a))) ∧ New w w' := by
  by_cases h0 : cls a = 0
  · have k : (cls a == 0) = true := by simpa using h0
    have E := Lib.hid (sqrt_zero a ha h0)
    clear h0
    go_enter Tryd.func41, Tryd.ntmps41
    go_wp2_with (first | (go_at_call 37; (with_reducible refine (rclass_any _ _ (by assumption)).mono ?_); rintro e w' ⟨rfl, rfl⟩) | (go_at_call 63; (with_reducible refine (rneg_any _ _).mono ?_); rintro e w' ⟨rfl, rfl⟩) | (go_at_call 64; (with_reducible refine (ropen_any _ _ (by assumption)).mono ?_); rintro e w' ⟨rfl, rfl⟩))
    go_ret
    exact ⟨ret_int (by rw [E.out]), New.refl _⟩
  · have k0 : (cls a == 0) = false := by simpa using h0
    by_cases h4 : cls a = 4
    · have k : (cls a == 4) = true := by simpa using h4
      have E := Lib.hid (sqrt_nan a ha h4)
      clear h0 h4
      go_enter Tryd.func41, Tryd.ntmps41
      go_wp2_with (first | (go_at_call 37; (with_reducible refine (rclass_any _ _ (by assumption)).mono ?_); rintro e w' ⟨rfl, rfl⟩) | (go_at_call 63; (with_reducible refine (rneg_any _ _).mono ?_); rintro e w' ⟨rfl, rfl⟩) | (go_at_call 64; (with_reducible refine (ropen_any _ _ (by assumption)).mono ?_); rintro e w' ⟨rfl, rfl⟩))
      go_ret
      exact ⟨ret_int (by rw [E.out]; rfl), New.refl _⟩
    · have k4 : (cls a == 4) = false := by simpa using h4
      have n0 : mg a ≠ 0 := fun z => h0 ((cls0_mg a).2 z)
      cases hs : sgn a
      · by_cases h3 : cls a = 3
        · have k3 : (cls a == 3) = true := by simpa using h3
          have E := Lib.hid (show opv (Ieee.double.sqrt a) = a from by rw [sqrt_inf a ha h3, hs]; rfl)
          clear h0 h4 h3 n0
          go_enter Tryd.func41, Tryd.ntmps41
          go_wp2_with (first | (go_at_call 37; (with_reducible refine (rclass_any _ _ (by assumption)).mono ?_); rintro e w' ⟨rfl, rfl⟩) | (go_at_call 63; (with_reducible refine (rneg_any _ _).mono ?_); rintro e w' ⟨rfl, rfl⟩) | (go_at_call 64; (with_reducible refine (ropen_any _ _ (by assumption)).mono ?_); rintro e w' ⟨rfl, rfl⟩))
          go_ret
          exact ⟨ret_int (by rw [E.out]), New.refl _⟩
        · exact rsqrt_num a w ha ((fin_cls a).2 ⟨h3, h4⟩) (by omega) hs
      · have E := Lib.hid (show opv (Ieee.double.sqrt a) = Emp from by
          by_cases h3 : cls a = 3
          · rw [sqrt_inf a ha h3, hs]; rfl
          · exact sqrt_neg a ha ((fin_cls a).2 ⟨h3, h4⟩) (by omega) hs)
        clear h0 h4 n0
        go_enter Tryd.func41, Tryd.ntmps41
        go_wp2_with (first | (go_at_call 37; (with_reducible refine (rclass_any _ _ (by assumption)).mono ?_); rintro e w' ⟨rfl, rfl⟩) | (go_at_call 63; (with_reducible refine (rneg_any _ _).mono ?_); rintro e w' ⟨rfl, rfl⟩) | (go_at_call 64; (with_reducible refine (ropen_any _ _ (by assumption)).mono ?_); rintro e w' ⟨rfl, rfl⟩))
        go_ret
        exact ⟨ret_int (by rw [E.out]; rfl), New.refl _⟩
end Go.Proofs.YtgkonjgalpchoaaDoor
