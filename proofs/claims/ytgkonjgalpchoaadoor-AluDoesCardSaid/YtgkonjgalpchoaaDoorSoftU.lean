/- What the document's own sum of binary64 numbers is: a contract, for all bits, in any world, behind which there are new blocks. -/
import Derived.Test.YtgkonjgalpchoaaDoorSoftT
import Derived.Test.YtgkonjgalpchoaaDoorSoftMore
import Derived.Deep.DeepCutAuto
import Derived.Deep.CutBlock
import Derived.Deep.LoopGhost
namespace Go.Proofs.YtgkonjgalpchoaaDoor
open Go.RowKit
set_option linter.unusedVariables false
theorem two_of {base : World} {s t : Bool} {x x' p p' y y' q q' : Int} (hx : x = x') (hp : p = p') (hy : y = y') (hq : q = q') :
    ((base.alloc (.cells #[.bool s, .int .u64 x, .int .i64 p, .bool false] 92)).alloc (.cells #[.bool t, .int .u64 y, .int .i64 q, .bool false] 92)) =
    ((base.alloc (.cells #[.bool s, .int .u64 x', .int .i64 p', .bool false] 92)).alloc (.cells #[.bool t, .int .u64 y', .int .i64 q', .bool false] 92)) := by
  rw [hx, hp, hy, hq]
set_option maxRecDepth 100000 in
set_option maxHeartbeats 4000000 in
theorem radd_lt (a b : Nat) (w : World) (ha : U a) (hb : U b) (hn : nn a b = false) (fa : fin a = true) (fb : fin b = true) (h0 : 0 < mg a) (h1 : 0 < mg b) (hlt : pl b < pl a) :
    Calls Tryd.prog 36 #[.int .u64 a, .int .u64 b] w fun e w' => e = .returned (.int .u64 (opv (Ieee.double.add a b))) ∧ New w w' := by
  have hs : srt a b := by unfold srt; omega
  have c1 : (cls a == 3) = false := by simpa using ((fin_cls a).1 fa).1
  have c2 : (cls b == 3) = false := by simpa using ((fin_cls b).1 fb).1
  have z0 : ((mg a : Int) == 0) = false := by simp; omega
  have z1 : ((mg b : Int) == 0) = false := by simp; omega
  have m1 := mg_lt a
  have m2 := mg_lt b
  obtain ⟨p1, p2⟩ := pl_bd a fa
  obtain ⟨q1, q2⟩ := pl_bd b fb
  have k1 : decide (pl a < pl b) = false := by simp; omega
  have k2 : (pl a == pl b) = false := by simp; omega
  have AX := ax_bd a b
  have AY := ay_bd a b
  have AG := ax_ge a b fb hs
  obtain ⟨e1, e2⟩ := ae_bd a b fa
  have BN := bn_le (ar a b)
  have AB := Lib.hid (ar_big a b fb)
  have RS := Lib.hid (fun k : sgn a = sgn b => add_same a b ha hb fa fb (by omega) (by omega) hs k)
  have RD := Lib.hid (fun k : sgn a ≠ sgn b => add_diff a b ha hb fa fb (by omega) (by omega) hs k)
  have hdd := dd_bd a b fa fb
  have HD : dd a b = (pl a - pl b).toNat := rfl
  have XB := ax_big a b fb (by omega)
  have EX := Lib.hid (show ax a b = 512 * mg a from by unfold ax; rw [if_neg (by omega)])
  have EE := Lib.hid (show ae a b = pl a - 9 from by unfold ae; rw [if_neg (by omega)])
  have hK : aK a b ≤ dd a b - 1 ∧ (aK a b = dd a b - 1 ∨ aK a b = (256 * mg b).log2 + 1) ∧ aK a b ≤ (256 * mg b).log2 + 1 := by unfold aK; omega
  obtain ⟨EY, ER⟩ := ay_end a b (by omega)
  have FP := Lib.hid (fun j => fy_pos (256 * mg b) j (by omega))
  have norm := srt_norm a b fb (by omega)
  have HK := Lib.hid hK
  have HEY := Lib.hid EY
  have HER := Lib.hid ER
  have HHD := Lib.hid HD
  have HS := Lib.hid hs
  have HL := Lib.hid hlt
  clear hK EY ER HD hs hlt fa fb
  go_enter Tryd.func36, Tryd.ntmps36
  go_upto_block 0 with (first | (go_at_call 62; (with_reducible refine (rnone_any _ _ _ (by assumption) (by assumption)).mono ?_); rintro e w' ⟨rfl, rfl⟩) | (go_at_call 37; (with_reducible refine (rclass_any _ _ (by assumption)).mono ?_); rintro e w' ⟨rfl, rfl⟩) | (go_at_call 64; (with_reducible refine (ropen_any _ _ (by assumption)).mono ?_); rintro e w' ⟨rfl, rfl⟩))
  go_cut [7] (fun r wc => r = .bool (ar a b) ∧ ∃ ye : Int, wc = ((((w.alloc (.cells #[.bool (sgn a), .int .u64 (mg a), .int .i64 (pl a), .bool false] 92)).alloc (.cells #[.bool (sgn b), .int .u64 (mg b), .int .i64 (pl b), .bool false] 92)).alloc (.cells #[.bool (sgn a), .int .u64 (ax a b), .int .i64 (ae a b), .bool false] 92)).alloc (.cells #[.bool (sgn b), .int .u64 (ay a b), .int .i64 ye, .bool false] 92)))
  case first =>
    go_wp2_with fail
    go_loopg [7] (1 + aK a b) (fun k r wr => (k = 1 + aK a b ∧ r = .bool false ∧ wr = ((((w.alloc (.cells #[.bool (sgn a), .int .u64 (mg a), .int .i64 (pl a), .bool false] 92)).alloc (.cells #[.bool (sgn b), .int .u64 (mg b), .int .i64 (pl b), .bool false] 92)).alloc (.cells #[.bool (sgn a), .int .u64 (256 * (mg a : Int)), .int .i64 (pl a - 8), .bool false] 92)).alloc (.cells #[.bool (sgn b), .int .u64 (256 * (mg b : Int)), .int .i64 (pl b - 8), .bool false] 92))) ∨ ∃ j : Nat, j + k = aK a b ∧ 0 < fy (256 * mg b) j ∧ r = .bool (ry (256 * mg b) j) ∧ wr = ((((w.alloc (.cells #[.bool (sgn a), .int .u64 (mg a), .int .i64 (pl a), .bool false] 92)).alloc (.cells #[.bool (sgn b), .int .u64 (mg b), .int .i64 (pl b), .bool false] 92)).alloc (.cells #[.bool (sgn a), .int .u64 (512 * (mg a : Int)), .int .i64 (pl a - 9), .bool false] 92)).alloc (.cells #[.bool (sgn b), .int .u64 (fy (256 * mg b) j), .int .i64 (pl b - 8 + j), .bool false] 92)))
    case atStart => exact Or.inl ⟨rfl, rfl, rfl⟩
    case round =>
      rcases hrel with ⟨hk, rfl, rfl⟩ | ⟨j, hk, hp, rfl, rfl⟩
      · have k4 : pl b - 8 < pl a - 8 := by have := HL.out; omega
        have k4' : pl b < pl a := HL.out
        have k6 : (0 : Int) < 256 * (mg b : Int) := by omega
        have k5 : (256 * (mg a : Int)) < 2305843009213693952 := by omega
        have HG := Lib.hid hk
        clear hk
        go_wp2_with fail
        go_roundg (aK a b)
        case measure => have := HG.out; omega
        case rel => exact Or.inr ⟨0, by omega, (FP.out 0).2 (Nat.zero_le _), by rw [ry_zero], by rw [fy_zero]; exact two_of (by omega) (by omega) (by omega) (by omega)⟩
      · have hjb : (j : Int) ≤ 2045 := by have := HK.out; omega
        have n0 : (512 * (mg a : Int) < 2305843009213693952) = False := by simp; omega
        have fl := fy_le (256 * mg b) j
        have SF := Lib.hid (fy_succ (256 * mg b) j)
        have SR := Lib.hid (ry_succ (256 * mg b) j)
        by_cases hj : j < aK a b
        · have k4 : pl b - 8 + (j : Int) < pl a - 9 := by have := HK.out; have := HHD.out; have := HL.out; omega
          have CL := Lib.hid (show ∀ r : Bool, ry (256 * mg b) j = r → Value.bool (r || ((fy (256 * mg b) j : Int) % 2 == 1)) = .bool (ry (256 * mg b) (j + 1)) from by intro r hr; rw [← SR.out, hr, par_of])
          have HG := Lib.hid hk
          have HJ := Lib.hid hj
          clear hk hj
          by_cases hz : 0 < fy (256 * mg b) (j + 1)
          · have k7 : ((fy (256 * mg b) j : Int) / 2 == 0) = false := by have := SF.out; simp; omega
            have HZ := Lib.hid hz
            clear hz
            cases hr : ry (256 * mg b) j
            all_goals
              have HR := Lib.hid hr
              clear hr
              go_wp2_with fail
              go_roundg (gk - 1)
              case measure => have := HG.out; have := HJ.out; omega
              case rel => exact Or.inr ⟨j + 1, by have := HG.out; have := HJ.out; omega, HZ.out, CL.out _ HR.out, two_of rfl rfl (by have := SF.out; omega) (by omega)⟩
          · have k7 : ((fy (256 * mg b) j : Int) / 2 == 0) = true := by have := SF.out; simp; omega
            have HE := Lib.hid (show j + 1 = aK a b from by have h1 := FP.out (j + 1); have h2 := HJ.out; have h3 := HK.out; omega)
            clear hz
            cases hr : ry (256 * mg b) j
            all_goals
              have HR := Lib.hid hr
              clear hr
              go_wp2_with fail
              go_meet
              case rel => exact ⟨by rw [HER.out, ← HE.out]; exact CL.out _ HR.out, _, by rw [EX.out, EE.out, HEY.out, ← HE.out]; exact two_of (by omega) rfl (by have := SF.out; omega) rfl⟩
        · have HE := Lib.hid (show j = aK a b from by omega)
          have k4 : (pl b - 8 + (j : Int) < pl a - 9) = False := by have h1 := (FP.out j).1 hp; have h2 := HE.out; have h3 := HK.out; have h4 := HHD.out; have := HL.out; simp; omega
          clear hk hj
          go_wp2_with fail
          go_meet
          case rel => exact ⟨by rw [HER.out, ← HE.out], _, by rw [EX.out, EE.out, HEY.out, ← HE.out]; exact two_of (by omega) rfl rfl rfl⟩
  case rest =>
    obtain ⟨rfl, ye, rfl⟩ := hcut
    clear h0 h1
    by_cases hS : sgn a = sgn b
    · have k8 : (sgn a == sgn b) = true := by simpa using hS
      have HSS := Lib.hid hS
      clear hS
      go_wp2_with (go_at_call 66; (with_reducible refine (rround_int _ _ _ _ _ (by omega) (by omega) (by omega) (by omega) (fun k => by have := (AB.out k).2; omega)).mono ?_); rintro e w' ⟨rfl, hg⟩)
      go_ret
      exact ⟨ret_int (by rw [RS.out HSS.out]; rfl), (((((New.refl _).alloc _ _).alloc _ _).alloc _ _).alloc _ _).trans (by assumption)⟩
    · have k8 : (sgn a == sgn b) = false := by simpa using hS
      have HSS := Lib.hid hS
      clear hS
      have k9 : decide (ax a b < ay a b) = false := by simp; omega
      cases har : ar a b
      · have HAR := Lib.hid har
        clear har
        by_cases z : ax a b = ay a b
        · have kz : ((ax a b : Int) - (ay a b : Int) == 0) = true := by simp; omega
          have E0 := Lib.hid (show opv (Ieee.double.add a b) = 0 from by rw [RD.out HSS.out, if_pos ⟨by rw [HAR.out, z]; simp, HAR.out⟩])
          clear z
          go_wp2_with fail
          go_ret
          exact ⟨ret_int (by rw [E0.out]; rfl), ((((New.refl _).alloc _ _).alloc _ _).alloc _ _).alloc _ _⟩
        · have kz : ((ax a b : Int) - (ay a b : Int) == 0) = false := by simp; omega
          have E0 := Lib.hid (show opv (Ieee.double.add a b) = so_rd (sgn a) (ax a b - ay a b) (ae a b) false from by rw [RD.out HSS.out, HAR.out, if_neg (fun h => by have := h.1; simp [bn] at this; omega)]; rfl)
          clear z
          go_wp2_with (go_at_call 66; (with_reducible refine (rround_int _ _ _ _ _ (by omega) (by omega) (by omega) (by omega) (by simp)).mono ?_); rintro e w' ⟨rfl, hg⟩)
          go_ret
          exact ⟨ret_int (by rw [E0.out]), (((((New.refl _).alloc _ _).alloc _ _).alloc _ _).alloc _ _).trans (by assumption)⟩
      · have HAR := Lib.hid har
        have AB1 := (AB.out har).1
        rw [har] at AB1
        clear har
        change 4503599627370496 ≤ ax a b - ay a b - 1 at AB1
        have kz : ((ax a b : Int) - (ay a b : Int) - 1 == 0) = false := by simp; omega
        have E0 := Lib.hid (show opv (Ieee.double.add a b) = so_rd (sgn a) (ax a b - ay a b - 1) (ae a b) true from by rw [RD.out HSS.out, HAR.out, if_neg (fun h => by cases h.2)]; rfl)
        go_wp2_with (go_at_call 66; (with_reducible refine (rround_int _ _ _ _ _ (by omega) (by omega) (by omega) (by omega) (fun _ => by omega)).mono ?_); rintro e w' ⟨rfl, hg⟩)
        go_ret
        exact ⟨ret_int (by rw [E0.out]), (((((New.refl _).alloc _ _).alloc _ _).alloc _ _).alloc _ _).trans (by assumption)⟩
set_option maxRecDepth 100000 in
set_option maxHeartbeats 4000000 in
theorem radd_lts (a b : Nat) (w : World) (ha : U a) (hb : U b) (hn : nn a b = false) (fa : fin a = true) (fb : fin b = true) (h0 : 0 < mg a) (h1 : 0 < mg b) (hlt : pl a < pl b) :
    Calls Tryd.prog 36 #[.int .u64 a, .int .u64 b] w fun e w' => e = .returned (.int .u64 (opv (Ieee.double.add a b))) ∧ New w w' := by
  have hs : srt b a := by unfold srt; omega
  have c1 : (cls a == 3) = false := by simpa using ((fin_cls a).1 fa).1
  have c2 : (cls b == 3) = false := by simpa using ((fin_cls b).1 fb).1
  have z0 : ((mg a : Int) == 0) = false := by simp; omega
  have z1 : ((mg b : Int) == 0) = false := by simp; omega
  have m1 := mg_lt a
  have m2 := mg_lt b
  obtain ⟨p1, p2⟩ := pl_bd a fa
  obtain ⟨q1, q2⟩ := pl_bd b fb
  have k1 : pl a < pl b := hlt
  have AX := ax_bd b a
  have AY := ay_bd b a
  have AG := ax_ge b a fa hs
  obtain ⟨e1, e2⟩ := ae_bd b a fb
  have BN := bn_le (ar b a)
  have AB := Lib.hid (ar_big b a fa)
  have RS := Lib.hid (fun k : sgn b = sgn a => add_same b a hb ha fb fa (by omega) (by omega) hs k)
  have RD := Lib.hid (fun k : sgn b ≠ sgn a => add_diff b a hb ha fb fa (by omega) (by omega) hs k)
  have hdd := dd_bd b a fb fa
  have HD : dd b a = (pl b - pl a).toNat := rfl
  have XB := ax_big b a fa (by omega)
  have EX := Lib.hid (show ax b a = 512 * mg b from by unfold ax; rw [if_neg (by omega)])
  have EE := Lib.hid (show ae b a = pl b - 9 from by unfold ae; rw [if_neg (by omega)])
  have hK : aK b a ≤ dd b a - 1 ∧ (aK b a = dd b a - 1 ∨ aK b a = (256 * mg a).log2 + 1) ∧ aK b a ≤ (256 * mg a).log2 + 1 := by unfold aK; omega
  obtain ⟨EY, ER⟩ := ay_end b a (by omega)
  have FP := Lib.hid (fun j => fy_pos (256 * mg a) j (by omega))
  have norm := srt_norm b a fa (by omega)
  have HK := Lib.hid hK
  have HEY := Lib.hid EY
  have HER := Lib.hid ER
  have HHD := Lib.hid HD
  have HS := Lib.hid hs
  have HL := Lib.hid hlt
  clear hK EY ER HD hs hlt fa fb
  go_enter Tryd.func36, Tryd.ntmps36
  go_upto_block 0 with (first | (go_at_call 62; (with_reducible refine (rnone_any _ _ _ (by assumption) (by assumption)).mono ?_); rintro e w' ⟨rfl, rfl⟩) | (go_at_call 37; (with_reducible refine (rclass_any _ _ (by assumption)).mono ?_); rintro e w' ⟨rfl, rfl⟩) | (go_at_call 64; (with_reducible refine (ropen_any _ _ (by assumption)).mono ?_); rintro e w' ⟨rfl, rfl⟩))
  go_cut [7] (fun r wc => r = .bool (ar b a) ∧ ∃ ye : Int, wc = ((((w.alloc (.cells #[.bool (sgn a), .int .u64 (mg a), .int .i64 (pl a), .bool false] 92)).alloc (.cells #[.bool (sgn b), .int .u64 (mg b), .int .i64 (pl b), .bool false] 92)).alloc (.cells #[.bool (sgn b), .int .u64 (ax b a), .int .i64 (ae b a), .bool false] 92)).alloc (.cells #[.bool (sgn a), .int .u64 (ay b a), .int .i64 ye, .bool false] 92)))
  case first =>
    go_wp2_with fail
    go_loopg [7] (1 + aK b a) (fun k r wr => (k = 1 + aK b a ∧ r = .bool false ∧ wr = ((((w.alloc (.cells #[.bool (sgn a), .int .u64 (mg a), .int .i64 (pl a), .bool false] 92)).alloc (.cells #[.bool (sgn b), .int .u64 (mg b), .int .i64 (pl b), .bool false] 92)).alloc (.cells #[.bool (sgn b), .int .u64 (256 * (mg b : Int)), .int .i64 (pl b - 8), .bool false] 92)).alloc (.cells #[.bool (sgn a), .int .u64 (256 * (mg a : Int)), .int .i64 (pl a - 8), .bool false] 92))) ∨ ∃ j : Nat, j + k = aK b a ∧ 0 < fy (256 * mg a) j ∧ r = .bool (ry (256 * mg a) j) ∧ wr = ((((w.alloc (.cells #[.bool (sgn a), .int .u64 (mg a), .int .i64 (pl a), .bool false] 92)).alloc (.cells #[.bool (sgn b), .int .u64 (mg b), .int .i64 (pl b), .bool false] 92)).alloc (.cells #[.bool (sgn b), .int .u64 (512 * (mg b : Int)), .int .i64 (pl b - 9), .bool false] 92)).alloc (.cells #[.bool (sgn a), .int .u64 (fy (256 * mg a) j), .int .i64 (pl a - 8 + j), .bool false] 92)))
    case atStart => exact Or.inl ⟨rfl, rfl, rfl⟩
    case round =>
      rcases hrel with ⟨hk, rfl, rfl⟩ | ⟨j, hk, hp, rfl, rfl⟩
      · have k4 : pl a - 8 < pl b - 8 := by have := HL.out; omega
        have k4' : pl a < pl b := HL.out
        have k6 : (0 : Int) < 256 * (mg a : Int) := by omega
        have k5 : (256 * (mg b : Int)) < 2305843009213693952 := by omega
        have HG := Lib.hid hk
        clear hk
        go_wp2_with fail
        go_roundg (aK b a)
        case measure => have := HG.out; omega
        case rel => exact Or.inr ⟨0, by omega, (FP.out 0).2 (Nat.zero_le _), by rw [ry_zero], by rw [fy_zero]; exact two_of (by omega) (by omega) (by omega) (by omega)⟩
      · have hjb : (j : Int) ≤ 2045 := by have := HK.out; omega
        have n0 : (512 * (mg b : Int) < 2305843009213693952) = False := by simp; omega
        have fl := fy_le (256 * mg a) j
        have SF := Lib.hid (fy_succ (256 * mg a) j)
        have SR := Lib.hid (ry_succ (256 * mg a) j)
        by_cases hj : j < aK b a
        · have k4 : pl a - 8 + (j : Int) < pl b - 9 := by have := HK.out; have := HHD.out; have := HL.out; omega
          have CL := Lib.hid (show ∀ r : Bool, ry (256 * mg a) j = r → Value.bool (r || ((fy (256 * mg a) j : Int) % 2 == 1)) = .bool (ry (256 * mg a) (j + 1)) from by intro r hr; rw [← SR.out, hr, par_of])
          have HG := Lib.hid hk
          have HJ := Lib.hid hj
          clear hk hj
          by_cases hz : 0 < fy (256 * mg a) (j + 1)
          · have k7 : ((fy (256 * mg a) j : Int) / 2 == 0) = false := by have := SF.out; simp; omega
            have HZ := Lib.hid hz
            clear hz
            cases hr : ry (256 * mg a) j
            all_goals
              have HR := Lib.hid hr
              clear hr
              go_wp2_with fail
              go_roundg (gk - 1)
              case measure => have := HG.out; have := HJ.out; omega
              case rel => exact Or.inr ⟨j + 1, by have := HG.out; have := HJ.out; omega, HZ.out, CL.out _ HR.out, two_of rfl rfl (by have := SF.out; omega) (by omega)⟩
          · have k7 : ((fy (256 * mg a) j : Int) / 2 == 0) = true := by have := SF.out; simp; omega
            have HE := Lib.hid (show j + 1 = aK b a from by have h1 := FP.out (j + 1); have h2 := HJ.out; have h3 := HK.out; omega)
            clear hz
            cases hr : ry (256 * mg a) j
            all_goals
              have HR := Lib.hid hr
              clear hr
              go_wp2_with fail
              go_meet
              case rel => exact ⟨by rw [HER.out, ← HE.out]; exact CL.out _ HR.out, _, by rw [EX.out, EE.out, HEY.out, ← HE.out]; exact two_of (by omega) rfl (by have := SF.out; omega) rfl⟩
        · have HE := Lib.hid (show j = aK b a from by omega)
          have k4 : (pl a - 8 + (j : Int) < pl b - 9) = False := by have h1 := (FP.out j).1 hp; have h2 := HE.out; have h3 := HK.out; have h4 := HHD.out; have := HL.out; simp; omega
          clear hk hj
          go_wp2_with fail
          go_meet
          case rel => exact ⟨by rw [HER.out, ← HE.out], _, by rw [EX.out, EE.out, HEY.out, ← HE.out]; exact two_of (by omega) rfl rfl rfl⟩
  case rest =>
    obtain ⟨rfl, ye, rfl⟩ := hcut
    clear h0 h1
    by_cases hS : sgn b = sgn a
    · have k8 : (sgn b == sgn a) = true := by simpa using hS
      have HSS := Lib.hid hS
      clear hS
      go_wp2_with (go_at_call 66; (with_reducible refine (rround_int _ _ _ _ _ (by omega) (by omega) (by omega) (by omega) (fun k => by have := (AB.out k).2; omega)).mono ?_); rintro e w' ⟨rfl, hg⟩)
      go_ret
      exact ⟨ret_int (by rw [add_comm' a b, RS.out HSS.out]; rfl), (((((New.refl _).alloc _ _).alloc _ _).alloc _ _).alloc _ _).trans (by assumption)⟩
    · have k8 : (sgn b == sgn a) = false := by simpa using hS
      have HSS := Lib.hid hS
      clear hS
      have k9 : decide (ax b a < ay b a) = false := by simp; omega
      cases har : ar b a
      · have HAR := Lib.hid har
        clear har
        by_cases z : ax b a = ay b a
        · have kz : ((ax b a : Int) - (ay b a : Int) == 0) = true := by simp; omega
          have E0 := Lib.hid (show opv (Ieee.double.add a b) = 0 from by rw [add_comm' a b, RD.out HSS.out, if_pos ⟨by rw [HAR.out, z]; simp, HAR.out⟩])
          clear z
          go_wp2_with fail
          go_ret
          exact ⟨ret_int (by rw [E0.out]; rfl), ((((New.refl _).alloc _ _).alloc _ _).alloc _ _).alloc _ _⟩
        · have kz : ((ax b a : Int) - (ay b a : Int) == 0) = false := by simp; omega
          have E0 := Lib.hid (show opv (Ieee.double.add a b) = so_rd (sgn b) (ax b a - ay b a) (ae b a) false from by rw [add_comm' a b, RD.out HSS.out, HAR.out, if_neg (fun h => by have := h.1; simp [bn] at this; omega)]; rfl)
          clear z
          go_wp2_with (go_at_call 66; (with_reducible refine (rround_int _ _ _ _ _ (by omega) (by omega) (by omega) (by omega) (by simp)).mono ?_); rintro e w' ⟨rfl, hg⟩)
          go_ret
          exact ⟨ret_int (by rw [E0.out]), (((((New.refl _).alloc _ _).alloc _ _).alloc _ _).alloc _ _).trans (by assumption)⟩
      · have HAR := Lib.hid har
        have AB1 := (AB.out har).1
        rw [har] at AB1
        clear har
        change 4503599627370496 ≤ ax b a - ay b a - 1 at AB1
        have kz : ((ax b a : Int) - (ay b a : Int) - 1 == 0) = false := by simp; omega
        have E0 := Lib.hid (show opv (Ieee.double.add a b) = so_rd (sgn b) (ax b a - ay b a - 1) (ae b a) true from by rw [add_comm' a b, RD.out HSS.out, HAR.out, if_neg (fun h => by cases h.2)]; rfl)
        go_wp2_with (go_at_call 66; (with_reducible refine (rround_int _ _ _ _ _ (by omega) (by omega) (by omega) (by omega) (fun _ => by omega)).mono ?_); rintro e w' ⟨rfl, hg⟩)
        go_ret
        exact ⟨ret_int (by rw [E0.out]), (((((New.refl _).alloc _ _).alloc _ _).alloc _ _).alloc _ _).trans (by assumption)⟩
set_option maxRecDepth 100000 in
set_option maxHeartbeats 4000000 in
theorem radd_eq (a b : Nat) (w : World) (ha : U a) (hb : U b) (hn : nn a b = false) (fa : fin a = true) (fb : fin b = true) (h0 : 0 < mg a) (h1 : 0 < mg b) (hlt : pl a = pl b) (hm : mg b ≤ mg a) :
    Calls Tryd.prog 36 #[.int .u64 a, .int .u64 b] w fun e w' => e = .returned (.int .u64 (opv (Ieee.double.add a b))) ∧ New w w' := by
  have hs : srt a b := by unfold srt; omega
  have c1 : (cls a == 3) = false := by simpa using ((fin_cls a).1 fa).1
  have c2 : (cls b == 3) = false := by simpa using ((fin_cls b).1 fb).1
  have z0 : ((mg a : Int) == 0) = false := by simp; omega
  have z1 : ((mg b : Int) == 0) = false := by simp; omega
  have m1 := mg_lt a
  have m2 := mg_lt b
  obtain ⟨p1, p2⟩ := pl_bd a fa
  obtain ⟨q1, q2⟩ := pl_bd b fb
  have k1 : decide (pl a < pl b) = false := by simp; omega
  have k2 : (pl a == pl b) = true := by simp; omega
  have k3 : decide (mg a < mg b) = false := by simp; omega
  have AX := ax_bd a b
  have AY := ay_bd a b
  have AG := ax_ge a b fb hs
  obtain ⟨e1, e2⟩ := ae_bd a b fa
  have BN := bn_le (ar a b)
  have AB := Lib.hid (ar_big a b fb)
  have RS := Lib.hid (fun k : sgn a = sgn b => add_same a b ha hb fa fb (by omega) (by omega) hs k)
  have RD := Lib.hid (fun k : sgn a ≠ sgn b => add_diff a b ha hb fa fb (by omega) (by omega) hs k)
  have hd : dd a b = 0 := by unfold dd; omega
  have EX := Lib.hid (show ax a b = 256 * mg a from by unfold ax; rw [if_pos hd])
  have EE := Lib.hid (show ae a b = pl a - 8 from by unfold ae; rw [if_pos hd])
  have HEY := Lib.hid (ar_no a b hd).1
  have HER := Lib.hid (ar_no a b hd).2
  have HS := Lib.hid hs
  have HL := Lib.hid hlt
  clear hd hs hlt fa fb
  go_enter Tryd.func36, Tryd.ntmps36
  go_upto_block 0 with (first | (go_at_call 62; (with_reducible refine (rnone_any _ _ _ (by assumption) (by assumption)).mono ?_); rintro e w' ⟨rfl, rfl⟩) | (go_at_call 37; (with_reducible refine (rclass_any _ _ (by assumption)).mono ?_); rintro e w' ⟨rfl, rfl⟩) | (go_at_call 64; (with_reducible refine (ropen_any _ _ (by assumption)).mono ?_); rintro e w' ⟨rfl, rfl⟩))
  go_cut [7] (fun r wc => r = .bool (ar a b) ∧ ∃ ye : Int, wc = ((((w.alloc (.cells #[.bool (sgn a), .int .u64 (mg a), .int .i64 (pl a), .bool false] 92)).alloc (.cells #[.bool (sgn b), .int .u64 (mg b), .int .i64 (pl b), .bool false] 92)).alloc (.cells #[.bool (sgn a), .int .u64 (ax a b), .int .i64 (ae a b), .bool false] 92)).alloc (.cells #[.bool (sgn b), .int .u64 (ay a b), .int .i64 ye, .bool false] 92)))
  case first =>
    go_wp2_with fail
    refine wp_loop_rounds 1 ?_
    rw [rounds_succ]
    have k4 : (pl b - 8 < pl a - 8) = False := by have := HL.out; simp; omega
    go_wp2_with fail
    go_meet
    case rel => exact ⟨by rw [HER.out], pl b - 8, by rw [EX.out, EE.out, HEY.out]; simp⟩
  case rest =>
    obtain ⟨rfl, ye, rfl⟩ := hcut
    clear h0 h1
    by_cases hS : sgn a = sgn b
    · have k8 : (sgn a == sgn b) = true := by simpa using hS
      have HSS := Lib.hid hS
      clear hS
      go_wp2_with (go_at_call 66; (with_reducible refine (rround_int _ _ _ _ _ (by omega) (by omega) (by omega) (by omega) (fun k => by have := (AB.out k).2; omega)).mono ?_); rintro e w' ⟨rfl, hg⟩)
      go_ret
      exact ⟨ret_int (by rw [RS.out HSS.out]; rfl), (((((New.refl _).alloc _ _).alloc _ _).alloc _ _).alloc _ _).trans (by assumption)⟩
    · have k8 : (sgn a == sgn b) = false := by simpa using hS
      have HSS := Lib.hid hS
      clear hS
      have k9 : decide (ax a b < ay a b) = false := by simp; omega
      cases har : ar a b
      · have HAR := Lib.hid har
        clear har
        by_cases z : ax a b = ay a b
        · have kz : ((ax a b : Int) - (ay a b : Int) == 0) = true := by simp; omega
          have E0 := Lib.hid (show opv (Ieee.double.add a b) = 0 from by rw [RD.out HSS.out, if_pos ⟨by rw [HAR.out, z]; simp, HAR.out⟩])
          clear z
          go_wp2_with fail
          go_ret
          exact ⟨ret_int (by rw [E0.out]; rfl), ((((New.refl _).alloc _ _).alloc _ _).alloc _ _).alloc _ _⟩
        · have kz : ((ax a b : Int) - (ay a b : Int) == 0) = false := by simp; omega
          have E0 := Lib.hid (show opv (Ieee.double.add a b) = so_rd (sgn a) (ax a b - ay a b) (ae a b) false from by rw [RD.out HSS.out, HAR.out, if_neg (fun h => by have := h.1; simp [bn] at this; omega)]; rfl)
          clear z
          go_wp2_with (go_at_call 66; (with_reducible refine (rround_int _ _ _ _ _ (by omega) (by omega) (by omega) (by omega) (by simp)).mono ?_); rintro e w' ⟨rfl, hg⟩)
          go_ret
          exact ⟨ret_int (by rw [E0.out]), (((((New.refl _).alloc _ _).alloc _ _).alloc _ _).alloc _ _).trans (by assumption)⟩
      · have HAR := Lib.hid har
        have AB1 := (AB.out har).1
        rw [har] at AB1
        clear har
        change 4503599627370496 ≤ ax a b - ay a b - 1 at AB1
        have kz : ((ax a b : Int) - (ay a b : Int) - 1 == 0) = false := by simp; omega
        have E0 := Lib.hid (show opv (Ieee.double.add a b) = so_rd (sgn a) (ax a b - ay a b - 1) (ae a b) true from by rw [RD.out HSS.out, HAR.out, if_neg (fun h => by cases h.2)]; rfl)
        go_wp2_with (go_at_call 66; (with_reducible refine (rround_int _ _ _ _ _ (by omega) (by omega) (by omega) (by omega) (fun _ => by omega)).mono ?_); rintro e w' ⟨rfl, hg⟩)
        go_ret
        exact ⟨ret_int (by rw [E0.out]), (((((New.refl _).alloc _ _).alloc _ _).alloc _ _).alloc _ _).trans (by assumption)⟩
set_option maxRecDepth 100000 in
set_option maxHeartbeats 4000000 in
theorem radd_eqs (a b : Nat) (w : World) (ha : U a) (hb : U b) (hn : nn a b = false) (fa : fin a = true) (fb : fin b = true) (h0 : 0 < mg a) (h1 : 0 < mg b) (hlt : pl b = pl a) (hm : mg a < mg b) :
    Calls Tryd.prog 36 #[.int .u64 a, .int .u64 b] w fun e w' => e = .returned (.int .u64 (opv (Ieee.double.add a b))) ∧ New w w' := by
  have hs : srt b a := by unfold srt; omega
  have c1 : (cls a == 3) = false := by simpa using ((fin_cls a).1 fa).1
  have c2 : (cls b == 3) = false := by simpa using ((fin_cls b).1 fb).1
  have z0 : ((mg a : Int) == 0) = false := by simp; omega
  have z1 : ((mg b : Int) == 0) = false := by simp; omega
  have m1 := mg_lt a
  have m2 := mg_lt b
  obtain ⟨p1, p2⟩ := pl_bd a fa
  obtain ⟨q1, q2⟩ := pl_bd b fb
  have k1 : decide (pl a < pl b) = false := by simp; omega
  have k2 : (pl a == pl b) = true := by simp; omega
  have k3 : decide (mg a < mg b) = true := by simp; omega
  have AX := ax_bd b a
  have AY := ay_bd b a
  have AG := ax_ge b a fa hs
  obtain ⟨e1, e2⟩ := ae_bd b a fb
  have BN := bn_le (ar b a)
  have AB := Lib.hid (ar_big b a fa)
  have RS := Lib.hid (fun k : sgn b = sgn a => add_same b a hb ha fb fa (by omega) (by omega) hs k)
  have RD := Lib.hid (fun k : sgn b ≠ sgn a => add_diff b a hb ha fb fa (by omega) (by omega) hs k)
  have hd : dd b a = 0 := by unfold dd; omega
  have EX := Lib.hid (show ax b a = 256 * mg b from by unfold ax; rw [if_pos hd])
  have EE := Lib.hid (show ae b a = pl b - 8 from by unfold ae; rw [if_pos hd])
  have HEY := Lib.hid (ar_no b a hd).1
  have HER := Lib.hid (ar_no b a hd).2
  have HS := Lib.hid hs
  have HL := Lib.hid hlt
  clear hd hs hlt fa fb
  go_enter Tryd.func36, Tryd.ntmps36
  go_upto_block 0 with (first | (go_at_call 62; (with_reducible refine (rnone_any _ _ _ (by assumption) (by assumption)).mono ?_); rintro e w' ⟨rfl, rfl⟩) | (go_at_call 37; (with_reducible refine (rclass_any _ _ (by assumption)).mono ?_); rintro e w' ⟨rfl, rfl⟩) | (go_at_call 64; (with_reducible refine (ropen_any _ _ (by assumption)).mono ?_); rintro e w' ⟨rfl, rfl⟩))
  go_cut [7] (fun r wc => r = .bool (ar b a) ∧ ∃ ye : Int, wc = ((((w.alloc (.cells #[.bool (sgn a), .int .u64 (mg a), .int .i64 (pl a), .bool false] 92)).alloc (.cells #[.bool (sgn b), .int .u64 (mg b), .int .i64 (pl b), .bool false] 92)).alloc (.cells #[.bool (sgn b), .int .u64 (ax b a), .int .i64 (ae b a), .bool false] 92)).alloc (.cells #[.bool (sgn a), .int .u64 (ay b a), .int .i64 ye, .bool false] 92)))
  case first =>
    go_wp2_with fail
    refine wp_loop_rounds 1 ?_
    rw [rounds_succ]
    have k4 : (pl a - 8 < pl b - 8) = False := by have := HL.out; simp; omega
    go_wp2_with fail
    go_meet
    case rel => exact ⟨by rw [HER.out], pl a - 8, by rw [EX.out, EE.out, HEY.out]; simp⟩
  case rest =>
    obtain ⟨rfl, ye, rfl⟩ := hcut
    clear h0 h1
    by_cases hS : sgn b = sgn a
    · have k8 : (sgn b == sgn a) = true := by simpa using hS
      have HSS := Lib.hid hS
      clear hS
      go_wp2_with (go_at_call 66; (with_reducible refine (rround_int _ _ _ _ _ (by omega) (by omega) (by omega) (by omega) (fun k => by have := (AB.out k).2; omega)).mono ?_); rintro e w' ⟨rfl, hg⟩)
      go_ret
      exact ⟨ret_int (by rw [add_comm' a b, RS.out HSS.out]; rfl), (((((New.refl _).alloc _ _).alloc _ _).alloc _ _).alloc _ _).trans (by assumption)⟩
    · have k8 : (sgn b == sgn a) = false := by simpa using hS
      have HSS := Lib.hid hS
      clear hS
      have k9 : decide (ax b a < ay b a) = false := by simp; omega
      cases har : ar b a
      · have HAR := Lib.hid har
        clear har
        by_cases z : ax b a = ay b a
        · have kz : ((ax b a : Int) - (ay b a : Int) == 0) = true := by simp; omega
          have E0 := Lib.hid (show opv (Ieee.double.add a b) = 0 from by rw [add_comm' a b, RD.out HSS.out, if_pos ⟨by rw [HAR.out, z]; simp, HAR.out⟩])
          clear z
          go_wp2_with fail
          go_ret
          exact ⟨ret_int (by rw [E0.out]; rfl), ((((New.refl _).alloc _ _).alloc _ _).alloc _ _).alloc _ _⟩
        · have kz : ((ax b a : Int) - (ay b a : Int) == 0) = false := by simp; omega
          have E0 := Lib.hid (show opv (Ieee.double.add a b) = so_rd (sgn b) (ax b a - ay b a) (ae b a) false from by rw [add_comm' a b, RD.out HSS.out, HAR.out, if_neg (fun h => by have := h.1; simp [bn] at this; omega)]; rfl)
          clear z
          go_wp2_with (go_at_call 66; (with_reducible refine (rround_int _ _ _ _ _ (by omega) (by omega) (by omega) (by omega) (by simp)).mono ?_); rintro e w' ⟨rfl, hg⟩)
          go_ret
          exact ⟨ret_int (by rw [E0.out]), (((((New.refl _).alloc _ _).alloc _ _).alloc _ _).alloc _ _).trans (by assumption)⟩
      · have HAR := Lib.hid har
        have AB1 := (AB.out har).1
        rw [har] at AB1
        clear har
        change 4503599627370496 ≤ ax b a - ay b a - 1 at AB1
        have kz : ((ax b a : Int) - (ay b a : Int) - 1 == 0) = false := by simp; omega
        have E0 := Lib.hid (show opv (Ieee.double.add a b) = so_rd (sgn b) (ax b a - ay b a - 1) (ae b a) true from by rw [add_comm' a b, RD.out HSS.out, HAR.out, if_neg (fun h => by cases h.2)]; rfl)
        go_wp2_with (go_at_call 66; (with_reducible refine (rround_int _ _ _ _ _ (by omega) (by omega) (by omega) (by omega) (fun _ => by omega)).mono ?_); rintro e w' ⟨rfl, hg⟩)
        go_ret
        exact ⟨ret_int (by rw [E0.out]), (((((New.refl _).alloc _ _).alloc _ _).alloc _ _).alloc _ _).trans (by assumption)⟩
end Go.Proofs.YtgkonjgalpchoaaDoor
