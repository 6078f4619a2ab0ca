/- What the document's own sum of any two binary64 numbers is, in all cases, and their difference; contracts, for all bits, in any world, behind which there are new blocks. -/
import Derived.Test.YtgkonjgalpchoaaDoorSoftU
namespace Go.Proofs.YtgkonjgalpchoaaDoor
open Go.RowKit
set_option linter.unusedVariables false
theorem wd0I (n : Bool) : ((so_wd n 0 : Nat) : Int) = wdI n 0 := wd_int n 0
set_option maxRecDepth 100000 in
set_option maxHeartbeats 1000000 in
theorem so_radd_any (a b : Nat) (w : World) (ha : U a) (hb : U b) :
    Calls Tryd.prog 36 #[.int .u64 a, .int .u64 b] w fun e w' => e = .returned (.int .u64 (opv (Ieee.double.add a b))) ∧ New w w' := by
  cases hn : nn a b with
  | true =>
    have E := Lib.hid (add_nan a b ha hb hn)
    go_enter Tryd.func36, Tryd.ntmps36
    go_wp2_with (go_at_call 62; (with_reducible refine (rnone_any _ _ _ (by assumption) (by assumption)).mono ?_); rintro e w' ⟨rfl, rfl⟩)
    go_ret
    exact ⟨ret_int (by rw [E.out]; rfl), New.refl _⟩
  | false =>
    have n1 : cls a ≠ 4 := by intro c; unfold nn at hn; simp [c] at hn
    have n2 : cls b ≠ 4 := by intro c; unfold nn at hn; simp [c] at hn
    by_cases a3 : cls a = 3
    · have ca : (cls a == 3) = true := by simpa using a3
      have E := Lib.hid (add_inf a b ha hb hn a3)
      by_cases b3 : cls b = 3
      · have cb : (cls b == 3) = true := by simpa using b3
        have E1 := Lib.hid (fun h : sgn a = sgn b => show opv (Ieee.double.add a b) = a from by rw [E.out, if_neg (by simp [h])])
        have E2 := Lib.hid (fun h : sgn a ≠ sgn b => show opv (Ieee.double.add a b) = Emp from by rw [E.out, if_pos ⟨b3, h⟩])
        clear a3 b3 n1 n2
        cases hsa : sgn a <;> cases hsb : sgn b
        · have EE := Lib.hid (E1.out (by rw [hsa, hsb]))
          go_enter Tryd.func36, Tryd.ntmps36
          go_wp2_with (first | (go_at_call 62; (with_reducible refine (rnone_any _ _ _ (by assumption) (by assumption)).mono ?_); rintro e w' ⟨rfl, rfl⟩) | (go_at_call 37; (with_reducible refine (rclass_any _ _ (by assumption)).mono ?_); rintro e w' ⟨rfl, rfl⟩) | (go_at_call 63; (with_reducible refine (rneg_any _ _).mono ?_); rintro e w' ⟨rfl, rfl⟩))
          go_ret
          exact ⟨ret_int (by rw [EE.out]), New.refl _⟩
        · have EE := Lib.hid (E2.out (by rw [hsa, hsb]; decide))
          go_enter Tryd.func36, Tryd.ntmps36
          go_wp2_with (first | (go_at_call 62; (with_reducible refine (rnone_any _ _ _ (by assumption) (by assumption)).mono ?_); rintro e w' ⟨rfl, rfl⟩) | (go_at_call 37; (with_reducible refine (rclass_any _ _ (by assumption)).mono ?_); rintro e w' ⟨rfl, rfl⟩) | (go_at_call 63; (with_reducible refine (rneg_any _ _).mono ?_); rintro e w' ⟨rfl, rfl⟩))
          go_ret
          exact ⟨ret_int (by rw [EE.out]; rfl), New.refl _⟩
        · have EE := Lib.hid (E2.out (by rw [hsa, hsb]; decide))
          go_enter Tryd.func36, Tryd.ntmps36
          go_wp2_with (first | (go_at_call 62; (with_reducible refine (rnone_any _ _ _ (by assumption) (by assumption)).mono ?_); rintro e w' ⟨rfl, rfl⟩) | (go_at_call 37; (with_reducible refine (rclass_any _ _ (by assumption)).mono ?_); rintro e w' ⟨rfl, rfl⟩) | (go_at_call 63; (with_reducible refine (rneg_any _ _).mono ?_); rintro e w' ⟨rfl, rfl⟩))
          go_ret
          exact ⟨ret_int (by rw [EE.out]; rfl), New.refl _⟩
        · have EE := Lib.hid (E1.out (by rw [hsa, hsb]))
          go_enter Tryd.func36, Tryd.ntmps36
          go_wp2_with (first | (go_at_call 62; (with_reducible refine (rnone_any _ _ _ (by assumption) (by assumption)).mono ?_); rintro e w' ⟨rfl, rfl⟩) | (go_at_call 37; (with_reducible refine (rclass_any _ _ (by assumption)).mono ?_); rintro e w' ⟨rfl, rfl⟩) | (go_at_call 63; (with_reducible refine (rneg_any _ _).mono ?_); rintro e w' ⟨rfl, rfl⟩))
          go_ret
          exact ⟨ret_int (by rw [EE.out]), New.refl _⟩
      · have cb : (cls b == 3) = false := by simpa using b3
        have E' := Lib.hid (show opv (Ieee.double.add a b) = a from by rw [E.out, if_neg (by simp [b3])])
        clear a3 b3 n1 n2
        go_enter Tryd.func36, Tryd.ntmps36
        go_wp2_with (first | (go_at_call 62; (with_reducible refine (rnone_any _ _ _ (by assumption) (by assumption)).mono ?_); rintro e w' ⟨rfl, rfl⟩) | (go_at_call 37; (with_reducible refine (rclass_any _ _ (by assumption)).mono ?_); rintro e w' ⟨rfl, rfl⟩) | (go_at_call 63; (with_reducible refine (rneg_any _ _).mono ?_); rintro e w' ⟨rfl, rfl⟩))
        go_ret
        exact ⟨ret_int (by rw [E'.out]), New.refl _⟩
    · have ca : (cls a == 3) = false := by simpa using a3
      by_cases b3 : cls b = 3
      · have cb : (cls b == 3) = true := by simpa using b3
        have E' := Lib.hid (show opv (Ieee.double.add a b) = b from by rw [add_comm' a b, add_inf b a hb ha (by unfold nn at *; simpa [Bool.or_comm] using hn) b3, if_neg (by simp [a3])])
        clear a3 b3 n1 n2
        go_enter Tryd.func36, Tryd.ntmps36
        go_wp2_with (first | (go_at_call 62; (with_reducible refine (rnone_any _ _ _ (by assumption) (by assumption)).mono ?_); rintro e w' ⟨rfl, rfl⟩) | (go_at_call 37; (with_reducible refine (rclass_any _ _ (by assumption)).mono ?_); rintro e w' ⟨rfl, rfl⟩))
        go_ret
        exact ⟨ret_int (by rw [E'.out]), New.refl _⟩
      · have cb : (cls b == 3) = false := by simpa using b3
        have fa := (fin_cls a).2 ⟨a3, n1⟩
        have fb := (fin_cls b).2 ⟨b3, n2⟩
        by_cases za : mg a = 0
        · have ka : ((mg a : Int) == 0) = true := by simp; omega
          by_cases zb : mg b = 0
          · have kb : ((mg b : Int) == 0) = true := by simp; omega
            have E' := Lib.hid (show ((opv (Ieee.double.add a b) : Nat) : Int) = wdI (sgn a && sgn b) 0 from by rw [add_zero_both a b ha hb fa fb za zb, wd0I])
            clear a3 b3 n1 n2 za zb fa fb
            cases hsa : sgn a <;> cases hsb : sgn b
            all_goals
              go_enter Tryd.func36, Tryd.ntmps36
              go_wp2_with (first | (go_at_call 62; (with_reducible refine (rnone_any _ _ _ (by assumption) (by assumption)).mono ?_); rintro e w' ⟨rfl, rfl⟩) | (go_at_call 37; (with_reducible refine (rclass_any _ _ (by assumption)).mono ?_); rintro e w' ⟨rfl, rfl⟩) | (go_at_call 64; (with_reducible refine (ropen_any _ _ (by assumption)).mono ?_); rintro e w' ⟨rfl, rfl⟩) | (go_at_call 65; (with_reducible refine (so_rsigned_any _ _ _ (by omega) (by omega)).mono ?_); rintro e w' ⟨rfl, rfl⟩))
              go_ret
              exact ⟨ret_int (by rw [E'.out, hsa, hsb]; rfl), (((((New.refl _).alloc _ _).alloc _ _).alloc _ _).alloc _ _)⟩
          · have kb : ((mg b : Int) == 0) = false := by simp; omega
            have E' := Lib.hid (add_zero_left a b ha hb fa fb za zb)
            clear a3 b3 n1 n2 za zb fa fb
            go_enter Tryd.func36, Tryd.ntmps36
            go_wp2_with (first | (go_at_call 62; (with_reducible refine (rnone_any _ _ _ (by assumption) (by assumption)).mono ?_); rintro e w' ⟨rfl, rfl⟩) | (go_at_call 37; (with_reducible refine (rclass_any _ _ (by assumption)).mono ?_); rintro e w' ⟨rfl, rfl⟩) | (go_at_call 64; (with_reducible refine (ropen_any _ _ (by assumption)).mono ?_); rintro e w' ⟨rfl, rfl⟩) | (go_at_call 65; (with_reducible refine (so_rsigned_any _ _ _ (by omega) (by omega)).mono ?_); rintro e w' ⟨rfl, rfl⟩))
            go_ret
            exact ⟨ret_int (by rw [E'.out]), (((((New.refl _).alloc _ _).alloc _ _).alloc _ _).alloc _ _)⟩
        · have ka : ((mg a : Int) == 0) = false := by simp; omega
          by_cases zb : mg b = 0
          · have kb : ((mg b : Int) == 0) = true := by simp; omega
            have E' := Lib.hid (show opv (Ieee.double.add a b) = a from by rw [add_comm' a b, add_zero_left b a hb ha fb fa zb za])
            clear a3 b3 n1 n2 za zb fa fb
            go_enter Tryd.func36, Tryd.ntmps36
            go_wp2_with (first | (go_at_call 62; (with_reducible refine (rnone_any _ _ _ (by assumption) (by assumption)).mono ?_); rintro e w' ⟨rfl, rfl⟩) | (go_at_call 37; (with_reducible refine (rclass_any _ _ (by assumption)).mono ?_); rintro e w' ⟨rfl, rfl⟩) | (go_at_call 64; (with_reducible refine (ropen_any _ _ (by assumption)).mono ?_); rintro e w' ⟨rfl, rfl⟩) | (go_at_call 65; (with_reducible refine (so_rsigned_any _ _ _ (by omega) (by omega)).mono ?_); rintro e w' ⟨rfl, rfl⟩))
            go_ret
            exact ⟨ret_int (by rw [E'.out]), (((((New.refl _).alloc _ _).alloc _ _).alloc _ _).alloc _ _)⟩
          · rcases Int.lt_trichotomy (pl a) (pl b) with c | c | c
            · exact radd_lts a b w ha hb hn fa fb (by omega) (by omega) c
            · rcases Nat.lt_or_ge (mg a) (mg b) with d | d
              · exact radd_eqs a b w ha hb hn fa fb (by omega) (by omega) c.symm d
              · exact radd_eq a b w ha hb hn fa fb (by omega) (by omega) c d
            · exact radd_lt a b w ha hb hn fa fb (by omega) (by omega) c
end Go.Proofs.YtgkonjgalpchoaaDoor
