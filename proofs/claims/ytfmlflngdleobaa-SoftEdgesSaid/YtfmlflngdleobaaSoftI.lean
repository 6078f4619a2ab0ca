/- What the document's own whole number of any binary64 number is; a contract, for all bits, in any world, behind which there are new blocks. -/
import Derived.Test.YtfmlflngdleobaaSoftX
namespace Go.Proofs.Ytfmlflngdleobaa
open Go.RowKit
set_option linter.unusedVariables false
theorem tw_of {base : World} {s : Bool} {c : Obj} {x x' p p' : Int} (hx : x = x') (hp : p = p') :
    ((base.alloc (.cells #[.bool s, .int .u64 x, .int .i64 p, .bool false] 43)).alloc c) =
    ((base.alloc (.cells #[.bool s, .int .u64 x', .int .i64 p', .bool false] 43)).alloc c) := by
  rw [hx, hp]
/-- so many halvings -/
def tJ (a : Nat) : Nat := if 0 < mg a then min (-(pl a)).toNat ((mg a).log2 + 1) else 0
def tf (a : Nat) : Nat := fy (mg a) (tJ a)
theorem tf_pos (a : Nat) (h : 0 ≤ pl a) : tJ a = 0 ∧ tf a = mg a := by
  have : tJ a = 0 := by unfold tJ; split <;> omega
  unfold tf; rw [this, fy_zero]; exact ⟨rfl, rfl⟩
theorem tf_neg (a : Nat) (h : pl a ≤ 0) : tf a = tq (mg a) (pl a) := by
  have e : tq (mg a) (pl a) = mg a / 2 ^ (-(pl a)).toNat := by
    unfold tq; split
    · rw [show (pl a).toNat = 0 from by omega, show (-(pl a)).toNat = 0 from by omega]; simp
    · rfl
  rw [e]; unfold tf tJ fy
  split
  · rcases Nat.le_total (-(pl a)).toNat ((mg a).log2 + 1) with c | c
    · rw [Nat.min_eq_left c]
    · rw [Nat.min_eq_right c]
      have hl : mg a < 2 ^ ((mg a).log2 + 1) := Nat.lt_log2_self
      have h2 : 2 ^ ((mg a).log2 + 1) ≤ 2 ^ (-(pl a)).toNat := Nat.pow_le_pow_right (by decide) c
      rw [Nat.div_eq_of_lt hl, Nat.div_eq_of_lt (by omega)]
  · rename_i c
    rw [show mg a = 0 from by omega]; simp
theorem tf_clamp (a : Nat) : clampw (sgn a) (tf a) = clampw (sgn a) (tq (mg a) (pl a)) := by
  rcases Int.lt_or_le 0 (pl a) with c | c
  · have h1 := pl_norm a (by omega)
    rw [(tf_pos a (by omega)).2]
    have h2 : mg a ≤ tq (mg a) (pl a) := by
      unfold tq; rw [if_pos (by omega)]
      exact Nat.le_mul_of_pos_right _ (Nat.two_pow_pos _)
    unfold clampw
    rw [if_pos (show 2147483648 ≤ mg a by omega), if_pos (show 2147483648 ≤ mg a by omega), if_pos (show 2147483648 ≤ tq (mg a) (pl a) by omega), if_pos (show 2147483648 ≤ tq (mg a) (pl a) by omega)]
  · rw [tf_neg a c]
theorem tJ_iff (a j : Nat) (hj : j ≤ tJ a) : (pl a + j < 0 ∧ 0 < fy (mg a) j) ↔ j < tJ a := by
  unfold tJ at *
  by_cases h : 0 < mg a
  · rw [if_pos h] at *
    rw [fy_pos _ _ h]; omega
  · rw [if_neg h] at *
    have h2 := fy_le (mg a) j
    omega
theorem tJ_le (a : Nat) : tJ a ≤ 1074 ∨ pl a < -1074 := by unfold tJ; split <;> omega
set_option maxRecDepth 100000 in
set_option maxHeartbeats 4000000 in
theorem rtoint_fin (a : Nat) (w : World) (ha : U a) (fa : fin a = true) :
    Calls Try.prog 33 #[.int .u64 a] w fun e w' => e = .returned (.int .u32 (toi a)) ∧ New w w' := by
  have c1 : (cls a == 3) = false := by simpa using ((fin_cls a).1 fa).1
  have c1' : (cls a != 3) = true := by simpa using ((fin_cls a).1 fa).1
  have c2 : (cls a == 4) = false := by simpa using ((fin_cls a).1 fa).2
  have m1 := mg_lt a
  obtain ⟨p1, p2⟩ := pl_bd a fa
  have TL := tJ_le a
  have TF : tf a ≤ mg a := fy_le _ _
  have TE := Lib.hid (show toi a = clampw (sgn a) (tf a) from by unfold toi; rw [if_neg ((fin_cls a).1 fa).2, if_neg ((fin_cls a).1 fa).1, tf_clamp])
  have LA := Lib.hid (fun j => tJ_iff a j)
  have F0 := Lib.hid (fy_zero (mg a))
  have PN := Lib.hid (pl_norm a)
  by_cases hp : 0 < pl a
  · have hm := PN.out (by omega)
    have T0 := Lib.hid (tf_pos a (by omega))
    have k0 : 0 < mg a := by omega
    have k1 : decide ((mg a : Int) < 1099511627776) = false := by simp; omega
    have k2 : decide (pl a < 0) = false := by simp; omega
    go_enter Try.func33, Try.ntmps33
    go_wp2_with (first | (go_at_call 14; (with_reducible refine (rclass_any _ _ (by assumption)).mono ?_); rintro e w' ⟨rfl, rfl⟩) | (go_at_call 39; (with_reducible refine (rneg_any _ _).mono ?_); rintro e w' ⟨rfl, rfl⟩) | (go_at_call 40; (with_reducible refine (ropen_any _ _ (by assumption)).mono ?_); rintro e w' ⟨rfl, rfl⟩))
    refine wp_loop_rounds 1 ?_
    rw [rounds_succ]
    go_upto_block 2 with fail
    go_cut [] (fun wc => ∃ e : Int, wc = ((w.alloc (.cells #[.bool (sgn a), .int .u64 (tf a), .int .i64 e, .bool false] 43)).alloc (.cells #[.bool (sgn a), .int .u64 (mg a), .int .i64 (pl a), .bool false] 43)))
    case first =>
      go_wp2_with fail
      refine wp_loop_rounds 1 ?_
      rw [rounds_succ]
      go_wp2_with fail
      go_meet
      case rel => exact ⟨_, by rw [T0.out.2]⟩
    case rest =>
      obtain ⟨e, rfl⟩ := hcut
      cases hs : sgn a
      · by_cases c : 2147483648 ≤ tf a
        · have k : (2147483648 : Int) ≤ (tf a : Int) := by omega
          have E := Lib.hid (show toi a = 2147483647 from by rw [TE.out, hs]; unfold clampw; rw [if_neg Bool.false_ne_true, if_pos c])
          clear c
          go_wp2_with fail
          go_ret
          exact ⟨ret_int (by rw [E.out]; rfl), (((New.refl _).alloc _ _).alloc _ _)⟩
        · have k : decide ((2147483648 : Int) ≤ (tf a : Int)) = false := by simp; omega
          have E := Lib.hid (show toi a = tf a from by rw [TE.out, hs]; unfold clampw; rw [if_neg Bool.false_ne_true, if_neg c])
          go_wp2_with fail
          go_ret
          exact ⟨ret_int (by rw [E.out]), (((New.refl _).alloc _ _).alloc _ _)⟩
      · by_cases c : 2147483648 ≤ tf a
        · have k : (2147483648 : Int) ≤ (tf a : Int) := by omega
          have E := Lib.hid (show toi a = 2147483648 from by rw [TE.out, hs]; unfold clampw; rw [if_pos rfl, if_pos c])
          clear c
          go_wp2_with fail
          go_ret
          exact ⟨ret_int (by rw [E.out]; rfl), (((New.refl _).alloc _ _).alloc _ _)⟩
        · have k : decide ((2147483648 : Int) ≤ (tf a : Int)) = false := by simp; omega
          have E := Lib.hid (show toi a = (4294967296 - tf a) % 4294967296 from by rw [TE.out, hs]; unfold clampw; rw [if_pos rfl, if_neg c])
          go_wp2_with fail
          go_ret
          exact ⟨ret_int (by rw [E.out]; omega), (((New.refl _).alloc _ _).alloc _ _)⟩
  · have k1 : decide (0 < pl a) = false := by simp; omega
    go_enter Try.func33, Try.ntmps33
    go_wp2_with (first | (go_at_call 14; (with_reducible refine (rclass_any _ _ (by assumption)).mono ?_); rintro e w' ⟨rfl, rfl⟩) | (go_at_call 39; (with_reducible refine (rneg_any _ _).mono ?_); rintro e w' ⟨rfl, rfl⟩) | (go_at_call 40; (with_reducible refine (ropen_any _ _ (by assumption)).mono ?_); rintro e w' ⟨rfl, rfl⟩))
    refine wp_loop_rounds 1 ?_
    rw [rounds_succ]
    go_upto_block 2 with fail
    go_cut [] (fun wc => ∃ e : Int, wc = ((w.alloc (.cells #[.bool (sgn a), .int .u64 (tf a), .int .i64 e, .bool false] 43)).alloc (.cells #[.bool (sgn a), .int .u64 (mg a), .int .i64 (pl a), .bool false] 43)))
    case first =>
      go_wp2_with fail
      go_loopg [] (tJ a) (fun k wr => ∃ j : Nat, j + k = tJ a ∧ wr = ((w.alloc (.cells #[.bool (sgn a), .int .u64 (fy (mg a) j), .int .i64 (pl a + j), .bool false] 43)).alloc (.cells #[.bool (sgn a), .int .u64 (mg a), .int .i64 (pl a), .bool false] 43)))
      case atStart => exact ⟨0, by omega, by rw [F0.out]; exact tw_of rfl (by omega)⟩
      case round =>
        obtain ⟨j, hk, rfl⟩ := hrel
        have hi : (j : Int) ≤ 1074 := by omega
        have LI := LA.out j (by omega)
        have fl := fy_le (mg a) j
        have SF := Lib.hid (fy_succ (mg a) j)
        by_cases hlt : j < tJ a
        · have h9 := LI.2 hlt
          have k2 : pl a + (j : Int) < 0 := h9.1
          have k3 : 0 < fy (mg a) j := h9.2
          have HK := Lib.hid hk
          have HT := Lib.hid hlt
          clear hk hlt LI h9
          go_wp2_with fail
          go_roundg (gk - 1)
          case measure => have := HK.out; have := HT.out; omega
          case rel => exact ⟨j + 1, by have := HK.out; have := HT.out; omega, tw_of (by have := SF.out; omega) (by omega)⟩
        · obtain rfl : j = tJ a := by omega
          have hn := fun h => hlt (LI.1 h)
          by_cases c : pl a + (tJ a : Int) < 0
          · have k3 : decide (0 < fy (mg a) (tJ a)) = false := by simp; omega
            clear hk hlt LI hn
            go_wp2_with fail
            go_meet
            case rel => exact ⟨_, rfl⟩
          · have k3 : decide (pl a + (tJ a : Int) < 0) = false := by simp; omega
            clear hk hlt LI hn c
            go_wp2_with fail
            go_meet
            case rel => exact ⟨_, rfl⟩
    case rest =>
      obtain ⟨e, rfl⟩ := hcut
      cases hs : sgn a
      · by_cases c : 2147483648 ≤ tf a
        · have k : (2147483648 : Int) ≤ (tf a : Int) := by omega
          have E := Lib.hid (show toi a = 2147483647 from by rw [TE.out, hs]; unfold clampw; rw [if_neg Bool.false_ne_true, if_pos c])
          clear c
          go_wp2_with fail
          go_ret
          exact ⟨ret_int (by rw [E.out]; rfl), (((New.refl _).alloc _ _).alloc _ _)⟩
        · have k : decide ((2147483648 : Int) ≤ (tf a : Int)) = false := by simp; omega
          have E := Lib.hid (show toi a = tf a from by rw [TE.out, hs]; unfold clampw; rw [if_neg Bool.false_ne_true, if_neg c])
          go_wp2_with fail
          go_ret
          exact ⟨ret_int (by rw [E.out]), (((New.refl _).alloc _ _).alloc _ _)⟩
      · by_cases c : 2147483648 ≤ tf a
        · have k : (2147483648 : Int) ≤ (tf a : Int) := by omega
          have E := Lib.hid (show toi a = 2147483648 from by rw [TE.out, hs]; unfold clampw; rw [if_pos rfl, if_pos c])
          clear c
          go_wp2_with fail
          go_ret
          exact ⟨ret_int (by rw [E.out]; rfl), (((New.refl _).alloc _ _).alloc _ _)⟩
        · have k : decide ((2147483648 : Int) ≤ (tf a : Int)) = false := by simp; omega
          have E := Lib.hid (show toi a = (4294967296 - tf a) % 4294967296 from by rw [TE.out, hs]; unfold clampw; rw [if_pos rfl, if_neg c])
          go_wp2_with fail
          go_ret
          exact ⟨ret_int (by rw [E.out]; omega), (((New.refl _).alloc _ _).alloc _ _)⟩
theorem rtoint_any (a : Nat) (w : World) (ha : U a) : Calls Try.prog 33 #[.int .u64 a] w fun e w' => e = .returned (.int .u32 (toi a)) ∧ New w w' := by
  by_cases h4 : cls a = 4
  · have E := Lib.hid (show toi a = 0 from by unfold toi; rw [if_pos h4])
    have k : (cls a == 4) = true := by simpa using h4
    clear h4
    go_enter Try.func33, Try.ntmps33
    go_wp2_with (first | (go_at_call 14; (with_reducible refine (rclass_any _ _ (by assumption)).mono ?_); rintro e w' ⟨rfl, rfl⟩) | (go_at_call 39; (with_reducible refine (rneg_any _ _).mono ?_); rintro e w' ⟨rfl, rfl⟩) | (go_at_call 40; (with_reducible refine (ropen_any _ _ (by assumption)).mono ?_); rintro e w' ⟨rfl, rfl⟩))
    go_ret
    exact ⟨ret_int (by rw [E.out]; rfl), New.refl _⟩
  · by_cases h3 : cls a = 3
    · have k : (cls a == 4) = false := by simpa using h4
      have k3 : (cls a != 3) = false := by simpa using h3
      have k3' : (cls a == 3) = true := by simpa using h3
      cases hs : sgn a
      · have E := Lib.hid (show toi a = 2147483647 from by unfold toi clampw; rw [if_neg h4, if_pos h3, hs]; rfl)
        clear h4 h3
        go_enter Try.func33, Try.ntmps33
        go_wp2_with (first | (go_at_call 14; (with_reducible refine (rclass_any _ _ (by assumption)).mono ?_); rintro e w' ⟨rfl, rfl⟩) | (go_at_call 39; (with_reducible refine (rneg_any _ _).mono ?_); rintro e w' ⟨rfl, rfl⟩) | (go_at_call 40; (with_reducible refine (ropen_any _ _ (by assumption)).mono ?_); rintro e w' ⟨rfl, rfl⟩))
        go_ret
        exact ⟨ret_int (by rw [E.out]; rfl), (New.refl _).alloc _ _⟩
      · have E := Lib.hid (show toi a = 2147483648 from by unfold toi clampw; rw [if_neg h4, if_pos h3, hs]; rfl)
        clear h4 h3
        go_enter Try.func33, Try.ntmps33
        go_wp2_with (first | (go_at_call 14; (with_reducible refine (rclass_any _ _ (by assumption)).mono ?_); rintro e w' ⟨rfl, rfl⟩) | (go_at_call 39; (with_reducible refine (rneg_any _ _).mono ?_); rintro e w' ⟨rfl, rfl⟩) | (go_at_call 40; (with_reducible refine (ropen_any _ _ (by assumption)).mono ?_); rintro e w' ⟨rfl, rfl⟩))
        go_ret
        exact ⟨ret_int (by rw [E.out]; rfl), (New.refl _).alloc _ _⟩
    · exact rtoint_fin a w ha ((fin_cls a).2 ⟨h3, h4⟩)
end Go.Proofs.Ytfmlflngdleobaa
