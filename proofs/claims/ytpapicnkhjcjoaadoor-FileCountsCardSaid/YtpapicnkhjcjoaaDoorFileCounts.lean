/- A file that was opened, and then had by so many more, can be given back as often, and is gone with the last one, and not ahead; other files stay; the statement holds for every input, where the listed variable holds what the library's own text lays, which the card ties. -/
import Derived.Test.YtpapicnkhjcjoaaDoorRows
import Derived.Test.YtpapicnkhjcjoaaDoorFiR
import Derived.Test.YtpapicnkhjcjoaaDoorLay
import Derived.Deep.LoopGhost
import Derived.Deep.RegionHeld3
import Derived.Test.YtpapicnkhjcjoaaDoorCards
import Derived.Test.YtpapicnkhjcjoaaDoorTie
import Derived.LaidMore
import Derived.LaidLaws
import Derived.LaidHandle
import Derived.Test.YtpapicnkhjcjoaaDoorLay
import Derived.Test.YtpapicnkhjcjoaaDoorPost
import Derived.WalkKit
import Derived.ProofKit
import Derived.OpenShut
import Derived.ShutString
namespace Go.Proofs.YtpapicnkhjcjoaaDoor.fileCounts
open Go.ChangeShapes Go.WideShapes Go.ChangeAt Go.RowKit
open Go.ChangeMaps (open_string shut_string)
set_option linter.unusedVariables false      -- a walk need not use every 'w<i>' (that an integer argument fits its kind)

theorem own : ownKnob Tryd.prog.godebug = none := by kernel_rfl

theorem cut40 (a : Int) : ∃ x : Nat, wrap64 ((IntKind.u64.wrap a).tmod 40) = (x : Int) ∧ x < 40 := by
  rw [IntKind.wrap_u64, Int.tmod_eq_emod_of_nonneg (by omega)]
  have h := Int.emod_lt_of_pos (a % 18446744073709551616) (show (0 : Int) < 40 by omega)
  have h' := Int.emod_nonneg (a % 18446744073709551616) (show (40 : Int) ≠ 0 by omega)
  refine ⟨(a % 18446744073709551616 % 40).toNat, ?_, by omega⟩
  unfold wrap64; omega
/-! ### STEP 1: THE WALK: the Go text returns true. 'Grown w w'': the world has at most new blocks (Derived/RowKit3.lean). Part the cases AHEAD of 'go_enter' where a test parts the walk; take each callee by a contract of your own. -/
set_option maxHeartbeats 8000000 in
set_option maxRecDepth 100000 in
theorem walk (a0 : Int) (a1 : Int) (w0 : (Lit.int .i64 a0).wf = true) (w1 : (Lit.int .i64 a1).wf = true) (w : World) (hl : Laid w) :
    Calls Tryd.prog 5 #[.int .i64 a0, .int .i64 a1] w fun e w' => e = .returned (.bool true) ∧ New w w' := by
  obtain ⟨k, ek, hk⟩ := cut40 a0
  have EK := Lib.hid ek
  obtain ⟨s, hs⟩ : ∃ s : Bool, s = decide (a1.tmod 2 = 0) := ⟨_, rfl⟩
  have HS := Lib.hid hs
  have y1 := i64_bd w1
  clear w0 w1 ek hs
  have LD := Lib.hid hl
  clear hl
  have c := ftx_new 3 w (by omega)
  go_enter Tryd.func5, Tryd.ntmps5
  go_wp2_with fail
  refine c.mono ?_
  rintro e w1 ⟨tb, rfl, F⟩
  have c := ftx_open F (ca 0)
  clear F
  rw [co_a.1, co_a.2, er0, co_a2] at c
  unfold FlV ca at c
  dsimp only at c
  go_wp2_with fail
  refine c.mono ?_
  rintro e w2 ⟨rfl, F, -⟩
  have c := ftx_open F (cb 0)
  clear F
  have hb2 := co_b2 s
  unfold ca at hb2
  have hb1 := co_b
  unfold ca at hb1
  rw [hb1.1, hb1.2, er0, hb2] at c
  unfold FlV cb at c
  dsimp only at c
  go_wp2_with fail
  refine c.mono ?_
  rintro e w3 ⟨rfl, F, -⟩
  clear c hb1 hb2
  have WAY : (a1.tmod 2 = 0 ∧ s = true) ∨ (¬ a1.tmod 2 = 0 ∧ s = false) := by
    by_cases c : a1.tmod 2 = 0
    · exact .inl ⟨c, by rw [HS.out]; exact decide_eq_true c⟩
    · exact .inr ⟨c, by rw [HS.out]; exact decide_eq_false c⟩
  clear HS
  rcases WAY with ⟨q1, q2⟩ | ⟨q1, q2⟩
  · have q3 : ((a1.tmod 2) == (0 : Int)) = true := by simpa using q1
    subst q2
    have c := ftx_get F (cm true)
    rw [(cm_get true 1).1, (cm_get true 1).2, er0] at c
    obtain ⟨o, ho⟩ : ∃ o, o = cO true := ⟨_, rfl⟩
    rw [← ho] at c
    have HO := Lib.hid ho
    unfold FlV at c
    clear ho F
    go_wp2_with fail
    refine c.mono ?_
    rintro e w4 ⟨rfl, F, -⟩
    have al := (New.refl w4).alloc #[.int .i64 o.k, .int .i64 o.id, .int .i64 o.off, .bool o.rd, .bool o.wt, .string (ba o.nm), .int .i64 o.rf] 29
    have bO := Box.here w4 w4.heap.size #[.int .i64 o.k, .int .i64 o.id, .int .i64 o.off, .bool o.rd, .bool o.wt, .string (ba o.nm), .int .i64 o.rf] 29 rfl
    have F := F.take al
    have ox : w4.heap.size ≤ w4.heap.size ∧ w4.heap.size < (w4.alloc (.cells #[.int .i64 o.k, .int .i64 o.id, .int .i64 o.off, .bool o.rd, .bool o.wt, .string (ba o.nm), .int .i64 o.rf] 29)).heap.size := ⟨Nat.le_refl _, bO.lt⟩
    obtain ⟨X, hX, hXo⟩ : ∃ X : Nat → Prop, Ftx X w (w4.alloc (.cells #[.int .i64 o.k, .int .i64 o.id, .int .i64 o.off, .bool o.rd, .bool o.wt, .string (ba o.nm), .int .i64 o.rf] 29)) tb 3 (cN true 1) ∧ X w4.heap.size := ⟨_, F, .inr ox⟩
    have XO := Lib.hid hXo
    have FX := Lib.hid hX
    have BO := Lib.hid bO
    clear F al bO ox hX hXo c
    go_wp2_with fail
    simp only [EK.out]
    go_loopg [16] k (fun gk i wr => ∃ j : Nat, j + gk = k ∧ i = .int .i64 (j : Int) ∧ Ftx X w wr tb 3 (cN true (1 + (j : Int))) ∧ Box wr w4.heap.size #[.int .i64 o.k, .int .i64 o.id, .int .i64 o.off, .bool o.rd, .bool o.wt, .string (ba o.nm), .int .i64 o.rf] 29)
    case atStart => exact ⟨0, by omega, rfl, FX.out, BO.out⟩
    case round =>
      obtain ⟨j, hj, rfl, F, bO⟩ := hrel
      have J := Lib.hid hj
      by_cases cj : j < k
      · have cr := c_ref true (1 + (j : Int)) (by omega) (by omega)
        have c := ftx_ref F (cn true)
        rw [cr.1, cr.2, er0] at c
        have BJ := Lib.hid bO
        clear hj F bO cr
        go_wp2_with fail
        refine c.mono ?_
        rintro e w5 ⟨rfl, F, kb⟩
        have F5 := Lib.hid F
        have B5 := Lib.hid (BJ.out.but kb (fun h => h XO.out))
        clear c F kb
        go_wp2
        go_roundg (k - (j + 1))
        case measure => have := J.out; omega
        case rel => exact ⟨j + 1, by have := J.out; omega, by go_num, by have := F5.out; rwa [show (1 : Int) + (j : Int) + 1 = 1 + ((j + 1 : Nat) : Int) by omega] at this, B5.out⟩
      · obtain rfl : j = k := by omega
        have F1 := Lib.hid F
        have B1 := Lib.hid bO
        clear F bO hj FX BO
        go_wp2_with fail
        go_loopg [17] (j + 1) (fun gk i ws => ∃ i' : Nat, i' + gk = j + 1 ∧ i = .int .i64 (i' : Int) ∧ Ftx X w ws tb 3 (if i' = j + 1 then cG true else cN true (1 + (j : Int) - (i' : Int))) ∧ Box ws w4.heap.size #[.int .i64 o.k, .int .i64 o.id, .int .i64 o.off, .bool o.rd, .bool o.wt, .string (ba o.nm), .int .i64 o.rf] 29)
        case atStart => exact ⟨0, by omega, rfl, by rw [if_neg (by omega)]; simpa using F1.out, B1.out⟩
        case round =>
          obtain ⟨i', hi, rfl, F, bO⟩ := hrel
          have I := Lib.hid hi
          by_cases ci : i' ≤ j
          · rw [if_neg (by omega)] at F
            have cu := c_un true (1 + (j : Int) - (i' : Int)) (by omega) (by omega)
            have c := ftx_unref F (cn true)
            have hrf : (frO (cN true (1 + (j : Int) - (i' : Int))) (cn true) (-1)).rf = (j : Int) - (i' : Int) := by rw [cu.2.1]; omega
            have hdec : decide (frE (cN true (1 + (j : Int) - (i' : Int))) (cn true) (-1) = 0 ∧ (frO (cN true (1 + (j : Int) - (i' : Int))) (cn true) (-1)).rf = 0) = ((i' : Int) == (j : Int)) := by
              rw [cu.1, hrf]
              by_cases q : i' = j
              · subst q; simp
              · rw [decide_eq_false (by rintro ⟨-, h⟩; omega)]
                exact (beq_eq_false_iff_ne.2 (by omega)).symm
            rw [hdec, cu.1, er0] at c
            obtain ⟨fo, hfo⟩ : ∃ fo, fo = frO (cN true (1 + (j : Int) - (i' : Int))) (cn true) (-1) := ⟨_, rfl⟩
            rw [← hfo] at c hrf
            obtain ⟨fk, fid, foff, frd, fwt, fnm, frf⟩ := fo
            dsimp only at hrf
            subst hrf
            have hL : frL (cN true (1 + (j : Int) - (i' : Int))) (cn true) (-1) = if i' + 1 = j + 1 then cG true else cN true (1 + (j : Int) - ((i' + 1 : Nat) : Int)) := by
              rw [cu.2.2]
              by_cases q : i' = j
              · rw [if_pos (by omega), if_pos (by omega)]
              · rw [if_neg (by omega), if_neg (by omega)]; congr 1; omega
            rw [hL] at c
            unfold FlV at c
            dsimp only at c
            have BJ := Lib.hid bO
            have CI := Lib.hid ci
            clear hfo hL hdec cu F bO hi F1 B1
            go_wp2_with fail
            refine c.mono ?_
            rintro e w6 ⟨rfl, F, kb⟩
            have al := (New.refl w6).alloc #[.int .i64 fk, .int .i64 fid, .int .i64 foff, .bool frd, .bool fwt, .string (ba fnm), .int .i64 ((j : Int) - (i' : Int))] 29
            have F6 := Lib.hid (F.new al)
            have B6 := Lib.hid ((BJ.out.but kb (fun h => h XO.out)).new al)
            have b6 := Box.here w6 w6.heap.size #[.int .i64 fk, .int .i64 fid, .int .i64 foff, .bool frd, .bool fwt, .string (ba fnm), .int .i64 ((j : Int) - (i' : Int))] 29 rfl
            obtain ⟨lb, ⟨c0, c1, c2, c3, c4, c5, c6⟩, -⟩ := b6.seven
            clear c F kb al b6
            go_wp2
            go_roundg (j + 1 - (i' + 1))
            case measure => have := I.out; omega
            case rel => exact ⟨i' + 1, by have := I.out; omega, by go_num, F6.out, B6.out⟩
          · obtain rfl : i' = j + 1 := by omega
            rw [if_pos rfl] at F
            have d1 : decide (((j + 1 : Nat) : Int) ≤ (j : Int)) = false := decide_eq_false (by omega)
            have BJ := Lib.hid bO
            have cu := c_no true
            have c := ftx_unref F (cn true)
            rw [cu.1, cu.2, erN_pos (by omega)] at c
            generalize hgd : decide ((9 : Int) = 0 ∧ (frO (cG true) (cn true) (-1)).rf = 0) = gd at c
            generalize frO (cG true) (cn true) (-1) = fo at c
            unfold FlV at c
            clear bO hi F1 B1 F cu hgd
            go_wp2_with fail
            refine c.mono ?_
            rintro e w6 ⟨rfl, F, kb⟩
            have al := (New.refl w6).alloc #[.int .i64 fo.k, .int .i64 fo.id, .int .i64 fo.off, .bool fo.rd, .bool fo.wt, .string (ba fo.nm), .int .i64 fo.rf] 29
            have F := F.new al
            have B6 := Lib.hid ((BJ.out.but kb (fun h => h XO.out)).new al)
            have c := ftx_get F (cm true)
            rw [(cm_got true).1, (cm_got true).2, er0, ← HO.out] at c
            unfold FlV at c
            clear kb al F
            go_wp2_with fail
            refine c.mono ?_
            rintro e w7 ⟨rfl, F, kb⟩
            have al := (New.refl w7).alloc #[.int .i64 o.k, .int .i64 o.id, .int .i64 o.off, .bool o.rd, .bool o.wt, .string (ba o.nm), .int .i64 o.rf] 29
            have F := F.new al
            have B7 := Lib.hid ((B6.out.but kb (fun h => h XO.out)).new al)
            have b7 := Lib.hid (Box.here w7 w7.heap.size #[.int .i64 o.k, .int .i64 o.id, .int .i64 o.off, .bool o.rd, .bool o.wt, .string (ba o.nm), .int .i64 o.rf] 29 rfl)
            have c := num_er 9 _ (LD.out.new F.world)
            rw [erN_pos (by omega)] at c
            clear kb al B6 BJ
            go_wp2_with fail
            refine c.mono ?_
            rintro e w8 ⟨rfl, n8⟩
            have F := F.new n8
            obtain ⟨l1, ⟨c0, c1, c2, c3, c4, c5, c6⟩, -⟩ := (B7.out.new n8).seven
            obtain ⟨l2, ⟨e0, e1, e2, e3, e4, e5, e6⟩, -⟩ := (b7.out.new n8).seven
            have c := ftx_list F
            clear n8 F
            go_wp2_with fail
            refine c.mono ?_
            rintro e w9 ⟨v, l, rfl, hv, hvl, hvm, ⟨F, -⟩, -⟩
            have hl1 : l = [cm true] := one_of (by rw [hvl, c_len]) ((hvm _).2 (c_in true))
            subst hl1
            have al := (New.refl w9).alloc #[.int .i64 0] 3
            have FW := Lib.hid (F.world.trans al)
            have hm : Nums (w9.alloc (.cells #[.int .i64 0] 3)) (.slice (some ⟨w9.heap.size, 0, none⟩) 1 1) [cm true] := ⟨_, _, rfl, ⟨Nat.le_refl _, by unfold maxLen; decide⟩, fun i hi => ⟨_, rfl, by
              obtain rfl : i = 0 := by simpa using hi
              simp [Addr.add, cm]⟩⟩
            have c := fints_one (hv.new al) hm
            have C := Lib.hid c
            obtain ⟨pv, cv, rfl⟩ := hv.shape
            clear hv hvl hvm F al hm c c0 c1 c2 c3 c4 c5 c6 e0 e1 e2 e3 e4 e5 e6
            go_wp2_with fail
            refine C.out.mono ?_
            rintro e w10 ⟨rfl, n10⟩
            have n11 := FW.out.trans n10
            have c := fisure_any _ (LD.out.new n11)
            clear n10
            go_wp2_with fail
            refine c.mono ?_
            rintro e w11 ⟨rfl, n12⟩
            go_wp2
            go_ret
            exact ⟨rfl, n11.trans n12⟩
  · have q3 : ((a1.tmod 2) == (0 : Int)) = false := by simpa using q1
    subst q2
    have c := ftx_get F (cm false)
    rw [(cm_get false 1).1, (cm_get false 1).2, er0] at c
    obtain ⟨o, ho⟩ : ∃ o, o = cO false := ⟨_, rfl⟩
    rw [← ho] at c
    have HO := Lib.hid ho
    unfold FlV at c
    clear ho F
    go_wp2_with fail
    refine c.mono ?_
    rintro e w4 ⟨rfl, F, -⟩
    have al := (New.refl w4).alloc #[.int .i64 o.k, .int .i64 o.id, .int .i64 o.off, .bool o.rd, .bool o.wt, .string (ba o.nm), .int .i64 o.rf] 29
    have bO := Box.here w4 w4.heap.size #[.int .i64 o.k, .int .i64 o.id, .int .i64 o.off, .bool o.rd, .bool o.wt, .string (ba o.nm), .int .i64 o.rf] 29 rfl
    have F := F.take al
    have ox : w4.heap.size ≤ w4.heap.size ∧ w4.heap.size < (w4.alloc (.cells #[.int .i64 o.k, .int .i64 o.id, .int .i64 o.off, .bool o.rd, .bool o.wt, .string (ba o.nm), .int .i64 o.rf] 29)).heap.size := ⟨Nat.le_refl _, bO.lt⟩
    obtain ⟨X, hX, hXo⟩ : ∃ X : Nat → Prop, Ftx X w (w4.alloc (.cells #[.int .i64 o.k, .int .i64 o.id, .int .i64 o.off, .bool o.rd, .bool o.wt, .string (ba o.nm), .int .i64 o.rf] 29)) tb 3 (cN false 1) ∧ X w4.heap.size := ⟨_, F, .inr ox⟩
    have XO := Lib.hid hXo
    have FX := Lib.hid hX
    have BO := Lib.hid bO
    clear F al bO ox hX hXo c
    go_wp2_with fail
    simp only [EK.out]
    go_loopg [16] k (fun gk i wr => ∃ j : Nat, j + gk = k ∧ i = .int .i64 (j : Int) ∧ Ftx X w wr tb 3 (cN false (1 + (j : Int))) ∧ Box wr w4.heap.size #[.int .i64 o.k, .int .i64 o.id, .int .i64 o.off, .bool o.rd, .bool o.wt, .string (ba o.nm), .int .i64 o.rf] 29)
    case atStart => exact ⟨0, by omega, rfl, FX.out, BO.out⟩
    case round =>
      obtain ⟨j, hj, rfl, F, bO⟩ := hrel
      have J := Lib.hid hj
      by_cases cj : j < k
      · have cr := c_ref false (1 + (j : Int)) (by omega) (by omega)
        have c := ftx_ref F (cn false)
        rw [cr.1, cr.2, er0] at c
        have BJ := Lib.hid bO
        clear hj F bO cr
        go_wp2_with fail
        refine c.mono ?_
        rintro e w5 ⟨rfl, F, kb⟩
        have F5 := Lib.hid F
        have B5 := Lib.hid (BJ.out.but kb (fun h => h XO.out))
        clear c F kb
        go_wp2
        go_roundg (k - (j + 1))
        case measure => have := J.out; omega
        case rel => exact ⟨j + 1, by have := J.out; omega, by go_num, by have := F5.out; rwa [show (1 : Int) + (j : Int) + 1 = 1 + ((j + 1 : Nat) : Int) by omega] at this, B5.out⟩
      · obtain rfl : j = k := by omega
        have F1 := Lib.hid F
        have B1 := Lib.hid bO
        clear F bO hj FX BO
        go_wp2_with fail
        go_loopg [17] (j + 1) (fun gk i ws => ∃ i' : Nat, i' + gk = j + 1 ∧ i = .int .i64 (i' : Int) ∧ Ftx X w ws tb 3 (if i' = j + 1 then cG false else cN false (1 + (j : Int) - (i' : Int))) ∧ Box ws w4.heap.size #[.int .i64 o.k, .int .i64 o.id, .int .i64 o.off, .bool o.rd, .bool o.wt, .string (ba o.nm), .int .i64 o.rf] 29)
        case atStart => exact ⟨0, by omega, rfl, by rw [if_neg (by omega)]; simpa using F1.out, B1.out⟩
        case round =>
          obtain ⟨i', hi, rfl, F, bO⟩ := hrel
          have I := Lib.hid hi
          by_cases ci : i' ≤ j
          · rw [if_neg (by omega)] at F
            have cu := c_un false (1 + (j : Int) - (i' : Int)) (by omega) (by omega)
            have c := ftx_unref F (cn false)
            have hrf : (frO (cN false (1 + (j : Int) - (i' : Int))) (cn false) (-1)).rf = (j : Int) - (i' : Int) := by rw [cu.2.1]; omega
            have hdec : decide (frE (cN false (1 + (j : Int) - (i' : Int))) (cn false) (-1) = 0 ∧ (frO (cN false (1 + (j : Int) - (i' : Int))) (cn false) (-1)).rf = 0) = ((i' : Int) == (j : Int)) := by
              rw [cu.1, hrf]
              by_cases q : i' = j
              · subst q; simp
              · rw [decide_eq_false (by rintro ⟨-, h⟩; omega)]
                exact (beq_eq_false_iff_ne.2 (by omega)).symm
            rw [hdec, cu.1, er0] at c
            obtain ⟨fo, hfo⟩ : ∃ fo, fo = frO (cN false (1 + (j : Int) - (i' : Int))) (cn false) (-1) := ⟨_, rfl⟩
            rw [← hfo] at c hrf
            obtain ⟨fk, fid, foff, frd, fwt, fnm, frf⟩ := fo
            dsimp only at hrf
            subst hrf
            have hL : frL (cN false (1 + (j : Int) - (i' : Int))) (cn false) (-1) = if i' + 1 = j + 1 then cG false else cN false (1 + (j : Int) - ((i' + 1 : Nat) : Int)) := by
              rw [cu.2.2]
              by_cases q : i' = j
              · rw [if_pos (by omega), if_pos (by omega)]
              · rw [if_neg (by omega), if_neg (by omega)]; congr 1; omega
            rw [hL] at c
            unfold FlV at c
            dsimp only at c
            have BJ := Lib.hid bO
            have CI := Lib.hid ci
            clear hfo hL hdec cu F bO hi F1 B1
            go_wp2_with fail
            refine c.mono ?_
            rintro e w6 ⟨rfl, F, kb⟩
            have al := (New.refl w6).alloc #[.int .i64 fk, .int .i64 fid, .int .i64 foff, .bool frd, .bool fwt, .string (ba fnm), .int .i64 ((j : Int) - (i' : Int))] 29
            have F6 := Lib.hid (F.new al)
            have B6 := Lib.hid ((BJ.out.but kb (fun h => h XO.out)).new al)
            have b6 := Box.here w6 w6.heap.size #[.int .i64 fk, .int .i64 fid, .int .i64 foff, .bool frd, .bool fwt, .string (ba fnm), .int .i64 ((j : Int) - (i' : Int))] 29 rfl
            obtain ⟨lb, ⟨c0, c1, c2, c3, c4, c5, c6⟩, -⟩ := b6.seven
            clear c F kb al b6
            go_wp2
            go_roundg (j + 1 - (i' + 1))
            case measure => have := I.out; omega
            case rel => exact ⟨i' + 1, by have := I.out; omega, by go_num, F6.out, B6.out⟩
          · obtain rfl : i' = j + 1 := by omega
            rw [if_pos rfl] at F
            have d1 : decide (((j + 1 : Nat) : Int) ≤ (j : Int)) = false := decide_eq_false (by omega)
            have BJ := Lib.hid bO
            have cu := c_no false
            have c := ftx_unref F (cn false)
            rw [cu.1, cu.2, erN_pos (by omega)] at c
            generalize hgd : decide ((9 : Int) = 0 ∧ (frO (cG false) (cn false) (-1)).rf = 0) = gd at c
            generalize frO (cG false) (cn false) (-1) = fo at c
            unfold FlV at c
            clear bO hi F1 B1 F cu hgd
            go_wp2_with fail
            refine c.mono ?_
            rintro e w6 ⟨rfl, F, kb⟩
            have al := (New.refl w6).alloc #[.int .i64 fo.k, .int .i64 fo.id, .int .i64 fo.off, .bool fo.rd, .bool fo.wt, .string (ba fo.nm), .int .i64 fo.rf] 29
            have F := F.new al
            have B6 := Lib.hid ((BJ.out.but kb (fun h => h XO.out)).new al)
            have c := ftx_get F (cm false)
            rw [(cm_got false).1, (cm_got false).2, er0, ← HO.out] at c
            unfold FlV at c
            clear kb al F
            go_wp2_with fail
            refine c.mono ?_
            rintro e w7 ⟨rfl, F, kb⟩
            have al := (New.refl w7).alloc #[.int .i64 o.k, .int .i64 o.id, .int .i64 o.off, .bool o.rd, .bool o.wt, .string (ba o.nm), .int .i64 o.rf] 29
            have F := F.new al
            have B7 := Lib.hid ((B6.out.but kb (fun h => h XO.out)).new al)
            have b7 := Lib.hid (Box.here w7 w7.heap.size #[.int .i64 o.k, .int .i64 o.id, .int .i64 o.off, .bool o.rd, .bool o.wt, .string (ba o.nm), .int .i64 o.rf] 29 rfl)
            have c := num_er 9 _ (LD.out.new F.world)
            rw [erN_pos (by omega)] at c
            clear kb al B6 BJ
            go_wp2_with fail
            refine c.mono ?_
            rintro e w8 ⟨rfl, n8⟩
            have F := F.new n8
            obtain ⟨l1, ⟨c0, c1, c2, c3, c4, c5, c6⟩, -⟩ := (B7.out.new n8).seven
            obtain ⟨l2, ⟨e0, e1, e2, e3, e4, e5, e6⟩, -⟩ := (b7.out.new n8).seven
            have c := ftx_list F
            clear n8 F
            go_wp2_with fail
            refine c.mono ?_
            rintro e w9 ⟨v, l, rfl, hv, hvl, hvm, ⟨F, -⟩, -⟩
            have hl1 : l = [cm false] := one_of (by rw [hvl, c_len]) ((hvm _).2 (c_in false))
            subst hl1
            have al := (New.refl w9).alloc #[.int .i64 1] 3
            have FW := Lib.hid (F.world.trans al)
            have hm : Nums (w9.alloc (.cells #[.int .i64 1] 3)) (.slice (some ⟨w9.heap.size, 0, none⟩) 1 1) [cm false] := ⟨_, _, rfl, ⟨Nat.le_refl _, by unfold maxLen; decide⟩, fun i hi => ⟨_, rfl, by
              obtain rfl : i = 0 := by simpa using hi
              simp [Addr.add, cm]⟩⟩
            have c := fints_one (hv.new al) hm
            have C := Lib.hid c
            obtain ⟨pv, cv, rfl⟩ := hv.shape
            clear hv hvl hvm F al hm c c0 c1 c2 c3 c4 c5 c6 e0 e1 e2 e3 e4 e5 e6
            go_wp2_with fail
            refine C.out.mono ?_
            rintro e w10 ⟨rfl, n10⟩
            have n11 := FW.out.trans n10
            have c := fisure_any _ (LD.out.new n11)
            clear n10
            go_wp2_with fail
            refine c.mono ?_
            rintro e w11 ⟨rfl, n12⟩
            go_wp2
            go_ret
            exact ⟨rfl, n11.trans n12⟩

/-! ### THE ROW's STEP: WRITTEN OUT: LEAVE IT -/
theorem door_met (os : Os) (args : Array Value) : laidMetH Tryd.prog Rows.fileCountsRow.laid ((World.doorLaid Tryd.prog 400 os).forCall (fun _ _ => 0) ⟨#[], args, []⟩).memory :=
  laidMetH_of_parts3 (fuel := 8) (laidMet_of_run' 8 (by kernel_rfl) (by kernel_rfl)) (by kernel_rfl) (by kernel_rfl)
set_option maxRecDepth 100000 in
theorem lifted (os : Os) (started : os.Started) (H : Type) (enc : TypeId × Value → H) :
    ReturnsInHanded {} Tryd.checked os 5 .any (fun w args => (Rows.fileCountsSpec.pre enc Tryd.prog Tryd.f5 [] false w args ∧ laidMetH Tryd.prog Rows.fileCountsRow.laid w) ∧ sizedMet enc Tryd.prog Tryd.f5 (OpenSpec.ofChange Rows.fileCountsSpec) false w args) (Rows.fileCountsSpec.post enc Tryd.prog Tryd.f5 false true false false) := by
  refine returnsInHanded_of_change_and (C := Tryd.checked) (X := fun w _ => laidMetH Tryd.prog Rows.fileCountsRow.laid w) (fun _ _ _ hh h => h.of_heap hh) own started (by kernel_rfl) Tryd.func5
    (ChangeSpec.witness_shaped (enc := enc) (C := Tryd.checked) (os := os) (X := fun w _ => laidMetH Tryd.prog Rows.fileCountsRow.laid w) false (World.doorLaid Tryd.prog 400 os) #[.int .i64 0, .int .i64 0] 8 rfl (World.shaped_of_RefB (by kernel_rfl) (by kernel_rfl)) (by kernel_rfl) (by kernel_rfl) (by kernel_rfl) (door_met os _)) ?_
  intro W base args ds gs before hval0 hW _ _ hL _
  have hL' : laidMet Tryd.prog [] W ∧ handlesMet Tryd.prog [("errors.errorType", Rows.laid_errors_errorType)] W := hL
  have hval : ∀ (j : Nat) t v, Tryd.f5.params[j]? = some t → args[j]? = some v → Value.okWide Tryd.prog W .any base t v := hval0
  have hW' := hW
  obtain ⟨p, q, hA0, hV, rfl, hfz, hnd⟩ := hW
  have hA : DataW.TrodAll enc Tryd.prog W 0 (fun _ => true) true Tryd.f5.params.toList args.toList ds p := hA0
  rw [Tryd.params5] at hA hval
  obtain ⟨v0, vs0, d0, ds0, p0, q0, hargs, rfl, rfl, h0, r0⟩ := trodAll_cons hA
  obtain ⟨v1, vs1, d1, ds1, p1, q1, rfl, rfl, rfl, h1, r1⟩ := trodAll_cons r0
  obtain ⟨rfl, rfl, rfl⟩ := trodAll_nil r1
  obtain rfl : args = #[v0, v1] := by cases args; simp_all
  obtain ⟨rfl, rfl⟩ := trodVars_none hV
  obtain ⟨a0, rfl, rfl, rfl, w0⟩ := open_int Tryd.underlying3 (hval 0 3 v0 rfl rfl) h0
  obtain ⟨a1, rfl, rfl, rfl, w1⟩ := open_int Tryd.underlying3 (hval 1 3 v1 rfl rfl) h1
  clear hA0 hval0
  simp only [List.append_nil] at hW'
  refine (walk a0 a1 w0 w1 W (handle_of_hs hL'.2)).mono fun e W' ⟨he, hg⟩ => ?_
  subst he
  exact ⟨_, rfl, post_of_new hW' (fun _ _ _ => (trodAll_cons_mk (shut_bool Tryd.underlying4 _) trodAll_mk0)) (fun sp => (trodAll_cons_mk (shut_int Tryd.underlying3 w0) (trodAll_cons_mk (shut_int Tryd.underlying3 w1) trodAll_mk0))) (fun _ => rfl) hg (ok_one (by kernel_rfl) rfl (okWide_bool_mk Tryd.underlying4 _))⟩

theorem over : Rows.fileCountsRow.holds Tryd.pinned (OpenSpec.ofChange Rows.fileCountsSpec) :=
  OpenClaim.holds_of_wide 5 Tryd.f5 rfl rfl rfl rfl rfl rfl rfl ⟨rfl, rfl, rfl, rfl, rfl⟩ rfl rfl rfl rfl rfl (by kernel_rfl) Tryd.func5 (by kernel_rfl)
    (of_decide_eq_true (by kernel_rfl)) (by unfold Func.isWrapper; first | (rw [if_pos (by decide +kernel)]; kernel_rfl) | (rw [if_neg (by decide +kernel)]; exact ⟨rfl, rfl⟩))
    (fun os started H enc _ => lifted os started H enc)

theorem proved : Rows.FileCountsSaid := over
theorem card : Rows.FileCountsCardSaid :=
  Claim7.holds_tied_plain_at .later [] [.handle] true (true, "7bc24a7015f1fe19dee02ef661ab66c3b7e5de9c17027ab3694f025ea610cbc2") true
    over (fun _ h => by cases h) (by kernel_rfl) (fun _ h => by cases h) fileCounts_row_tie rfl ⟨rfl, rfl⟩ (by kernel_rfl) rfl
    (fun f fn hf hfn => by
      obtain rfl : f = 5 := Option.some.inj ((show Tryd.prog.funcNamed "halter/halterlaw19.FileCounts" = some 5 by kernel_rfl).symm.trans hf) |>.symm
      obtain rfl : fn = Tryd.f5 := (Option.some.inj (Tryd.func5.symm.trans hfn)).symm
      exact ⟨by kernel_rfl, fun j t ht => by
        rw [Tryd.params5] at ht
        have hm : t ∈ [3, 3] := by have := Array.mem_of_getElem? ht; simpa using this
        have hall : ([3, 3].all fun u => !Tryd.prog.wantsStandIn u) = true := by kernel_rfl
        exact (show Tryd.prog.wantsStandIn t = false by simpa using List.all_eq_true.1 hall t hm)⟩)
    (by kernel_rfl)
#print axioms card
end Go.Proofs.YtpapicnkhjcjoaaDoor.fileCounts
