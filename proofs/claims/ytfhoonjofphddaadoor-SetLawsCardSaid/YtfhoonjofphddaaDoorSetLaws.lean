/- What was added is in the set, what was taken away is not, all others stay; the text is read as the set; all signals of a set, added one by one, are the set; the statement holds for every input, where the library's variables that the row lists hold what their own texts lay, which the card ties. -/
import Derived.Test.YtfhoonjofphddaaDoorRows
import Derived.Test.YtfhoonjofphddaaDoorSetG
import Derived.Test.YtfhoonjofphddaaDoorCards
import Derived.Test.YtfhoonjofphddaaDoorTie
import Derived.LaidMore
import Derived.LaidLaws
import Derived.LaidHandle
import Derived.Test.YtfhoonjofphddaaDoorTab
import Derived.Test.YtfhoonjofphddaaDoorPost
import Derived.WalkKit
import Derived.ProofKit
import Derived.OpenShut
import Derived.ShutString
namespace Go.Proofs.YtfhoonjofphddaaDoor.setLaws
open Go.ChangeShapes Go.WideShapes Go.ChangeAt Go.RowKit
open Go.ChangeMaps (open_string shut_string)
set_option linter.unusedVariables false      -- a walk need not use every 'w<i>' (that an integer argument fits its kind)

theorem own : ownKnob Tryd.prog.godebug = none := by kernel_rfl

/-! ### STEP 1: THE WALK: the Go text returns true. 'Grown w w'': the world has at most new blocks (Derived/RowKit3.lean). Part the cases AHEAD of 'go_enter' where a test parts the walk; take each callee by a contract of your own. -/
set_option maxHeartbeats 4000000 in
theorem walk (a0 : Int) (a1 : Int) (a2 : Int) (w0 : (Lit.int .u32 a0).wf = true) (w1 : (Lit.int .i64 a1).wf = true) (w2 : (Lit.int .i64 a2).wf = true) (w : World) (ht : Tab32 w) :
    Calls Tryd.prog 5 #[.int .u32 a0, .int .i64 a1, .int .i64 a2] w fun e w' => e = .returned (.bool true) ∧ New w w' := by
  have b0 : 0 ≤ a0 ∧ a0 ≤ 4294967295 := u32_bd w0
  have b1 := i64_bd w1
  have b2 := i64_bd w2
  obtain ⟨n, en, hn, hn'⟩ := mod31 a1
  obtain ⟨m, em, hm, hm'⟩ := mod31 a2
  obtain ⟨x, ex, hx, hx'⟩ : ∃ x, a0 % 2147483648 = x ∧ 0 ≤ x ∧ x ≤ 2147483647 := ⟨_, rfl, by omega, by omega⟩
  have ba := addS_bd x n hx
  have bd := delS_bd x n
  have hA : hasS (addS x n) n = true := by rw [hasS_add x n n hx]; simp [hn, hn']
  have hD : hasS (delS x n) n = false := by rw [hasS_del x n n hx]; simp
  have hC := cnt_ad x n hx hn hn'
  have cb := cnt_bd (delS x n)
  have KL := Lib.hid (adds_lst x hx hx')
  have hl := lst_len x
  have other : m ≠ n → hasS (addS x n) m = hasS x m ∧ hasS (delS x n) m = hasS x m := by
    intro k
    have k' : ¬ n = m := fun e => k e.symm
    exact ⟨by rw [hasS_add x n m hx]; simp [k'], by rw [hasS_del x n m hx]; simp [k']⟩
  have fin : ∃ q : Bool, (m != n) = q ∧ (q = true → hasS (addS x n) m = hasS x m ∧ hasS (delS x n) m = hasS x m) := by
    refine ⟨_, rfl, fun h => other (by simpa using h)⟩
  obtain ⟨q, hq, hqq⟩ := fin
  clear other
  go_enter Tryd.func5, Tryd.ntmps5
  cases q
  all_goals (first | obtain ⟨o1, o2⟩ := hqq rfl | clear hqq)
  all_goals
    go_wp2_with (first | (go_at_call 8; (with_reducible refine (add_any _ _ _ (by omega) (by omega) (by omega) (by omega)).mono ?_); rintro e w' ⟨rfl, rfl⟩) | (go_at_call 10; (with_reducible refine (del_any _ _ _ (by omega) (by omega) (by omega) (by omega)).mono ?_); rintro e w' ⟨rfl, rfl⟩) | (go_at_call 12; (with_reducible refine (has_any _ _ _ (by omega) (by omega) (by omega) (by omega)).mono ?_); rintro e w' ⟨rfl, rfl⟩))
    refine (text_x _ _ hx hx').mono ?_
    rintro e w3 ⟨rfl, hN1⟩
    go_wp2_with (first | (go_at_call 21; (with_reducible refine (parse_txt _ _ hx hx').mono ?_); rintro e w' ⟨rfl, rfl⟩) | (go_at_call 18; (with_reducible refine (count_any _ _ (by omega) (by omega)).mono ?_); rintro e w' ⟨rfl, n1, rfl⟩))
    refine (list_any _ _ hx (by omega)).mono ?_
    rintro e w4 ⟨v, rfl, hown, hN2⟩
    have hN : New w w4 := (hN1.drewN _).trans hN2
    have hT4 := ht.new hN
    have hI := hown.ints
    have AG := Lib.hid (asc_get x)
    have LR := Lib.hid (lst_rng x)
    clear hown hN1 hN2
    generalize lst x = l at *
    rcases hI with ⟨rfl, rfl⟩ | ⟨b, o, cap, rfl, g1, g2, g3, g4⟩
    · have hz : x = 0 := by rw [← KL.out]; rfl
      have HZ := Lib.hid hz
      clear hz
      go_wp2_with fail
      refine wp_loop_rounds 1 ?_
      rw [rounds_succ]
      have q0 : ((0 : Int) == x) = true := by rw [HZ.out]; rfl
      go_wp2_with fail
      refine (sure_any _ hT4).mono ?_
      rintro e w5 ⟨rfl, hN5⟩
      go_wp2
      go_ret
      exact ⟨rfl, hN.trans hN5⟩
    · unfold maxLen at g2
      have HC := Lib.hid g4
      clear g4
      go_wp2_with fail
      go_loopg [14, 16] l.length (fun k y i wr => ∃ j n : Nat, j + k = l.length ∧ i = .int .i64 (j : Int) ∧ y = .int .u32 (adds 0 (l.take j)) ∧ wr = w4.drewN n)
      case atStart => exact ⟨0, 0, by simp, rfl, rfl, rfl⟩
      case round =>
        obtain ⟨j, n2, hj, rfl, rfl, rfl⟩ := hrel
        by_cases hlt : j < l.length
        · have c2 := HC.out j hlt
          have yb := adds_bd 0 (by omega) (by omega) (l.take j)
          have rg := LR.out j hlt
          have S := Lib.hid (show adds 0 (l.take (j + 1)) = addS (adds 0 (l.take j)) (l.getD j 0) from by rw [take_snoc_int l j hlt, adds_snoc])
          have HJ := Lib.hid hj
          clear hj
          generalize adds 0 (l.take j) = y at *
          by_cases z : 0 < j
          · have c1 := HC.out (j - 1) (by omega)
            have ag := AG.out j z hlt
            have z1 : ((j : Int) - 1).toNat = j - 1 := by omega
            generalize l.getD (j - 1) 0 = u at *
            generalize l.getD j 0 = t at *
            have f : decide (t ≤ u) = false := by simp; omega
            have z2 : decide ((0 : Int) < (j : Int)) = true := by simp; omega
            go_wp2
            go_quiet (fail)
            go_wp2_with (go_at_call 8; (with_reducible refine (add_any _ _ _ (by omega) (by omega) (by omega) (by omega)).mono ?_); rintro e w' ⟨rfl, rfl⟩)
            go_roundg (l.length - (j + 1))
            case measure => have := HJ.out; omega
            case rel => exact ⟨j + 1, _, by have := HJ.out; omega, by go_num, by rw [S.out], rfl⟩
          · have z2 : decide ((0 : Int) < (j : Int)) = false := by simp; omega
            generalize l.getD j 0 = t at *
            go_wp2
            go_quiet (fail)
            go_wp2_with (go_at_call 8; (with_reducible refine (add_any _ _ _ (by omega) (by omega) (by omega) (by omega)).mono ?_); rintro e w' ⟨rfl, rfl⟩)
            go_roundg (l.length - (j + 1))
            case measure => have := HJ.out; omega
            case rel => exact ⟨j + 1, _, by have := HJ.out; omega, by go_num, by rw [S.out], rfl⟩
        · have hjl : j = l.length := by omega
          subst hjl
          have e := KL.out
          rw [List.take_length, e]
          have HE := Lib.hid e
          clear e hj hlt
          go_wp2_with fail
          refine (sure_any _ (hT4.new ((New.refl _).drewN _))).mono ?_
          rintro e w5 ⟨rfl, hN5⟩
          go_wp2
          go_ret
          exact ⟨rfl, (hN.drewN _).trans hN5⟩

/-! ### THE ROW's STEP: WRITTEN OUT: LEAVE IT -/
theorem door_met (os : Os) (args : Array Value) : laidMetH Tryd.prog Rows.setLawsRow.laid ((World.doorLaid Tryd.prog 400 os).forCall (fun _ _ => 0) ⟨#[], args, []⟩).memory :=
  laidMetH_of_parts3 (fuel := 8) (laidMet_of_run' 8 (by kernel_rfl) (by kernel_rfl)) (by kernel_rfl) (by kernel_rfl)
set_option maxRecDepth 100000 in
theorem lifted (os : Os) (started : os.Started) (H : Type) (enc : TypeId × Value → H) :
    ReturnsInHanded {} Tryd.checked os 5 .any (fun w args => (Rows.setLawsSpec.pre enc Tryd.prog Tryd.f5 [] false w args ∧ laidMetH Tryd.prog Rows.setLawsRow.laid w) ∧ sizedMet enc Tryd.prog Tryd.f5 (OpenSpec.ofChange Rows.setLawsSpec) false w args) (Rows.setLawsSpec.post enc Tryd.prog Tryd.f5 false true false false) := by
  refine returnsInHanded_of_change_and (C := Tryd.checked) (X := fun w _ => laidMetH Tryd.prog Rows.setLawsRow.laid w) (fun _ _ _ hh h => h.of_heap hh) own started (by kernel_rfl) Tryd.func5
    (ChangeSpec.witness_shaped (enc := enc) (C := Tryd.checked) (os := os) (X := fun w _ => laidMetH Tryd.prog Rows.setLawsRow.laid w) false (World.doorLaid Tryd.prog 400 os) #[.int .u32 0, .int .i64 0, .int .i64 0] 8 rfl (World.shaped_of_RefB (by kernel_rfl) (by kernel_rfl)) (by kernel_rfl) (by kernel_rfl) (by kernel_rfl) (door_met os _)) ?_
  intro W base args ds gs before hval0 hW _ _ hL _
  have hval : ∀ (j : Nat) t v, Tryd.f5.params[j]? = some t → args[j]? = some v → Value.okWide Tryd.prog W .any base t v := hval0
  have hW' := hW
  obtain ⟨p, q, hA0, hV, rfl, hfz, hnd⟩ := hW
  have hA : DataW.TrodAll enc Tryd.prog W 0 (fun _ => true) true Tryd.f5.params.toList args.toList ds p := hA0
  rw [Tryd.params5] at hA hval
  obtain ⟨v0, vs0, d0, ds0, p0, q0, hargs, rfl, rfl, h0, r0⟩ := trodAll_cons hA
  obtain ⟨v1, vs1, d1, ds1, p1, q1, rfl, rfl, rfl, h1, r1⟩ := trodAll_cons r0
  obtain ⟨v2, vs2, d2, ds2, p2, q2, rfl, rfl, rfl, h2, r2⟩ := trodAll_cons r1
  obtain ⟨rfl, rfl, rfl⟩ := trodAll_nil r2
  obtain rfl : args = #[v0, v1, v2] := by cases args; simp_all
  obtain ⟨rfl, rfl⟩ := trodVars_none hV
  obtain ⟨a0, rfl, rfl, rfl, w0⟩ := open_int Tryd.underlying22 (hval 0 22 v0 rfl rfl) h0
  obtain ⟨a1, rfl, rfl, rfl, w1⟩ := open_int Tryd.underlying3 (hval 1 3 v1 rfl rfl) h1
  obtain ⟨a2, rfl, rfl, rfl, w2⟩ := open_int Tryd.underlying3 (hval 2 3 v2 rfl rfl) h2
  clear hA0 hval0
  simp only [List.append_nil] at hW'
  refine (walk a0 a1 a2 w0 w1 w2 W (tab_of_laid (show laidMet Tryd.prog [("math/bits.deBruijn32tab", Rows.laid_math_bits_deBruijn32tab)] W from hL))).mono fun e W' ⟨he, hg⟩ => ?_
  subst he
  exact ⟨_, rfl, post_of_new hW' (fun _ _ _ => (trodAll_cons_mk (shut_bool Tryd.underlying4 _) trodAll_mk0)) (fun sp => (trodAll_cons_mk (shut_int Tryd.underlying22 w0) (trodAll_cons_mk (shut_int Tryd.underlying3 w1) (trodAll_cons_mk (shut_int Tryd.underlying3 w2) trodAll_mk0)))) (fun _ => rfl) hg (ok_one (by kernel_rfl) rfl (okWide_bool_mk Tryd.underlying4 _))⟩

theorem over : Rows.setLawsRow.holds Tryd.pinned (OpenSpec.ofChange Rows.setLawsSpec) :=
  OpenClaim.holds_of_wide 5 Tryd.f5 rfl rfl rfl rfl rfl rfl rfl ⟨rfl, rfl, rfl, rfl, rfl⟩ rfl rfl rfl rfl rfl (by kernel_rfl) Tryd.func5 (by kernel_rfl)
    (of_decide_eq_true (by kernel_rfl)) (by unfold Func.isWrapper; first | (rw [if_pos (by decide +kernel)]; kernel_rfl) | (rw [if_neg (by decide +kernel)]; exact ⟨rfl, rfl⟩))
    (fun os started H enc _ => lifted os started H enc)

theorem proved : Rows.SetLawsSaid := over
theorem card : Rows.SetLawsCardSaid :=
  Claim7.holds_tied_plain_at .later [] [.data] true (true, "d472cfed1dc6f6d31bee33ad8b9720d84f5ea8717b0184ffdaeed6d9bcf1b860") true
    over (fun _ h => by cases h) (by kernel_rfl) (fun _ h => by cases h) setLaws_row_tie rfl ⟨rfl, rfl⟩ (by kernel_rfl) rfl
    (fun f fn hf hfn => by
      obtain rfl : f = 5 := Option.some.inj ((show Tryd.prog.funcNamed "halter/halterlaw03.SetLaws" = some 5 by kernel_rfl).symm.trans hf) |>.symm
      obtain rfl : fn = Tryd.f5 := (Option.some.inj (Tryd.func5.symm.trans hfn)).symm
      exact ⟨by kernel_rfl, fun j t ht => by
        rw [Tryd.params5] at ht
        have hm : t ∈ [22, 3, 3] := by have := Array.mem_of_getElem? ht; simpa using this
        have hall : ([22, 3, 3].all fun u => !Tryd.prog.wantsStandIn u) = true := by kernel_rfl
        exact (show Tryd.prog.wantsStandIn t = false by simpa using List.all_eq_true.1 hall t hm)⟩)
    (by kernel_rfl)
#print axioms card
end Go.Proofs.YtfhoonjofphddaaDoor.setLaws
