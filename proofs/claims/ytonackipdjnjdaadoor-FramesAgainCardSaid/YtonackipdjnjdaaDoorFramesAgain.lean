/- Of any number of frames all can be taken, in order, and no more; one that was given back is taken next, if it is the least one that is free; the statement holds for every input, where the library's variable errors.errorType holds what its own text lays, which the card ties. -/
import Derived.Test.YtonackipdjnjdaaDoorRows
import Derived.Test.YtonackipdjnjdaaDoorFrG
import Derived.Deep.LoopGhost
import Derived.Test.YtonackipdjnjdaaDoorCards
import Derived.Test.YtonackipdjnjdaaDoorTie
import Derived.LaidMore
import Derived.LaidLaws
import Derived.LaidHandle
import Derived.Test.YtonackipdjnjdaaDoorLay
import Derived.Test.YtonackipdjnjdaaDoorPost
import Derived.WalkKit
import Derived.ProofKit
import Derived.OpenShut
import Derived.ShutString
namespace Go.Proofs.YtonackipdjnjdaaDoor.framesAgain
open Go.ChangeShapes Go.WideShapes Go.ChangeAt Go.RowKit
open Go.ChangeMaps (open_string shut_string)
set_option linter.unusedVariables false      -- a walk need not use every 'w<i>' (that an integer argument fits its kind)

theorem own : ownKnob Tryd.prog.godebug = none := by kernel_rfl

/-! ### STEP 1: THE WALK: the Go text returns true. 'Grown w w'': the world has at most new blocks (Derived/RowKit3.lean). Part the cases AHEAD of 'go_enter' where a test parts the walk; take each callee by a contract of your own. -/
set_option maxHeartbeats 8000000 in
set_option maxRecDepth 100000 in
theorem walk (a0 : Int) (a1 : Int) (a2 : Int) (w0 : (Lit.int .i64 a0).wf = true) (w1 : (Lit.int .i64 a1).wf = true) (w2 : (Lit.int .i64 a2).wf = true) (w : World) (hl : Laid w) :
    Calls Tryd.prog 5 #[.int .i64 a0, .int .i64 a1, .int .i64 a2] w fun e w' => e = .returned (.bool true) ∧ New w w' := by
  have hlt := hl.lt
  obtain ⟨n, en, hn1, hn2⟩ := mod_in 40 2 a0 (by omega) (by omega) (by omega) (by omega)
  have M := fun W => made_any n W (by omega) (by omega)
  go_enter Tryd.func5, Tryd.ntmps5
  go_wp2_with fail
  refine (M _).mono ?_
  rintro e w1 ⟨rfl, h1, n1⟩
  clear M
  rw [← al_zero] at h1
  go_wp2_with fail
  clear en
  go_loopg [10] n (fun k i wr => ∃ j : Nat, j + k = n ∧ i = .int .i64 (j : Int) ∧ Fr wr (w.heap.size + 1) w.heap.size (al n j) ∧ New w wr)
  case atStart => exact ⟨0, by omega, rfl, h1, n1⟩
  case round =>
    obtain ⟨j, hj, rfl, hF, hN⟩ := hrel
    by_cases c : j < n
    · have J := Lib.hid hj
      clear hj
      go_wp2_with fail
      refine (again_alloc j hF c).mono ?_
      rintro e w2 ⟨rfl, h2, f2⟩
      have n2 := f2.new hN (Nat.le_refl _)
      clear hF hN f2
      go_wp2_with fail
      go_roundg (n - (j + 1))
      case measure => have := J.out; omega
      case rel => exact ⟨j + 1, by have := J.out; omega, by go_num, h2, n2⟩
    · obtain rfl : j = n := by omega
      clear hj c
      go_wp2_with fail
      refine (again_full hF).mono ?_
      rintro e w3 ⟨rfl, h3, f3⟩
      have n3 := f3.new hN (Nat.le_refl _)
      clear hF hN f3
      go_wp2_with fail
      have eu : IntKind.u64.wrap (j : Int) = (j : Int) := by rw [IntKind.wrap_u64]; omega
      have ez : ((j : Int) == 0) = false := by simp; omega
      go_quiet (fail)
      obtain ⟨x, ex, hx⟩ := mod_by a1 j (by omega) (by omega)
      obtain ⟨y, ey, hy⟩ := mod_by a2 j (by omega) (by omega)
      simp only [ex, ey]
      have h5 := h3.new ((New.refl w3).drewN nq)
      have n5 := n3.drewN nq
      clear ex ey eu ez h3 n3
      generalize w3.drewN nq = w5 at *
      go_wp2_with fail
      rcases Nat.lt_trichotomy x y with c | c | c
      · skip
        have e1 : ((x : Int) == (y : Int)) = false := by simp; omega
        have e2 : ((x : Int) != (y : Int)) = true := by simp; omega
        have e3 : min (x : Int) (y : Int) = (x : Int) := by omega
        have e4 : (x : Int) ≤ (y : Int) := by omega
        refine (again_give x h5 hx).mono ?_
        rintro e w6 ⟨rfl, h6, f6⟩
        go_wp2_with fail
        refine (again_give2 x y h6 hx hy (by omega)).mono ?_
        rintro e w7 ⟨rfl, h8, f7⟩
        have n8 := (f6.trans f7).new n5 (Nat.le_refl _)
        clear h6 f6 f7
        have l8 := hl.new n8
        go_wp2_with fail
        refine (num_err 12 _ l8).mono ?_
        rintro e w9 ⟨rfl, m9⟩
        have h9 := h8.new m9
        have n9 := n8.trans m9
        clear h8 n8 l8 m9
        go_wp2_with fail
        refine (again_next (n := j) x h9 (by simp [al_len]) (by omega) (by rw [again_get2 _ _ _ hx hy, if_pos (by omega)]) (fun q hq => by rw [again_get2 _ _ _ hx hy, if_neg (by omega), if_pos (by omega)])).mono ?_
        rintro e wa ⟨rfl, ha, fa⟩
        have na := fa.new n9 (Nat.le_refl _)
        go_wp2_with fail
        refine (sure_any _ (hl.new na)).mono ?_
        rintro e wb ⟨rfl, nb⟩
        go_wp2_with fail
        go_ret
        exact ⟨rfl, na.trans nb⟩
      · skip
        subst c
        have e1 : ((x : Int) == (x : Int)) = true := by simp
        have e3 : min (x : Int) (x : Int) = (x : Int) := by omega
        refine (again_give x h5 hx).mono ?_
        rintro e w6 ⟨rfl, h6, f6⟩
        go_wp2_with fail
        refine (again_same x h6 hx).mono ?_
        rintro e w7 ⟨rfl, h8, f7⟩
        have n8 := (f6.trans f7).new n5 (Nat.le_refl _)
        clear h6 f6 f7
        have l8 := hl.new n8
        go_wp2_with fail
        refine (num_err 12 _ l8).mono ?_
        rintro e w9 ⟨rfl, m9⟩
        have h9 := h8.new m9
        have n9 := n8.trans m9
        clear h8 n8 l8 m9
        go_wp2_with fail
        refine (again_next (n := j) x h9 (by simp [al_len]) (by omega) (by rw [again_get1 _ _ hx, if_pos (by omega)]) (fun q hq => by rw [again_get1 _ _ hx, if_neg (by omega), if_pos (by omega)])).mono ?_
        rintro e wa ⟨rfl, ha, fa⟩
        have na := fa.new n9 (Nat.le_refl _)
        go_wp2_with fail
        refine (sure_any _ (hl.new na)).mono ?_
        rintro e wb ⟨rfl, nb⟩
        go_wp2_with fail
        go_ret
        exact ⟨rfl, na.trans nb⟩
      · skip
        have e1 : ((x : Int) == (y : Int)) = false := by simp; omega
        have e2 : ((x : Int) != (y : Int)) = true := by simp; omega
        have e3 : min (x : Int) (y : Int) = (y : Int) := by omega
        have e4 : ¬ (x : Int) ≤ (y : Int) := by omega
        refine (again_give x h5 hx).mono ?_
        rintro e w6 ⟨rfl, h6, f6⟩
        go_wp2_with fail
        refine (again_give2 x y h6 hx hy (by omega)).mono ?_
        rintro e w7 ⟨rfl, h8, f7⟩
        have n8 := (f6.trans f7).new n5 (Nat.le_refl _)
        clear h6 f6 f7
        have l8 := hl.new n8
        go_wp2_with fail
        refine (num_err 12 _ l8).mono ?_
        rintro e w9 ⟨rfl, m9⟩
        have h9 := h8.new m9
        have n9 := n8.trans m9
        clear h8 n8 l8 m9
        go_wp2_with fail
        refine (again_next (n := j) y h9 (by simp [al_len]) (by omega) (by rw [again_get2 _ _ _ hx hy, if_pos (by omega)]) (fun q hq => by rw [again_get2 _ _ _ hx hy, if_neg (by omega), if_pos (by omega)])).mono ?_
        rintro e wa ⟨rfl, ha, fa⟩
        have na := fa.new n9 (Nat.le_refl _)
        go_wp2_with fail
        refine (sure_any _ (hl.new na)).mono ?_
        rintro e wb ⟨rfl, nb⟩
        go_wp2_with fail
        go_ret
        exact ⟨rfl, na.trans nb⟩

/-! ### THE ROW's STEP: WRITTEN OUT: LEAVE IT -/
theorem door_met (os : Os) (args : Array Value) : laidMetH Tryd.prog Rows.framesAgainRow.laid ((World.doorLaid Tryd.prog 400 os).forCall (fun _ _ => 0) ⟨#[], args, []⟩).memory :=
  laidMetH_of_parts3 (fuel := 8) (laidMet_of_run' 8 (by kernel_rfl) (by kernel_rfl)) (by kernel_rfl) (by kernel_rfl)
set_option maxRecDepth 100000 in
theorem lifted (os : Os) (started : os.Started) (H : Type) (enc : TypeId × Value → H) :
    ReturnsInHanded {} Tryd.checked os 5 .any (fun w args => (Rows.framesAgainSpec.pre enc Tryd.prog Tryd.f5 [] false w args ∧ laidMetH Tryd.prog Rows.framesAgainRow.laid w) ∧ sizedMet enc Tryd.prog Tryd.f5 (OpenSpec.ofChange Rows.framesAgainSpec) false w args) (Rows.framesAgainSpec.post enc Tryd.prog Tryd.f5 false true false false) := by
  refine returnsInHanded_of_change_and (C := Tryd.checked) (X := fun w _ => laidMetH Tryd.prog Rows.framesAgainRow.laid w) (fun _ _ _ hh h => h.of_heap hh) own started (by kernel_rfl) Tryd.func5
    (ChangeSpec.witness_shaped (enc := enc) (C := Tryd.checked) (os := os) (X := fun w _ => laidMetH Tryd.prog Rows.framesAgainRow.laid w) false (World.doorLaid Tryd.prog 400 os) #[.int .i64 0, .int .i64 0, .int .i64 0] 8 rfl (World.shaped_of_RefB (by kernel_rfl) (by kernel_rfl)) (by kernel_rfl) (by kernel_rfl) (by kernel_rfl) (door_met os _)) ?_
  intro W base args ds gs before hval0 hW _ _ hL _
  have hL' : laidMet Tryd.prog [] W ∧ handlesMet Tryd.prog [("errors.errorType", Rows.laid_errors_errorType)] W := hL
  have hval : ∀ (j : Nat) t v, Tryd.f5.params[j]? = some t → args[j]? = some v → Value.okWide Tryd.prog W .any base t v := hval0
  have hW' := hW
  obtain ⟨p, q, hA0, hV, rfl, hfz, hnd⟩ := hW
  have hA : DataW.TrodAll enc Tryd.prog W 0 (fun _ => true) true Tryd.f5.params.toList args.toList ds p := hA0
  rw [Tryd.params5] at hA hval
  obtain ⟨v0, vs0, d0, ds0, p0, q0, hargs, rfl, rfl, h0, r0⟩ := trodAll_cons hA
  obtain ⟨v1, vs1, d1, ds1, p1, q1, rfl, rfl, rfl, h1, r1⟩ := trodAll_cons r0
  obtain ⟨v2, vs2, d2, ds2, p2, q2, rfl, rfl, rfl, h2, r2⟩ := trodAll_cons r1
  obtain ⟨rfl, rfl, rfl⟩ := trodAll_nil r2
  obtain rfl : args = #[v0, v1, v2] := by cases args; simp_all
  obtain ⟨rfl, rfl⟩ := trodVars_none hV
  obtain ⟨a0, rfl, rfl, rfl, w0⟩ := open_int Tryd.underlying3 (hval 0 3 v0 rfl rfl) h0
  obtain ⟨a1, rfl, rfl, rfl, w1⟩ := open_int Tryd.underlying3 (hval 1 3 v1 rfl rfl) h1
  obtain ⟨a2, rfl, rfl, rfl, w2⟩ := open_int Tryd.underlying3 (hval 2 3 v2 rfl rfl) h2
  clear hA0 hval0
  simp only [List.append_nil] at hW'
  refine (walk a0 a1 a2 w0 w1 w2 W (handle_of_hs hL'.2)).mono fun e W' ⟨he, hg⟩ => ?_
  subst he
  exact ⟨_, rfl, post_of_new hW' (fun _ _ _ => (trodAll_cons_mk (shut_bool Tryd.underlying4 _) trodAll_mk0)) (fun sp => (trodAll_cons_mk (shut_int Tryd.underlying3 w0) (trodAll_cons_mk (shut_int Tryd.underlying3 w1) (trodAll_cons_mk (shut_int Tryd.underlying3 w2) trodAll_mk0)))) (fun _ => rfl) hg (ok_one (by kernel_rfl) rfl (okWide_bool_mk Tryd.underlying4 _))⟩

theorem over : Rows.framesAgainRow.holds Tryd.pinned (OpenSpec.ofChange Rows.framesAgainSpec) :=
  OpenClaim.holds_of_wide 5 Tryd.f5 rfl rfl rfl rfl rfl rfl rfl ⟨rfl, rfl, rfl, rfl, rfl⟩ rfl rfl rfl rfl rfl (by kernel_rfl) Tryd.func5 (by kernel_rfl)
    (of_decide_eq_true (by kernel_rfl)) (by unfold Func.isWrapper; first | (rw [if_pos (by decide +kernel)]; kernel_rfl) | (rw [if_neg (by decide +kernel)]; exact ⟨rfl, rfl⟩))
    (fun os started H enc _ => lifted os started H enc)

theorem proved : Rows.FramesAgainSaid := over
theorem card : Rows.FramesAgainCardSaid :=
  Claim7.holds_tied_plain_at .later [] [.handle] true (true, "100e4c7da3af498487f1a6da07000f463f7c05236fdfe56d7f6fa61c9d6e1efd") true
    over (fun _ h => by cases h) (by kernel_rfl) (fun _ h => by cases h) framesAgain_row_tie rfl ⟨rfl, rfl⟩ (by kernel_rfl) rfl
    (fun f fn hf hfn => by
      obtain rfl : f = 5 := Option.some.inj ((show Tryd.prog.funcNamed "halter/halterlaw04.FramesAgain" = some 5 by kernel_rfl).symm.trans hf) |>.symm
      obtain rfl : fn = Tryd.f5 := (Option.some.inj (Tryd.func5.symm.trans hfn)).symm
      exact ⟨by kernel_rfl, fun j t ht => by
        rw [Tryd.params5] at ht
        have hm : t ∈ [3, 3, 3] := by have := Array.mem_of_getElem? ht; simpa using this
        have hall : ([3, 3, 3].all fun u => !Tryd.prog.wantsStandIn u) = true := by kernel_rfl
        exact (show Tryd.prog.wantsStandIn t = false by simpa using List.all_eq_true.1 hall t hm)⟩)
    (by kernel_rfl)
#print axioms card
end Go.Proofs.YtonackipdjnjdaaDoor.framesAgain
