/- The names of any path, its last one and what stands ahead of it, and whether any name may be, or the errors, are the document's own; the statement holds for every input, where the listed variables hold what the library's own text lays, which the card ties. -/
import Derived.Test.YtmaocaddoohfmaaDoorRows
import Derived.Test.YtmaocaddoohfmaaDoorPaI
import Derived.Test.YtmaocaddoohfmaaDoorCards
import Derived.Test.YtmaocaddoohfmaaDoorTie
import Derived.LaidMore
import Derived.LaidLaws
import Derived.LaidHandle
import Derived.Test.YtmaocaddoohfmaaDoorPaLay
import Derived.Test.YtmaocaddoohfmaaDoorShape
import Derived.Lay
import Derived.Test.YtmaocaddoohfmaaDoorLay
import Derived.Test.YtmaocaddoohfmaaDoorPost
import Derived.WalkKit
import Derived.ProofKit
import Derived.OpenShut
import Derived.ShutString
namespace Go.Proofs.YtmaocaddoohfmaaDoor.pathSplits
open Go.ChangeShapes Go.WideShapes Go.ChangeAt Go.RowKit
open Go.ChangeMaps (open_string shut_string)
set_option linter.unusedVariables false      -- a walk need not use every 'w<i>' (that an integer argument fits its kind)

theorem own : ownKnob Tryd.prog.godebug = none := by kernel_rfl

/-! ### STEP 1: THE WALK: the Go text returns true. 'Grown w w'': the world has at most new blocks (Derived/RowKit3.lean). Part the cases AHEAD of 'go_enter' where a test parts the walk; take each callee by a contract of your own. -/
set_option maxHeartbeats 8000000 in
set_option maxRecDepth 100000 in
theorem walk (a0 : ByteArray) (a1 : ByteArray) (w0 : a0.size ≤ maxLen) (w1 : a1.size ≤ maxLen) (w : World) (hl : Laid w) (hm : Mx w) :
    Calls Tryd.prog 3 #[.string a0, .string a1] w fun e w' => e = .returned (.bool true) ∧ New w w' := by
  obtain ⟨p, rfl⟩ : ∃ l, a0 = ba l := ⟨a0.data.toList, (ba_of _).symm⟩
  obtain ⟨q, rfl⟩ : ∃ l, a1 = ba l := ⟨a1.data.toList, (ba_of _).symm⟩
  have sp := ba_size p
  have sq := ba_size q
  rw [sp] at w0
  rw [sq] at w1
  have cS := fun W (k : Laid W) (m : Mx W) => psure_any W k m
  by_cases h0 : 500 < p.length
  · have h0' : (500 : Int) < (p.length : Int) := by omega
    unfold maxLen at w0 w1
    go_enter Tryd.func3, Tryd.ntmps3
    go_wp2_with fail
    refine (cS _ hl hm).mono ?_
    rintro e w1 ⟨rfl, n1⟩
    go_wp2
    go_ret
    exact ⟨rfl, n1⟩
  · have h0' : ¬ (500 : Int) < (p.length : Int) := by omega
    by_cases h1 : 500 < q.length
    · have h1' : (500 : Int) < (q.length : Int) := by omega
      unfold maxLen at w0 w1
      go_enter Tryd.func3, Tryd.ntmps3
      go_wp2_with fail
      refine (cS _ hl hm).mono ?_
      rintro e w1 ⟨rfl, n1⟩
      go_wp2
      go_ret
      exact ⟨rfl, n1⟩
    · have h1' : ¬ (500 : Int) < (q.length : Int) := by omega
      have c1 := psplit_any p w (by omega) hm
      have c2 := fun W => rsplit_any p W (by omega)
      have c3 := fun W (k : Mx W) => plast_any p W (by omega) k
      have c4 := fun W => rlast_any p W (by omega)
      have c5 := fun va vb W (ka : TxR W va (spL p)) (kb : TxR W vb (spL p)) => texts_any (spL p) (spL p) va vb W ka kb
      have c6 := fun c W (k : Laid W) => num_er c W k
      have c7 := fun W => pcheck_any q W w1
      have c8 := fun W => rcheck_any q W w1
      unfold SpA at c1 c2
      unfold LaA at c3 c4
      simp only [erV_int, id, decide_true] at c1 c2 c3 c4 c5
      generalize spB p = B at *
      generalize spE p = E at *
      generalize spL p = L at *
      generalize laN p = T at *
      obtain ⟨T1, T2, T3⟩ := T
      simp only at c3 c4
      generalize ckN q = K at *
      have g1 : ((ba T1).toList == (ba T1).toList) = true := ba_eq rfl
      have g2 : ((ba T2).toList == (ba T2).toList) = true := ba_eq rfl
      unfold maxLen at w0 w1
      go_enter Tryd.func3, Tryd.ntmps3
      go_wp2_with fail
      refine c1.mono ?_
      rintro e w2 ⟨v, rfl, o1, n1⟩
      have t1 := o1.txr
      obtain ⟨v0, v1, rfl, -⟩ := o1.txr
      clear c1 o1
      go_wp2_with fail
      refine (c2 _).mono ?_
      rintro e w3 ⟨u, rfl, o2, n2⟩
      have t2 := o2.txr
      obtain ⟨u0, u1, rfl, -⟩ := o2.txr
      have t1 := t1.new n2
      have n1 := n1.trans n2
      clear c2 o2 n2
      go_wp2_with fail
      refine (c3 _ (hm.new n1)).mono ?_
      rintro e w4 ⟨rfl, n2⟩
      have t1 := t1.new n2
      have t2 := t2.new n2
      have n1 := n1.trans n2
      clear c3 n2
      go_wp2_with fail
      refine (c4 _).mono ?_
      rintro e w5 ⟨rfl, n2⟩
      have t1 := t1.new n2
      have t2 := t2.new n2
      have n1 := n1.trans n2
      clear c4 n2
      go_wp2_with fail
      refine (c5 _ _ _ t1 t2).mono ?_
      rintro e w6 ⟨rfl, n2⟩
      have n1 := n1.trans n2
      clear c5 n2 t1 t2
      go_wp2_with fail
      refine (c6 _ _ (hl.new n1)).mono ?_
      rintro e w7 ⟨rfl, n2⟩
      have n1 := n1.trans n2
      clear n2
      go_wp2_with fail
      refine (c6 _ _ (hl.new n1)).mono ?_
      rintro e w8 ⟨rfl, n2⟩
      have n1 := n1.trans n2
      clear n2
      go_wp2_with fail
      refine (c7 _).mono ?_
      rintro e w9 ⟨rfl, n2⟩
      have n1 := n1.trans n2
      clear n2
      go_wp2_with fail
      refine (c6 _ _ (hl.new n1)).mono ?_
      rintro e w10 ⟨rfl, n2⟩
      have n1 := n1.trans n2
      clear n2
      go_wp2_with fail
      refine (c8 _).mono ?_
      rintro e w11 ⟨rfl, rfl⟩
      go_wp2_with fail
      refine (cS _ (hl.new n1) (hm.new n1)).mono ?_
      rintro e w12 ⟨rfl, n2⟩
      have n1 := n1.trans n2
      clear n2
      go_wp2
      go_ret
      exact ⟨rfl, n1⟩

/-! ### THE ROW's STEP: WRITTEN OUT: LEAVE IT -/
theorem door_met (os : Os) (args : Array Value) : laidMetH Tryd.prog Rows.pathSplitsRow.laid (((World.doorLaid Tryd.prog 400 os).layVars Tryd.prog (Rows.pathSplitsRow.laid.filter fun x => x.2.handleName?.isNone)).forCall (fun _ _ => 0) ⟨#[], args, []⟩).memory :=
  laidMetH_of_parts3 (fuel := 8) (met_layAll _ (by kernel_rfl) (by kernel_rfl)) (by kernel_rfl) (by kernel_rfl)
set_option maxRecDepth 100000 in
theorem lifted (os : Os) (started : os.Started) (H : Type) (enc : TypeId × Value → H) :
    ReturnsInHanded {} Tryd.checked os 3 .any (fun w args => (Rows.pathSplitsSpec.pre enc Tryd.prog Tryd.f3 [] false w args ∧ laidMetH Tryd.prog Rows.pathSplitsRow.laid w) ∧ sizedMet enc Tryd.prog Tryd.f3 (OpenSpec.ofChange Rows.pathSplitsSpec) false w args) (Rows.pathSplitsSpec.post enc Tryd.prog Tryd.f3 false true false false) := by
  refine handed_shaped (C := Tryd.checked) (X := fun w _ => laidMetH Tryd.prog Rows.pathSplitsRow.laid w) (fun _ _ _ hh h => h.of_heap hh) own started (by kernel_rfl) Tryd.func3
    (ChangeSpec.witness_shaped (enc := enc) (C := Tryd.checked) (os := os) (X := fun w _ => laidMetH Tryd.prog Rows.pathSplitsRow.laid w) false ((World.doorLaid Tryd.prog 400 os).layVars Tryd.prog (Rows.pathSplitsRow.laid.filter fun x => x.2.handleName?.isNone)) #[.string ByteArray.empty, .string ByteArray.empty] 8 ((World.layVars_os _ _ _).trans rfl) (World.shaped_of_ZipB (by kernel_rfl) (by kernel_rfl)) (by kernel_rfl) (by kernel_rfl) (by kernel_rfl) (door_met os _)) ?_
  intro W base args ds gs before hval0 hW hL hsh
  have hF1 : (Rows.pathSplitsRow.laid.filter fun x => x.2.handleName?.isSome) = [("errors.errorType", Rows.laid_errors_errorType)] := by kernel_rfl
  have hF2 : (Rows.pathSplitsRow.laid.filter fun x => x.2.handleName?.isNone) = [("unicode/utf8.acceptRanges", Rows.laid_unicode_utf8_acceptRanges), ("unicode/utf8.first", Rows.laid_unicode_utf8_first)] := by kernel_rfl
  have hL' : laidMet Tryd.prog [("unicode/utf8.acceptRanges", Rows.laid_unicode_utf8_acceptRanges), ("unicode/utf8.first", Rows.laid_unicode_utf8_first)] W ∧ handlesMet Tryd.prog [("errors.errorType", Rows.laid_errors_errorType)] W := by
    unfold laidMetH at hL
    rw [hF1] at hL
    simp only [hF2] at hL
    exact hL
  have hval : ∀ (j : Nat) t v, Tryd.f3.params[j]? = some t → args[j]? = some v → Value.okWide Tryd.prog W .any base t v := hval0
  have hW' := hW
  obtain ⟨p, q, hA0, hV, rfl, hfz, hnd⟩ := hW
  have hA : DataW.TrodAll enc Tryd.prog W 0 (fun _ => true) true Tryd.f3.params.toList args.toList ds p := hA0
  rw [Tryd.params3] at hA hval
  obtain ⟨v0, vs0, d0, ds0, p0, q0, hargs, rfl, rfl, h0, r0⟩ := trodAll_cons hA
  obtain ⟨v1, vs1, d1, ds1, p1, q1, rfl, rfl, rfl, h1, r1⟩ := trodAll_cons r0
  obtain ⟨rfl, rfl, rfl⟩ := trodAll_nil r1
  obtain rfl : args = #[v0, v1] := by cases args; simp_all
  obtain ⟨rfl, rfl⟩ := trodVars_none hV
  obtain ⟨a0, rfl, rfl, rfl, w0⟩ := open_string Tryd.underlying9 (hval 0 9 v0 rfl rfl) h0
  obtain ⟨a1, rfl, rfl, rfl, w1⟩ := open_string Tryd.underlying9 (hval 1 9 v1 rfl rfl) h1
  clear hA0 hval0
  simp only [List.append_nil] at hW'
  refine (walk a0 a1 w0 w1 W (handle_of_hs hL'.2) (mx_of hsh)).mono fun e W' ⟨he, hg⟩ => ?_
  subst he
  exact ⟨_, rfl, post_of_new hW' (fun _ _ _ => (trodAll_cons_mk (shut_bool Tryd.underlying4 _) trodAll_mk0)) (fun sp => (trodAll_cons_mk (shut_string Tryd.underlying9 w0) (trodAll_cons_mk (shut_string Tryd.underlying9 w1) trodAll_mk0))) (fun _ => rfl) hg (ok_one (by kernel_rfl) rfl (okWide_bool_mk Tryd.underlying4 _))⟩

theorem over : Rows.pathSplitsRow.holds Tryd.pinned (OpenSpec.ofChange Rows.pathSplitsSpec) :=
  OpenClaim.holds_of_wide 3 Tryd.f3 rfl rfl rfl rfl rfl rfl rfl ⟨rfl, rfl, rfl, rfl, rfl⟩ rfl rfl rfl rfl rfl (by kernel_rfl) Tryd.func3 (by kernel_rfl)
    (of_decide_eq_true (by kernel_rfl)) (by unfold Func.isWrapper; first | (rw [if_pos (by decide +kernel)]; kernel_rfl) | (rw [if_neg (by decide +kernel)]; exact ⟨rfl, rfl⟩))
    (fun os started H enc _ => lifted os started H enc)

theorem proved : Rows.PathSplitsSaid := over
theorem card : Rows.PathSplitsCardSaid :=
  Claim7.holds_tied_plain_at .later [] [.data, .handle, .pinned] true (true, "c3b5d924254ec8fb1b88ac88a1f46e281da0fec48156f710e7dcf72e5cd9c417") true
    over (fun _ h => by cases h) (by kernel_rfl) (fun _ h => by cases h) pathSplits_row_tie rfl ⟨rfl, rfl⟩ (by kernel_rfl) rfl
    (fun f fn hf hfn => by
      obtain rfl : f = 3 := Option.some.inj ((show Tryd.prog.funcNamed "halter/halterlaw16.PathSplits" = some 3 by kernel_rfl).symm.trans hf) |>.symm
      obtain rfl : fn = Tryd.f3 := (Option.some.inj (Tryd.func3.symm.trans hfn)).symm
      exact ⟨by kernel_rfl, fun j t ht => by
        rw [Tryd.params3] at ht
        have hm : t ∈ [9, 9] := by have := Array.mem_of_getElem? ht; simpa using this
        have hall : ([9, 9].all fun u => !Tryd.prog.wantsStandIn u) = true := by kernel_rfl
        exact (show Tryd.prog.wantsStandIn t = false by simpa using List.all_eq_true.1 hall t hm)⟩)
    (by kernel_rfl)
#print axioms card
end Go.Proofs.YtmaocaddoohfmaaDoor.pathSplits
