/- Behind a sum Jc is taken just if it was too great, behind a product just if it does not go into 32 bits, behind any operation Jz is taken just if what came is 0, but behind Cmp, whose answer is the first number; the statement holds for every input, where the library's variable errors.errorType holds what its text lays, which the card ties. -/
import Derived.Test.YtgkonjgalpchoaaDoorRows
import Derived.Test.YtgkonjgalpchoaaDoorAlF
import Derived.Test.YtgkonjgalpchoaaDoorNum
import Derived.Test.YtgkonjgalpchoaaDoorCards
import Derived.Test.YtgkonjgalpchoaaDoorTie
import Derived.LaidMore
import Derived.LaidLaws
import Derived.LaidHandle
import Derived.Test.YtgkonjgalpchoaaDoorLay
import Derived.Test.YtgkonjgalpchoaaDoorPost
import Derived.WalkKit
import Derived.ProofKit
import Derived.OpenShut
import Derived.ShutString
namespace Go.Proofs.YtgkonjgalpchoaaDoor.aluCarries
open Go.ChangeShapes Go.WideShapes Go.ChangeAt Go.RowKit
open Go.ChangeMaps (open_string shut_string)
set_option linter.unusedVariables false      -- a walk need not use every 'w<i>' (that an integer argument fits its kind)

theorem own : ownKnob Tryd.prog.godebug = none := by kernel_rfl

theorem tk_fl (v : Int) (c o : Bool) : tkv 26 (fl v c o 0) = c ∧ tkv 22 (fl v c o 0) = (v == 0) := by
  show (fl v c o 0 / 4 % 2 == 1) = c ∧ (fl v c o 0 % 2 == 1) = (v == 0)
  by_cases z : v = 0
  · subst z; cases c <;> cases o <;> decide +kernel
  · have z' : (v == 0) = false := by simpa using z
    unfold fl; rw [z']
    by_cases m : 2147483648 ≤ v
    · rw [decide_eq_true m]; cases c <;> cases o <;> decide +kernel
    · rw [decide_eq_false m]; cases c <;> cases o <;> decide +kernel
theorem tk_dof (op a b : Int) (h : doe op b = 0) : tkv 26 (dof op a b 0) = doc op a b ∧ tkv 22 (dof op a b 0) = (dod op a b == 0) := by
  unfold dof; rw [if_pos h]; exact tk_fl _ _ _
theorem sub_zero_iff (a b : Int) (h0 : 0 ≤ a) (h1 : a ≤ 4294967295) (g0 : 0 ≤ b) (g1 : b ≤ 4294967295) : (m32 (a - b) == 0) = (a == b) := by
  unfold m32; rw [Bool.eq_iff_iff]; simp; omega
theorem sum_c (a b : Int) (h0 : 0 ≤ a) (h1 : a ≤ 4294967295) (g0 : 0 ≤ b) (g1 : b ≤ 4294967295) : doc 4 a b = decide (4294967296 ≤ a + b) := by
  show ((a + b + cin false) / 4294967296 == 1) = _
  rw [show cin false = 0 from rfl, Bool.eq_iff_iff]; simp; omega
theorem sum_v (a b : Int) : dov 4 a b = (a + b) % 4294967296 := by
  show m32 (a + b + cin false) = _
  rw [show cin false = 0 from rfl, Int.add_zero]; rfl
theorem prod_c (a b : Int) (h0 : 0 ≤ a) (h1 : a ≤ 4294967295) (g0 : 0 ≤ b) (g1 : b ≤ 4294967295) : doc 6 a b = decide (4294967296 ≤ a * b) := by
  have hp := Go.prod_bound a b h0 h1 g0 g1
  show (a * b / 4294967296 != 0) = _
  rw [Bool.eq_iff_iff]; simp; omega
theorem none_c (op a b : Int) (h : op ≠ 4 ∧ op ≠ 5 ∧ op ≠ 6 ∧ op ≠ 16) : doc op a b = false ∧ dod op a b = dov op a b := by
  unfold doc dod
  rw [if_neg h.1, if_neg (by omega), if_neg h.2.2.1, if_neg h.2.2.2]
  exact ⟨rfl, rfl⟩
/-! ### STEP 1: THE WALK: the Go text returns true. 'Grown w w'': the world has at most new blocks (Derived/RowKit3.lean). Part the cases AHEAD of 'go_enter' where a test parts the walk; take each callee by a contract of your own. -/
set_option maxHeartbeats 8000000 in
set_option maxRecDepth 100000 in
theorem walk (a0 : Int) (a1 : Int) (a2 : Int) (w0 : (Lit.int .i64 a0).wf = true) (w1 : (Lit.int .u32 a1).wf = true) (w2 : (Lit.int .u32 a2).wf = true) (w : World) (hl : Laid w) :
    Calls Tryd.prog 5 #[.int .i64 a0, .int .u32 a1, .int .u32 a2] w fun e w' => e = .returned (.bool true) ∧ New w w' := by
  have ha := u32_bd w1
  have hb := u32_bd w2
  have q1 := fun w => do_any a0 a1 a2 0 w ha.1 ha.2 hb.1 hb.2 (by omega) (by omega)
  have hz := dov_err a0 a1 a2
  have hfb : 0 ≤ dof a0 a1 a2 0 ∧ dof a0 a1 a2 0 ≤ 4294967295 := by
    unfold dof
    split
    · have := fl_bd (dod a0 a1 a2) (doc a0 a1 a2) (doo a0 a1 a2) 0; omega
    · omega
  have q3 := fun w => taken_any 26 (dof a0 a1 a2 0) w hfb.1 hfb.2
  have q4 := fun w => taken_any 22 (dof a0 a1 a2 0) w hfb.1 hfb.2
  rw [show erN (tke 26) = .nilIface from rfl] at q3
  rw [show erN (tke 22) = .nilIface from rfl] at q4
  clear w0 w1 w2 hfb
  by_cases c : doe a0 a2 = 0
  case neg =>
    have hF : dof a0 a1 a2 0 = 0 := by unfold dof; rw [if_neg c]
    rw [hz c, hF, erN_pos c] at q1
    have hE : doe a0 a2 = if a0 = 7 ∨ a0 = 8 then 14 else 22 := by
      unfold doe at c ⊢
      by_cases k : a0 = 7 ∨ a0 = 8
      · by_cases z : a2 = 0
        · rw [if_pos (by omega), if_pos ⟨k, z⟩, if_pos k]
        · rw [if_pos (by omega), if_neg (fun h => z h.2)] at c
          exact absurd rfl c
      · rw [if_neg k]
        by_cases k2 : (4 ≤ a0 ∧ a0 ≤ 14) ∨ a0 = 16
        · rw [if_pos k2, if_neg (fun h => k h.1)] at c
          exact absurd rfl c
        · rw [if_neg k2]
    have q6 := num_err (doe a0 a2)
    clear q3 q4 hz hF c
    by_cases k7 : a0 = 7
    · rw [if_pos (.inl k7)] at hE
      rw [hE] at q1 q6
      subst k7
      clear hE
      go_enter Tryd.func5, Tryd.ntmps5
      go_wp2_with fail
      refine (q1 _).mono ?_
      rintro e w1 ⟨rfl, n1⟩
      go_wp2_with fail
      refine (q6 _ (hl.new n1)).mono ?_
      rintro e w2 ⟨rfl, n2⟩
      go_wp2_with fail
      refine (al_sure_any _).mono ?_
      rintro e w3 ⟨rfl, n3⟩
      go_wp2
      go_ret
      exact ⟨rfl, New.trans (New.trans n1 n2) n3⟩
    · have k7' : (a0 == 7) = false := by simpa using k7
      by_cases k8 : a0 = 8
      · rw [if_pos (.inr k8)] at hE
        rw [hE] at q1 q6
        subst k8
        clear hE
        go_enter Tryd.func5, Tryd.ntmps5
        go_wp2_with fail
        refine (q1 _).mono ?_
        rintro e w1 ⟨rfl, n1⟩
        go_wp2_with fail
        refine (q6 _ (hl.new n1)).mono ?_
        rintro e w2 ⟨rfl, n2⟩
        go_wp2_with fail
        refine (al_sure_any _).mono ?_
        rintro e w3 ⟨rfl, n3⟩
        go_wp2
        go_ret
        exact ⟨rfl, New.trans (New.trans n1 n2) n3⟩
      · have k8' : (a0 == 8) = false := by simpa using k8
        rw [if_neg (by omega)] at hE
        rw [hE] at q1 q6
        clear hE
        go_enter Tryd.func5, Tryd.ntmps5
        go_wp2_with fail
        refine (q1 _).mono ?_
        rintro e w1 ⟨rfl, n1⟩
        go_wp2_with fail
        refine (q6 _ (hl.new n1)).mono ?_
        rintro e w2 ⟨rfl, n2⟩
        go_wp2_with fail
        refine (al_sure_any _).mono ?_
        rintro e w3 ⟨rfl, n3⟩
        go_wp2
        go_ret
        exact ⟨rfl, New.trans (New.trans n1 n2) n3⟩
  case pos =>
    obtain ⟨t1, t2⟩ := tk_dof a0 a1 a2 c
    rw [t1] at q3
    rw [t2] at q4
    rw [c, erN_zero] at q1
    clear hz t1 t2 c
    obtain ⟨h0, h1⟩ := ha
    obtain ⟨g0, g1⟩ := hb
    by_cases c4 : a0 = 4
    · subst c4
      rw [sum_c a1 a2 h0 h1 g0 g1] at q3
      rw [show dod 4 a1 a2 = dov 4 a1 a2 from rfl] at q4
      rw [sum_v] at q1 q4
      generalize dof _ a1 a2 0 = F at *
      go_enter Tryd.func5, Tryd.ntmps5
      go_wp2_with fail
      refine (q1 _).mono ?_
      rintro e w1 ⟨rfl, n1⟩
      go_wp2_with fail
      refine (q3 _).mono ?_
      rintro e w2 ⟨rfl, n2⟩
      go_wp2_with fail
      refine (q4 _).mono ?_
      rintro e w3 ⟨rfl, n3⟩
      go_wp2_with fail
      refine (al_sure_any _).mono ?_
      rintro e w4 ⟨rfl, n4⟩
      go_wp2
      go_ret
      exact ⟨rfl, New.trans (New.trans (New.trans n1 n2) n3) n4⟩
    · by_cases c6 : a0 = 6
      · subst c6
        have hp := Go.prod_bound a1 a2 h0 h1 g0 g1
        rw [prod_c a1 a2 h0 h1 g0 g1] at q3
        rw [show dod 6 a1 a2 = dov 6 a1 a2 from rfl] at q4
        generalize dov 6 a1 a2 = V at *
        generalize dof _ a1 a2 0 = F at *
        go_enter Tryd.func5, Tryd.ntmps5
        go_wp2_with fail
        refine (q1 _).mono ?_
        rintro e w1 ⟨rfl, n1⟩
        go_wp2_with fail
        refine (q3 _).mono ?_
        rintro e w2 ⟨rfl, n2⟩
        go_wp2_with fail
        refine (q4 _).mono ?_
        rintro e w3 ⟨rfl, n3⟩
        go_wp2_with fail
        refine (al_sure_any _).mono ?_
        rintro e w4 ⟨rfl, n4⟩
        go_wp2
        go_ret
        exact ⟨rfl, New.trans (New.trans (New.trans n1 n2) n3) n4⟩
      · by_cases c5 : a0 = 5
        · subst c5
          rw [show doc 5 a1 a2 = decide (a1 < a2) from rfl] at q3
          rw [show dod 5 a1 a2 = m32 (a1 - a2) from rfl, sub_zero_iff a1 a2 h0 h1 g0 g1] at q4
          generalize dov 5 a1 a2 = V at *
          generalize dof _ a1 a2 0 = F at *
          go_enter Tryd.func5, Tryd.ntmps5
          go_wp2_with fail
          refine (q1 _).mono ?_
          rintro e w1 ⟨rfl, n1⟩
          go_wp2_with fail
          refine (q3 _).mono ?_
          rintro e w2 ⟨rfl, n2⟩
          go_wp2_with fail
          refine (q4 _).mono ?_
          rintro e w3 ⟨rfl, n3⟩
          go_wp2_with fail
          refine (al_sure_any _).mono ?_
          rintro e w4 ⟨rfl, n4⟩
          go_wp2
          go_ret
          exact ⟨rfl, New.trans (New.trans (New.trans n1 n2) n3) n4⟩
        · by_cases c16 : a0 = 16
          · subst c16
            rw [show doc 16 a1 a2 = decide (a1 < a2) from rfl] at q3
            rw [show dod 16 a1 a2 = m32 (a1 - a2) from rfl, sub_zero_iff a1 a2 h0 h1 g0 g1] at q4
            rw [show dov 16 a1 a2 = a1 from rfl] at q1
            generalize dof _ a1 a2 0 = F at *
            go_enter Tryd.func5, Tryd.ntmps5
            go_wp2_with fail
            refine (q1 _).mono ?_
            rintro e w1 ⟨rfl, n1⟩
            go_wp2_with fail
            refine (q3 _).mono ?_
            rintro e w2 ⟨rfl, n2⟩
            go_wp2_with fail
            refine (q4 _).mono ?_
            rintro e w3 ⟨rfl, n3⟩
            go_wp2_with fail
            refine (al_sure_any _).mono ?_
            rintro e w4 ⟨rfl, n4⟩
            go_wp2
            go_ret
            exact ⟨rfl, New.trans (New.trans (New.trans n1 n2) n3) n4⟩
          · have e := none_c a0 a1 a2 ⟨c4, c5, c6, c16⟩
            rw [e.1] at q3
            rw [e.2] at q4
            generalize dov a0 a1 a2 = V at *
            clear e
            generalize dof _ a1 a2 0 = F at *
            go_enter Tryd.func5, Tryd.ntmps5
            go_wp2_with fail
            refine (q1 _).mono ?_
            rintro e w1 ⟨rfl, n1⟩
            go_wp2_with fail
            refine (q3 _).mono ?_
            rintro e w2 ⟨rfl, n2⟩
            go_wp2_with fail
            refine (q4 _).mono ?_
            rintro e w3 ⟨rfl, n3⟩
            go_wp2_with fail
            refine (al_sure_any _).mono ?_
            rintro e w4 ⟨rfl, n4⟩
            go_wp2
            go_ret
            exact ⟨rfl, New.trans (New.trans (New.trans n1 n2) n3) n4⟩

/-! ### THE ROW's STEP: WRITTEN OUT: LEAVE IT -/
theorem door_met (os : Os) (args : Array Value) : laidMetH Tryd.prog Rows.aluCarriesRow.laid ((World.doorLaid Tryd.prog 400 os).forCall (fun _ _ => 0) ⟨#[], args, []⟩).memory :=
  laidMetH_of_parts3 (fuel := 8) (laidMet_of_run' 8 (by kernel_rfl) (by kernel_rfl)) (by kernel_rfl) (by kernel_rfl)
set_option maxRecDepth 100000 in
theorem lifted (os : Os) (started : os.Started) (H : Type) (enc : TypeId × Value → H) :
    ReturnsInHanded {} Tryd.checked os 5 .any (fun w args => (Rows.aluCarriesSpec.pre enc Tryd.prog Tryd.f5 [] false w args ∧ laidMetH Tryd.prog Rows.aluCarriesRow.laid w) ∧ sizedMet enc Tryd.prog Tryd.f5 (OpenSpec.ofChange Rows.aluCarriesSpec) false w args) (Rows.aluCarriesSpec.post enc Tryd.prog Tryd.f5 false true false false) := by
  refine returnsInHanded_of_change_and (C := Tryd.checked) (X := fun w _ => laidMetH Tryd.prog Rows.aluCarriesRow.laid w) (fun _ _ _ hh h => h.of_heap hh) own started (by kernel_rfl) Tryd.func5
    (ChangeSpec.witness_shaped (enc := enc) (C := Tryd.checked) (os := os) (X := fun w _ => laidMetH Tryd.prog Rows.aluCarriesRow.laid w) false (World.doorLaid Tryd.prog 400 os) #[.int .i64 0, .int .u32 0, .int .u32 0] 8 rfl (World.shaped_of_RefB (by kernel_rfl) (by kernel_rfl)) (by kernel_rfl) (by kernel_rfl) (by kernel_rfl) (door_met os _)) ?_
  intro W base args ds gs before hval0 hW _ _ hL _
  have hL' : laidMet Tryd.prog [] W ∧ handlesMet Tryd.prog [("errors.errorType", Rows.laid_errors_errorType)] W := hL
  have hval : ∀ (j : Nat) t v, Tryd.f5.params[j]? = some t → args[j]? = some v → Value.okWide Tryd.prog W .any base t v := hval0
  have hW' := hW
  obtain ⟨p, q, hA0, hV, rfl, hfz, hnd⟩ := hW
  have hA : DataW.TrodAll enc Tryd.prog W 0 (fun _ => true) true Tryd.f5.params.toList args.toList ds p := hA0
  rw [Tryd.params5] at hA hval
  obtain ⟨v0, vs0, d0, ds0, p0, q0, hargs, rfl, rfl, h0, r0⟩ := trodAll_cons hA
  obtain ⟨v1, vs1, d1, ds1, p1, q1, rfl, rfl, rfl, h1, r1⟩ := trodAll_cons r0
  obtain ⟨v2, vs2, d2, ds2, p2, q2, rfl, rfl, rfl, h2, r2⟩ := trodAll_cons r1
  obtain ⟨rfl, rfl, rfl⟩ := trodAll_nil r2
  obtain rfl : args = #[v0, v1, v2] := by cases args; simp_all
  obtain ⟨rfl, rfl⟩ := trodVars_none hV
  obtain ⟨a0, rfl, rfl, rfl, w0⟩ := open_int Tryd.underlying3 (hval 0 3 v0 rfl rfl) h0
  obtain ⟨a1, rfl, rfl, rfl, w1⟩ := open_int Tryd.underlying22 (hval 1 22 v1 rfl rfl) h1
  obtain ⟨a2, rfl, rfl, rfl, w2⟩ := open_int Tryd.underlying22 (hval 2 22 v2 rfl rfl) h2
  clear hA0 hval0
  simp only [List.append_nil] at hW'
  refine (walk a0 a1 a2 w0 w1 w2 W (handle_of_hs hL'.2)).mono fun e W' ⟨he, hg⟩ => ?_
  subst he
  exact ⟨_, rfl, post_of_new hW' (fun _ _ _ => (trodAll_cons_mk (shut_bool Tryd.underlying4 _) trodAll_mk0)) (fun sp => (trodAll_cons_mk (shut_int Tryd.underlying3 w0) (trodAll_cons_mk (shut_int Tryd.underlying22 w1) (trodAll_cons_mk (shut_int Tryd.underlying22 w2) trodAll_mk0)))) (fun _ => rfl) hg (ok_one (by kernel_rfl) rfl (okWide_bool_mk Tryd.underlying4 _))⟩

theorem over : Rows.aluCarriesRow.holds Tryd.pinned (OpenSpec.ofChange Rows.aluCarriesSpec) :=
  OpenClaim.holds_of_wide 5 Tryd.f5 rfl rfl rfl rfl rfl rfl rfl ⟨rfl, rfl, rfl, rfl, rfl⟩ rfl rfl rfl rfl rfl (by kernel_rfl) Tryd.func5 (by kernel_rfl)
    (of_decide_eq_true (by kernel_rfl)) (by unfold Func.isWrapper; first | (rw [if_pos (by decide +kernel)]; kernel_rfl) | (rw [if_neg (by decide +kernel)]; exact ⟨rfl, rfl⟩))
    (fun os started H enc _ => lifted os started H enc)

theorem proved : Rows.AluCarriesSaid := over
theorem card : Rows.AluCarriesCardSaid :=
  Claim7.holds_tied_plain_at .later [] [.handle] true (true, "8818b6878aa664a97f982dd432ddfbc24d09b450e8c74292fff1b5b194f77d14") true
    over (fun _ h => by cases h) (by kernel_rfl) (fun _ h => by cases h) aluCarries_row_tie rfl ⟨rfl, rfl⟩ (by kernel_rfl) rfl
    (fun f fn hf hfn => by
      obtain rfl : f = 5 := Option.some.inj ((show Tryd.prog.funcNamed "halter/halterlaw11.AluCarries" = some 5 by kernel_rfl).symm.trans hf) |>.symm
      obtain rfl : fn = Tryd.f5 := (Option.some.inj (Tryd.func5.symm.trans hfn)).symm
      exact ⟨by kernel_rfl, fun j t ht => by
        rw [Tryd.params5] at ht
        have hm : t ∈ [3, 22, 22] := by have := Array.mem_of_getElem? ht; simpa using this
        have hall : ([3, 22, 22].all fun u => !Tryd.prog.wantsStandIn u) = true := by kernel_rfl
        exact (show Tryd.prog.wantsStandIn t = false by simpa using List.all_eq_true.1 hall t hm)⟩)
    (by kernel_rfl)
#print axioms card
end Go.Proofs.YtgkonjgalpchoaaDoor.aluCarries
