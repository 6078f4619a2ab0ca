/- A hole that is found between regions is free, and can be laid down; no page ahead of it would do; where none is found none would do at all; the statement holds for every input, where the library's variable errors.errorType holds what its own text lays, which the card ties. -/
import Derived.Test.YtfkjgbenjdmedaaDoorRows
import Derived.Test.YtfkjgbenjdmedaaDoorReJ
import Derived.Test.YtfkjgbenjdmedaaDoorReK
import Derived.Test.YtfkjgbenjdmedaaDoorReL
import Derived.Test.YtfkjgbenjdmedaaDoorNum
import Derived.Test.YtfkjgbenjdmedaaDoorCards
import Derived.Test.YtfkjgbenjdmedaaDoorTie
import Derived.LaidMore
import Derived.LaidLaws
import Derived.LaidHandle
import Derived.Test.YtfkjgbenjdmedaaDoorLay
import Derived.Test.YtfkjgbenjdmedaaDoorPost
import Derived.SizedLaws
import Derived.WalkKit
import Derived.ProofKit
import Derived.OpenShut
import Derived.ShutString
import Derived.ChangeOld
import Derived.Below
namespace Go.Proofs.YtfkjgbenjdmedaaDoor.regionHoles
open Go.ChangeShapes Go.WideShapes Go.ChangeAt Go.RowKit
open Go.ChangeMaps (open_string shut_string)
set_option linter.unusedVariables false

theorem own : ownKnob Tryd.prog.godebug = none := by kernel_rfl
theorem laidOut : laidOutB Tryd.prog = true := by kernel_rfl

/-- WHAT THE WALK IS TOLD OF A SLICE OF INTEGERS THAT CAME IN: it is nil; or it leads to a row of 'cap' cells, the numbers 'zs' (the first 'len' are its elements, the rest its spare room), each fitting its kind. -/
def IsRow (k : IntKind) (w : World) (a : Option Addr) (len cap : Nat) (zs : List Int) : Prop :=
  (a = none ∧ len = 0 ∧ cap = 0 ∧ zs = []) ∨
  ∃ x, a = some x ∧ len ≤ cap ∧ cap ≤ maxLen ∧ zs.length = cap ∧ (∀ i, i < zs.length → w.cell? (x.add i) = some (.int k (zs.getD i 0))) ∧ ∀ n ∈ zs, (Lit.int k n).wf = true

open Go.RowKit Go.Deep
theorem kmod (a : Int) (n : Nat) (h1 : 0 < n) (h2 : n ≤ 4096) : ∃ x : Nat, wrap64 ((IntKind.u64.wrap a).tmod (n : Int)) = (x : Int) ∧ x < n := by
  rw [IntKind.wrap_u64, Int.tmod_eq_emod_of_nonneg (by omega)]
  have h := Int.emod_lt_of_pos (a % 18446744073709551616) (show (0 : Int) < n by omega)
  have h' := Int.emod_nonneg (a % 18446744073709551616) (show (n : Int) ≠ 0 by omega)
  refine ⟨(a % 18446744073709551616 % n).toNat, ?_, by omega⟩
  unfold wrap64; omega
theorem no_add {L : List Rg} (hO : ROk L) {m : Int} {p : Int} (hm : 1 ≤ m) (hp0 : 0 ≤ p) (hp : p + m ≤ 64) (h : ¬ HoleAt L m 0 64 p) : adE L ⟨p, p + m, 0⟩ = 17 ∧ adL L ⟨p, p + m, 0⟩ = [] := by
  rcases adE_cases hO (r := ⟨p, p + m, 0⟩) (okR_iff.2 (by simp only; omega)) with ⟨_, _, x3⟩ | ⟨x1, x2, _⟩
  · exact absurd ⟨hp0, hp, x3⟩ h
  · exact ⟨x1, x2⟩
/-! ### STEP 1: THE WALK: the Go text returns true, AND WRITES NOTHING THAT WAS THERE: 'Below w.heap.size w w'' (Derived/Below.lean: '.refl', '.alloc', '.drew', '.setCell' at a new block, '.trans'). Open each 'IsRow' by 'rcases' AHEAD of 'go_enter'; part every test ahead of the walk. -/
set_option maxHeartbeats 4000000 in
set_option maxRecDepth 100000 in
theorem walk (a0 : Option Addr) (len0 cap0 : Nat) (a1 : Int) (w : World) (w0 : MixRows [some .i64, some .i64, some .u8] w a0 len0) (w1 : (Lit.int .i64 a1).wf = true) (hl : Laid w) (hB : len0 * 24 ≤ 140737488351232) :
    Calls Tryd.prog 5 #[.slice a0 len0 cap0, .int .i64 a1] w fun e w' => e = .returned (.bool true) ∧ Below w.heap.size w w' := by
  obtain ⟨L, rfl, _, hL⟩ := regs_of_mix (cap := cap0) w0
  obtain ⟨D, eD, hD⟩ : ∃ x : Nat, wrap64 ((IntKind.u64.wrap a1).tmod 12) = (x : Int) ∧ x < 12 := kmod a1 12 (by omega) (by omega)
  have hsure := fun W => rsure_any W
  have q1 := give_any _ _ L hL hB
  have hlen : L.length ≤ 9223372036854775807 := by omega
  have HL := Lib.hid hl
  clear w0 hL hl
  go_enter Tryd.func5, Tryd.ntmps5
  go_wp2_with fail
  refine q1.mono ?_
  rintro e w1 ⟨v1, rfl, o1, n1⟩
  have R1 := o1.rgs
  obtain ⟨p1, c1, rfl⟩ := o1.shape
  have qc := check_any _ _ L R1
  clear q1 o1
  by_cases c20 : 20 < L.length
  · have d20 : decide (20 < (L.length : Int)) = true := by simp; omega
    go_wp2_with (go_at_call 6; (with_reducible refine (hsure _).mono ?_); rintro e w2 ⟨rfl, n2⟩)
    go_ret
    exact ⟨rfl, n1.trans n2⟩
  · have d20 : decide (20 < (L.length : Int)) = false := by simp; omega
    by_cases hO : ROk L
    · rw [chv_ok hO, erN_zero] at qc
      have HO := Lib.hid hO
      have HR1 := Lib.hid R1
      clear hO R1
      go_wp2_with fail
      refine qc.mono ?_
      rintro e w2 ⟨rfl, n2⟩
      have HN2 := Lib.hid (n1.trans n2)
      have HR2 := Lib.hid (HR1.out.new n2)
      clear HR1 qc n1 n2
      have qh := rhole_any w2 _ L ((D : Int) + 1) 0 64 HR2.out
      have e1 : wrap64 (1 + (D : Int)) = (D : Int) + 1 := by unfold wrap64; omega
      have eD1 : wrap64 (1 + wrap64 ((IntKind.u64.wrap a1).tmod 12)) = (D : Int) + 1 := by rw [eD, e1]
      go_upto_region 5 with fail
      simp only [eD]
      try simp only [e1]
      try simp only [eD1]
      obtain ⟨m, hm⟩ : ∃ m : Nat, (D : Int) + 1 = (m : Int) := ⟨D + 1, by omega⟩
      rw [show 1 + (D : Int) = (m : Int) by omega]
      rw [hm] at qh
      have hm1 : 1 ≤ m := by omega
      have hm2 : m ≤ 12 := by omega
      clear eD eD1 e1 hm hD
      go_wp2_with fail
      refine qh.mono ?_
      rintro e w3 ⟨u, c, rfl, hh, n3⟩
      have hI : HoleIs L m 0 64 u c := by
        rcases hh with ⟨_, h⟩ | ⟨h, _⟩
        · exact h
        · exact absurd ⟨HO.out, rfl, by omega, by omega⟩ h
      clear hh qh
      have HR3 := Lib.hid (HR2.out.new n3)
      have HN3 := Lib.hid (HN2.out.trans n3)
      clear HR2 HN2 n3
      rcases hI with ⟨rfl, ⟨h0, h1, hf⟩, hmin⟩ | ⟨rfl, rfl, hmin⟩
      · rw [erN_zero]
        obtain ⟨U, rfl⟩ := Int.eq_ofNat_of_zero_le h0
        have hrr : okR ⟨(U : Int), (U : Int) + (m : Int), 2⟩ = true := okR_iff.2 (by simp only; omega)
        obtain ⟨ae, al⟩ : adE L ⟨U, (U : Int) + (m : Int), 2⟩ = 0 ∧ adL L ⟨U, (U : Int) + (m : Int), 2⟩ = layL L ⟨U, (U : Int) + (m : Int), 2⟩ := by
          rcases adE_cases HO.out hrr with ⟨x1, x2, _⟩ | ⟨_, _, x3⟩
          · exact ⟨x1, x2⟩
          · exact absurd hf x3
        have sZ := rsz_layL HO.out hrr
        simp only at sZ
        rw [cnt_none (fun q g1 g2 => hf q g1 (by omega))] at sZ
        have HZ := HO.out.layL hrr
        have bL := rsz_bd HO.out.asc
        have qL := fun W v (k : Rgs W v L) => size_any W v L k
        rw [szv_ok HO.out] at qL
        have qZ := fun W v (k : Rgs W v (layL L ⟨U, (U : Int) + (m : Int), 2⟩)) => size_any W v _ k
        rw [szv_ok HZ, sZ] at qZ
        have HM := Lib.hid (fun p (h : p < (U : Int)) => hmin p h)
        clear hmin hf sZ HZ hrr h0
        generalize rsz L = S at *
        rw [show S - ((0 : Nat) : Int) + ((U : Int) + (m : Int) - (U : Int)) = S + (m : Int) by omega] at qZ
        have d1 : decide ((64 : Int) - (m : Int) < (U : Int)) = false := by simp; omega
        have qa := radd_any w3 _ L ⟨(U : Int), (U : Int) + (m : Int), 2⟩ HR3.out
        rw [ae, al] at qa
        clear ae al
        go_wp2_with fail
        refine qa.mono ?_
        rintro e w4 ⟨_, rfl, o4, n4⟩
        have HRZ := Lib.hid o4.rgs
        obtain ⟨p4, c4, rfl⟩ := o4.shape
        rw [erN_zero]
        clear o4 qa
        go_wp2_with fail
        refine (qZ _ _ HRZ.out).mono ?_
        rintro e w5 ⟨rfl, n5⟩
        go_wp2_with fail
        refine (qL _ _ (HR3.out.new (n4.trans n5))).mono ?_
        rintro e w6 ⟨rfl, n6⟩
        have HN6 := Lib.hid (HN3.out.trans (n4.trans (n5.trans n6)))
        have HR6 := Lib.hid (HR3.out.new (n4.trans (n5.trans n6)))
        clear n4 n5 n6 HRZ qZ qL HR3 HN3
        have hU : U ≤ 64 := by omega
        have e2 : wrap64 ((U : Int) - 1) = (U : Int) - 1 := by unfold wrap64; omega
        go_upto_if 73 with (fail)
        try simp only [e2]
        clear e2
        go_loopg [12, 13, 14] U (fun k i u v wr => ∃ j : Nat, j + k = U ∧ i = .int .i64 (j : Int) ∧ New w6 wr)
        case atStart => exact ⟨0, by omega, rfl, New.refl _⟩
        case round =>
          obtain ⟨j, hj, rfl, hn⟩ := hrel
          have HN := Lib.hid hn
          have J := Lib.hid hj
          by_cases c : j < U
          · have g1 : decide ((j : Int) ≤ (U : Int) - 1) = true := by simp; omega
            obtain ⟨ae, al⟩ := no_add HO.out (m := (m : Int)) (p := (j : Int)) (by omega) (by omega) (by omega) (HM.out _ (by omega))
            have qa := radd_any wr _ L ⟨(j : Int), (j : Int) + (m : Int), 0⟩ (HR6.out.new hn)
            rw [ae, al] at qa
            have hjb : j ≤ 70 := by omega
            clear ae al hj hn
            go_wp2_with (go_at_call 8; refine qa.mono ?_; rintro e w7 ⟨_, rfl, o7, n7⟩; obtain ⟨p7, c7, rfl⟩ := o7.shape; rw [erN_pos (by decide)])
            go_roundg (U - (j + 1))
            case measure => have := J.out; omega
            case rel => exact ⟨j + 1, by have := J.out; omega, by go_num, HN.out.trans n7⟩
          · have g1 : decide ((j : Int) ≤ (U : Int) - 1) = false := by simp; omega
            clear hj
            go_wp2_with (go_at_call 6; (with_reducible refine (hsure _).mono ?_); rintro e w9 ⟨rfl, n9⟩)
            go_ret
            exact ⟨rfl, HN6.out.trans (hn.trans n9)⟩
      · rw [erN_pos (by decide)]
        have HM := Lib.hid (fun p (h : p < 65 - (m : Int)) => hmin p)
        clear hmin
        go_upto_if 73 with (fail)
        go_loopg [12, 13, 14] (65 - m) (fun k i u v wr => ∃ j : Nat, j + k = (65 - m) ∧ i = .int .i64 (j : Int) ∧ New w3 wr)
        case atStart => exact ⟨0, by omega, rfl, New.refl _⟩
        case round =>
          obtain ⟨j, hj, rfl, hn⟩ := hrel
          have HN := Lib.hid hn
          have J := Lib.hid hj
          by_cases c : j < (65 - m)
          · have g1 : decide ((j : Int) ≤ 64 - (m : Int)) = true := by simp; omega
            obtain ⟨ae, al⟩ := no_add HO.out (m := (m : Int)) (p := (j : Int)) (by omega) (by omega) (by omega) (HM.out _ (by omega))
            have qa := radd_any wr _ L ⟨(j : Int), (j : Int) + (m : Int), 0⟩ (HR3.out.new hn)
            rw [ae, al] at qa
            have hjb : j ≤ 70 := by omega
            clear ae al hj hn
            go_wp2_with (go_at_call 8; refine qa.mono ?_; rintro e w7 ⟨_, rfl, o7, n7⟩; obtain ⟨p7, c7, rfl⟩ := o7.shape; rw [erN_pos (by decide)])
            go_roundg ((65 - m) - (j + 1))
            case measure => have := J.out; omega
            case rel => exact ⟨j + 1, by have := J.out; omega, by go_num, HN.out.trans n7⟩
          · have g1 : decide ((j : Int) ≤ 64 - (m : Int)) = false := by simp; omega
            clear hj
            have q12 := num_er 12 wr (HL.out.new (HN3.out.trans hn))
            rw [erN_pos (by decide)] at q12
            go_wp2_with (first
              | (go_at_call 16; (with_reducible refine q12.mono ?_); rintro e w8 ⟨rfl, n8⟩)
              | (go_at_call 6; (with_reducible refine (hsure _).mono ?_); rintro e w9 ⟨rfl, n9⟩))
            go_ret
            exact ⟨rfl, HN3.out.trans (hn.trans (n8.trans n9))⟩
    · rw [chv_no hO, erN_pos (by decide)] at qc
      clear hO
      go_wp2_with (first
        | (go_at_call 18; (with_reducible refine qc.mono ?_); rintro e w2 ⟨rfl, n2⟩)
        | (go_at_call 6; (with_reducible refine (hsure _).mono ?_); rintro e w3 ⟨rfl, n3⟩))
      go_ret
      exact ⟨rfl, n1.trans (n2.trans n3)⟩

/-! ### THE ROW's STEP: WRITTEN OUT: LEAVE IT -/
theorem door_met (os : Os) (args : Array Value) : laidMetH Tryd.prog Rows.regionHolesRow.laid ((World.doorLaid Tryd.prog 400 os).forCall (fun _ _ => 0) ⟨#[], args, []⟩).memory :=
  laidMetH_of_parts3 (fuel := 8) (laidMet_of_run' 8 (by kernel_rfl) (by kernel_rfl)) (by kernel_rfl) (by kernel_rfl)
set_option maxRecDepth 100000 in
theorem lifted (os : Os) (started : os.Started) (H : Type) (enc : TypeId × Value → H) :
    ReturnsInHanded {} Tryd.checked os 5 .any (fun w args => (Rows.regionHolesSpec.pre enc Tryd.prog Tryd.f5 [] false w args ∧ laidMetH Tryd.prog Rows.regionHolesRow.laid w) ∧ sizedMet enc Tryd.prog Tryd.f5 (OpenSpec.ofChange Rows.regionHolesSpec) false w args) (Rows.regionHolesSpec.post enc Tryd.prog Tryd.f5 false true false false) := by
  refine returnsInHanded_of_change_and (C := Tryd.checked) (X := fun w _ => laidMetH Tryd.prog Rows.regionHolesRow.laid w) (fun _ _ _ hh h => h.of_heap hh) own started (by kernel_rfl) Tryd.func5
    (ChangeSpec.witness_shaped (enc := enc) (C := Tryd.checked) (os := os) (X := fun w _ => laidMetH Tryd.prog Rows.regionHolesRow.laid w) false (World.doorLaid Tryd.prog 400 os) #[.slice none 0 0, .int .i64 0] 8 rfl (World.shaped_of_RefB (by kernel_rfl) (by kernel_rfl)) (by kernel_rfl) (by kernel_rfl) (by kernel_rfl) (door_met os _)) ?_
  intro W base args ds gs before hval0 hW _ hsz0 hL _
  have hL' : laidMet Tryd.prog [] W ∧ handlesMet Tryd.prog [("errors.errorType", Rows.laid_errors_errorType)] W := hL
  have hval : ∀ (j : Nat) t v, Tryd.f5.params[j]? = some t → args[j]? = some v → Value.okWide Tryd.prog W .any base t v := hval0
  have hW' := hW
  obtain ⟨p, q, hA0, hV, rfl, hfz, hnd⟩ := hW
  have hA : DataW.TrodAll enc Tryd.prog W 0 (fun _ => true) true Tryd.f5.params.toList args.toList ds p := hA0
  have hsz : (DataW.weightsEach Tryd.prog (Tryd.f5.params.toList ++ Rows.regionHolesSpec.plain.varTypes Tryd.prog) (ds ++ gs)).all (· ≤ reachBytes) = true := hsz0
  rw [Tryd.params5] at hA hval hsz
  obtain ⟨v0, vs0, d0, ds0, p0, q0, hargs, rfl, rfl, h0, r0⟩ := trodAll_cons hA
  obtain ⟨v1, vs1, d1, ds1, p1, q1, rfl, rfl, rfl, h1, r1⟩ := trodAll_cons r0
  obtain ⟨rfl, rfl, rfl⟩ := trodAll_nil r1
  obtain rfl : args = #[v0, v1] := by cases args; simp_all
  obtain ⟨rfl, rfl⟩ := trodVars_none hV
  obtain ⟨a0, len0, cap0, rfl⟩ := okWide_slice Tryd.underlying22 (hval 0 22 v0 rfl rfl)
  have k0 := h0
  have lt0 : ∀ x ∈ p0, x.block < W.heap.size := by obtain ⟨m, hm⟩ := k0; exact DataW.trod_lt m _ _ _ hm
  have w0 : MixRows [some .i64, some .i64, some .u8] W a0 len0 := mixrows_of Tryd.underlying22 (.struct Tryd.underlying24 (.cons rfl (.int Tryd.underlying3) (by kernel_rfl) (.cons rfl (.int Tryd.underlying3) (by kernel_rfl) (.cons rfl (.int Tryd.underlying5) (by kernel_rfl) .nil)))) (by kernel_rfl) h0
  obtain ⟨a1, rfl, rfl, rfl, w1⟩ := open_int Tryd.underlying3 (hval 1 3 v1 rfl rfl) h1
  have hB : len0 * 24 ≤ 140737488351232 := slice_bytes (j := 0) (e := 24) hsz rfl rfl Tryd.underlying22 (by kernel_rfl) h0
  clear hA0 hval0
  refine (walk a0 len0 cap0 a1 W w0 w1 (handle_of_hs hL'.2) hB).mono fun e W' ⟨he, bel⟩ => ?_
  subst he
  exact ⟨_, rfl, _, _, _, [], _, [], hW', trodAll_mk1 (shut_bool Tryd.underlying4 _), (trodAll_cons_mk (Below.trod laidOut (by kernel_rfl) (of_decide_eq_true (by kernel_rfl)) k0 bel lt0) (trodAll_cons_mk (shut_int Tryd.underlying3 w1) trodAll_mk0)), rfl, bel.frame _, fun h => by cases h⟩

theorem over : Rows.regionHolesRow.holds Tryd.pinned (OpenSpec.ofChange Rows.regionHolesSpec) :=
  OpenClaim.holds_of_wide 5 Tryd.f5 rfl rfl rfl rfl rfl rfl rfl ⟨rfl, rfl, rfl, rfl, rfl⟩ rfl rfl rfl rfl rfl (by kernel_rfl) Tryd.func5 (by kernel_rfl)
    (of_decide_eq_true (by kernel_rfl)) (by unfold Func.isWrapper; first | (rw [if_pos (by decide +kernel)]; kernel_rfl) | (rw [if_neg (by decide +kernel)]; exact ⟨rfl, rfl⟩))
    (fun os started H enc _ => lifted os started H enc)

theorem proved : Rows.RegionHolesSaid := over
theorem card : Rows.RegionHolesCardSaid :=
  Claim7.holds_tied_plain_at .later [] [.handle] true (true, "e3df8fdff194a53b3cbee48b5b08da0a79fd8825e1a4a6547a17b4aada310e85") true
    over (fun _ h => by cases h) (by kernel_rfl) (fun _ h => by cases h) regionHoles_row_tie rfl ⟨rfl, rfl⟩ (by kernel_rfl) rfl
    (fun f fn hf hfn => by
      obtain rfl : f = 5 := Option.some.inj ((show Tryd.prog.funcNamed "halter/halterlaw13.RegionHoles" = some 5 by kernel_rfl).symm.trans hf) |>.symm
      obtain rfl : fn = Tryd.f5 := (Option.some.inj (Tryd.func5.symm.trans hfn)).symm
      exact ⟨by kernel_rfl, fun j t ht => by
        rw [Tryd.params5] at ht
        have hm : t ∈ [22, 3] := by have := Array.mem_of_getElem? ht; simpa using this
        have hall : ([22, 3].all fun u => !Tryd.prog.wantsStandIn u) = true := by kernel_rfl
        exact (show Tryd.prog.wantsStandIn t = false by simpa using List.all_eq_true.1 hall t hm)⟩)
    (by kernel_rfl)
#print axioms card
end Go.Proofs.YtfkjgbenjdmedaaDoor.regionHoles
