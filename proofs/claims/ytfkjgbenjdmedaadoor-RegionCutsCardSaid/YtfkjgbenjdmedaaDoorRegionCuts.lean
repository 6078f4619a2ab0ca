/- Of any regions without any pages, and with any used in another way, the package answers as the document says, with the errors, and they stay; the statement holds for every input, where the library's variable errors.errorType holds what its own text lays, which the card ties. -/
import Derived.Test.YtfkjgbenjdmedaaDoorRows
import Derived.Test.YtfkjgbenjdmedaaDoorReJ
import Derived.Test.YtfkjgbenjdmedaaDoorReQ
import Derived.Test.YtfkjgbenjdmedaaDoorNum
import Derived.Test.YtfkjgbenjdmedaaDoorFlat
import Derived.Test.YtfkjgbenjdmedaaDoorCards
import Derived.Test.YtfkjgbenjdmedaaDoorTie
import Derived.LaidMore
import Derived.LaidLaws
import Derived.LaidHandle
import Derived.Test.YtfkjgbenjdmedaaDoorLay
import Derived.Test.YtfkjgbenjdmedaaDoorPost
import Derived.WalkKit
import Derived.ProofKit
import Derived.OpenShut
import Derived.ShutString
import Derived.ChangeOld
import Derived.Below
namespace Go.Proofs.YtfkjgbenjdmedaaDoor.regionCuts
open Go.ChangeShapes Go.WideShapes Go.ChangeAt Go.RowKit
open Go.ChangeMaps (open_string shut_string)
set_option linter.unusedVariables false

theorem own : ownKnob Tryd.prog.godebug = none := by kernel_rfl
theorem laidOut : laidOutB Tryd.prog = true := by kernel_rfl

/-- WHAT THE WALK IS TOLD OF A SLICE OF INTEGERS THAT CAME IN: it is nil; or it leads to a row of 'cap' cells, the numbers 'zs' (the first 'len' are its elements, the rest its spare room), each fitting its kind. -/
def IsRow (k : IntKind) (w : World) (a : Option Addr) (len cap : Nat) (zs : List Int) : Prop :=
  (a = none ∧ len = 0 ∧ cap = 0 ∧ zs = []) ∨
  ∃ x, a = some x ∧ len ≤ cap ∧ cap ≤ maxLen ∧ zs.length = cap ∧ (∀ i, i < zs.length → w.cell? (x.add i) = some (.int k (zs.getD i 0))) ∧ ∀ n ∈ zs, (Lit.int k n).wf = true

open Go.RowKit Go.Deep
/-! ### STEP 1: THE WALK: the Go text returns true, AND WRITES NOTHING THAT WAS THERE: 'Below w.heap.size w w'' (Derived/Below.lean: '.refl', '.alloc', '.drew', '.setCell' at a new block, '.trans'). Open each 'IsRow' by 'rcases' AHEAD of 'go_enter'; part every test ahead of the walk. -/
set_option maxHeartbeats 4000000 in
set_option maxRecDepth 100000 in
theorem walk (a0 : Option Addr) (len0 cap0 : Nat) (v1 : Value) (a2 : Int) (w : World) (w0 : MixRows [some .i64, some .i64, some .u8] w a0 len0) (w1 : Flat [some .i64, some .i64] v1) (w2 : (Lit.int .u8 a2).wf = true) (hl : Laid w) :
    Calls Tryd.prog 4 #[.slice a0 len0 cap0, v1, .int .u8 a2] w fun e w' => e = .returned (.bool true) ∧ Below w.heap.size w w' := by
  obtain ⟨g0, g1, rfl, ⟨y0, rfl, _⟩, ⟨y1, rfl, _⟩⟩ := flat2 w1
  obtain ⟨L, rfl, _, hL⟩ := regs_of_mix (cap := cap0) w0
  have hb2 := u8_bd w2
  obtain ⟨P, rfl⟩ := Int.eq_ofNat_of_zero_le hb2.1
  have hsure := fun W => rsure_any W
  have HL := Lib.hid hl
  have hlen : L.length ≤ 9223372036854775807 := hL.len
  have N0 : New w (w.alloc (.cells #[.int .i64 y0, .int .i64 y1] 50)) := (New.refl w).alloc _ _
  have B0 : Box (w.alloc (.cells #[.int .i64 y0, .int .i64 y1] 50)) w.heap.size #[.int .i64 y0, .int .i64 y1] 50 := Box.here w _ _ _ rfl
  clear w0 w1 w2 hl
  by_cases c40 : 40 < L.length
  · have d40 : decide (40 < (L.length : Int)) = true := by simp; omega
    clear hL
    go_enter Tryd.func4, Tryd.ntmps4
    go_wp2_with (go_at_call 6; (with_reducible refine (hsure _).mono ?_); rintro e w2 ⟨rfl, n2⟩)
    go_ret
    exact ⟨rfl, N0.trans n2⟩
  · have d40 : decide (40 < (L.length : Int)) = false := by simp; omega
    have q1 := give_any _ _ L (hL.new N0) (by omega)
    have HA := Lib.hid (hL.new N0)
    clear hL
    go_enter Tryd.func4, Tryd.ntmps4
    go_wp2_with fail
    refine q1.mono ?_
    rintro e w1 ⟨_, rfl, o1, n1⟩
    have HX := Lib.hid o1.rgs
    obtain ⟨p1, c1, rfl⟩ := o1.shape
    clear o1 q1
    obtain ⟨b0, b1⟩ := (B0.new n1).two
    go_wp2_with fail
    refine (rcut_any _ _ L y0 y1 HX.out).mono ?_
    rintro e w2 ⟨va, rfl, oa, n2⟩
    have k2 := n1.trans n2
    clear b0 b1
    obtain ⟨b0, b1⟩ := (B0.new k2).two
    have HVA := Lib.hid oa.rgs
    obtain ⟨pa, ca, rfl⟩ := oa.shape
    generalize hc1 : ctE L y0 y1 = E1 at *
    go_wp2_with fail
    refine (dcut_any _ _ L y0 y1 (HA.out.new k2)).mono ?_
    rintro e w3 ⟨vb, rfl, ob, n3⟩
    have k3 := k2.trans n3
    clear b0 b1
    obtain ⟨b0, b1⟩ := (B0.new k3).two
    have HVB := Lib.hid ob.rgs
    obtain ⟨pb, cb, rfl⟩ := ob.shape
    rw [hc1]
    go_wp2_with fail
    refine (rprot_any _ _ L ⟨y0, y1, P⟩ (HX.out.new (n2.trans n3))).mono ?_
    rintro e w4 ⟨vc, rfl, oc, n4⟩
    have k4 := k3.trans n4
    clear b0 b1
    obtain ⟨b0, b1⟩ := (B0.new k4).two
    have HVC := Lib.hid oc.rgs
    obtain ⟨pc, cc, rfl⟩ := oc.shape
    generalize hc2 : prE L ⟨y0, y1, P⟩ = E2 at *
    go_wp2_with fail
    refine (dprot_any _ _ L ⟨y0, y1, P⟩ (HA.out.new k4)).mono ?_
    rintro e w5 ⟨vd, rfl, od, n5⟩
    have k5 := k4.trans n5
    have HVD := Lib.hid od.rgs
    obtain ⟨pd, cd, rfl⟩ := od.shape
    rw [hc2]
    clear b0 b1
    have r1 := HVA.out.new (n3.trans (n4.trans n5))
    have r2 := (HVB.out.new (n4.trans n5)).arg
    have r3 := HVC.out.new n5
    have r4 := HVD.out.arg
    have r5 := HX.out.new (n2.trans (n3.trans (n4.trans n5)))
    have r6 := HA.out.new k5
    have l5 := HL.out.new (N0.trans k5)
    clear hc1 hc2 oa ob oc od
    go_wp2_with fail
    refine (are_any _ _ _ _ r1 r2).mono ?_
    rintro e w6 ⟨rfl, n6⟩
    go_wp2_with fail
    refine (num_er E1 _ (l5.new n6)).mono ?_
    rintro e w7 ⟨rfl, n7⟩
    have m7 := n6.trans n7
    go_wp2_with fail
    refine (are_any _ _ _ _ (r3.new m7) (r4.new m7)).mono ?_
    rintro e w8 ⟨rfl, n8⟩
    have m8 := m7.trans n8
    go_wp2_with fail
    refine (num_er E2 _ (l5.new m8)).mono ?_
    rintro e w9 ⟨rfl, n9⟩
    have m9 := m8.trans n9
    go_wp2_with fail
    refine (are_any _ _ _ _ (r5.new m9) (r6.new m9)).mono ?_
    rintro e w10 ⟨rfl, n10⟩
    have m10 := m9.trans n10
    go_wp2_with fail
    refine (hsure _).mono ?_
    rintro e w11 ⟨rfl, n11⟩
    go_wp2
    go_ret
    exact ⟨rfl, N0.trans (k5.trans (m10.trans n11))⟩

/-! ### THE ROW's STEP: WRITTEN OUT: LEAVE IT -/
theorem door_met (os : Os) (args : Array Value) : laidMetH Tryd.prog Rows.regionCutsRow.laid ((World.doorLaid Tryd.prog 400 os).forCall (fun _ _ => 0) ⟨#[], args, []⟩).memory :=
  laidMetH_of_parts3 (fuel := 8) (laidMet_of_run' 8 (by kernel_rfl) (by kernel_rfl)) (by kernel_rfl) (by kernel_rfl)
set_option maxRecDepth 100000 in
theorem lifted (os : Os) (started : os.Started) (H : Type) (enc : TypeId × Value → H) :
    ReturnsInHanded {} Tryd.checked os 4 .any (fun w args => (Rows.regionCutsSpec.pre enc Tryd.prog Tryd.f4 [] false w args ∧ laidMetH Tryd.prog Rows.regionCutsRow.laid w) ∧ sizedMet enc Tryd.prog Tryd.f4 (OpenSpec.ofChange Rows.regionCutsSpec) false w args) (Rows.regionCutsSpec.post enc Tryd.prog Tryd.f4 false true false false) := by
  refine returnsInHanded_of_change_and (C := Tryd.checked) (X := fun w _ => laidMetH Tryd.prog Rows.regionCutsRow.laid w) (fun _ _ _ hh h => h.of_heap hh) own started (by kernel_rfl) Tryd.func4
    (ChangeSpec.witness_shaped (enc := enc) (C := Tryd.checked) (os := os) (X := fun w _ => laidMetH Tryd.prog Rows.regionCutsRow.laid w) false (World.doorLaid Tryd.prog 400 os) #[.slice none 0 0, .agg #[.int .i64 0, .int .i64 0], .int .u8 0] 8 rfl (World.shaped_of_RefB (by kernel_rfl) (by kernel_rfl)) (by kernel_rfl) (by kernel_rfl) (by kernel_rfl) (door_met os _)) ?_
  intro W base args ds gs before hval0 hW _ _ hL _
  have hL' : laidMet Tryd.prog [] W ∧ handlesMet Tryd.prog [("errors.errorType", Rows.laid_errors_errorType)] W := hL
  have hval : ∀ (j : Nat) t v, Tryd.f4.params[j]? = some t → args[j]? = some v → Value.okWide Tryd.prog W .any base t v := hval0
  have hW' := hW
  obtain ⟨p, q, hA0, hV, rfl, hfz, hnd⟩ := hW
  have hA : DataW.TrodAll enc Tryd.prog W 0 (fun _ => true) true Tryd.f4.params.toList args.toList ds p := hA0
  rw [Tryd.params4] at hA hval
  obtain ⟨v0, vs0, d0, ds0, p0, q0, hargs, rfl, rfl, h0, r0⟩ := trodAll_cons hA
  obtain ⟨v1, vs1, d1, ds1, p1, q1, rfl, rfl, rfl, h1, r1⟩ := trodAll_cons r0
  obtain ⟨v2, vs2, d2, ds2, p2, q2, rfl, rfl, rfl, h2, r2⟩ := trodAll_cons r1
  obtain ⟨rfl, rfl, rfl⟩ := trodAll_nil r2
  obtain rfl : args = #[v0, v1, v2] := by cases args; simp_all
  obtain ⟨rfl, rfl⟩ := trodVars_none hV
  obtain ⟨a0, len0, cap0, rfl⟩ := okWide_slice Tryd.underlying22 (hval 0 22 v0 rfl rfl)
  have k0 := h0
  have lt0 : ∀ x ∈ p0, x.block < W.heap.size := by obtain ⟨m, hm⟩ := k0; exact DataW.trod_lt m _ _ _ hm
  have w0 : MixRows [some .i64, some .i64, some .u8] W a0 len0 := mixrows_of Tryd.underlying22 (.struct Tryd.underlying24 (.cons rfl (.int Tryd.underlying3) (by kernel_rfl) (.cons rfl (.int Tryd.underlying3) (by kernel_rfl) (.cons rfl (.int Tryd.underlying5) (by kernel_rfl) .nil)))) (by kernel_rfl) h0
  have k1 := h1
  have lt1 : ∀ x ∈ p1, x.block < W.heap.size := by obtain ⟨m, hm⟩ := k1; exact DataW.trod_lt m _ _ _ hm
  have w1 : Flat [some .i64, some .i64] v1 := flat_of_arr (ks := [some .i64, some .i64]) Tryd.underlying50 (by
    obtain ⟨ks, hk, e⟩ : ∃ ks, FlatTy Tryd.prog 50 ks ∧ ks = [some .i64, some .i64] := ⟨_, (.array Tryd.underlying50 (.int Tryd.underlying3) (by kernel_rfl)), rfl⟩
    rw [← e]; exact hk) (by kernel_rfl) (hval 1 50 v1 rfl rfl) h1
  obtain ⟨a2, rfl, rfl, rfl, w2⟩ := open_int Tryd.underlying5 (hval 2 5 v2 rfl rfl) h2
  clear hA0 hval0
  refine (walk a0 len0 cap0 v1 a2 W w0 w1 w2 (handle_of_hs hL'.2)).mono fun e W' ⟨he, bel⟩ => ?_
  subst he
  exact ⟨_, rfl, _, _, _, [], _, [], hW', trodAll_mk1 (shut_bool Tryd.underlying4 _), (trodAll_cons_mk (Below.trod laidOut (by kernel_rfl) (of_decide_eq_true (by kernel_rfl)) k0 bel lt0) (trodAll_cons_mk (Below.trod laidOut (by kernel_rfl) (of_decide_eq_true (by kernel_rfl)) k1 bel lt1) (trodAll_cons_mk (shut_int Tryd.underlying5 w2) trodAll_mk0))), rfl, bel.frame _, fun h => by cases h⟩

theorem over : Rows.regionCutsRow.holds Tryd.pinned (OpenSpec.ofChange Rows.regionCutsSpec) :=
  OpenClaim.holds_of_wide 4 Tryd.f4 rfl rfl rfl rfl rfl rfl rfl ⟨rfl, rfl, rfl, rfl, rfl⟩ rfl rfl rfl rfl rfl (by kernel_rfl) Tryd.func4 (by kernel_rfl)
    (of_decide_eq_true (by kernel_rfl)) (by unfold Func.isWrapper; first | (rw [if_pos (by decide +kernel)]; kernel_rfl) | (rw [if_neg (by decide +kernel)]; exact ⟨rfl, rfl⟩))
    (fun os started H enc _ => lifted os started H enc)

theorem proved : Rows.RegionCutsSaid := over
theorem card : Rows.RegionCutsCardSaid :=
  Claim7.holds_tied_plain_at .later [] [.handle] true (true, "e3df8fdff194a53b3cbee48b5b08da0a79fd8825e1a4a6547a17b4aada310e85") true
    over (fun _ h => by cases h) (by kernel_rfl) (fun _ h => by cases h) regionCuts_row_tie rfl ⟨rfl, rfl⟩ (by kernel_rfl) rfl
    (fun f fn hf hfn => by
      obtain rfl : f = 4 := Option.some.inj ((show Tryd.prog.funcNamed "halter/halterlaw13.RegionCuts" = some 4 by kernel_rfl).symm.trans hf) |>.symm
      obtain rfl : fn = Tryd.f4 := (Option.some.inj (Tryd.func4.symm.trans hfn)).symm
      exact ⟨by kernel_rfl, fun j t ht => by
        rw [Tryd.params4] at ht
        have hm : t ∈ [22, 50, 5] := by have := Array.mem_of_getElem? ht; simpa using this
        have hall : ([22, 50, 5].all fun u => !Tryd.prog.wantsStandIn u) = true := by kernel_rfl
        exact (show Tryd.prog.wantsStandIn t = false by simpa using List.all_eq_true.1 hall t hm)⟩)
    (by kernel_rfl)
#print axioms card
end Go.Proofs.YtfkjgbenjdmedaaDoor.regionCuts
