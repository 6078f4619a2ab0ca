/- Any program as bytes, and the program of any bytes, or the errors, is as the document answers; the statement holds for every input, where the listed variable holds what the library's own text lays, which the card ties. -/
import Derived.Test.YtealjgfijlencaaDoorRows
import Derived.Test.YtealjgfijlencaaDoorImJ
import Derived.Test.YtealjgfijlencaaDoorFkIn
import Derived.Test.YtealjgfijlencaaDoorLay
import Derived.Deep.RegionHeld3
import Derived.Test.YtealjgfijlencaaDoorCards
import Derived.Test.YtealjgfijlencaaDoorTie
import Derived.LaidMore
import Derived.LaidLaws
import Derived.LaidHandle
import Derived.Test.YtealjgfijlencaaDoorLay
import Derived.Test.YtealjgfijlencaaDoorPost
import Derived.WalkKit
import Derived.ProofKit
import Derived.OpenShut
import Derived.ShutString
import Derived.ChangeOld
import Derived.Below
namespace Go.Proofs.YtealjgfijlencaaDoor.imageForms
open Go.ChangeShapes Go.WideShapes Go.ChangeAt Go.RowKit
open Go.ChangeMaps (open_string shut_string)
set_option linter.unusedVariables false

theorem own : ownKnob Tryd.prog.godebug = none := by kernel_rfl
theorem laidOut : laidOutB Tryd.prog = true := by kernel_rfl

/-- WHAT THE WALK IS TOLD OF A SLICE OF INTEGERS THAT CAME IN: it is nil; or it leads to a row of 'cap' cells, the numbers 'zs' (the first 'len' are its elements, the rest its spare room), each fitting its kind. -/
def IsRow (k : IntKind) (w : World) (a : Option Addr) (len cap : Nat) (zs : List Int) : Prop :=
  (a = none ∧ len = 0 ∧ cap = 0 ∧ zs = []) ∨
  ∃ x, a = some x ∧ len ≤ cap ∧ cap ≤ maxLen ∧ zs.length = cap ∧ (∀ i, i < zs.length → w.cell? (x.add i) = some (.int k (zs.getD i 0))) ∧ ∀ n ∈ zs, (Lit.int k n).wf = true

/-! ### STEP 1: THE WALK: the Go text returns true, AND WRITES NOTHING THAT WAS THERE: 'Below w.heap.size w w'' (Derived/Below.lean: '.refl', '.alloc', '.drew', '.setCell' at a new block, '.trans'). Open each 'IsRow' by 'rcases' AHEAD of 'go_enter'; part every test ahead of the walk. -/
set_option maxHeartbeats 8000000 in
set_option maxRecDepth 100000 in
theorem walk (v0 : Value) (a1 : Option Addr) (len1 cap1 : Nat) (z1 : List Int) (w : World) (w0 : FvVal [.one (.num .u32), .rows [.num .i64, .num .i64, .num .u8, .bys]] w v0) (w1 : IsRow .u8 w a1 len1 cap1 z1) (hl : Laid w) :
    Calls Tryd.prog 3 #[v0, .slice a1 len1 cap1] w fun e w' => e = .returned (.bool true) ∧ Below w.heap.size w w' := by
  obtain ⟨e, v, L, rfl, he, hS, hSB⟩ := img_in w0
  obtain ⟨b, hBY, hOC⟩ := byts_row w1
  clear w0 w1
  have CS := Lib.hid (fun W (k : New w W) => imsure_any W (hl.new k))
  have CN := Lib.hid (fun W (k : New w W) (x : Int) => num_er x W (hl.new k))
  clear hl
  obtain ⟨p, cap, rfl, hcap, hm⟩ := hS.shape
  obtain ⟨D, hD⟩ : ∃ D, D = w.alloc (.cells #[.int .u32 e, .slice p L.length cap] 25) := ⟨_, rfl⟩
  have nD : New w D := by rw [hD]; exact (New.refl w).alloc _ _
  have bI : Box D w.heap.size #[.int .u32 e, .slice p L.length cap] 25 := by rw [hD]; exact Box.here _ _ _ _ rfl
  have HS := Lib.hid (hS.new nD)
  have ND := Lib.hid nD
  have BI := Lib.hid bI
  obtain ⟨i0, i1⟩ := bI.two
  generalize hln : L.length = ln at *
  have HLN := Lib.hid hln
  have HSB := Lib.hid hSB
  have HE := Lib.hid he
  have HBY := Lib.hid hBY
  have HOC := Lib.hid hOC
  clear hS hSB he hBY hOC nD bI hln hcap hm
  by_cases c20 : 20 < ln
  · go_enter Tryd.func3, Tryd.ntmps3
    go_upto_region 1 with fail
    rw [← hD]
    clear hD
    go_wp2_with fail
    refine (CS.out _ ND.out).mono ?_
    rintro en w1 ⟨rfl, n1⟩
    go_wp2
    go_ret
    exact ⟨rfl, ND.out.trans n1⟩
  · go_enter Tryd.func3, Tryd.ntmps3
    go_upto_region 1 with fail
    rw [← hD]
    clear hD
    go_wp2_with fail
    go_loopg [5] ln (fun q kv wr => ∃ j : Nat, j + q = ln ∧ kv = .int .i64 (j : Int) ∧ wr = D)
    case atStart => exact ⟨0, by omega, rfl, rfl⟩
    case round =>
      obtain ⟨j, hj, rfl, rfl⟩ := hrel
      have J := Lib.hid hj
      by_cases c : j < ln
      · have hjL : j < L.length := by rw [HLN.out]; exact c
        obtain ⟨a, dp, dc, rfl, d0, d1, d2, d3, db⟩ := HS.out.cells rfl j hjL
        rw [fad a (j * 4) 3 (by omega)] at d3
        generalize L[j].d.length = dn at *
        clear d0 d1 d2 db hj hjL
        by_cases c2 : 2000 < dn
        · go_wp2_with fail
          refine (CS.out _ ND.out).mono ?_
          rintro en w1 ⟨rfl, n1⟩
          go_wp2
          go_ret
          exact ⟨rfl, ND.out.trans n1⟩
        · go_wp2
          go_roundg (ln - (j + 1))
          case measure => have := J.out; omega
          case rel => exact ⟨j + 1, by have := J.out; omega, by go_num, rfl⟩
      · obtain rfl : j = ln := by omega
        clear hj
        go_wp2_with fail
        refine (rgive_any HS.out (by have := HLN.out; omega) e).mono ?_
        rintro en w1 ⟨v1, rfl, ow1, n1⟩
        have S1 := ow1.sgs n1
        obtain ⟨q1, k1, rfl, -, -⟩ := S1.shape
        have M1 := Lib.hid (ND.out.trans n1)
        have bI1 := BI.out.new n1
        have BI1 := Lib.hid bI1
        have HS1 := Lib.hid (HS.out.new n1)
        clear n1 ow1 bI1 i0 i1
        go_wp2_with fail
        refine (penc_im S1 HSB.out e HE.out).mono ?_
        rintro en w2 ⟨bv, rfl, ob, n2⟩
        obtain ⟨pb, kb, rfl⟩ := ob.shape
        have M2 := Lib.hid (M1.out.trans n2)
        have OB2 := Lib.hid ob.byts
        have BI2 := Lib.hid (BI1.out.new n2)
        have HS2 := Lib.hid (HS1.out.new n2)
        obtain ⟨i0, i1⟩ := BI2.out.two
        clear n2 ob S1 BI1 HS1
        have CR := renc_im HS2.out HSB.out e HE.out
        have CK := Lib.hid (fun W v (k : Sgs RSp W v L) => pcheck_im k HSB.out e HE.out)
        have HIX := Lib.hid (imE_or e L)
        have HDL := Lib.hid (dL_len HOC.out)
        have CX := Lib.hid (fun W (k : New w W) => pdec_im (HBY.out.new k) HOC.out)
        have CY := Lib.hid (fun W (k : New w W) => rdec_any (HBY.out.new k) HOC.out)
        generalize imE e L = ix at *
        generalize imT e L = bt at *
        generalize dE b = xe at *
        generalize dX b = xx at *
        generalize dL b = XL at *
        go_wp2_with fail
        refine CR.mono ?_
        rintro en w3 ⟨u3, rfl, o3, n3⟩
        obtain ⟨p3, k3, rfl, -⟩ := id o3
        have M3 := Lib.hid (M2.out.trans n3)
        have OB3 := Lib.hid (OB2.out.new n3)
        have O3 := Lib.hid o3
        have BI3 := Lib.hid (BI2.out.new n3)
        have HS3 := Lib.hid (HS2.out.new n3)
        clear CR o3 n3 OB2 BI2 HS2 i0 i1
        go_wp2_with fail
        refine (CX.out _ M3.out).mono ?_
        rintro en w4 ⟨sv, rfl, s4, n4⟩
        obtain ⟨q4, k4, rfl, -, -⟩ := s4.sgs.shape
        have aN := (New.refl w4).alloc #[.int .u32 xe, .slice q4 XL.length k4] 36
        have nx := n4.trans aN
        have M4 := Lib.hid (M3.out.trans nx)
        have S4 := Lib.hid (s4.sgs.new aN)
        have OB4 := Lib.hid (OB3.out.new nx)
        have O4 := Lib.hid (O3.out.new nx)
        have BI4 := Lib.hid (BI3.out.new nx)
        have HS4 := Lib.hid (HS3.out.new nx)
        have BX4 := Lib.hid (Box.here w4 w4.heap.size #[.int .u32 xe, .slice q4 XL.length k4] 36 rfl)
        clear aN nx n4 s4 OB3 O3 BI3 HS3
        go_wp2_with fail
        refine (CY.out _ M4.out).mono ?_
        rintro en w5 ⟨sy, rfl, s5, n5⟩
        obtain ⟨q5, k5, rfl, -, -⟩ := s5.shape
        go_upto_region 12 with fail
        obtain ⟨W, hW⟩ : ∃ W, W = w5.alloc (.cells #[.int .u32 xe, .slice q5 XL.length k5] 25) := ⟨_, rfl⟩
        have aN : New w5 W := by rw [hW]; exact (New.refl w5).alloc _ _
        have BY5 := Lib.hid (show Box W w5.heap.size #[.int .u32 xe, .slice q5 XL.length k5] 25 by rw [hW]; exact Box.here _ _ _ _ rfl)
        rw [← hW]
        clear hW
        have nx := n5.trans aN
        have M5 := Lib.hid (M4.out.trans nx)
        have S5a := Lib.hid (S4.out.new nx)
        have S5b := Lib.hid (s5.new aN)
        have BI5 := Lib.hid (BI4.out.new nx)
        have HS5 := Lib.hid (HS4.out.new nx)
        have BX5 := Lib.hid (BX4.out.new nx)
        have str1 := str_of (OB4.out.new nx)
        have str2 := str_of (O4.out.new nx)
        generalize strOfNums bt = sd at *
        clear aN nx n5 s5 S4 OB4 O4 BI4 HS4 BX4
        go_wp2_with fail
        refine (CN.out _ M5.out ix).mono ?_
        rintro en w6 ⟨rfl, n6⟩
        have M6 := Lib.hid (M5.out.trans n6)
        have BI6 := Lib.hid (BI5.out.new n6)
        have HS6 := Lib.hid (HS5.out.new n6)
        have CI := risim_any (S5a.out.new n6) (S5b.out.new n6) (by have := HDL.out; omega) xe
        obtain ⟨x0, x1⟩ := (BX5.out.new n6).two
        obtain ⟨y0, y1⟩ := (BY5.out.new n6).two
        clear n6 str1 str2 S5a S5b BI5 HS5 BX5 BY5
        go_wp2_with fail
        refine CI.mono ?_
        rintro en w7 ⟨rfl, n7⟩
        have M7 := Lib.hid (M6.out.trans n7)
        have BI7 := Lib.hid (BI6.out.new n7)
        have HS7 := Lib.hid (HS6.out.new n7)
        clear CI n7 x0 x1 y0 y1 BI6 HS6
        go_wp2_with fail
        refine (CN.out _ M7.out xx).mono ?_
        rintro en w8 ⟨rfl, n8⟩
        have M8 := Lib.hid (M7.out.trans n8)
        have HS8 := Lib.hid (HS7.out.new n8)
        obtain ⟨i0, i1⟩ := (BI7.out.new n8).two
        clear n8 BI7 HS7
        go_wp2_with fail
        refine (rgive_any HS8.out (by have := HLN.out; omega) e).mono ?_
        rintro en w9 ⟨v9, rfl, ow9, n9⟩
        have S9 := ow9.sgs n9
        obtain ⟨q9, k9, rfl, -, -⟩ := S9.shape
        have M9 := Lib.hid (M8.out.trans n9)
        have CK9 := CK.out _ _ S9
        clear n9 ow9 S9 HS8 i0 i1 CK
        go_wp2_with fail
        refine CK9.mono ?_
        rintro en w10 ⟨rfl, n10⟩
        have M10 := Lib.hid (M9.out.trans n10)
        clear n10 CK9
        rcases HIX.out with rfl | rfl
        · rw [erN_zero]
          go_wp2_with fail
          refine (CS.out _ M10.out).mono ?_
          rintro en w11 ⟨rfl, n11⟩
          go_wp2
          go_ret
          exact ⟨rfl, M10.out.trans n11⟩
        · rw [erN_pos (show (8 : Int) ≠ 0 by decide)]
          go_wp2_with fail
          refine (CS.out _ M10.out).mono ?_
          rintro en w11 ⟨rfl, n11⟩
          go_wp2
          go_ret
          exact ⟨rfl, M10.out.trans n11⟩

/-! ### THE ROW's STEP: WRITTEN OUT: LEAVE IT -/
theorem door_met (os : Os) (args : Array Value) : laidMetH Tryd.prog Rows.imageFormsRow.laid ((World.doorLaid Tryd.prog 400 os).forCall (fun _ _ => 0) ⟨#[], args, []⟩).memory :=
  laidMetH_of_parts3 (fuel := 8) (laidMet_of_run' 8 (by kernel_rfl) (by kernel_rfl)) (by kernel_rfl) (by kernel_rfl)
set_option maxRecDepth 100000 in
theorem lifted (os : Os) (started : os.Started) (H : Type) (enc : TypeId × Value → H) :
    ReturnsInHanded {} Tryd.checked os 3 .any (fun w args => (Rows.imageFormsSpec.pre enc Tryd.prog Tryd.f3 [] false w args ∧ laidMetH Tryd.prog Rows.imageFormsRow.laid w) ∧ sizedMet enc Tryd.prog Tryd.f3 (OpenSpec.ofChange Rows.imageFormsSpec) false w args) (Rows.imageFormsSpec.post enc Tryd.prog Tryd.f3 false true false false) := by
  refine returnsInHanded_of_change_and (C := Tryd.checked) (X := fun w _ => laidMetH Tryd.prog Rows.imageFormsRow.laid w) (fun _ _ _ hh h => h.of_heap hh) own started (by kernel_rfl) Tryd.func3
    (ChangeSpec.witness_shaped (enc := enc) (C := Tryd.checked) (os := os) (X := fun w _ => laidMetH Tryd.prog Rows.imageFormsRow.laid w) false (World.doorLaid Tryd.prog 400 os) #[.agg #[.int .u32 0, .slice none 0 0], .slice none 0 0] 8 rfl (World.shaped_of_RefB (by kernel_rfl) (by kernel_rfl)) (by kernel_rfl) (by kernel_rfl) (by kernel_rfl) (door_met os _)) ?_
  intro W base args ds gs before hval0 hW _ _ hL _
  have hL' : laidMet Tryd.prog [] W ∧ handlesMet Tryd.prog [("errors.errorType", Rows.laid_errors_errorType)] W := hL
  have hval : ∀ (j : Nat) t v, Tryd.f3.params[j]? = some t → args[j]? = some v → Value.okWide Tryd.prog W .any base t v := hval0
  have hW' := hW
  obtain ⟨p, q, hA0, hV, rfl, hfz, hnd⟩ := hW
  have hA : DataW.TrodAll enc Tryd.prog W 0 (fun _ => true) true Tryd.f3.params.toList args.toList ds p := hA0
  rw [Tryd.params3] at hA hval
  obtain ⟨v0, vs0, d0, ds0, p0, q0, hargs, rfl, rfl, h0, r0⟩ := trodAll_cons hA
  obtain ⟨v1, vs1, d1, ds1, p1, q1, rfl, rfl, rfl, h1, r1⟩ := trodAll_cons r0
  obtain ⟨rfl, rfl, rfl⟩ := trodAll_nil r1
  obtain rfl : args = #[v0, v1] := by cases args; simp_all
  obtain ⟨rfl, rfl⟩ := trodVars_none hV
  have k0 := h0
  have lt0 : ∀ x ∈ p0, x.block < W.heap.size := by obtain ⟨m, hm⟩ := k0; exact DataW.trod_lt m _ _ _ hm
  have w0 : FvVal [.one (.num .u32), .rows [.num .i64, .num .i64, .num .u8, .bys]] W v0 := fvval_of Tryd.underlying25 (by kernel_rfl) (by kernel_rfl) rfl (fun i f c hf hc => by
    rcases i with _| _| _
    · simp at hf hc; subst hf hc
      exact Tryd.underlying22
    · simp at hf hc; subst hf hc
      exact ⟨_, _, Tryd.underlying23, Tryd.underlying29, by kernel_rfl, by kernel_rfl, rfl, fun i f c hf hc => by
        rcases i with _| _| _| _| _
        · (simp at hf hc; subst hf hc; exact Tryd.underlying3)
        · (simp at hf hc; subst hf hc; exact Tryd.underlying3)
        · (simp at hf hc; subst hf hc; exact Tryd.underlying5)
        · (simp at hf hc; subst hf hc; exact ⟨_, Tryd.underlying26, Tryd.underlying5, by kernel_rfl⟩)
        · simp at hc⟩
    · simp at hc) (hval 0 25 v0 rfl rfl) h0
  obtain ⟨a1, len1, cap1, rfl⟩ := okWide_slice Tryd.underlying26 (hval 1 26 v1 rfl rfl)
  have k1 := h1
  have lt1 : ∀ x ∈ p1, x.block < W.heap.size := by obtain ⟨m, hm⟩ := k1; exact DataW.trod_lt m _ _ _ hm
  obtain ⟨z1, w1⟩ : ∃ zs, IsRow .u8 W a1 len1 cap1 zs := by
    obtain ⟨fuel, hf⟩ := h1
    rcases open_ints Tryd.underlying26 Tryd.underlying5 (by kernel_rfl) hf with ⟨hcs, _⟩ | ⟨x, l, c, zs, hcs, _, hl, hm, hz, _, hcell, hwz⟩
    · simp [Value.cells] at hcs
      obtain ⟨rfl, rfl, rfl⟩ := hcs
      exact ⟨[], .inl ⟨rfl, rfl, rfl, rfl⟩⟩
    · simp [Value.cells] at hcs
      obtain ⟨rfl, rfl, rfl⟩ := hcs
      exact ⟨zs, .inr ⟨_, rfl, hl, hm, by simpa using hz, hcell, hwz⟩⟩
  clear hA0 hval0
  refine (walk v0 a1 len1 cap1 z1 W w0 w1 (handle_of_hs hL'.2)).mono fun e W' ⟨he, bel⟩ => ?_
  subst he
  exact ⟨_, rfl, _, _, _, [], _, [], hW', trodAll_mk1 (shut_bool Tryd.underlying4 _), (trodAll_cons_mk (Below.trod laidOut (by kernel_rfl) (of_decide_eq_true (by kernel_rfl)) k0 bel lt0) (trodAll_cons_mk (Below.trod laidOut (by kernel_rfl) (of_decide_eq_true (by kernel_rfl)) k1 bel lt1) trodAll_mk0)), rfl, bel.frame _, fun h => by cases h⟩

theorem over : Rows.imageFormsRow.holds Tryd.pinned (OpenSpec.ofChange Rows.imageFormsSpec) :=
  OpenClaim.holds_of_wide 3 Tryd.f3 rfl rfl rfl rfl rfl rfl rfl ⟨rfl, rfl, rfl, rfl, rfl⟩ rfl rfl rfl rfl rfl (by kernel_rfl) Tryd.func3 (by kernel_rfl)
    (of_decide_eq_true (by kernel_rfl)) (by unfold Func.isWrapper; first | (rw [if_pos (by decide +kernel)]; kernel_rfl) | (rw [if_neg (by decide +kernel)]; exact ⟨rfl, rfl⟩))
    (fun os started H enc _ => lifted os started H enc)

theorem proved : Rows.ImageFormsSaid := over
theorem card : Rows.ImageFormsCardSaid :=
  Claim7.holds_tied_plain_at .later [] [.handle] true (true, "c673f5b26ecd1a14bde79e3f67d0e7c3043df558c0ec58ae2d7ad4ff549159af") true
    over (fun _ h => by cases h) (by kernel_rfl) (fun _ h => by cases h) imageForms_row_tie rfl ⟨rfl, rfl⟩ (by kernel_rfl) rfl
    (fun f fn hf hfn => by
      obtain rfl : f = 3 := Option.some.inj ((show Tryd.prog.funcNamed "halter/halterlaw21.ImageForms" = some 3 by kernel_rfl).symm.trans hf) |>.symm
      obtain rfl : fn = Tryd.f3 := (Option.some.inj (Tryd.func3.symm.trans hfn)).symm
      exact ⟨by kernel_rfl, fun j t ht => by
        rw [Tryd.params3] at ht
        have hm : t ∈ [25, 26] := by have := Array.mem_of_getElem? ht; simpa using this
        have hall : ([25, 26].all fun u => !Tryd.prog.wantsStandIn u) = true := by kernel_rfl
        exact (show Tryd.prog.wantsStandIn t = false by simpa using List.all_eq_true.1 hall t hm)⟩)
    (by kernel_rfl)
#print axioms card
end Go.Proofs.YtealjgfijlencaaDoor.imageForms
