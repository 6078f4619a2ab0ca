/- Any instruction as a text, any operation's name, and what its text has, or the error, are the document's own; the statement holds for every input, where the listed variables hold what the program's and the library's own text lay, which the card ties. -/
import Derived.Test.YtlpjegclpilaaaaGreatDoorRows
import Derived.Test.YtlpjegclpilaaaaGreatDoorAmF
import Derived.Test.YtlpjegclpilaaaaGreatDoorAmRt
import Derived.Test.YtlpjegclpilaaaaGreatDoorFlat
import Derived.Test.YtlpjegclpilaaaaGreatDoorBox
import Derived.Test.YtlpjegclpilaaaaGreatDoorNum
import Derived.Deep.QuietTactic
import Derived.BigQuiet
import Derived.Deep.DeepCutAuto
import Derived.Deep.RegionWith
import Derived.Test.YtlpjegclpilaaaaGreatDoorCards
import Derived.Test.YtlpjegclpilaaaaGreatDoorTie
import Derived.LaidMore
import Derived.LaidLaws
import Derived.LaidHandle
import Derived.Test.YtlpjegclpilaaaaGreatDoorAmLay
import Derived.Test.YtlpjegclpilaaaaGreatDoorShape
import Derived.Lay
import Derived.Test.YtlpjegclpilaaaaGreatDoorLay
import Derived.Test.YtlpjegclpilaaaaGreatDoorPost
import Derived.WalkKit
import Derived.ProofKit
import Derived.OpenShut
import Derived.ShutString
import Derived.ChangeOld
import Derived.Below
namespace Go.Proofs.YtlpjegclpilaaaaGreatDoor.asmTexts
open Go.ChangeShapes Go.WideShapes Go.ChangeAt Go.RowKit
open Go.ChangeMaps (open_string shut_string)
set_option linter.unusedVariables false

theorem own : ownKnob Tryz.prog.godebug = none := by kernel_rfl
theorem laidOut : laidOutB Tryz.prog = true := by kernel_rfl

/-- WHAT THE WALK IS TOLD OF A SLICE OF INTEGERS THAT CAME IN: it is nil; or it leads to a row of 'cap' cells, the numbers 'zs' (the first 'len' are its elements, the rest its spare room), each fitting its kind. -/
def IsRow (k : IntKind) (w : World) (a : Option Addr) (len cap : Nat) (zs : List Int) : Prop :=
  (a = none ∧ len = 0 ∧ cap = 0 ∧ zs = []) ∨
  ∃ x, a = some x ∧ len ≤ cap ∧ cap ≤ maxLen ∧ zs.length = cap ∧ (∀ i, i < zs.length → w.cell? (x.add i) = some (.int k (zs.getD i 0))) ∧ ∀ n ∈ zs, (Lit.int k n).wf = true

/-! ### STEP 1: THE WALK: the Go text returns true, AND WRITES NOTHING THAT WAS THERE: 'Below w.heap.size w w'' (Derived/Below.lean: '.refl', '.alloc', '.drew', '.setCell' at a new block, '.trans'). Open each 'IsRow' by 'rcases' AHEAD of 'go_enter'; part every test ahead of the walk. -/
set_option maxHeartbeats 8000000 in
set_option maxRecDepth 100000 in
theorem walk (v0 : Value) (a1 : Int) (w : World) (w0 : Flat [some .i64, some .i64, some .i64, some .i64] v0) (w1 : (Lit.int .i64 a1).wf = true) (he : Env w) (hl : Laid w) :
    Calls Tryz.prog 3 #[v0, .int .i64 a1] w fun e w' => e = .returned (.bool true) ∧ Below w.heap.size w w' := by
  obtain ⟨x0, x1, x2, x3, rfl, ⟨o, rfl, wo⟩, ⟨a, rfl, wa⟩, ⟨b, rfl, wb⟩, ⟨m, rfl, wm⟩⟩ := flat4 w0
  have wa := i64_bd wa
  have wb := i64_bd wb
  have wm := i64_bd wm
  clear w0 wo w1
  have cS := fun W (k : Env W) => asure_any W k
  have cT := fun W (k : Env W) => text_any o a b m W k wa wb wm
  have cR := fun W => rtext_any o a b m W
  have hst := same_tx o a b m wa wb wm
  obtain ⟨X, c, eT, eR⟩ : ∃ (X : List UInt8) (c : Int), tv o a b m = .tuple #[.string (ba X), erN c] ∧ rtv o a b m = .tuple #[.string (ba X), .int .i64 c] := by
    by_cases hT : TxI o a b m
    · refine ⟨txtI o a b m, 0, ?_, ?_⟩
      · unfold tv; rw [if_pos (hst.2 hT)]; rfl
      · unfold rtv; rw [if_pos hT]
    · refine ⟨[], 22, ?_, ?_⟩
      · unfold tv; rw [if_neg (fun h => hT (hst.1 h)), er22]; rfl
      · unfold rtv; rw [if_neg hT]
  rw [eT] at cT
  rw [eR] at cR
  have e1 : ((ba X).toList == (ba X).toList) = true := ba_eq rfl
  clear eT eR hst wa wb wm
  have b0 := Box.here w _ #[.int .i64 o, .int .i64 a, .int .i64 b, .int .i64 m] 23 rfl
  have n0 := (New.refl w).alloc #[.int .i64 o, .int .i64 a, .int .i64 b, .int .i64 m] 23
  go_enter Tryz.func3, Tryz.ntmps3
  go_wp2_with fail
  refine (cT _ (he.new n0)).mono ?_
  rintro e w1 ⟨rfl, n1⟩
  have b1 := b0.new n1
  have N1 := n0.trans n1
  clear b0 n0 n1 cT
  obtain ⟨y0, y1, y2, y3⟩ := b1.four
  have hz := b1.lt
  go_wp2_with fail
  refine (cR _).mono ?_
  rintro e w2 ⟨rfl, n2⟩
  have N2 := N1.trans n2
  clear b1 N1 n2 cR y0 y1 y2 y3 hz
  by_cases hop : 0 ≤ a1 ∧ a1 < 42
  · obtain ⟨k, rfl⟩ : ∃ k : Nat, a1 = (k : Int) := ⟨a1.toNat, by omega⟩
    have hk : k < 42 := by omega
    have k0 : (0 : Int) ≤ (k : Int) := hop.1
    have k1 : (k : Int) < 42 := hop.2
    have hFo : ∀ (W : World), Calls Tryz.prog 8 #[] W fun e w' => ∃ A, e = .returned (.slice (some ⟨A, 0, none⟩) 42 42) ∧ w'.cell? ⟨A, k * 2, none⟩ = some (.string (ba (nm k))) ∧ w'.cell? ⟨A, k * 2 + 1, none⟩ = some (.string (ba (nd k))) ∧ New W w' := fun W => by
      refine (forms_new W).mono ?_
      rintro e w' ⟨A, rfl, h, n⟩
      exact ⟨A, rfl, (h k hk).1, (h k hk).2, n⟩
    have cN := fun W (q : Env W) => aname k W q hk
    have cD := fun W (q : Env W) => aneeds k W q hk
    clear hop hk
    go_wp2_with fail
    go_cut [9, 10] (fun s9 s10 wc => s9 = .string (ba (nm k)) ∧ s10 = .string (ba (nd k)) ∧ New w2 wc)
    case first =>
      clear cN cD cS e1
      generalize nm k = M at *
      generalize nd k = N at *
      go_region_with (first | (go_at_call 8; (first | (refine (hFo _).mono ?_; rintro e wq ⟨Aq, rfl, hq1, hq2, nq⟩; have r1 := New.keeps nq hp1; have r2 := New.keeps nq hp2; have hqs : Aq < wq.heap.size := lt_cell hq1; have NQ := New.trans np nq) | (refine (hFo _).mono ?_; rintro e wp ⟨Ap, rfl, hp1, hp2, np⟩; have hps : Ap < wp.heap.size := lt_cell hp1))))
      all_goals
        go_wp2_with fail
        go_meet
        case rel => exact ⟨rfl, rfl, by first | exact ((New.refl w2).drew).trans NQ | exact NQ⟩
    case rest =>
      obtain ⟨rfl, rfl, n3⟩ := hcut
      have N3 := N2.trans n3
      have e2 : ((ba (nm k)).toList == (ba (nm k)).toList) = true := ba_eq rfl
      have e3 : ((ba (nd k)).toList == (ba (nd k)).toList) = true := ba_eq rfl
      clear n3 N2 hFo
      go_wp2_with fail
      refine (num_er c _ (hl.new N3)).mono ?_
      rintro e w5 ⟨rfl, n5⟩
      have N5 := New.trans N3 n5
      go_wp2_with fail
      refine (cN _ (he.new N5)).mono ?_
      rintro e w6 ⟨rfl, rfl⟩
      go_wp2_with fail
      refine (cD _ (he.new N5)).mono ?_
      rintro e w7 ⟨rfl, rfl⟩
      go_wp2_with fail
      refine (cS _ (he.new N5)).mono ?_
      rintro e w8 ⟨rfl, n8⟩
      go_wp2
      go_ret
      exact ⟨rfl, N5.trans n8⟩
  · have cN := fun W (q : Env W) => name_any a1 W q
    have cD := fun W (q : Env W) => needs_any a1 W q
    rw [(nmI_no (o := a1) (by omega)).1] at cN
    rw [(nmI_no (o := a1) (by omega)).2] at cD
    have e3 : ((ba []).toList == []) = true := by rw [ba_list]; rfl
    have e4 : (ba []).toList.isEmpty = true := by rw [ba_list]; rfl
    by_cases k0 : 0 ≤ a1
    · have k1 : ¬ a1 < 42 := by omega
      have k2 : decide (a1 < 42) = false := decide_eq_false k1
      clear hop
      go_wp2_with fail
      refine (num_er c _ (hl.new N2)).mono ?_
      rintro e w5 ⟨rfl, n5⟩
      have N5 := New.trans N2 n5
      go_wp2_with fail
      refine (cN _ (he.new N5)).mono ?_
      rintro e w6 ⟨rfl, rfl⟩
      go_wp2_with fail
      refine (cD _ (he.new N5)).mono ?_
      rintro e w7 ⟨rfl, rfl⟩
      go_wp2_with fail
      refine (cS _ (he.new N5)).mono ?_
      rintro e w8 ⟨rfl, n8⟩
      go_wp2
      go_ret
      exact ⟨rfl, N5.trans n8⟩
    · clear hop
      go_wp2_with fail
      refine (num_er c _ (hl.new N2)).mono ?_
      rintro e w5 ⟨rfl, n5⟩
      have N5 := New.trans N2 n5
      go_wp2_with fail
      refine (cN _ (he.new N5)).mono ?_
      rintro e w6 ⟨rfl, rfl⟩
      go_wp2_with fail
      refine (cD _ (he.new N5)).mono ?_
      rintro e w7 ⟨rfl, rfl⟩
      go_wp2_with fail
      refine (cS _ (he.new N5)).mono ?_
      rintro e w8 ⟨rfl, n8⟩
      go_wp2
      go_ret
      exact ⟨rfl, N5.trans n8⟩

/-! ### THE ROW's STEP: WRITTEN OUT: LEAVE IT -/
theorem door_met (os : Os) (args : Array Value) : laidMetH Tryz.prog Rows.asmTextsRow.laid (((World.doorLaid Tryz.prog 400 os).layVars Tryz.prog (Rows.asmTextsRow.laid.filter fun x => x.2.handleName?.isNone)).forCall (fun _ _ => 0) ⟨#[], args, []⟩).memory :=
  laidMetH_of_parts3 (fuel := 8) (met_layAll _ (by kernel_rfl) (by kernel_rfl)) (by kernel_rfl) (by kernel_rfl)
set_option maxRecDepth 100000 in
theorem lifted (os : Os) (started : os.Started) (H : Type) (enc : TypeId × Value → H) :
    ReturnsInHanded {} Tryz.checked os 3 .any (fun w args => (Rows.asmTextsSpec.pre enc Tryz.prog Tryz.f3 [] false w args ∧ laidMetH Tryz.prog Rows.asmTextsRow.laid w) ∧ sizedMet enc Tryz.prog Tryz.f3 (OpenSpec.ofChange Rows.asmTextsSpec) false w args) (Rows.asmTextsSpec.post enc Tryz.prog Tryz.f3 false true false false) := by
  refine handed_shaped (C := Tryz.checked) (X := fun w _ => laidMetH Tryz.prog Rows.asmTextsRow.laid w) (fun _ _ _ hh h => h.of_heap hh) own started (by kernel_rfl) Tryz.func3
    (ChangeSpec.witness_shaped (enc := enc) (C := Tryz.checked) (os := os) (X := fun w _ => laidMetH Tryz.prog Rows.asmTextsRow.laid w) false ((World.doorLaid Tryz.prog 400 os).layVars Tryz.prog (Rows.asmTextsRow.laid.filter fun x => x.2.handleName?.isNone)) #[.agg #[.int .i64 0, .int .i64 0, .int .i64 0, .int .i64 0], .int .i64 0] 8 ((World.layVars_os _ _ _).trans rfl) (World.shaped_of_ZipB (by kernel_rfl) (by kernel_rfl)) (by kernel_rfl) (by kernel_rfl) (by kernel_rfl) (door_met os _)) ?_
  intro W base args ds gs before hval0 hW hL hsh
  have hF1 : (Rows.asmTextsRow.laid.filter fun x => x.2.handleName?.isSome) = [("errors.errorType", Rows.laid_errors_errorType)] := by kernel_rfl
  have hF2 : (Rows.asmTextsRow.laid.filter fun x => x.2.handleName?.isNone) = [("math/bits.deBruijn32tab", Rows.laid_math_bits_deBruijn32tab), ("math/bits.deBruijn64tab", Rows.laid_math_bits_deBruijn64tab), ("internal/strconv.uint64pow10", Rows.laid_internal_strconv_uint64pow10), ("unicode/utf8.acceptRanges", Rows.laid_unicode_utf8_acceptRanges), ("strconv.ErrRange", Rows.laid_strconv_ErrRange), ("strconv.ErrSyntax", Rows.laid_strconv_ErrSyntax), ("halter/asm.operations", Rows.laid_halter_asm_operations), ("unicode/utf8.first", Rows.laid_unicode_utf8_first)] := by kernel_rfl
  have hL' : laidMet Tryz.prog [("math/bits.deBruijn32tab", Rows.laid_math_bits_deBruijn32tab), ("math/bits.deBruijn64tab", Rows.laid_math_bits_deBruijn64tab), ("internal/strconv.uint64pow10", Rows.laid_internal_strconv_uint64pow10), ("unicode/utf8.acceptRanges", Rows.laid_unicode_utf8_acceptRanges), ("strconv.ErrRange", Rows.laid_strconv_ErrRange), ("strconv.ErrSyntax", Rows.laid_strconv_ErrSyntax), ("halter/asm.operations", Rows.laid_halter_asm_operations), ("unicode/utf8.first", Rows.laid_unicode_utf8_first)] W ∧ handlesMet Tryz.prog [("errors.errorType", Rows.laid_errors_errorType)] W := by
    unfold laidMetH at hL
    rw [hF1] at hL
    simp only [hF2] at hL
    exact hL
  have hval : ∀ (j : Nat) t v, Tryz.f3.params[j]? = some t → args[j]? = some v → Value.okWide Tryz.prog W .any base t v := hval0
  have hW' := hW
  obtain ⟨p, q, hA0, hV, rfl, hfz, hnd⟩ := hW
  have hA : DataW.TrodAll enc Tryz.prog W 0 (fun _ => true) true Tryz.f3.params.toList args.toList ds p := hA0
  rw [Tryz.params3] at hA hval
  obtain ⟨v0, vs0, d0, ds0, p0, q0, hargs, rfl, rfl, h0, r0⟩ := trodAll_cons hA
  obtain ⟨v1, vs1, d1, ds1, p1, q1, rfl, rfl, rfl, h1, r1⟩ := trodAll_cons r0
  obtain ⟨rfl, rfl, rfl⟩ := trodAll_nil r1
  obtain rfl : args = #[v0, v1] := by cases args; simp_all
  obtain ⟨rfl, rfl⟩ := trodVars_none hV
  have k0 := h0
  have lt0 : ∀ x ∈ p0, x.block < W.heap.size := by obtain ⟨m, hm⟩ := k0; exact DataW.trod_lt m _ _ _ hm
  have w0 : Flat [some .i64, some .i64, some .i64, some .i64] v0 := flat_of Tryz.underlying23 (by kernel_rfl) (by kernel_rfl) rfl (fun i k f hi hf => by
    rcases i with _| _| _| _| _
    · (simp at hi hf; subst hi hf; exact Tryz.underlying3)
    · (simp at hi hf; subst hi hf; exact Tryz.underlying3)
    · (simp at hi hf; subst hi hf; exact Tryz.underlying3)
    · (simp at hi hf; subst hi hf; exact Tryz.underlying3)
    · simp at hi) (hval 0 23 v0 rfl rfl) h0
  obtain ⟨a1, rfl, rfl, rfl, w1⟩ := open_int Tryz.underlying3 (hval 1 3 v1 rfl rfl) h1
  clear hA0 hval0
  refine (walk v0 a1 W w0 w1 (env_of hL'.1 hsh (by repeat (first | exact List.mem_cons_self | apply List.mem_cons_of_mem)) (by repeat (first | exact List.mem_cons_self | apply List.mem_cons_of_mem)) (by repeat (first | exact List.mem_cons_self | apply List.mem_cons_of_mem)) (by repeat (first | exact List.mem_cons_self | apply List.mem_cons_of_mem)) (by repeat (first | exact List.mem_cons_self | apply List.mem_cons_of_mem)) (by repeat (first | exact List.mem_cons_self | apply List.mem_cons_of_mem))) (handle_of_hs hL'.2)).mono fun e W' ⟨he, bel⟩ => ?_
  subst he
  exact ⟨_, rfl, _, _, _, [], _, [], hW', trodAll_mk1 (shut_bool Tryz.underlying4 _), (trodAll_cons_mk (Below.trod laidOut (by kernel_rfl) (of_decide_eq_true (by kernel_rfl)) k0 bel lt0) (trodAll_cons_mk (shut_int Tryz.underlying3 w1) trodAll_mk0)), rfl, bel.frame _, fun h => by cases h⟩

theorem over : Rows.asmTextsRow.holds Tryz.pinned (OpenSpec.ofChange Rows.asmTextsSpec) :=
  OpenClaim.holds_of_wide 3 Tryz.f3 rfl rfl rfl rfl rfl rfl rfl ⟨rfl, rfl, rfl, rfl, rfl⟩ rfl rfl rfl rfl rfl (by kernel_rfl) Tryz.func3 (by kernel_rfl)
    (of_decide_eq_true (by kernel_rfl)) (by unfold Func.isWrapper; first | (rw [if_pos (by decide +kernel)]; kernel_rfl) | (rw [if_neg (by decide +kernel)]; exact ⟨rfl, rfl⟩))
    (fun os started H enc _ => lifted os started H enc)

theorem proved : Rows.AsmTextsSaid := over
theorem card : Rows.AsmTextsCardSaid :=
  Claim7.holds_tied_plain_at .later [] [.data, .data, .data, .data, .handle, .sentinel, .sentinel, .data, .pinned] true (true, "fa9364a8e51e3452dba2177d8928db1681e68e51b74323dbbe468820f2a4a92c") true
    over (fun _ h => by cases h) (by kernel_rfl) (fun _ h => by cases h) asmTexts_row_tie rfl ⟨rfl, rfl⟩ (by kernel_rfl) rfl
    (fun f fn hf hfn => by
      obtain rfl : f = 3 := Option.some.inj ((show Tryz.prog.funcNamed "halter/halterlaw09.AsmTexts" = some 3 by kernel_rfl).symm.trans hf) |>.symm
      obtain rfl : fn = Tryz.f3 := (Option.some.inj (Tryz.func3.symm.trans hfn)).symm
      exact ⟨by kernel_rfl, fun j t ht => by
        rw [Tryz.params3] at ht
        have hm : t ∈ [23, 3] := by have := Array.mem_of_getElem? ht; simpa using this
        have hall : ([23, 3].all fun u => !Tryz.prog.wantsStandIn u) = true := by kernel_rfl
        exact (show Tryz.prog.wantsStandIn t = false by simpa using List.all_eq_true.1 hall t hm)⟩)
    (by kernel_rfl)
#print axioms card
end Go.Proofs.YtlpjegclpilaaaaGreatDoor.asmTexts
