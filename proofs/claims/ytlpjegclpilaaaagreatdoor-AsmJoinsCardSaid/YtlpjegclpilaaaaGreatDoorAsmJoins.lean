/- A program of some instructions' texts, a line each, is their numbers, in order; with one line that is none it is nothing, and that line is told; the statement holds for every input, where the listed variables hold what the program's and the library's own text lay, which the card ties. -/
import Derived.Test.YtlpjegclpilaaaaGreatDoorRows
import Derived.Test.YtlpjegclpilaaaaGreatDoorAmF
import Derived.Test.YtlpjegclpilaaaaGreatDoorAmJ
import Derived.Test.YtlpjegclpilaaaaGreatDoorIntRows
import Derived.Test.YtlpjegclpilaaaaGreatDoorNum
import Derived.Deep.LoopGhost
import Derived.Deep.QuietTactic
import Derived.BigQuiet
import Derived.Test.YtlpjegclpilaaaaGreatDoorCards
import Derived.Test.YtlpjegclpilaaaaGreatDoorTie
import Derived.LaidMore
import Derived.LaidLaws
import Derived.LaidHandle
import Derived.Test.YtlpjegclpilaaaaGreatDoorAmLay
import Derived.Test.YtlpjegclpilaaaaGreatDoorShape
import Derived.Lay
import Derived.Test.YtlpjegclpilaaaaGreatDoorLay
import Derived.Test.YtlpjegclpilaaaaGreatDoorPost
import Derived.WalkKit
import Derived.ProofKit
import Derived.OpenShut
import Derived.ShutString
import Derived.ChangeOld
import Derived.Below
namespace Go.Proofs.YtlpjegclpilaaaaGreatDoor.asmJoins
open Go.ChangeShapes Go.WideShapes Go.ChangeAt Go.RowKit
open Go.ChangeMaps (open_string shut_string)
set_option linter.unusedVariables false

theorem own : ownKnob Tryz.prog.godebug = none := by kernel_rfl
theorem laidOut : laidOutB Tryz.prog = true := by kernel_rfl

/-- WHAT THE WALK IS TOLD OF A SLICE OF INTEGERS THAT CAME IN: it is nil; or it leads to a row of 'cap' cells, the numbers 'zs' (the first 'len' are its elements, the rest its spare room), each fitting its kind. -/
def IsRow (k : IntKind) (w : World) (a : Option Addr) (len cap : Nat) (zs : List Int) : Prop :=
  (a = none ∧ len = 0 ∧ cap = 0 ∧ zs = []) ∨
  ∃ x, a = some x ∧ len ≤ cap ∧ cap ≤ maxLen ∧ zs.length = cap ∧ (∀ i, i < zs.length → w.cell? (x.add i) = some (.int k (zs.getD i 0))) ∧ ∀ n ∈ zs, (Lit.int k n).wf = true

/-! ### STEP 1: THE WALK: the Go text returns true, AND WRITES NOTHING THAT WAS THERE: 'Below w.heap.size w w'' (Derived/Below.lean: '.refl', '.alloc', '.drew', '.setCell' at a new block, '.trans'). Open each 'IsRow' by 'rcases' AHEAD of 'go_enter'; part every test ahead of the walk. -/
set_option maxHeartbeats 8000000 in
set_option maxRecDepth 100000 in
theorem walk (a0 : Option Addr) (len0 cap0 : Nat) (w : World) (w0 : IntRows .i64 4 w a0 len0) (he : Env w) (hl : Laid w) :
    Calls Tryz.prog 5 #[.slice a0 len0 cap0] w fun e w' => e = .returned (.bool true) ∧ Below w.heap.size w w' := by
  have cS := fun W (k : Env W) => asure_any W k
  by_cases hbig : 40 < len0
  · have g : (40 : Int) < (len0 : Int) := by omega
    clear w0
    go_enter Tryz.func5, Tryz.ntmps5
    go_wp2_with fail
    refine (cS _ he).mono ?_
    rintro e w1 ⟨rfl, n1⟩
    go_wp2
    go_ret
    exact ⟨rfl, n1⟩
  · have g : ¬ (40 : Int) < (len0 : Int) := by omega
    have HL := Lib.hid w0.2
    clear w0
    obtain ⟨i0, hi, hz0, hz1, hz2⟩ := info_parts u32_info
    go_enter Tryz.func5, Tryz.ntmps5
    go_wp2_with fail
    go_loopg [3, 4, 5] len0 (fun k s3 s4 s5 wr => ∃ (j : Nat) (Ls : List (List UInt8)) (vs : List Int), j + k = len0 ∧ s5 = .int .i64 (j : Int) ∧ s3 = .string (ba (catL Ls)) ∧ OwnU w.heap.size wr s4 vs ∧ Good Ls vs ∧ Ls.length ≤ j ∧ (catL Ls).length ≤ 100 * j ∧ New w wr)
    case atStart => exact ⟨0, [], [], by omega, rfl, rfl, OwnU.nil _ _, Good.nil, by simp, by simp [catL], New.refl _⟩
    case round =>
      obtain ⟨j, Ls, vs, hj, rfl, rfl, hown, hgood, hLl, hcl, hnx⟩ := hrel
      have hvl : vs.length ≤ j := by rw [hgood.len]; exact hLl
      have hE := he.new hnx
      by_cases hlt : j < len0
      · obtain ⟨x, rfl, hx⟩ := HL.out j hlt
        obtain ⟨o, ho, wo⟩ := hx 0 (by omega)
        obtain ⟨a, ha, wa⟩ := hx 1 (by omega)
        obtain ⟨b, hb, wb⟩ := hx 2 (by omega)
        obtain ⟨m, hm, wm⟩ := hx 3 (by omega)
        have wa := i64_bd wa
        have wb := i64_bd wb
        have wm := i64_bd wm
        rw [← hnx.cell (p := x.add (j * 4 + 0)) (cell_lt ho), Nat.add_zero] at ho
        rw [← hnx.cell (p := x.add (j * 4 + 1)) (cell_lt ha), add_field x _ 1 (by omega)] at ha
        rw [← hnx.cell (p := x.add (j * 4 + 2)) (cell_lt hb), add_field x _ 2 (by omega)] at hb
        rw [← hnx.cell (p := x.add (j * 4 + 3)) (cell_lt hm), add_field x _ 3 (by omega)] at hm
        clear hx wo
        have cT := text_any o a b m wr hE wa wb wm
        have hst := same_tx o a b m wa wb wm
        have hlt' : (j : Int) < (len0 : Int) := by omega
        have J := Lib.hid hj
        clear hj
        by_cases hT : TxI o a b m
        · have eT : tv o a b m = okv o a b m := by unfold tv; exact if_pos (hst.2 hT)
          rw [eT] at cT
          unfold okv at cT
          obtain ⟨k, rfl, hk42, hTx⟩ := hT
          have cE := fun W => iencode_ok (k : Int) a b m W hTx.1
          have hgood2 := hgood.snoc ((prs_txt k a b m wa wb wm).2 hTx)
          have hXl := txt_len k a b m wa wb wm
          rw [txtI_nat] at cT
          clear hst hTx hgood eT
          generalize txt k a b m = X at *
          generalize innum (k : Int) a b m = V at *
          go_wp2_with fail
          refine cT.mono ?_
          rintro e W2 ⟨rfl, n2⟩
          have ho := n2.keeps ho
          have ha := n2.keeps ha
          have hb := n2.keeps hb
          have hm := n2.keeps hm
          go_wp2_with fail
          refine (cE _).mono ?_
          rintro e W3 ⟨rfl, n3⟩
          have n5 := hnx.trans (n2.trans n3)
          have o5 := OwnU.new hown (n2.trans n3)
          have q1 : ¬ 9223372036854775807 < (ba (catL Ls)).size + (ba X).size := by rw [ba_size, ba_size]; omega
          have e1 : ba (catL Ls) ++ ba X = ba (catL Ls ++ X) := (ba_app _ _).symm
          have q2 : ¬ 9223372036854775807 < (ba (catL Ls ++ X)).size + 1 := by rw [ba_size, List.length_append]; omega
          have e2 : ba (catL Ls ++ X) ++ ⟨#[10]⟩ = ba (catL (Ls ++ [X])) := by rw [catL_snoc]; exact (ba_app _ [10]).symm
          have hcl2 : (catL (Ls ++ [X])).length ≤ 100 * (j + 1) := by rw [catL_snoc]; simp; omega
          clear ho ha hb hm cT cE n2 n3 hnx hown hE hcl
          go_wp2_with (at_builtin; refine wpList_append_own _ rfl _ _ 42 rfl w.heap.size 47 i0 (.int .u32 0) 1 4 Tryz.underlying42 hi hz0 hz1 hz2 rfl (by decide) _ _ _ rfl (World.ownsRow.alloc o5 _) ⟨W3.heap.size, 0, none⟩ 1 1 [.int .u32 V] rfl rfl ?c1 ?c2 ?c3 ?c4 ?c5 ?_)
          case c1 => intro i u hu; rcases i with _ | i <;> simp at hu; subst hu; exact (World.cell?_alloc_at _ _ _ _ rfl).trans rfl
          case c2 => intro u hu; simp at hu; subst hu; rfl
          case c3 => unfold maxLen; have := J.out; omega
          case c4 => have := J.out; omega
          case c5 => have := n5.size; simp; omega
          intro v' w1 hown' hgrow _
          obtain ⟨o6, n6⟩ := OwnU.push n5 (Nat.le_refl _) o5 hown' hgrow
          clear hown' hgrow o5 n5 q1 e1 q2 e2
          go_wp2
          go_roundg (len0 - (j + 1))
          case measure => have := J.out; omega
          case rel => exact ⟨j + 1, _, _, by have := J.out; omega, rfl, rfl, o6, hgood2, by simp; omega, hcl2, n6⟩
        · have eT : tv o a b m = nov := by unfold tv; exact if_neg (fun h => hT (hst.1 h))
          rw [eT] at cT
          unfold nov at cT
          have cE := fun W => iencode_any o a b m W
          clear hst eT hT
          generalize icv o a b m = ic at *
          generalize erN (ice o a b m) = ie at *
          go_wp2_with fail
          refine cT.mono ?_
          rintro e W2 ⟨rfl, n2⟩
          have ho := n2.keeps ho
          have ha := n2.keeps ha
          have hb := n2.keeps hb
          have hm := n2.keeps hm
          go_wp2_with fail
          refine (cE _).mono ?_
          rintro e W3 ⟨rfl, n3⟩
          have n5 := hnx.trans (n2.trans n3)
          have o5 := OwnU.new hown (n2.trans n3)
          clear ho ha hb hm cT cE n2 n3 hnx hown hE
          go_wp2
          go_roundg (len0 - (j + 1))
          case measure => have := J.out; omega
          case rel => exact ⟨j + 1, _, _, by have := J.out; omega, rfl, rfl, o5, hgood, by omega, by omega, n5⟩
      · obtain rfl : j = len0 := by omega
        have hge : ¬ (j : Int) < (j : Int) := by omega
        clear HL hj
        have c1 := program_any (catL Ls) wr (by omega) hE
        rw [hgood.whole] at c1
        have c2 := fun W (k : Env W) => program_any (catL Ls ++ bogT) W (by rw [List.length_append, show bogT.length = 8 from rfl]; omega) k
        rw [hgood.bogus] at c2
        have hlE := hl.new hnx
        have q1 : ¬ 9223372036854775807 < (ba (catL Ls)).size + 8 := by rw [ba_size]; omega
        have e1 : ba (catL Ls) ++ ⟨#[98, 111, 103, 117, 115, 32, 49, 10]⟩ = ba (catL Ls ++ bogT) := (ba_app _ bogT).symm
        go_wp2_with fail
        refine c1.mono ?_
        rintro e W2 ⟨v, rfl, hv, n2⟩
        simp only [erN_zero]
        have n5 := hnx.trans n2
        have o5 := OwnU.new hown n2
        have hE5 := he.new n5
        have hl5 := hl.new n5
        have hvb : vs.length ≤ 40 := by omega
        have HG := Lib.hid hgood.len
        clear c1 hown hnx n2 hE hlE hcl hLl hgood hvl
        obtain ⟨p1, k1, rfl, r1⟩ := hv.read
        obtain ⟨p2, k2, rfl, r2⟩ := o5.read
        clear hv o5
        go_wp2_with fail
        go_loopg [13] vs.length (fun k s13 wx => ∃ i : Nat, i + k = vs.length ∧ s13 = .int .i64 (i : Int) ∧ New W2 wx)
        case atStart => exact ⟨0, by omega, rfl, New.refl _⟩
        case round =>
          obtain ⟨i, hi2, rfl, nx⟩ := hrel
          by_cases hil : i < vs.length
          · obtain ⟨z, hz⟩ : ∃ z, vs[i]? = some z := ⟨_, List.getElem?_eq_getElem hil⟩
            obtain ⟨g1, rfl, hk1, hg1, hc1⟩ := r1 i z hz
            obtain ⟨g2, rfl, hk2, hg2, hc2⟩ := r2 i z hz
            have hc1 := nx.cellv hc1
            have hc2 := nx.cellv hc2
            have hil' : (i : Int) < (vs.length : Int) := by omega
            have zz : (z != z) = false := by simp
            clear hz r1 r2 c2 hE5 hl5 n5 cS
            go_wp2_with fail
            go_quiet (fail)
            go_wp2
            go_roundg (vs.length - (i + 1))
            case measure => omega
            case rel => exact ⟨i + 1, by omega, rfl, nx.drewN _⟩
          · have hil' : ¬ (i : Int) < (vs.length : Int) := by omega
            have hE6 := hE5.new nx
            have hl6 := hl5.new nx
            have n6 := n5.trans nx
            have hLb : Ls.length ≤ 40 := by rw [← HG.out]; exact hvb
            clear hE5 hl5 n5 nx r1 r2
            go_wp2_with fail
            refine (c2 _ hE6).mono ?_
            rintro e W3 ⟨v3, rfl, hv3, n3⟩
            obtain ⟨p3, k3, rfl, -⟩ := hv3.read
            go_wp2_with fail
            refine (num_er 22 _ (hl6.new n3)).mono ?_
            rintro e W4 ⟨rfl, n4⟩
            have hq : (1 : Int) + (Ls.length : Int) = (vs.length : Int) + 1 := by rw [HG.out]; omega
            have hw : wrap64 ((vs.length : Int) + 1) = (vs.length : Int) + 1 := IntWalk.wrap64_in _ (by omega)
            go_wp2_with fail
            refine (cS _ (hE6.new (n3.trans n4))).mono ?_
            rintro e W5 ⟨rfl, n5⟩
            go_wp2
            go_ret
            exact ⟨rfl, n6.trans ((n3.trans n4).trans n5)⟩

/-! ### THE ROW's STEP: WRITTEN OUT: LEAVE IT -/
theorem door_met (os : Os) (args : Array Value) : laidMetH Tryz.prog Rows.asmJoinsRow.laid (((World.doorLaid Tryz.prog 400 os).layVars Tryz.prog (Rows.asmJoinsRow.laid.filter fun x => x.2.handleName?.isNone)).forCall (fun _ _ => 0) ⟨#[], args, []⟩).memory :=
  laidMetH_of_parts3 (fuel := 8) (met_layAll _ (by kernel_rfl) (by kernel_rfl)) (by kernel_rfl) (by kernel_rfl)
set_option maxRecDepth 100000 in
theorem lifted (os : Os) (started : os.Started) (H : Type) (enc : TypeId × Value → H) :
    ReturnsInHanded {} Tryz.checked os 5 .any (fun w args => (Rows.asmJoinsSpec.pre enc Tryz.prog Tryz.f5 [] false w args ∧ laidMetH Tryz.prog Rows.asmJoinsRow.laid w) ∧ sizedMet enc Tryz.prog Tryz.f5 (OpenSpec.ofChange Rows.asmJoinsSpec) false w args) (Rows.asmJoinsSpec.post enc Tryz.prog Tryz.f5 false true false false) := by
  refine handed_shaped (C := Tryz.checked) (X := fun w _ => laidMetH Tryz.prog Rows.asmJoinsRow.laid w) (fun _ _ _ hh h => h.of_heap hh) own started (by kernel_rfl) Tryz.func5
    (ChangeSpec.witness_shaped (enc := enc) (C := Tryz.checked) (os := os) (X := fun w _ => laidMetH Tryz.prog Rows.asmJoinsRow.laid w) false ((World.doorLaid Tryz.prog 400 os).layVars Tryz.prog (Rows.asmJoinsRow.laid.filter fun x => x.2.handleName?.isNone)) #[.slice none 0 0] 8 ((World.layVars_os _ _ _).trans rfl) (World.shaped_of_ZipB (by kernel_rfl) (by kernel_rfl)) (by kernel_rfl) (by kernel_rfl) (by kernel_rfl) (door_met os _)) ?_
  intro W base args ds gs before hval0 hW hL hsh
  have hF1 : (Rows.asmJoinsRow.laid.filter fun x => x.2.handleName?.isSome) = [("errors.errorType", Rows.laid_errors_errorType)] := by kernel_rfl
  have hF2 : (Rows.asmJoinsRow.laid.filter fun x => x.2.handleName?.isNone) = [("math/bits.deBruijn32tab", Rows.laid_math_bits_deBruijn32tab), ("math/bits.deBruijn64tab", Rows.laid_math_bits_deBruijn64tab), ("internal/strconv.uint64pow10", Rows.laid_internal_strconv_uint64pow10), ("unicode/utf8.acceptRanges", Rows.laid_unicode_utf8_acceptRanges), ("strconv.ErrRange", Rows.laid_strconv_ErrRange), ("strconv.ErrSyntax", Rows.laid_strconv_ErrSyntax), ("halter/asm.operations", Rows.laid_halter_asm_operations), ("unicode/utf8.first", Rows.laid_unicode_utf8_first)] := by kernel_rfl
  have hL' : laidMet Tryz.prog [("math/bits.deBruijn32tab", Rows.laid_math_bits_deBruijn32tab), ("math/bits.deBruijn64tab", Rows.laid_math_bits_deBruijn64tab), ("internal/strconv.uint64pow10", Rows.laid_internal_strconv_uint64pow10), ("unicode/utf8.acceptRanges", Rows.laid_unicode_utf8_acceptRanges), ("strconv.ErrRange", Rows.laid_strconv_ErrRange), ("strconv.ErrSyntax", Rows.laid_strconv_ErrSyntax), ("halter/asm.operations", Rows.laid_halter_asm_operations), ("unicode/utf8.first", Rows.laid_unicode_utf8_first)] W ∧ handlesMet Tryz.prog [("errors.errorType", Rows.laid_errors_errorType)] W := by
    unfold laidMetH at hL
    rw [hF1] at hL
    simp only [hF2] at hL
    exact hL
  have hval : ∀ (j : Nat) t v, Tryz.f5.params[j]? = some t → args[j]? = some v → Value.okWide Tryz.prog W .any base t v := hval0
  have hW' := hW
  obtain ⟨p, q, hA0, hV, rfl, hfz, hnd⟩ := hW
  have hA : DataW.TrodAll enc Tryz.prog W 0 (fun _ => true) true Tryz.f5.params.toList args.toList ds p := hA0
  rw [Tryz.params5] at hA hval
  obtain ⟨v0, vs0, d0, ds0, p0, q0, hargs, rfl, rfl, h0, r0⟩ := trodAll_cons hA
  obtain ⟨rfl, rfl, rfl⟩ := trodAll_nil r0
  obtain rfl : args = #[v0] := by cases args; simp_all
  obtain ⟨rfl, rfl⟩ := trodVars_none hV
  obtain ⟨a0, len0, cap0, rfl⟩ := okWide_slice Tryz.underlying49 (hval 0 49 v0 rfl rfl)
  have k0 := h0
  have lt0 : ∀ x ∈ p0, x.block < W.heap.size := by obtain ⟨m, hm⟩ := k0; exact DataW.trod_lt m _ _ _ hm
  have w0 : IntRows .i64 4 W a0 len0 := introws_of Tryz.underlying49 Tryz.underlying23 (by kernel_rfl) (by kernel_rfl) (fun i f hf => by
    rcases i with _| _| _| _| _
    · (simp at hf; subst hf; exact Tryz.underlying3)
    · (simp at hf; subst hf; exact Tryz.underlying3)
    · (simp at hf; subst hf; exact Tryz.underlying3)
    · (simp at hf; subst hf; exact Tryz.underlying3)
    · simp at hf) h0
  clear hA0 hval0
  refine (walk a0 len0 cap0 W w0 (env_of hL'.1 hsh (by repeat (first | exact List.mem_cons_self | apply List.mem_cons_of_mem)) (by repeat (first | exact List.mem_cons_self | apply List.mem_cons_of_mem)) (by repeat (first | exact List.mem_cons_self | apply List.mem_cons_of_mem)) (by repeat (first | exact List.mem_cons_self | apply List.mem_cons_of_mem)) (by repeat (first | exact List.mem_cons_self | apply List.mem_cons_of_mem)) (by repeat (first | exact List.mem_cons_self | apply List.mem_cons_of_mem))) (handle_of_hs hL'.2)).mono fun e W' ⟨he, bel⟩ => ?_
  subst he
  exact ⟨_, rfl, _, _, _, [], _, [], hW', trodAll_mk1 (shut_bool Tryz.underlying4 _), (trodAll_cons_mk (Below.trod laidOut (by kernel_rfl) (of_decide_eq_true (by kernel_rfl)) k0 bel lt0) trodAll_mk0), rfl, bel.frame _, fun h => by cases h⟩

theorem over : Rows.asmJoinsRow.holds Tryz.pinned (OpenSpec.ofChange Rows.asmJoinsSpec) :=
  OpenClaim.holds_of_wide 5 Tryz.f5 rfl rfl rfl rfl rfl rfl rfl ⟨rfl, rfl, rfl, rfl, rfl⟩ rfl rfl rfl rfl rfl (by kernel_rfl) Tryz.func5 (by kernel_rfl)
    (of_decide_eq_true (by kernel_rfl)) (by unfold Func.isWrapper; first | (rw [if_pos (by decide +kernel)]; kernel_rfl) | (rw [if_neg (by decide +kernel)]; exact ⟨rfl, rfl⟩))
    (fun os started H enc _ => lifted os started H enc)

theorem proved : Rows.AsmJoinsSaid := over
theorem card : Rows.AsmJoinsCardSaid :=
  Claim7.holds_tied_plain_at .later [] [.data, .data, .data, .data, .handle, .sentinel, .sentinel, .data, .pinned] true (true, "fa9364a8e51e3452dba2177d8928db1681e68e51b74323dbbe468820f2a4a92c") true
    over (fun _ h => by cases h) (by kernel_rfl) (fun _ h => by cases h) asmJoins_row_tie rfl ⟨rfl, rfl⟩ (by kernel_rfl) rfl
    (fun f fn hf hfn => by
      obtain rfl : f = 5 := Option.some.inj ((show Tryz.prog.funcNamed "halter/halterlaw09.AsmJoins" = some 5 by kernel_rfl).symm.trans hf) |>.symm
      obtain rfl : fn = Tryz.f5 := (Option.some.inj (Tryz.func5.symm.trans hfn)).symm
      exact ⟨by kernel_rfl, fun j t ht => by
        rw [Tryz.params5] at ht
        have hm : t ∈ [49] := by have := Array.mem_of_getElem? ht; simpa using this
        have hall : ([49].all fun u => !Tryz.prog.wantsStandIn u) = true := by kernel_rfl
        exact (show Tryz.prog.wantsStandIn t = false by simpa using List.all_eq_true.1 hall t hm)⟩)
    (by kernel_rfl)
#print axioms card
end Go.Proofs.YtlpjegclpilaaaaGreatDoor.asmJoins
