/- The text of an instruction is read as it, also as a program of one line; what is read of a line is told, and read again; the statement holds for every input of 1048576 values and letters at most, where the listed variables hold what the program's and the library's own text lay, which the card ties. -/
import Derived.Test.YtlpjegclpilaaaaDoorRows
import Derived.Test.YtlpjegclpilaaaaDoorAmF
import Derived.Test.YtlpjegclpilaaaaDoorFlat
import Derived.Test.YtlpjegclpilaaaaDoorBox
import Derived.Test.YtlpjegclpilaaaaDoorCards
import Derived.Test.YtlpjegclpilaaaaDoorTie
import Derived.LaidMore
import Derived.LaidLaws
import Derived.LaidHandle
import Derived.Test.YtlpjegclpilaaaaDoorAmLay
import Derived.Test.YtlpjegclpilaaaaDoorShape
import Derived.Lay
import Derived.Test.YtlpjegclpilaaaaDoorPost
import Derived.Test.YtlpjegclpilaaaaDoorShapeU
import Derived.WalkKit
import Derived.ProofKit
import Derived.OpenShut
import Derived.ShutString
import Derived.ChangeOld
import Derived.Below
namespace Go.Proofs.YtlpjegclpilaaaaDoor.asmBack
open Go.ChangeShapes Go.WideShapes Go.ChangeAt Go.RowKit
open Go.ChangeMaps (open_string shut_string)
set_option linter.unusedVariables false

theorem own : ownKnob Tryd.prog.godebug = none := by kernel_rfl
theorem laidOut : laidOutB Tryd.prog = true := by kernel_rfl

/-- WHAT THE WALK IS TOLD OF A SLICE OF INTEGERS THAT CAME IN: it is nil; or it leads to a row of 'cap' cells, the numbers 'zs' (the first 'len' are its elements, the rest its spare room), each fitting its kind. -/
def IsRow (k : IntKind) (w : World) (a : Option Addr) (len cap : Nat) (zs : List Int) : Prop :=
  (a = none ∧ len = 0 ∧ cap = 0 ∧ zs = []) ∨
  ∃ x, a = some x ∧ len ≤ cap ∧ cap ≤ maxLen ∧ zs.length = cap ∧ (∀ i, i < zs.length → w.cell? (x.add i) = some (.int k (zs.getD i 0))) ∧ ∀ n ∈ zs, (Lit.int k n).wf = true

/-! ### STEP 1: THE WALK: the Go text returns true, AND WRITES NOTHING THAT WAS THERE: 'Below w.heap.size w w'' (Derived/Below.lean: '.refl', '.alloc', '.drew', '.setCell' at a new block, '.trans'). Open each 'IsRow' by 'rcases' AHEAD of 'go_enter'; part every test ahead of the walk. -/
set_option maxHeartbeats 8000000 in
set_option maxRecDepth 100000 in
theorem walk (v0 : Value) (a1 : ByteArray) (w : World) (w0 : Flat [some .i64, some .i64, some .i64, some .i64] v0) (w1 : a1.size ≤ maxLen) (he : Env w) (hB : a1.size ≤ 1048576) :
    Calls Tryd.prog 3 #[v0, .string a1] w fun e w' => e = .returned (.bool true) ∧ Below w.heap.size w w' := by
  obtain ⟨x0, x1, x2, x3, rfl, ⟨o, rfl, wo⟩, ⟨a, rfl, wa⟩, ⟨b, rfl, wb⟩, ⟨m, rfl, wm⟩⟩ := flat4 w0
  have wa := i64_bd wa
  have wb := i64_bd wb
  have wm := i64_bd wm
  obtain ⟨l, rfl⟩ : ∃ l, a1 = ba l := ⟨_, (ba_of a1).symm⟩
  have hll : l.length ≤ 1048576 := by rw [← ba_size]; exact hB
  clear w0 w1 hB wo
  have cS := fun W (k : Env W) => asure_any W k
  have cP := fun W (k : Env W) => parse_any l W (by omega) k
  have cT := fun W (k : Env W) => text_any o a b m W k wa wb wm
  have hst := same_tx o a b m wa wb wm
  have b0 := Box.here w _ #[.int .i64 o, .int .i64 a, .int .i64 b, .int .i64 m] 23 rfl
  have n0 := (New.refl w).alloc #[.int .i64 o, .int .i64 a, .int .i64 b, .int .i64 m] 23
  go_enter Tryd.func3, Tryd.ntmps3
  by_cases hT : TxI o a b m
  case' pos =>
      have eT : tv o a b m = okv o a b m := by unfold tv; exact if_pos (hst.2 hT)
      rw [eT] at cT
      unfold okv at cT
      obtain ⟨k, rfl, hk42, hTx⟩ := hT
      have hX := (prs_txt k a b m wa wb wm).2 hTx
      have hXl := txt_len k a b m wa wb wm
      have hXb := txt_bytes k a b m
      rw [txtI_nat] at cT
      have cE := fun W => iencode_ok (k : Int) a b m W hTx.1
      clear hst hTx eT
      generalize txt k a b m = X at *
      have hg : prg 1 (lns (10 :: X ++ [32, 37, 32, 120])) [] = ([innum (k : Int) a b m], 0, 0) := by
        have e1 : lns (10 :: X ++ [32, 37, 32, 120]) = [[], X ++ [32, 37, 32, 120]] := by
          have := lns_cons [] (X ++ [32, 37, 32, 120]) (fun b hb => by cases hb)
          rw [List.nil_append] at this
          rw [List.cons_append, this, lns_none]
          intro b hb
          rcases List.mem_append.1 hb with hb | hb
          · exact (hXb b hb).2
          · simp at hb; rcases hb with rfl | rfl | rfl | rfl <;> decide
        have e2 : ctl (X ++ [32, 37, 32, 120]) = X ++ [32] := by
          have := ctl_no (X ++ [32]) [32, 120] (fun b hb => by
            rcases List.mem_append.1 hb with hb | hb
            · exact (hXb b hb).1
            · simp at hb; subst hb; decide)
          rw [← this, List.append_assoc]; rfl
        rw [e1, prg_skip (by decide), prg_some (x := (k, a, b, m)) (by rw [e2, prs_wrds (wrds_snoc X)]; exact hX), prg]; rfl
      have cQ := fun W (k : Env W) => program_any (10 :: X ++ [32, 37, 32, 120]) W (by simp; omega) k
      rw [hg] at cQ
      have cX := fun W (k : Env W) => parse_any X W (by omega) k
      rw [hX] at cX
      unfold pv at cX
      have q1 : ¬ 9223372036854775807 < 1 + (ba X).size := by rw [ba_size]; omega
      have e1 : (⟨#[10]⟩ : ByteArray) ++ ba X = ba (10 :: X) := (ba_app [10] X).symm
      have q2 : ¬ 9223372036854775807 < (ba (10 :: X)).size + 4 := by rw [ba_size, List.length_cons]; omega
      have e2 : ba (10 :: X) ++ ⟨#[32, 37, 32, 120]⟩ = ba (10 :: X ++ [32, 37, 32, 120]) := (ba_app (10 :: X) [32, 37, 32, 120]).symm
      generalize innum (k : Int) a b m = V at *
      clear hg hXl hXb hX
      go_wp2_with fail
      refine (cT _ (he.new n0)).mono ?_
      rintro e w1 ⟨rfl, n1⟩
      have b1 := b0.new n1
      have N1 := n0.trans n1
      clear b0 n0 n1 cT
      go_wp2_with fail
      refine (cX _ (he.new N1)).mono ?_
      rintro e w2 ⟨rfl, n2⟩
      have b2 := b1.new n2
      have N2 := N1.trans n2
      clear b1 N1 n2 cX
      go_wp2_with fail
      have b3 := b2.alloc (.cells #[.int .i64 (k : Int), .int .i64 a, .int .i64 b, .int .i64 m] 28)
      have x3 := Box.here w2 _ #[.int .i64 (k : Int), .int .i64 a, .int .i64 b, .int .i64 m] 28 rfl
      have N3 := N2.alloc #[.int .i64 (k : Int), .int .i64 a, .int .i64 b, .int .i64 m] 28
      refine (cQ _ (he.new N3)).mono ?_
      rintro e w4 ⟨v, rfl, hv, n4⟩
      simp only [erN_zero]
      have b4 := b3.new n4
      have x4 := x3.new n4
      have N4 := N3.trans n4
      obtain ⟨p1, k1, rfl, r1⟩ := hv.read
      obtain ⟨g1, rfl, hk1, hg1, hc1⟩ := r1 0 _ rfl
      clear b2 b3 x3 N2 N3 n4 hv r1 cQ
      obtain ⟨b40, b41, b42, b43⟩ := b4.four
      have zb4 := b4.lt
      go_wp2_with fail
      refine (cE _).mono ?_
      rintro e w5 ⟨rfl, n5⟩
      have N5 := N4.trans n5
      have hc5 := n5.cellv hc1
      have b5 := b4.new n5
      have x5 := x4.new n5
      clear b40 b41 b42 b43 zb4 b4 x4 N4 n5 hc1 cE
      obtain ⟨b50, b51, b52, b53⟩ := b5.four
      obtain ⟨x50, x51, x52, x53⟩ := x5.four
      have zb5 := b5.lt
      have zx5 := x5.lt
      have vv : (V != V) = false := by simp
      go_wp2_with fail
      have hcut := N5
      clear N5 b5 x5 b50 b51 b52 b53 x50 x51 x52 x53 zb5 zx5 hc5 vv
  case' neg =>
      have eT : tv o a b m = nov := by unfold tv; exact if_neg (fun h => hT (hst.1 h))
      rw [eT] at cT
      unfold nov at cT
      clear hst eT hT
      go_wp2_with fail
      refine (cT _ (he.new n0)).mono ?_
      rintro e w1 ⟨rfl, n1⟩
      go_wp2_with fail
      have hcut := n0.trans n1
      clear n0 n1 b0
  all_goals
    have hE := he.new hcut
    cases hp : prs l with
    | none =>
      rw [hp] at cP
      unfold pv at cP
      go_wp2_with fail
      refine (cP _ hE).mono ?_
      rintro e w1 ⟨rfl, n1⟩
      have N1 := hcut.trans n1
      clear cP n1 hp
      go_wp2_with fail
      have N2 := N1.alloc #[.int .i64 0, .int .i64 0, .int .i64 0, .int .i64 0] 28
      refine (cS _ (he.new N2)).mono ?_
      rintro e w3 ⟨rfl, n3⟩
      go_wp2
      go_ret
      exact ⟨rfl, N2.trans n3⟩
    | some y =>
      obtain ⟨q, a2, b2, m2⟩ := y
      rw [hp] at cP
      dsimp only [pv] at cP
      have hy := prs_tx hp
      have hio := hy.1.1
      unfold InOk at hio
      have ha2 : -9223372036854775808 ≤ a2 ∧ a2 ≤ 9223372036854775807 := by omega
      have hb2 : -9223372036854775808 ≤ b2 ∧ b2 ≤ 9223372036854775807 := by omega
      have hm2 : -9223372036854775808 ≤ m2 ∧ m2 ≤ 9223372036854775807 := by omega
      have cU := fun W (k : Env W) => text_any (q : Int) a2 b2 m2 W k ha2 hb2 hm2
      have eU : tv (q : Int) a2 b2 m2 = okv (q : Int) a2 b2 m2 := by unfold tv; exact if_pos ((same_tx (q : Int) a2 b2 m2 ha2 hb2 hm2).2 ⟨q, rfl, hy.2, hy.1⟩)
      rw [eU] at cU
      unfold okv at cU
      rw [txtI_nat] at cU
      have hY := (prs_txt q a2 b2 m2 ha2 hb2 hm2).2 hy.1
      have hYl := txt_len q a2 b2 m2 ha2 hb2 hm2
      clear hio ha2 hb2 hm2 eU hy hp
      generalize txt q a2 b2 m2 = Y at *
      have cY := fun W (k : Env W) => parse_any Y W (by omega) k
      rw [hY] at cY
      dsimp only [pv] at cY
      clear hY hYl
      go_wp2_with fail
      refine (cP _ hE).mono ?_
      rintro e w1 ⟨rfl, n1⟩
      have N1 := hcut.trans n1
      clear cP n1 hE
      go_wp2_with fail
      have x2 := Box.here w1 _ #[.int .i64 (q : Int), .int .i64 a2, .int .i64 b2, .int .i64 m2] 28 rfl
      have N2 := N1.alloc #[.int .i64 (q : Int), .int .i64 a2, .int .i64 b2, .int .i64 m2] 28
      refine (cU _ (he.new N2)).mono ?_
      rintro e w3 ⟨rfl, n3⟩
      have x3 := x2.new n3
      have N3 := N2.trans n3
      clear x2 N1 N2 n3 cU
      go_wp2_with fail
      refine (cY _ (he.new N3)).mono ?_
      rintro e w4 ⟨rfl, n4⟩
      have x4 := x3.new n4
      have N4 := N3.trans n4
      clear x3 N3 n4 cY
      obtain ⟨x40, x41, x42, x43⟩ := x4.four
      have zx4 := x4.lt
      go_wp2_with fail
      have N5 := N4.alloc #[.int .i64 (q : Int), .int .i64 a2, .int .i64 b2, .int .i64 m2] 28
      refine (cS _ (he.new N5)).mono ?_
      rintro e w6 ⟨rfl, n6⟩
      go_wp2
      go_ret
      exact ⟨rfl, N5.trans n6⟩

/-! ### THE ROW's STEP: WRITTEN OUT: LEAVE IT -/
theorem door_met (os : Os) (args : Array Value) : laidMetH Tryd.prog Rows.asmBackUptoRow.laid (((World.doorLaid Tryd.prog 400 os).layVars Tryd.prog (Rows.asmBackUptoRow.laid.filter fun x => x.2.handleName?.isNone)).forCall (fun _ _ => 0) ⟨#[], args, []⟩).memory :=
  laidMetH_of_parts3 (fuel := 8) (met_layAll _ (by kernel_rfl) (by kernel_rfl)) (by kernel_rfl) (by kernel_rfl)
set_option maxRecDepth 100000 in
theorem lifted (os : Os) (started : os.Started) (H : Type) (enc : TypeId × Value → H) (Fi : Stop.Interp) :
    ReturnsInHanded {} Tryd.checked os 3 .any ((Rows.OpenSpec.upto Rows.asmBackSpec).preRow enc Tryd.prog Tryd.f3 Rows.asmBackUptoRow.domain false Rows.asmBackUptoRow.laid) (((Rows.OpenSpec.upto Rows.asmBackSpec).at Fi).post enc Tryd.prog Tryd.f3 false true false false) := by
  obtain ⟨places, hx⟩ : ∃ places, DataW.whole enc Tryd.prog (((World.doorLaid Tryd.prog 400 os).layVars Tryd.prog (Rows.asmBackRow.laid.filter fun x => x.2.handleName?.isNone)).forCall (fun _ _ => 0) ⟨#[], #[.agg #[.int .i64 0, .int .i64 0, .int .i64 0, .int .i64 0], .string ByteArray.empty], []⟩).memory Tryd.f3.params.toList Rows.asmBackSpec.vars false (#[.agg #[.int .i64 0, .int .i64 0, .int .i64 0, .int .i64 0], .string ByteArray.empty] : Array Value).toList 8 = some ([.agg [.lit (.int .i64 0), .lit (.int .i64 0), .lit (.int .i64 0), .lit (.int .i64 0)], .lit (.string [])], [], places) := ⟨[], by kernel_rfl⟩
  refine returnsInHanded_of_row (C := Tryd.checked) (s := (Rows.OpenSpec.upto Rows.asmBackSpec)) own started (by kernel_rfl) Tryd.func3
    (witness_shaped_row (enc := enc) (C := Tryd.checked) false ((World.doorLaid Tryd.prog 400 os).layVars Tryd.prog (Rows.asmBackRow.laid.filter fun x => x.2.handleName?.isNone)) #[.agg #[.int .i64 0, .int .i64 0, .int .i64 0, .int .i64 0], .string ByteArray.empty] ((World.layVars_os _ _ _).trans rfl) (World.shaped_of_ZipB (by kernel_rfl) (by kernel_rfl)) (by kernel_rfl)
      (OpenSpec.preRow_of_cond 8 hx (by kernel_rfl) (fun k hk => by cases hk; kernel_rfl) (by kernel_rfl) (door_met os _))) ?_
  intro W base args ds gs before hval0 hW _ hcond _ hL hsh _
  have hF1 : (Rows.asmBackUptoRow.laid.filter fun x => x.2.handleName?.isSome) = [] := by kernel_rfl
  have hF2 : (Rows.asmBackUptoRow.laid.filter fun x => x.2.handleName?.isNone) = [("math/bits.deBruijn32tab", Rows.laid_math_bits_deBruijn32tab), ("math/bits.deBruijn64tab", Rows.laid_math_bits_deBruijn64tab), ("internal/strconv.uint64pow10", Rows.laid_internal_strconv_uint64pow10), ("unicode/utf8.acceptRanges", Rows.laid_unicode_utf8_acceptRanges), ("strconv.ErrRange", Rows.laid_strconv_ErrRange), ("strconv.ErrSyntax", Rows.laid_strconv_ErrSyntax), ("halter/asm.operations", Rows.laid_halter_asm_operations), ("unicode/utf8.first", Rows.laid_unicode_utf8_first)] := by kernel_rfl
  have hL' : laidMet Tryd.prog [("math/bits.deBruijn32tab", Rows.laid_math_bits_deBruijn32tab), ("math/bits.deBruijn64tab", Rows.laid_math_bits_deBruijn64tab), ("internal/strconv.uint64pow10", Rows.laid_internal_strconv_uint64pow10), ("unicode/utf8.acceptRanges", Rows.laid_unicode_utf8_acceptRanges), ("strconv.ErrRange", Rows.laid_strconv_ErrRange), ("strconv.ErrSyntax", Rows.laid_strconv_ErrSyntax), ("halter/asm.operations", Rows.laid_halter_asm_operations), ("unicode/utf8.first", Rows.laid_unicode_utf8_first)] W := by
    unfold laidMetH at hL
    rw [hF1] at hL
    exact hL
  have hval : ∀ (j : Nat) t v, Tryd.f3.params[j]? = some t → args[j]? = some v → Value.okWide Tryd.prog W .any base t v := hval0
  have hW' := hW
  obtain ⟨p, q, hA0, hV, rfl, hfz, hnd⟩ := hW
  have hA : DataW.TrodAll enc Tryd.prog W 0 (fun _ => true) true Tryd.f3.params.toList args.toList ds p := hA0
  rw [Tryd.params3] at hA hval
  obtain ⟨v0, vs0, d0, ds0, p0, q0, hargs, rfl, rfl, h0, r0⟩ := trodAll_cons hA
  obtain ⟨v1, vs1, d1, ds1, p1, q1, rfl, rfl, rfl, h1, r1⟩ := trodAll_cons r0
  obtain ⟨rfl, rfl, rfl⟩ := trodAll_nil r1
  obtain rfl : args = #[v0, v1] := by cases args; simp_all
  obtain ⟨rfl, rfl⟩ := trodVars_none hV
  have k0 := h0
  have lt0 : ∀ x ∈ p0, x.block < W.heap.size := by obtain ⟨m, hm⟩ := k0; exact DataW.trod_lt m _ _ _ hm
  have w0 : Flat [some .i64, some .i64, some .i64, some .i64] v0 := flat_of Tryd.underlying23 (by kernel_rfl) (by kernel_rfl) rfl (fun i k f hi hf => by
    rcases i with _| _| _| _| _
    · (simp at hi hf; subst hi hf; exact Tryd.underlying3)
    · (simp at hi hf; subst hi hf; exact Tryd.underlying3)
    · (simp at hi hf; subst hi hf; exact Tryd.underlying3)
    · (simp at hi hf; subst hi hf; exact Tryd.underlying3)
    · simp at hi) (hval 0 23 v0 rfl rfl) h0
  obtain ⟨a1, rfl, rfl, rfl, w1⟩ := open_string Tryd.underlying9 (hval 1 9 v1 rfl rfl) h1
  clear hA0 hval0
  have hB : a1.size ≤ 1048576 := by
    have h := of_decide_eq_true (hcond _ rfl)
    simp only [List.append_nil, Rows.uptoBulkAll, Rows.uptoBulk] at h
    rw [Lib.size_eq]
    omega
  refine (walk v0 a1 W w0 w1 (env_of hL' hsh (by repeat (first | exact List.mem_cons_self | apply List.mem_cons_of_mem)) (by repeat (first | exact List.mem_cons_self | apply List.mem_cons_of_mem)) (by repeat (first | exact List.mem_cons_self | apply List.mem_cons_of_mem)) (by repeat (first | exact List.mem_cons_self | apply List.mem_cons_of_mem)) (by repeat (first | exact List.mem_cons_self | apply List.mem_cons_of_mem)) (by repeat (first | exact List.mem_cons_self | apply List.mem_cons_of_mem))) hB).mono fun e W' ⟨he, bel⟩ => ?_
  subst he
  exact ⟨_, rfl, _, _, _, [], _, [], hW', trodAll_mk1 (shut_bool Tryd.underlying4 _), (trodAll_cons_mk (Below.trod laidOut (by kernel_rfl) (of_decide_eq_true (by kernel_rfl)) k0 bel lt0) (trodAll_cons_mk (shut_string Tryd.underlying9 w1) trodAll_mk0)), rfl, bel.frame _, fun h => by cases h⟩

theorem over : Rows.asmBackUptoRow.holds Tryd.pinned (Rows.OpenSpec.upto Rows.asmBackSpec) :=
  OpenClaim.holds_of_cond 3 Tryd.f3 rfl rfl rfl rfl rfl rfl rfl ⟨rfl, rfl, rfl, rfl, rfl⟩ rfl rfl rfl rfl rfl (by kernel_rfl) Tryd.func3 (by kernel_rfl)
    (of_decide_eq_true (by kernel_rfl)) (by unfold Func.isWrapper; first | (rw [if_pos (by decide +kernel)]; kernel_rfl) | (rw [if_neg (by decide +kernel)]; exact ⟨rfl, rfl⟩))
    (fun os started H enc _ F => by rw [OpenClaim.pre_eq_preRow]; exact lifted os started H enc F)

theorem proved : Rows.AsmBackUptoSaid := over
theorem card : Rows.AsmBackUptoCardSaid :=
  Claim7.holds_tied_plain_at .later [] [.data, .data, .data, .data, .sentinel, .sentinel, .data, .pinned] true (true, "222dca6ef60e7b5f36fc6c6afe6daf4240c3d97128de1ec4d62d9cd1c67ea915") true
    over (fun _ h => by cases h) (by kernel_rfl) (fun _ h => by cases h) asmBackUpto_row_tie rfl ⟨rfl, rfl⟩ (by kernel_rfl) rfl
    (fun f fn hf hfn => by
      obtain rfl : f = 3 := Option.some.inj ((show Tryd.prog.funcNamed "halter/halterlaw09.AsmBack" = some 3 by kernel_rfl).symm.trans hf) |>.symm
      obtain rfl : fn = Tryd.f3 := (Option.some.inj (Tryd.func3.symm.trans hfn)).symm
      exact ⟨by kernel_rfl, fun j t ht => by
        rw [Tryd.params3] at ht
        have hm : t ∈ [23, 9] := by have := Array.mem_of_getElem? ht; simpa using this
        have hall : ([23, 9].all fun u => !Tryd.prog.wantsStandIn u) = true := by kernel_rfl
        exact (show Tryd.prog.wantsStandIn t = false by simpa using List.all_eq_true.1 hall t hm)⟩)
    (by kernel_rfl)
#print axioms card
end Go.Proofs.YtlpjegclpilaaaaDoor.asmBack
