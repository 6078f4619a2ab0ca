/- The instruction of any line, and the numbers of any text's instructions, or the errors, are the document's own; the statement holds for every input, where the listed variables hold what the program's and the library's own text lay, which the card ties. -/
import Derived.Test.YtlpjegclpilaaaaGreatDoorRows
import Derived.Test.YtlpjegclpilaaaaGreatDoorAmF
import Derived.Test.YtlpjegclpilaaaaGreatDoorAmRg
import Derived.Test.YtlpjegclpilaaaaGreatDoorBox
import Derived.Test.YtlpjegclpilaaaaGreatDoorNum
import Derived.Deep.LoopGhost
import Derived.Deep.QuietTactic
import Derived.BigQuiet
import Derived.Test.YtlpjegclpilaaaaGreatDoorCards
import Derived.Test.YtlpjegclpilaaaaGreatDoorTie
import Derived.LaidMore
import Derived.LaidLaws
import Derived.LaidHandle
import Derived.Test.YtlpjegclpilaaaaGreatDoorAmLay
import Derived.Test.YtlpjegclpilaaaaGreatDoorShape
import Derived.Lay
import Derived.Test.YtlpjegclpilaaaaGreatDoorLay
import Derived.Test.YtlpjegclpilaaaaGreatDoorPost
import Derived.WalkKit
import Derived.ProofKit
import Derived.OpenShut
import Derived.ShutString
namespace Go.Proofs.YtlpjegclpilaaaaGreatDoor.asmReads
open Go.ChangeShapes Go.WideShapes Go.ChangeAt Go.RowKit
open Go.ChangeMaps (open_string shut_string)
set_option linter.unusedVariables false      -- a walk need not use every 'w<i>' (that an integer argument fits its kind)

theorem own : ownKnob Tryz.prog.godebug = none := by kernel_rfl

/-! ### STEP 1: THE WALK: the Go text returns true. 'Grown w w'': the world has at most new blocks (Derived/RowKit3.lean). Part the cases AHEAD of 'go_enter' where a test parts the walk; take each callee by a contract of your own. -/
set_option maxHeartbeats 8000000 in
set_option maxRecDepth 100000 in
theorem walk (a0 : ByteArray) (a1 : ByteArray) (w0 : a0.size ≤ maxLen) (w1 : a1.size ≤ maxLen) (w : World) (he : Env w) (hl : Laid w) :
    Calls Tryz.prog 4 #[.string a0, .string a1] w fun e w' => e = .returned (.bool true) ∧ New w w' := by
  obtain ⟨l, rfl⟩ : ∃ l, a0 = ba l := ⟨_, (ba_of a0).symm⟩
  obtain ⟨s, rfl⟩ : ∃ s, a1 = ba s := ⟨_, (ba_of a1).symm⟩
  have cS := fun W (k : Env W) => asure_any W k
  have sl := ba_size l
  have ss := ba_size s
  unfold maxLen at w0 w1
  by_cases c1 : 300 < l.length
  · have g1 : (300 : Int) < (l.length : Int) := by omega
    clear c1
    go_enter Tryz.func4, Tryz.ntmps4
    go_wp2_with fail
    refine (cS _ he).mono ?_
    rintro e w2 ⟨rfl, n2⟩
    go_wp2
    go_ret
    exact ⟨rfl, n2⟩
  have g1 : ¬ (300 : Int) < (l.length : Int) := by omega
  by_cases c2 : 3000 < s.length ∧ s.length ≤ 65536
  · have g2 : (3000 : Int) < (s.length : Int) := by omega
    have g3 : (s.length : Int) ≤ 65536 := by omega
    clear c1 c2
    go_enter Tryz.func4, Tryz.ntmps4
    go_wp2_with fail
    refine (cS _ he).mono ?_
    rintro e w2 ⟨rfl, n2⟩
    go_wp2
    go_ret
    exact ⟨rfl, n2⟩
  have hl3 : l.length ≤ 300 := by omega
  obtain ⟨G, hGb, cG, cR⟩ : ∃ G : List Int × Nat × Int, G.1.length ≤ 65537 ∧ (∀ W, Env W → Calls Tryz.prog 15 #[.string (ba s)] W (Pgm G W)) ∧ (∀ W, Calls Tryz.prog 16 #[.string (ba s)] W (RPgm G W)) := by
    by_cases hb : 65536 < s.length
    · exact ⟨([], 0, 90), by simp, fun W k => program_long s W hb (by unfold maxLen; omega), fun W => rprogram_long s W hb (by unfold maxLen; omega)⟩
    · exact ⟨prg 1 (lns s) [], by have := prg_len (lns s) 1 []; have := (lns_len s).2; simp at *; omega, fun W k => program_any s W (by omega) k, fun W => rprogram_any s W (by omega)⟩
  obtain ⟨o, a, b, m, c, eP, eR⟩ : ∃ o a b m c : Int, pv (prs l) = .tuple #[.agg #[.int .i64 o, .int .i64 a, .int .i64 b, .int .i64 m], erN c] ∧ rpv (prs l) = .tuple #[.agg #[.int .i64 o, .int .i64 a, .int .i64 b, .int .i64 m], .int .i64 c] := by
    cases prs l with
    | none => exact ⟨0, 0, 0, 0, 22, by rw [er22]; rfl, rfl⟩
    | some y => exact ⟨y.1, y.2.1, y.2.2.1, y.2.2.2, 0, rfl, rfl⟩
  have cP := fun W (k : Env W) => parse_any l W (by omega) k
  have cQ := fun W => rparse_any l W (by omega)
  rw [eP] at cP
  rw [eR] at cQ
  obtain ⟨vs, at_, er⟩ := G
  have hg2 : decide (3000 < (s.length : Int)) = false ∨ (3000 < (s.length : Int) ∧ ¬ (s.length : Int) ≤ 65536) := by
    by_cases k : 3000 < s.length
    · exact .inr ⟨by omega, by omega⟩
    · exact .inl (by simp; omega)
  clear eP eR c1 c2 hl3
  go_enter Tryz.func4, Tryz.ntmps4
  rcases hg2 with hg2 | ⟨hg2, hg3⟩
  all_goals
    go_wp2_with fail
    refine (cP _ he).mono ?_
    rintro e w2 ⟨rfl, n2⟩
    go_wp2_with fail
    have b2 := Box.here w2 _ #[.int .i64 o, .int .i64 a, .int .i64 b, .int .i64 m] 28 rfl
    have m2 := n2.alloc #[.int .i64 o, .int .i64 a, .int .i64 b, .int .i64 m] 28
    refine (cQ _).mono ?_
    rintro e w3 ⟨rfl, n3⟩
    have b3 := b2.new n3
    have N3 := m2.trans n3
    clear b2 m2 n3 n2
    go_wp2_with fail
    have b4 := b3.alloc (.cells #[.int .i64 o, .int .i64 a, .int .i64 b, .int .i64 m] 23)
    have d4 := Box.here w3 _ #[.int .i64 o, .int .i64 a, .int .i64 b, .int .i64 m] 23 rfl
    have N4 := N3.alloc #[.int .i64 o, .int .i64 a, .int .i64 b, .int .i64 m] 23
    refine (cG _ (he.new N4)).mono ?_
    rintro e w5 ⟨v5, rfl, hv5, n5⟩
    have b5 := b4.new n5
    have d5 := d4.new n5
    have N5 := N4.trans n5
    clear b3 N3 b4 d4 N4 n5
    simp only at hv5 ⊢
    go_wp2_with fail
    refine (cR _).mono ?_
    rintro e w6 ⟨v6, rfl, hv6, n6⟩
    have b6 := b5.new n6
    have d6 := d5.new n6
    have N6 := N5.trans n6
    have h56 := OwnU.new hv5 n6
    clear b5 d5 N5 n6 hv5
    simp only at hv6 ⊢
    obtain ⟨p1, k1, rfl, r1⟩ := h56.read
    obtain ⟨p2, k2, rfl, r2⟩ := hv6.read
    clear h56 hv6 cG cR cP cQ
    obtain ⟨x0, x1, x2, x3⟩ := b6.four
    obtain ⟨y0, y1, y2, y3⟩ := d6.four
    have zb := b6.lt
    have zd := d6.lt
    go_wp2_with fail
    refine (num_er c _ (hl.new N6)).mono ?_
    rintro e w7 ⟨rfl, n7⟩
    have N7 := N6.trans n7
    have M7 := n7
    clear N6 n7 x0 x1 x2 x3 y0 y1 y2 y3 zb zd b6 d6
    go_wp2_with fail
    refine (num_er er _ (hl.new N7)).mono ?_
    rintro e w8 ⟨rfl, n8⟩
    have N8 := N7.trans n8
    have M8 := M7.trans n8
    have hE8 := he.new N8
    clear N7 n8 M7
    go_wp2_with fail
    go_loopg [15] vs.length (fun k s15 wx => ∃ i : Nat, i + k = vs.length ∧ s15 = .int .i64 (i : Int) ∧ New w8 wx)
    case atStart => exact ⟨0, by omega, rfl, New.refl _⟩
    case round =>
      obtain ⟨i, hi2, rfl, nx⟩ := hrel
      by_cases hil : i < vs.length
      · obtain ⟨z, hz⟩ : ∃ z, vs[i]? = some z := ⟨_, List.getElem?_eq_getElem hil⟩
        obtain ⟨g1, rfl, hk1, hg1, hc1⟩ := r1 i z hz
        obtain ⟨g2, rfl, hk2, hg2, hc2⟩ := r2 i z hz
        have hc1 := (M8.trans nx).cellv hc1
        have hc2 := (M8.trans nx).cellv hc2
        have hil' : (i : Int) < (vs.length : Int) := by omega
        have zz : (z != z) = false := by simp
        clear hz r1 r2 hE8 cS
        go_wp2_with fail
        go_quiet (fail)
        go_wp2
        go_roundg (vs.length - (i + 1))
        case measure => omega
        case rel => exact ⟨i + 1, by omega, rfl, nx.drewN _⟩
      · have hil' : ¬ (i : Int) < (vs.length : Int) := by omega
        clear r1 r2
        go_wp2_with fail
        refine (cS _ (hE8.new nx)).mono ?_
        rintro e w9 ⟨rfl, n9⟩
        go_wp2
        go_ret
        exact ⟨rfl, N8.trans (nx.trans n9)⟩

/-! ### THE ROW's STEP: WRITTEN OUT: LEAVE IT -/
theorem door_met (os : Os) (args : Array Value) : laidMetH Tryz.prog Rows.asmReadsRow.laid (((World.doorLaid Tryz.prog 400 os).layVars Tryz.prog (Rows.asmReadsRow.laid.filter fun x => x.2.handleName?.isNone)).forCall (fun _ _ => 0) ⟨#[], args, []⟩).memory :=
  laidMetH_of_parts3 (fuel := 8) (met_layAll _ (by kernel_rfl) (by kernel_rfl)) (by kernel_rfl) (by kernel_rfl)
set_option maxRecDepth 100000 in
theorem lifted (os : Os) (started : os.Started) (H : Type) (enc : TypeId × Value → H) :
    ReturnsInHanded {} Tryz.checked os 4 .any (fun w args => (Rows.asmReadsSpec.pre enc Tryz.prog Tryz.f4 [] false w args ∧ laidMetH Tryz.prog Rows.asmReadsRow.laid w) ∧ sizedMet enc Tryz.prog Tryz.f4 (OpenSpec.ofChange Rows.asmReadsSpec) false w args) (Rows.asmReadsSpec.post enc Tryz.prog Tryz.f4 false true false false) := by
  refine handed_shaped (C := Tryz.checked) (X := fun w _ => laidMetH Tryz.prog Rows.asmReadsRow.laid w) (fun _ _ _ hh h => h.of_heap hh) own started (by kernel_rfl) Tryz.func4
    (ChangeSpec.witness_shaped (enc := enc) (C := Tryz.checked) (os := os) (X := fun w _ => laidMetH Tryz.prog Rows.asmReadsRow.laid w) false ((World.doorLaid Tryz.prog 400 os).layVars Tryz.prog (Rows.asmReadsRow.laid.filter fun x => x.2.handleName?.isNone)) #[.string ByteArray.empty, .string ByteArray.empty] 8 ((World.layVars_os _ _ _).trans rfl) (World.shaped_of_ZipB (by kernel_rfl) (by kernel_rfl)) (by kernel_rfl) (by kernel_rfl) (by kernel_rfl) (door_met os _)) ?_
  intro W base args ds gs before hval0 hW hL hsh
  have hF1 : (Rows.asmReadsRow.laid.filter fun x => x.2.handleName?.isSome) = [("errors.errorType", Rows.laid_errors_errorType)] := by kernel_rfl
  have hF2 : (Rows.asmReadsRow.laid.filter fun x => x.2.handleName?.isNone) = [("math/bits.deBruijn32tab", Rows.laid_math_bits_deBruijn32tab), ("math/bits.deBruijn64tab", Rows.laid_math_bits_deBruijn64tab), ("internal/strconv.uint64pow10", Rows.laid_internal_strconv_uint64pow10), ("unicode/utf8.acceptRanges", Rows.laid_unicode_utf8_acceptRanges), ("strconv.ErrRange", Rows.laid_strconv_ErrRange), ("strconv.ErrSyntax", Rows.laid_strconv_ErrSyntax), ("halter/asm.operations", Rows.laid_halter_asm_operations), ("unicode/utf8.first", Rows.laid_unicode_utf8_first)] := by kernel_rfl
  have hL' : laidMet Tryz.prog [("math/bits.deBruijn32tab", Rows.laid_math_bits_deBruijn32tab), ("math/bits.deBruijn64tab", Rows.laid_math_bits_deBruijn64tab), ("internal/strconv.uint64pow10", Rows.laid_internal_strconv_uint64pow10), ("unicode/utf8.acceptRanges", Rows.laid_unicode_utf8_acceptRanges), ("strconv.ErrRange", Rows.laid_strconv_ErrRange), ("strconv.ErrSyntax", Rows.laid_strconv_ErrSyntax), ("halter/asm.operations", Rows.laid_halter_asm_operations), ("unicode/utf8.first", Rows.laid_unicode_utf8_first)] W ∧ handlesMet Tryz.prog [("errors.errorType", Rows.laid_errors_errorType)] W := by
    unfold laidMetH at hL
    rw [hF1] at hL
    simp only [hF2] at hL
    exact hL
  have hval : ∀ (j : Nat) t v, Tryz.f4.params[j]? = some t → args[j]? = some v → Value.okWide Tryz.prog W .any base t v := hval0
  have hW' := hW
  obtain ⟨p, q, hA0, hV, rfl, hfz, hnd⟩ := hW
  have hA : DataW.TrodAll enc Tryz.prog W 0 (fun _ => true) true Tryz.f4.params.toList args.toList ds p := hA0
  rw [Tryz.params4] at hA hval
  obtain ⟨v0, vs0, d0, ds0, p0, q0, hargs, rfl, rfl, h0, r0⟩ := trodAll_cons hA
  obtain ⟨v1, vs1, d1, ds1, p1, q1, rfl, rfl, rfl, h1, r1⟩ := trodAll_cons r0
  obtain ⟨rfl, rfl, rfl⟩ := trodAll_nil r1
  obtain rfl : args = #[v0, v1] := by cases args; simp_all
  obtain ⟨rfl, rfl⟩ := trodVars_none hV
  obtain ⟨a0, rfl, rfl, rfl, w0⟩ := open_string Tryz.underlying9 (hval 0 9 v0 rfl rfl) h0
  obtain ⟨a1, rfl, rfl, rfl, w1⟩ := open_string Tryz.underlying9 (hval 1 9 v1 rfl rfl) h1
  clear hA0 hval0
  simp only [List.append_nil] at hW'
  refine (walk a0 a1 w0 w1 W (env_of hL'.1 hsh (by repeat (first | exact List.mem_cons_self | apply List.mem_cons_of_mem)) (by repeat (first | exact List.mem_cons_self | apply List.mem_cons_of_mem)) (by repeat (first | exact List.mem_cons_self | apply List.mem_cons_of_mem)) (by repeat (first | exact List.mem_cons_self | apply List.mem_cons_of_mem)) (by repeat (first | exact List.mem_cons_self | apply List.mem_cons_of_mem)) (by repeat (first | exact List.mem_cons_self | apply List.mem_cons_of_mem))) (handle_of_hs hL'.2)).mono fun e W' ⟨he, hg⟩ => ?_
  subst he
  exact ⟨_, rfl, post_of_new hW' (fun _ _ _ => (trodAll_cons_mk (shut_bool Tryz.underlying4 _) trodAll_mk0)) (fun sp => (trodAll_cons_mk (shut_string Tryz.underlying9 w0) (trodAll_cons_mk (shut_string Tryz.underlying9 w1) trodAll_mk0))) (fun _ => rfl) hg (ok_one (by kernel_rfl) rfl (okWide_bool_mk Tryz.underlying4 _))⟩

theorem over : Rows.asmReadsRow.holds Tryz.pinned (OpenSpec.ofChange Rows.asmReadsSpec) :=
  OpenClaim.holds_of_wide 4 Tryz.f4 rfl rfl rfl rfl rfl rfl rfl ⟨rfl, rfl, rfl, rfl, rfl⟩ rfl rfl rfl rfl rfl (by kernel_rfl) Tryz.func4 (by kernel_rfl)
    (of_decide_eq_true (by kernel_rfl)) (by unfold Func.isWrapper; first | (rw [if_pos (by decide +kernel)]; kernel_rfl) | (rw [if_neg (by decide +kernel)]; exact ⟨rfl, rfl⟩))
    (fun os started H enc _ => lifted os started H enc)

theorem proved : Rows.AsmReadsSaid := over
theorem card : Rows.AsmReadsCardSaid :=
  Claim7.holds_tied_plain_at .later [] [.data, .data, .data, .data, .handle, .sentinel, .sentinel, .data, .pinned] true (true, "fa9364a8e51e3452dba2177d8928db1681e68e51b74323dbbe468820f2a4a92c") true
    over (fun _ h => by cases h) (by kernel_rfl) (fun _ h => by cases h) asmReads_row_tie rfl ⟨rfl, rfl⟩ (by kernel_rfl) rfl
    (fun f fn hf hfn => by
      obtain rfl : f = 4 := Option.some.inj ((show Tryz.prog.funcNamed "halter/halterlaw09.AsmReads" = some 4 by kernel_rfl).symm.trans hf) |>.symm
      obtain rfl : fn = Tryz.f4 := (Option.some.inj (Tryz.func4.symm.trans hfn)).symm
      exact ⟨by kernel_rfl, fun j t ht => by
        rw [Tryz.params4] at ht
        have hm : t ∈ [9, 9] := by have := Array.mem_of_getElem? ht; simpa using this
        have hall : ([9, 9].all fun u => !Tryz.prog.wantsStandIn u) = true := by kernel_rfl
        exact (show Tryz.prog.wantsStandIn t = false by simpa using List.all_eq_true.1 hall t hm)⟩)
    (by kernel_rfl)
#print axioms card
end Go.Proofs.YtlpjegclpilaaaaGreatDoor.asmReads
