/- Where no frame is free a new page is refused, and a fork, and nothing is changed by it; as soon as a page is given back there is room again, and freed the space gives back all frames; the statement holds for every input, where the library's variable errors.errorType holds what its own text lays,  -/
import Derived.Test.YtfllplinafnpbaaGreatDoorRows
import Derived.Test.YtfllplinafnpbaaGreatDoorSpO
import Derived.Test.YtfllplinafnpbaaGreatDoorFrG
import Derived.Deep.LoopGhost
import Derived.Test.YtfllplinafnpbaaGreatDoorCards
import Derived.Test.YtfllplinafnpbaaGreatDoorTie
import Derived.LaidMore
import Derived.LaidLaws
import Derived.LaidHandle
import Derived.Test.YtfllplinafnpbaaGreatDoorLay
import Derived.Test.YtfllplinafnpbaaGreatDoorPost
import Derived.WalkKit
import Derived.ProofKit
import Derived.OpenShut
import Derived.ShutString
namespace Go.Proofs.YtfllplinafnpbaaGreatDoor.spaceFull
open Go.ChangeShapes Go.WideShapes Go.ChangeAt Go.RowKit
open Go.ChangeMaps (open_string shut_string)
set_option linter.unusedVariables false      -- a walk need not use every 'w<i>' (that an integer argument fits its kind)

theorem own : ownKnob Tryz.prog.godebug = none := by kernel_rfl

/-! ### STEP 1: THE WALK: the Go text returns true. 'Grown w w'': the world has at most new blocks (Derived/RowKit3.lean). Part the cases AHEAD of 'go_enter' where a test parts the walk; take each callee by a contract of your own. -/
set_option maxHeartbeats 8000000 in
set_option maxRecDepth 100000 in
theorem walk (a0 : Int) (a1 : Int) (w0 : (Lit.int .i64 a0).wf = true) (w1 : (Lit.int .i64 a1).wf = true) (w : World) (hl : Laid w) :
    Calls Tryz.prog 6 #[.int .i64 a0, .int .i64 a1] w fun e w' => e = .returned (.bool true) ∧ New w w' := by
  have hlt := hl.lt
  obtain ⟨n, en, hn1, hn2⟩ := mod_in 20 3 a0 (by omega) (by omega) (by omega) (by omega)
  have X1 := laid_any w n (by omega) (by omega)
  have n3 : 3 ≤ n := by omega
  have n22 : n ≤ 22 := by omega
  obtain ⟨nn, hnn⟩ : ∃ nn, nn + 2 = n := ⟨n - 2, by omega⟩
  have en2 : (n : Int) - 2 = (nn : Int) := by omega
  have ew : wrap64 ((n : Int) - 2) = (nn : Int) := by rw [en2]; unfold wrap64; omega
  go_enter Tryz.func6, Tryz.ntmps6
  go_wp2_with fail
  refine X1.mono ?_
  rintro e w1 ⟨pb, fb, rb, mb, qb, sl, xl, sb, tb, bs, rfl, N1, LE, Pt, Sl, Xl, G1, P1, Z1⟩
  simp only [en]
  clear X1 en
  obtain ⟨p0, _⟩ : w1.cell? ⟨pb, 2, none⟩ = some (.slice (some ⟨sl, 0, none⟩) 1 1) ∧ True := ⟨Box.cell Pt 2, trivial⟩
  have s0 := Box.one Sl
  have X2 : Calls Tryz.prog 12 #[.pointer (some ⟨sb, 0, none⟩), .agg #[.int .i64 0, .int .i64 60, .int .u8 3]] w1 _ := map_first G1 P1 ⟨0, 60, 3⟩ rfl
  go_wp2_with fail
  refine X2.mono ?_
  rintro e w2 ⟨rfl, G2, b2, P2⟩
  have NEW : ∀ a b : World, New w a → But (fun g => g = rb ∨ g = qb) a b → New w b := fun a b m c => m.but c (by rintro i (rfl | rfl) <;> omega)
  have NEWS : ∀ a b : World, New w a → But (fun g => (g = rb ∨ g = qb) ∨ g = sb) a b → New w b := fun a b m c => m.but c (by rintro i ((rfl | rfl) | rfl) <;> omega)
  have NEWT : ∀ a b : World, New w a → But (fun g => ((g = rb ∨ g = qb) ∨ g = tb) ∨ g = sb) a b → New w b := fun a b m c => m.but c (by rintro i (((rfl | rfl) | rfl) | rfl) <;> omega)
  have N2 := NEWS _ _ N1 (b2.mono fun _ _ x => .inr x)
  have PNE : ¬ (pb = rb ∨ pb = qb) ∧ pb ≠ sb ∧ pb ≠ tb := by
    refine ⟨?_, Box.ne Pt (G1.has (i := 0) (by simp) rfl).box.choose_spec.1 (by decide), Box.ne Pt (G1.has (i := 0) (by simp) rfl).tab (by decide)⟩
    rintro (x | x)
    · exact Box.ne Pt G1.fr.boxes.2 (by decide) x
    · exact Box.ne Pt G1.ph.boxes.2 (by decide) x
  have Pt2 := Box.but Pt b2 PNE.2.1
  have FU : Fu w2 fb rb mb qb sb tb n 0 ((List.replicate n 0).set 0 1) bs := ⟨G2, P2, fun q hq => by rw [pf_none.2 (pgn_none Z1 q hq)]; simp, by simp [Z1 0 (by omega)], by rw [tk_start n (by omega)]; rfl, fun q f hq hf => by rw [pf_none.2 (pgn_none Z1 q hq)] at hf; cases hf⟩
  clear X2 Pt Sl Xl G1 P1 b2 G2 P2 Z1 N1 p0 s0
  go_wp2_with fail
  go_loopg [8] nn (fun k i wr => ∃ j : Nat, ∃ qs cs, j + k = nn ∧ i = .int .i64 (j : Int) ∧ Fu wr fb rb mb qb sb tb n j qs cs ∧ New w wr ∧ Pty wr pb fb mb (.slice (some ⟨sl, 0, none⟩) 1 1) n 1 (.slice none 0 0) (.slice none 0 0) (.slice (some ⟨xl, 0, none⟩) 1 1))
  case atStart => exact ⟨0, _, _, by omega, rfl, FU, N2, Pt2⟩
  case round =>
    obtain ⟨j, qs, cs, hj, rfl, hF, hN, hP⟩ := hrel
    by_cases c : j < nn
    · have J := Lib.hid hj
      have HP := Lib.hid hP
      have HN := Lib.hid hN
      have Y := fu_write (j : Int) (by omega) hF (by omega) n22
      clear hj hP hN hF FU N2 Pt2
      go_wp2_with fail
      refine Y.mono ?_
      rintro e w3 ⟨rfl, q3, c3, F3, b3⟩
      have N3 := NEW _ _ (HN.out.alloc #[.int .u8 (j : Int)] 5) b3
      have P3 := Box.but (Box.alloc HP.out (.cells #[.int .u8 (j : Int)] 5)) b3 PNE.1
      clear Y b3
      go_wp2_with fail
      go_roundg (nn - (j + 1))
      case measure => have := J.out; omega
      case rel => exact ⟨j + 1, q3, c3, by have := J.out; omega, by go_num, F3, N3, P3⟩
    · obtain rfl : j = nn := by omega
      have l1 := hl.new hN
      clear hj c FU N2 Pt2
      have Y := fu_full hF hnn n3 n22
      go_wp2_with fail
      refine Y.mono ?_
      rintro e w3 ⟨rfl, F3, b3⟩
      have N3 := NEW _ _ (hN.alloc #[.int .u8 1] 5) b3
      have P3 := Box.but (Box.alloc hP (.cells #[.int .u8 1] 5)) b3 PNE.1
      clear Y b3 hF hN hP l1
      have Y := fu_fork F3 hnn n3
      go_wp2_with fail
      refine Y.mono ?_
      rintro e w4 ⟨rfl, n4⟩
      have F4 := F3.new n4
      have P4 := Box.new P3 n4
      have N4 := N3.trans n4
      have l4 := hl.new N4
      clear Y n4 F3 P3 N3
      go_wp2_with fail
      refine (num_err 12 _ l4).mono ?_
      rintro e w5 ⟨rfl, n5⟩
      have F5 := F4.new n5
      have P5 := Box.new P4 n5
      have N5 := N4.trans n5
      have l5 := hl.new N5
      clear l4 n5 F4 P4 N4
      go_wp2_with fail
      refine (num_err 12 _ l5).mono ?_
      rintro e w6 ⟨rfl, n6⟩
      have F6 := F5.new n6
      have P6 := Box.new P5 n6
      have N6 := N5.trans n6
      clear l5 n6 F5 P5 N5
      obtain ⟨p6, _⟩ : w6.cell? ⟨pb, 0, none⟩ = some (.pointer (some ⟨fb, 0, none⟩)) ∧ True := ⟨Box.cell P6 0, trivial⟩
      have Y := g_free F6.gm
      rw [fu_isfull F6 hnn n3, Int.sub_self] at Y
      go_wp2_with fail
      refine Y.mono ?_
      rintro e w7 ⟨rfl, n7⟩
      have F7 := F6.new n7
      have P7 := Box.new P6 n7
      have N7 := N6.trans n7
      clear Y n7 F6 P6 N6 p6
      have Y := fu_pages F7 (by omega)
      go_wp2_with fail
      refine Y.mono ?_
      rintro e w8 ⟨pp, pcap, rfl, n8⟩
      have F8 := F7.new n8
      have P8 := Box.new P7 n8
      have N8 := N7.trans n8
      clear Y n8 F7 P7 N7
      have eu : IntKind.u64.wrap (j : Int) = (j : Int) := by rw [IntKind.wrap_u64]; omega
      have ez : ((j : Int) == 0) = false := by simp; omega
      obtain ⟨k, ek, hk⟩ := mod_by a1 j (by omega) (by omega)
      go_wp2_with fail
      refine (fu_unmap k F8 hnn n3 n22 hk).mono ?_
      rintro e w9 ⟨rfl, L, q9, c9, F9, b9⟩
      have N9 := NEWS _ _ N8 b9
      have P9 := Box.but P8 b9 (by rintro ((x | x) | x) <;> omega)
      simp only [ek]
      clear ek eu ez b9 F8 P8 N8
      obtain ⟨p9, _⟩ : w9.cell? ⟨pb, 0, none⟩ = some (.pointer (some ⟨fb, 0, none⟩)) ∧ True := ⟨Box.cell P9 0, trivial⟩
      have Y := g_free F9.gm
      rw [F9.tk, show (n : Int) - ((n - 1 : Nat) : Int) = 1 from by omega] at Y
      go_wp2_with fail
      refine Y.mono ?_
      rintro e wa ⟨rfl, na⟩
      have Fa := F9.new na
      have Pa := Box.new P9 na
      have Na := N9.trans na
      clear Y na F9 P9 N9 p9
      have Y := fv_write Fa hnn n3 n22
      go_wp2_with fail
      refine Y.mono ?_
      rintro e wb ⟨rfl, qb1, cb1, Gb, Sb, bb⟩
      have Nb := NEW _ _ (Na.alloc #[.int .u8 1] 5) bb
      have Pb := Box.but (Box.alloc Pa (.cells #[.int .u8 1] 5)) bb PNE.1
      clear Y bb Fa Pa Na
      have Y := one_free Gb Sb
      go_wp2_with fail
      refine Y.mono ?_
      rintro e wc ⟨rfl, qc, cc, Sc, Gc, tc, bc⟩
      have Nc := NEWT _ _ Nb bc
      have Pc := Box.but Pb bc (by rintro (((x | x) | x) | x) <;> omega)
      clear Y bc Gb Sb Pb Nb
      obtain ⟨pc, _⟩ : wc.cell? ⟨pb, 0, none⟩ = some (.pointer (some ⟨fb, 0, none⟩)) ∧ True := ⟨Box.cell Pc 0, trivial⟩
      have Y := g_free Gc
      rw [tc, show (n : Int) - ((0 : Nat) : Int) = n from by omega] at Y
      go_wp2_with fail
      refine Y.mono ?_
      rintro e wd ⟨rfl, nd⟩
      have Nd := Nc.trans nd
      have ld := hl.new Nd
      clear Y nd Gc Pc Nc pc
      go_wp2_with fail
      refine (spsure_any wd ld).mono ?_
      rintro e we ⟨rfl, ne⟩
      go_wp2_with fail
      go_ret
      exact ⟨rfl, Nd.trans ne⟩

/-! ### THE ROW's STEP: WRITTEN OUT: LEAVE IT -/
theorem door_met (os : Os) (args : Array Value) : laidMetH Tryz.prog Rows.spaceFullRow.laid ((World.doorLaid Tryz.prog 400 os).forCall (fun _ _ => 0) ⟨#[], args, []⟩).memory :=
  laidMetH_of_parts3 (fuel := 8) (laidMet_of_run' 8 (by kernel_rfl) (by kernel_rfl)) (by kernel_rfl) (by kernel_rfl)
set_option maxRecDepth 100000 in
theorem lifted (os : Os) (started : os.Started) (H : Type) (enc : TypeId × Value → H) :
    ReturnsInHanded {} Tryz.checked os 6 .any (fun w args => (Rows.spaceFullSpec.pre enc Tryz.prog Tryz.f6 [] false w args ∧ laidMetH Tryz.prog Rows.spaceFullRow.laid w) ∧ sizedMet enc Tryz.prog Tryz.f6 (OpenSpec.ofChange Rows.spaceFullSpec) false w args) (Rows.spaceFullSpec.post enc Tryz.prog Tryz.f6 false true false false) := by
  refine returnsInHanded_of_change_and (C := Tryz.checked) (X := fun w _ => laidMetH Tryz.prog Rows.spaceFullRow.laid w) (fun _ _ _ hh h => h.of_heap hh) own started (by kernel_rfl) Tryz.func6
    (ChangeSpec.witness_shaped (enc := enc) (C := Tryz.checked) (os := os) (X := fun w _ => laidMetH Tryz.prog Rows.spaceFullRow.laid w) false (World.doorLaid Tryz.prog 400 os) #[.int .i64 0, .int .i64 0] 8 rfl (World.shaped_of_RefB (by kernel_rfl) (by kernel_rfl)) (by kernel_rfl) (by kernel_rfl) (by kernel_rfl) (door_met os _)) ?_
  intro W base args ds gs before hval0 hW _ _ hL _
  have hL' : laidMet Tryz.prog [] W ∧ handlesMet Tryz.prog [("errors.errorType", Rows.laid_errors_errorType)] W := hL
  have hval : ∀ (j : Nat) t v, Tryz.f6.params[j]? = some t → args[j]? = some v → Value.okWide Tryz.prog W .any base t v := hval0
  have hW' := hW
  obtain ⟨p, q, hA0, hV, rfl, hfz, hnd⟩ := hW
  have hA : DataW.TrodAll enc Tryz.prog W 0 (fun _ => true) true Tryz.f6.params.toList args.toList ds p := hA0
  rw [Tryz.params6] at hA hval
  obtain ⟨v0, vs0, d0, ds0, p0, q0, hargs, rfl, rfl, h0, r0⟩ := trodAll_cons hA
  obtain ⟨v1, vs1, d1, ds1, p1, q1, rfl, rfl, rfl, h1, r1⟩ := trodAll_cons r0
  obtain ⟨rfl, rfl, rfl⟩ := trodAll_nil r1
  obtain rfl : args = #[v0, v1] := by cases args; simp_all
  obtain ⟨rfl, rfl⟩ := trodVars_none hV
  obtain ⟨a0, rfl, rfl, rfl, w0⟩ := open_int Tryz.underlying3 (hval 0 3 v0 rfl rfl) h0
  obtain ⟨a1, rfl, rfl, rfl, w1⟩ := open_int Tryz.underlying3 (hval 1 3 v1 rfl rfl) h1
  clear hA0 hval0
  simp only [List.append_nil] at hW'
  refine (walk a0 a1 w0 w1 W (handle_of_hs hL'.2)).mono fun e W' ⟨he, hg⟩ => ?_
  subst he
  exact ⟨_, rfl, post_of_new hW' (fun _ _ _ => (trodAll_cons_mk (shut_bool Tryz.underlying4 _) trodAll_mk0)) (fun sp => (trodAll_cons_mk (shut_int Tryz.underlying3 w0) (trodAll_cons_mk (shut_int Tryz.underlying3 w1) trodAll_mk0))) (fun _ => rfl) hg (ok_one (by kernel_rfl) rfl (okWide_bool_mk Tryz.underlying4 _))⟩

theorem over : Rows.spaceFullRow.holds Tryz.pinned (OpenSpec.ofChange Rows.spaceFullSpec) :=
  OpenClaim.holds_of_wide 6 Tryz.f6 rfl rfl rfl rfl rfl rfl rfl ⟨rfl, rfl, rfl, rfl, rfl⟩ rfl rfl rfl rfl rfl (by kernel_rfl) Tryz.func6 (by kernel_rfl)
    (of_decide_eq_true (by kernel_rfl)) (by unfold Func.isWrapper; first | (rw [if_pos (by decide +kernel)]; kernel_rfl) | (rw [if_neg (by decide +kernel)]; exact ⟨rfl, rfl⟩))
    (fun os started H enc _ => lifted os started H enc)

theorem proved : Rows.SpaceFullSaid := over
theorem card : Rows.SpaceFullCardSaid :=
  Claim7.holds_tied_plain_at .later [] [.handle] true (true, "d7b2cccb578fcab45f7dc77a35ff7a96f6fb62bdddf37a0afc0c56b5fbcbaa16") true
    over (fun _ h => by cases h) (by kernel_rfl) (fun _ h => by cases h) spaceFull_row_tie rfl ⟨rfl, rfl⟩ (by kernel_rfl) rfl
    (fun f fn hf hfn => by
      obtain rfl : f = 6 := Option.some.inj ((show Tryz.prog.funcNamed "halter/halterlaw14.SpaceFull" = some 6 by kernel_rfl).symm.trans hf) |>.symm
      obtain rfl : fn = Tryz.f6 := (Option.some.inj (Tryz.func6.symm.trans hfn)).symm
      exact ⟨by kernel_rfl, fun j t ht => by
        rw [Tryz.params6] at ht
        have hm : t ∈ [3, 3] := by have := Array.mem_of_getElem? ht; simpa using this
        have hall : ([3, 3].all fun u => !Tryz.prog.wantsStandIn u) = true := by kernel_rfl
        exact (show Tryz.prog.wantsStandIn t = false by simpa using List.all_eq_true.1 hall t hm)⟩)
    (by kernel_rfl)
#print axioms card
end Go.Proofs.YtfllplinafnpbaaGreatDoor.spaceFull
