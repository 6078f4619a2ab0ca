/- Whatever entries are laid down in a table and taken away, what was laid down is got till it is taken away, no other page is changed by it, nothing is changed where no frame is free, and freed the table gives back all that it took; the statement holds for every input, where the library's variable errors.errorType holds what its own text lays, which the card ties. -/
import Derived.Test.YtpjmcdlkockbdaaDoorRows
import Derived.Test.YtpjmcdlkockbdaaDoorTbK
import Derived.Deep.LoopGhost
import Derived.Test.YtpjmcdlkockbdaaDoorIntRows
import Derived.StillTailTactics
import Derived.Test.YtpjmcdlkockbdaaDoorCards
import Derived.Test.YtpjmcdlkockbdaaDoorTie
import Derived.LaidMore
import Derived.LaidLaws
import Derived.LaidHandle
import Derived.Test.YtpjmcdlkockbdaaDoorLay
import Derived.Test.YtpjmcdlkockbdaaDoorPost
import Derived.WalkKit
import Derived.ProofKit
import Derived.OpenShut
import Derived.ShutString
import Derived.ChangeOld
import Derived.Below
namespace Go.Proofs.YtpjmcdlkockbdaaDoor.tableKeeps
open Go.ChangeShapes Go.WideShapes Go.ChangeAt Go.RowKit
open Go.ChangeMaps (open_string shut_string)
set_option linter.unusedVariables false

theorem own : ownKnob Tryd.prog.godebug = none := by kernel_rfl
theorem laidOut : laidOutB Tryd.prog = true := by kernel_rfl

/-- WHAT THE WALK IS TOLD OF A SLICE OF INTEGERS THAT CAME IN: it is nil; or it leads to a row of 'cap' cells, the numbers 'zs' (the first 'len' are its elements, the rest its spare room), each fitting its kind. -/
def IsRow (k : IntKind) (w : World) (a : Option Addr) (len cap : Nat) (zs : List Int) : Prop :=
  (a = none ∧ len = 0 ∧ cap = 0 ∧ zs = []) ∨
  ∃ x, a = some x ∧ len ≤ cap ∧ cap ≤ maxLen ∧ zs.length = cap ∧ (∀ i, i < zs.length → w.cell? (x.add i) = some (.int k (zs.getD i 0))) ∧ ∀ n ∈ zs, (Lit.int k n).wf = true

/-! ### STEP 1: THE WALK: the Go text returns true, AND WRITES NOTHING THAT WAS THERE: 'Below w.heap.size w w'' (Derived/Below.lean: '.refl', '.alloc', '.drew', '.setCell' at a new block, '.trans'). Open each 'IsRow' by 'rcases' AHEAD of 'go_enter'; part every test ahead of the walk. -/
set_option maxHeartbeats 8000000 in
set_option maxRecDepth 100000 in
theorem walk (a0 : Option Addr) (len0 cap0 : Nat) (w : World) (w0 : MixRows [some .i64, some .i64, some .i64, some .u8, none] w a0 len0) (hl : Laid w) :
    Calls Tryd.prog 4 #[.slice a0 len0 cap0] w fun e w' => e = .returned (.bool true) ∧ Below w.heap.size w w' := by
  have hlt := hl.lt
  have M := fun W => made_any 6 W (by omega) (by omega)
  have Q := fun W => pmade_any 6 W (by omega) (by omega)
  obtain ⟨hlm, hrow⟩ := w0
  unfold maxLen at hlm
  have HR := Lib.hid hrow
  clear hrow
  go_enter Tryd.func4, Tryd.ntmps4
  go_wp2_with fail
  refine (M _).mono ?_
  rintro e w1 ⟨rfl, h1, n1⟩
  go_wp2_with fail
  refine (Q _).mono ?_
  rintro e w2 ⟨rfl, h2, n2⟩
  have h1' := h1.new n2
  have nn := n1.trans n2
  have s1 := n1.size
  clear h1 n1 n2 M Q
  go_wp2_with fail
  refine (new_done h1' h2).mono ?_
  rintro e w3 ⟨tb, cs, rfl, ht, h3, b3, z3⟩
  have n3 := nn.but b3 (fun i hi => by omega)
  have htb : w.heap.size ≤ tb := by have := nn.size; omega
  have I3 := Inv.start h3 z3
  clear h1' h2 b3 nn ht h3 z3
  generalize w1.heap.size = qb at *
  generalize (List.replicate 6 (0 : Int)).set 0 1 = rs at *
  obtain ⟨fb, hfb⟩ : ∃ fb, fb = w.heap.size + 1 := ⟨_, rfl⟩
  obtain ⟨mb, hmb⟩ : ∃ mb, mb = qb + 1 := ⟨_, rfl⟩
  rw [← hfb, ← hmb] at I3
  rw [← hfb, ← hmb]
  clear hfb hmb
  go_wp2_with fail
  go_loopg [9] 25 (fun k i wr => ∃ j : Nat, j + k = 25 ∧ i = .int .i64 (j : Int) ∧ j ≤ len0 ∧ (∃ rs bs, Inv wr 6 tb fb w.heap.size mb qb 0 rs bs) ∧ New w wr)
  case atStart => exact ⟨0, by omega, rfl, by omega, ⟨_, _, I3⟩, n3⟩
  case round =>
    clear I3 n3
    obtain ⟨j, hj, rfl, hjl, ⟨rs, bs, hI⟩, hN⟩ := hrel
    have J := Lib.hid hj
    by_cases c : j < len0 ∧ j < 25
    · obtain ⟨c1, c2⟩ := c
      obtain ⟨x, rfl, hcells⟩ := HR.out j c1
      obtain ⟨v0, q0, ⟨k0, rfl, wf0⟩⟩ := hcells 0 _ rfl
      obtain ⟨v1, q1, ⟨k1, rfl, wf1⟩⟩ := hcells 1 _ rfl
      obtain ⟨v2, q2, ⟨k2, rfl, wf2⟩⟩ := hcells 2 _ rfl
      obtain ⟨v3, q3, ⟨k3, rfl, wf3⟩⟩ := hcells 3 _ rfl
      obtain ⟨v4, q4, ⟨k4, rfl⟩⟩ := hcells 4 _ rfl
      have b3 := u8_bd wf3
      simp only [List.length_cons, List.length_nil, Nat.zero_add, Nat.reduceAdd, Nat.add_zero] at q0 q1 q2 q3 q4
      rw [add_field _ _ _ (by decide)] at q1 q2 q3 q4
      have d0 := (hN.cell (cell_lt q0)).trans q0
      have d1 := (hN.cell (cell_lt q1)).trans q1
      have d2 := (hN.cell (cell_lt q2)).trans q2
      have d3 := (hN.cell (cell_lt q3)).trans q3
      have d4 := (hN.cell (cell_lt q4)).trans q4
      have d3' : wr.cell? ⟨(x.add (j * 5)).block, (x.add (j * 5)).off + 2 + 1, none⟩ = some (.int .u8 k3) := d3
      have d4' : wr.cell? ⟨(x.add (j * 5)).block, (x.add (j * 5)).off + 2 + 2, none⟩ = some (.bool k4) := d4
      have xb := cell_lt d1
      have q0' := q0
      clear hcells wf0 wf1 wf2 wf3 hj q0 q1 q2 q3 q4
      go_wp2_with fail
      go_region
      obtain ⟨p, ep, hp⟩ := mod_by k1 4096 (by omega) (by omega)
      simp only [show ((4096 : Nat) : Int) = 4096 from rfl] at ep
      obtain ⟨g, eg, hg⟩ := mod_by k2 1024 (by omega) (by omega)
      simp only [show ((1024 : Nat) : Int) = 1024 from rfl] at eg
      simp only [ep, eg]
      clear ep eg
      go_wp2_with fail
      obtain ⟨r, er, hr, hne⟩ := round_page p k3 hp b3.1
      simp only [er]
      have q0 : 0 ≤ k3 % 8 ∧ k3 % 8 ≤ 7 := by omega
      have n5 := ((New.refl wr).alloc #[.int .i64 (g : Int), .int .u8 (k3 % 8), .bool k4] 25).drew
      have B5 : Bs (wr.alloc (.cells #[.int .i64 (g : Int), .int .u8 (k3 % 8), .bool k4] 25)).drew [(wr.heap.size, .int .i64 (g : Int), .int .u8 (k3 % 8), .bool k4)] := ((Bs.nil wr).put _ _ _).new (New.refl _).drew
      generalize k3 % 8 = q at *
      have I5 := hI.new n5
      have N5 := hN.trans n5
      generalize wr.heap.size = t11 at *
      generalize (wr.alloc (.cells #[.int .i64 (g : Int), .int .u8 q, .bool k4] 25)).drew = w5 at *
      obtain ⟨x1, x2, x3, x4, hX⟩ := gotE_form (pgn bs 0 r)
      obtain ⟨y1, y2, y3, y4, hY⟩ := gotE_form (pgn bs 0 p)
      have HX := Lib.hid hX
      have HY := Lib.hid hY
      clear hX hY er n5 hI hN d0 d1 d2 d3 d4 d3' d4' xb b3
      have Z := inv_get r I5 hr
      rw [HX.out] at Z
      refine Z.mono ?_
      rintro e w6 ⟨rfl, n6⟩
      have m6 := n6.alloc #[.int .i64 x1, .int .u8 x2, .bool x3] 25
      have B6 := (B5.new n6).put (.int .i64 x1) (.int .u8 x2) (.bool x3)
      have I6 := I5.new m6
      have N6 := N5.trans m6
      clear Z I5 N5 B5 m6 n6
      go_wp2_with fail
      have Z := inv_get p I6 hp
      rw [HY.out] at Z
      refine Z.mono ?_
      rintro e w7 ⟨rfl, n7⟩
      have m7 := n7.alloc #[.int .i64 y1, .int .u8 y2, .bool y3] 25
      have B7 := (B6.new n7).put (.int .i64 y1) (.int .u8 y2) (.bool y3)
      have I7 := I6.new m7
      have N7 := N6.trans m7
      clear Z I6 N6 B6 m7 n7
      go_wp2_with fail
      refine (inv_free I7).mono ?_
      rintro e w8 ⟨rfl, n8⟩
      have B8 := B7.new n8
      have I8 := I7.new n8
      have N8 := N7.trans n8
      clear I7 N7 B7 n8
      have hcnt := I8.cnt
      have hcl := I8.le
      obtain ⟨z1, c0, c1', c2'⟩ := B8.get t11 (.int .i64 (g : Int)) (.int .u8 q) (.bool k4) (by simp)
      go_wp2_with fail
      clear z1 c0 c1' c2'
      refine (inv_set p g q k4 I8 hp (by omega) (by omega) q0.1 q0.2).mono ?_
      rintro e w9 (⟨qs, ds, rfl, I9, b9, pg, cnt, _⟩ | ⟨rfl, I9, n9, full, _⟩)
      · have B9 := B8.but I8 b9
        have N9 := N8.but b9 (fun i hi => by omega)
        clear I8 N8 B8 b9
        have PG := Lib.hid pg
        clear pg
        go_wp2_with fail
        have Z := inv_get p I9 hp
        rw [PG.out p hp, if_pos rfl, gotE_ennum _ _ _ (by omega) (by omega) q0.1 q0.2] at Z
        refine Z.mono ?_
        rintro e wa ⟨rfl, na⟩
        have Ba := (B9.new na).put (.int .i64 (g : Int)) (.int .u8 q) (.bool k4)
        have ma := na.alloc #[.int .i64 (g : Int), .int .u8 q, .bool k4] 25
        have Ia := I9.new ma
        have Na := N9.trans ma
        clear Z I9 N9 B9 ma na
        go_wp2_with fail
        have Z := inv_get r Ia hr
        rw [PG.out r hr, if_neg hne, HX.out] at Z
        refine Z.mono ?_
        rintro e wb ⟨rfl, nb⟩
        have Bb := (Ba.new nb).put (.int .i64 x1) (.int .u8 x2) (.bool x3)
        have mb' := nb.alloc #[.int .i64 x1, .int .u8 x2, .bool x3] 25
        have Ib := Ia.new mb'
        have Nb := Na.trans mb'
        clear Z Ia Na Ba nb mb'
        obtain ⟨s1', u0, u1, u2'⟩ := Bb.get w6.heap.size (.int .i64 x1) (.int .u8 x2) (.bool x3) (by simp)
        obtain ⟨s2', v0, v1, v2'⟩ := Bb.get wa.heap.size (.int .i64 (g : Int)) (.int .u8 q) (.bool k4) (by simp)
        obtain ⟨s3', z0, z1, z2⟩ := Bb.get t11 (.int .i64 (g : Int)) (.int .u8 q) (.bool k4) (by simp)
        have d0 := (Nb.cell (cell_lt q0')).trans q0'
        clear HX HY
        go_wp2_with fail
        · refine (inv_clear p Ib hp).mono ?_
          rintro e wc ⟨es, rfl, Ic, bc, pc, _, _⟩
          have Nc := Nb.but bc (fun i hi => by omega)
          have Z := inv_get p Ic hp
          rw [pc p hp, if_pos rfl, gotE_zero] at Z
          clear u0 u1 u2' v0 v1 v2' z0 z1 z2 d0 Bb Ib Nb bc pc
          go_wp2_with fail
          refine Z.mono ?_
          rintro e wd ⟨rfl, nd⟩
          have md := nd.alloc #[.int .i64 0, .int .u8 0, .bool false] 25
          have Id := Ic.new md
          have Nd := Nc.trans md
          clear Z Ic Nc
          go_wp2_with fail
          go_roundg (25 - (j + 1))
          case measure => have := J.out; omega
          case rel => exact ⟨j + 1, by have := J.out; omega, by go_num, by omega, ⟨_, _, Id⟩, Nd⟩
        · clear u0 u1 u2' v0 v1 v2' z0 z1 z2 d0 Bb
          go_roundg (25 - (j + 1))
          case measure => have := J.out; omega
          case rel => exact ⟨j + 1, by have := J.out; omega, by go_num, by omega, ⟨_, _, Ib⟩, Nb⟩
      · have B9 := B8.new n9
        have N9 := N8.trans n9
        have e5 : nup bs 0 64 = 5 := by omega
        clear I8 N8 B8 n9 hcnt hcl full
        simp only [e5]
        clear e5
        go_wp2_with fail
        have Z := inv_get p I9 hp
        rw [HY.out] at Z
        refine Z.mono ?_
        rintro e wa ⟨rfl, na⟩
        have Ba := (B9.new na).put (.int .i64 y1) (.int .u8 y2) (.bool y3)
        have ma := na.alloc #[.int .i64 y1, .int .u8 y2, .bool y3] 25
        have Ia := I9.new ma
        have Na := N9.trans ma
        clear Z I9 N9 B9 ma na
        go_wp2_with fail
        have Z := inv_get r Ia hr
        rw [HX.out] at Z
        refine Z.mono ?_
        rintro e wb ⟨rfl, nb⟩
        have Bb := (Ba.new nb).put (.int .i64 x1) (.int .u8 x2) (.bool x3)
        have mb' := nb.alloc #[.int .i64 x1, .int .u8 x2, .bool x3] 25
        have Ib := Ia.new mb'
        have Nb := Na.trans mb'
        clear Z Ia Na Ba nb mb' HX HY
        obtain ⟨s1', u0, u1, u2'⟩ := Bb.get w6.heap.size (.int .i64 x1) (.int .u8 x2) (.bool x3) (by simp)
        go_wp2_with fail
        refine (num_err 12 _ (hl.new Nb)).mono ?_
        rintro e wc ⟨rfl, nc⟩
        have Bc := Bb.new nc
        have Ic := Ib.new nc
        have Nc := Nb.trans nc
        clear u0 u1 u2' Bb Ib Nb nc
        obtain ⟨s2', v0, v1, v2'⟩ := Bc.get wa.heap.size (.int .i64 y1) (.int .u8 y2) (.bool y3) (by simp)
        obtain ⟨s3', z0, z1, z2⟩ := Bc.get w7.heap.size (.int .i64 y1) (.int .u8 y2) (.bool y3) (by simp)
        go_wp2_with fail
        go_roundg (25 - (j + 1))
        case measure => have := J.out; omega
        case rel => exact ⟨j + 1, by have := J.out; omega, by go_num, by omega, ⟨_, _, Ic⟩, Nc⟩
    · have hout : len0 ≤ j ∨ 25 ≤ j := by omega
      have hle : 1 + nup bs 0 64 ≤ 6 := by have := hI.cnt; have := hI.le; omega
      have X := inv_free hI
      have Y := fun W (k : New wr W) => inv_frames (hI.new k)
      generalize 1 + nup bs 0 64 = m at *
      clear c HR
      by_cases c : j < len0
      · have c2 : decide ((j : Int) < 25) = false := by simp; omega
        clear hout
        go_wp2_with fail
        refine X.mono ?_
        rintro e w4 ⟨rfl, n4⟩
        go_wp2_with fail
        refine (Y _ n4).mono ?_
        rintro e w5 ⟨rfl, n5⟩
        have I5 := hI.new (n4.trans n5)
        have N5 := hN.trans (n4.trans n5)
        clear hI hN X Y n4 n5
        go_wp2_with fail
        refine (inv_gone I5).mono ?_
        rintro e w6 ⟨rfl, t6, f6, b6⟩
        have N6 := N5.but b6 (fun i hi => by omega)
        go_wp2_with fail
        refine (free_all f6).mono ?_
        rintro e w7 ⟨rfl, n7⟩
        have N7 := N6.trans n7
        clear I5 N5 t6 f6 b6 N6 n7
        go_wp2_with fail
        refine (tsure_any _).mono ?_
        rintro e w8 ⟨rfl, n8⟩
        go_wp2_with fail
        go_ret
        exact ⟨rfl, N7.trans n8⟩
      · have c2 : decide ((j : Int) < (len0 : Int)) = false := by simp; omega
        clear hout
        go_wp2_with fail
        refine X.mono ?_
        rintro e w4 ⟨rfl, n4⟩
        go_wp2_with fail
        refine (Y _ n4).mono ?_
        rintro e w5 ⟨rfl, n5⟩
        have I5 := hI.new (n4.trans n5)
        have N5 := hN.trans (n4.trans n5)
        clear hI hN X Y n4 n5
        go_wp2_with fail
        refine (inv_gone I5).mono ?_
        rintro e w6 ⟨rfl, t6, f6, b6⟩
        have N6 := N5.but b6 (fun i hi => by omega)
        go_wp2_with fail
        refine (free_all f6).mono ?_
        rintro e w7 ⟨rfl, n7⟩
        have N7 := N6.trans n7
        clear I5 N5 t6 f6 b6 N6 n7
        go_wp2_with fail
        refine (tsure_any _).mono ?_
        rintro e w8 ⟨rfl, n8⟩
        go_wp2_with fail
        go_ret
        exact ⟨rfl, N7.trans n8⟩

/-! ### THE ROW's STEP: WRITTEN OUT: LEAVE IT -/
theorem door_met (os : Os) (args : Array Value) : laidMetH Tryd.prog Rows.tableKeepsRow.laid ((World.doorLaid Tryd.prog 400 os).forCall (fun _ _ => 0) ⟨#[], args, []⟩).memory :=
  laidMetH_of_parts3 (fuel := 8) (laidMet_of_run' 8 (by kernel_rfl) (by kernel_rfl)) (by kernel_rfl) (by kernel_rfl)
set_option maxRecDepth 100000 in
theorem lifted (os : Os) (started : os.Started) (H : Type) (enc : TypeId × Value → H) :
    ReturnsInHanded {} Tryd.checked os 4 .any (fun w args => (Rows.tableKeepsSpec.pre enc Tryd.prog Tryd.f4 [] false w args ∧ laidMetH Tryd.prog Rows.tableKeepsRow.laid w) ∧ sizedMet enc Tryd.prog Tryd.f4 (OpenSpec.ofChange Rows.tableKeepsSpec) false w args) (Rows.tableKeepsSpec.post enc Tryd.prog Tryd.f4 false true false false) := by
  refine returnsInHanded_of_change_and (C := Tryd.checked) (X := fun w _ => laidMetH Tryd.prog Rows.tableKeepsRow.laid w) (fun _ _ _ hh h => h.of_heap hh) own started (by kernel_rfl) Tryd.func4
    (ChangeSpec.witness_shaped (enc := enc) (C := Tryd.checked) (os := os) (X := fun w _ => laidMetH Tryd.prog Rows.tableKeepsRow.laid w) false (World.doorLaid Tryd.prog 400 os) #[.slice none 0 0] 8 rfl (World.shaped_of_RefB (by kernel_rfl) (by kernel_rfl)) (by kernel_rfl) (by kernel_rfl) (by kernel_rfl) (door_met os _)) ?_
  intro W base args ds gs before hval0 hW _ _ hL _
  have hL' : laidMet Tryd.prog [] W ∧ handlesMet Tryd.prog [("errors.errorType", Rows.laid_errors_errorType)] W := hL
  have hval : ∀ (j : Nat) t v, Tryd.f4.params[j]? = some t → args[j]? = some v → Value.okWide Tryd.prog W .any base t v := hval0
  have hW' := hW
  obtain ⟨p, q, hA0, hV, rfl, hfz, hnd⟩ := hW
  have hA : DataW.TrodAll enc Tryd.prog W 0 (fun _ => true) true Tryd.f4.params.toList args.toList ds p := hA0
  rw [Tryd.params4] at hA hval
  obtain ⟨v0, vs0, d0, ds0, p0, q0, hargs, rfl, rfl, h0, r0⟩ := trodAll_cons hA
  obtain ⟨rfl, rfl, rfl⟩ := trodAll_nil r0
  obtain rfl : args = #[v0] := by cases args; simp_all
  obtain ⟨rfl, rfl⟩ := trodVars_none hV
  obtain ⟨a0, len0, cap0, rfl⟩ := okWide_slice Tryd.underlying22 (hval 0 22 v0 rfl rfl)
  have k0 := h0
  have lt0 : ∀ x ∈ p0, x.block < W.heap.size := by obtain ⟨m, hm⟩ := k0; exact DataW.trod_lt m _ _ _ hm
  have w0 : MixRows [some .i64, some .i64, some .i64, some .u8, none] W a0 len0 := mixrows_of Tryd.underlying22 (.struct Tryd.underlying54 (.cons rfl (.int Tryd.underlying3) (by kernel_rfl) (.cons rfl (.int Tryd.underlying3) (by kernel_rfl) (.cons rfl (.struct Tryd.underlying52 (.cons rfl (.int Tryd.underlying3) (by kernel_rfl) (.cons rfl (.int Tryd.underlying5) (by kernel_rfl) (.cons rfl (.bool Tryd.underlying4) (by kernel_rfl) .nil)))) (by kernel_rfl) .nil)))) (by kernel_rfl) h0
  clear hA0 hval0
  refine (walk a0 len0 cap0 W w0 (handle_of_hs hL'.2)).mono fun e W' ⟨he, bel⟩ => ?_
  subst he
  exact ⟨_, rfl, _, _, _, [], _, [], hW', trodAll_mk1 (shut_bool Tryd.underlying4 _), (trodAll_cons_mk (Below.trod laidOut (by kernel_rfl) (of_decide_eq_true (by kernel_rfl)) k0 bel lt0) trodAll_mk0), rfl, bel.frame _, fun h => by cases h⟩

theorem over : Rows.tableKeepsRow.holds Tryd.pinned (OpenSpec.ofChange Rows.tableKeepsSpec) :=
  OpenClaim.holds_of_wide 4 Tryd.f4 rfl rfl rfl rfl rfl rfl rfl ⟨rfl, rfl, rfl, rfl, rfl⟩ rfl rfl rfl rfl rfl (by kernel_rfl) Tryd.func4 (by kernel_rfl)
    (of_decide_eq_true (by kernel_rfl)) (by unfold Func.isWrapper; first | (rw [if_pos (by decide +kernel)]; kernel_rfl) | (rw [if_neg (by decide +kernel)]; exact ⟨rfl, rfl⟩))
    (fun os started H enc _ => lifted os started H enc)

theorem proved : Rows.TableKeepsSaid := over
theorem card : Rows.TableKeepsCardSaid :=
  Claim7.holds_tied_plain_at .later [] [.handle] true (true, "595bd77fcec15f783197b25df47f5e99329c22d820aab7cc4ce7f87dbfa2d2f6") true
    over (fun _ h => by cases h) (by kernel_rfl) (fun _ h => by cases h) tableKeeps_row_tie rfl ⟨rfl, rfl⟩ (by kernel_rfl) rfl
    (fun f fn hf hfn => by
      obtain rfl : f = 4 := Option.some.inj ((show Tryd.prog.funcNamed "halter/halterlaw07.TableKeeps" = some 4 by kernel_rfl).symm.trans hf) |>.symm
      obtain rfl : fn = Tryd.f4 := (Option.some.inj (Tryd.func4.symm.trans hfn)).symm
      exact ⟨by kernel_rfl, fun j t ht => by
        rw [Tryd.params4] at ht
        have hm : t ∈ [22] := by have := Array.mem_of_getElem? ht; simpa using this
        have hall : ([22].all fun u => !Tryd.prog.wantsStandIn u) = true := by kernel_rfl
        exact (show Tryd.prog.wantsStandIn t = false by simpa using List.all_eq_true.1 hall t hm)⟩)
    (by kernel_rfl)
#print axioms card
end Go.Proofs.YtpjmcdlkockbdaaDoor.tableKeeps
