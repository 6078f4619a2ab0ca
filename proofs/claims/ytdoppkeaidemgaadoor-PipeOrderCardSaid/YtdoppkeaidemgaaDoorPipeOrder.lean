/- Whatever is written and read, in whatever pieces, all that was taken comes out in order, each byte once, and there are never more on the way than may be; the statement holds for every input, where the listed variable holds what the library's own text lays, which the card ties. -/
import Derived.Test.YtdoppkeaidemgaaDoorRows
import Derived.Test.YtdoppkeaidemgaaDoorPiD
import Derived.Test.YtdoppkeaidemgaaDoorPiE
import Derived.Test.YtdoppkeaidemgaaDoorPiF
import Derived.Test.YtdoppkeaidemgaaDoorByIn
import Derived.Test.YtdoppkeaidemgaaDoorLay
import Derived.StillTailTactics
import Derived.Deep.LoopGhost
import Derived.Deep.RegionHeld3
import Derived.Deep.CutRange
import Derived.Test.YtdoppkeaidemgaaDoorCards
import Derived.Test.YtdoppkeaidemgaaDoorTie
import Derived.LaidMore
import Derived.LaidLaws
import Derived.LaidHandle
import Derived.Test.YtdoppkeaidemgaaDoorLay
import Derived.Test.YtdoppkeaidemgaaDoorPost
import Derived.WalkKit
import Derived.ProofKit
import Derived.OpenShut
import Derived.ShutString
import Derived.ChangeOld
import Derived.Below
namespace Go.Proofs.YtdoppkeaidemgaaDoor.pipeOrder
open Go.ChangeShapes Go.WideShapes Go.ChangeAt Go.RowKit
open Go.ChangeMaps (open_string shut_string)
set_option linter.unusedVariables false

theorem own : ownKnob Tryd.prog.godebug = none := by kernel_rfl
theorem laidOut : laidOutB Tryd.prog = true := by kernel_rfl

/-- WHAT THE WALK IS TOLD OF A SLICE OF INTEGERS THAT CAME IN: it is nil; or it leads to a row of 'cap' cells, the numbers 'zs' (the first 'len' are its elements, the rest its spare room), each fitting its kind. -/
def IsRow (k : IntKind) (w : World) (a : Option Addr) (len cap : Nat) (zs : List Int) : Prop :=
  (a = none ∧ len = 0 ∧ cap = 0 ∧ zs = []) ∨
  ∃ x, a = some x ∧ len ≤ cap ∧ cap ≤ maxLen ∧ zs.length = cap ∧ (∀ i, i < zs.length → w.cell? (x.add i) = some (.int k (zs.getD i 0))) ∧ ∀ n ∈ zs, (Lit.int k n).wf = true

def Ord (b0 bq : Nat) (w0 w : World) (vi vo : Value) (c : Nat) : Prop := ∃ I J m q cc, Twob b0 w vi vo I J ∧ I = J ++ m ∧ m.length ≤ 64 ∧ I.length ≤ 200 * c ∧ Byts w (.slice q m.length cc) m ∧ (∀ g, (Value.slice q m.length cc).ownBlock = some g → vi.ownBlock ≠ some g ∧ vo.ownBlock ≠ some g) ∧ Box w bq #[.slice q m.length cc, .int .i64 1, .int .i64 1] 26 ∧ New w0 w
/-! ### STEP 1: THE WALK: the Go text returns true, AND WRITES NOTHING THAT WAS THERE: 'Below w.heap.size w w'' (Derived/Below.lean: '.refl', '.alloc', '.drew', '.setCell' at a new block, '.trans'). Open each 'IsRow' by 'rcases' AHEAD of 'go_enter'; part every test ahead of the walk. -/
set_option maxHeartbeats 8000000 in
set_option maxRecDepth 100000 in
theorem walk (a0 : Option Addr) (len0 cap0 : Nat) (w : World) (w0 : FkRows [.bys, .num .i64] w a0 len0) (hl : Laid w) :
    Calls Tryd.prog 4 #[.slice a0 len0 cap0] w fun e w' => e = .returned (.bool true) ∧ Below w.heap.size w w' := by
  have HL := Lib.hid w0.2
  have hmx := w0.1
  unfold maxLen at hmx
  clear w0
  have cS := Lib.hid (fun W (q : Laid W) => psure_any W q)
  have LD := Lib.hid hl
  clear hl
  have c := popen_any (p := Pp.zero) (Byts.nil w) false
  go_enter Tryd.func4, Tryd.ntmps4
  go_wp2_with fail
  refine c.mono ?_
  rintro e w1 ⟨v1, rfl, b1, -, m1⟩
  rw [pe1.1, pe1.2, er0]
  rw [pe1.2] at b1
  unfold PpV
  obtain ⟨q1, c1, rfl⟩ := b1.shape
  change Byts w1 (.slice q1 0 c1) [] at b1
  dsimp only [List.length_nil, Pp.zero]
  have al := (New.refl w1).alloc #[.slice q1 0 c1, .int .i64 1, .int .i64 0] 26
  have c := popen_any (p := ⟨[], 1, 0⟩) (b1.new al) true
  have N1 := m1.trans al
  clear al m1 b1
  go_wp2_with fail
  refine c.mono ?_
  rintro e w2 ⟨v2, rfl, b2, -, m2⟩
  rw [pe2.1, pe2.2, er0]
  rw [pe2.2] at b2
  unfold PpV
  obtain ⟨q2, c2, rfl⟩ := b2.shape
  change Byts w2 (.slice q2 0 c2) [] at b2
  dsimp only [List.length_nil, Pp.zero]
  have al := (New.refl w2).alloc #[.slice q2 0 c2, .int .i64 1, .int .i64 1] 26
  have N2 := (N1.trans m2).trans al
  have B2 := Box.here w2 w2.heap.size #[.slice q2 0 c2, .int .i64 1, .int .i64 1] 26 rfl
  have O0 : Ord (w2.heap.size + 1) w2.heap.size w (w2.alloc (.cells #[.slice q2 0 c2, .int .i64 1, .int .i64 1] 26)) (.slice none 0 0) (.slice none 0 0) 0 := ⟨[], [], [], q2, c2, ⟨OwnB.nil _ _, OwnB.nil _ _, fun g hg => by cases hg⟩, rfl, by simp, by simp, b2.new al, fun g hg => ⟨fun e => (by cases e), fun e => (by cases e)⟩, B2, N2⟩
  have O0 := Lib.hid O0
  have sz := (N1.trans m2).size
  clear al N1 N2 B2 b2 m2 c
  go_wp2_with fail
  go_loopg [7, 8, 9] len0 (fun gk vi vo i wr => ∃ j : Nat, j + gk = len0 ∧ i = .int .i64 (j : Int) ∧ j ≤ 40 ∧ Ord (w2.heap.size + 1) w2.heap.size w wr vi vo j)
  case atStart => exact ⟨0, by omega, rfl, by omega, O0.out⟩
  case round =>
    obtain ⟨j, hj, rfl, hj4, hO⟩ := hrel
    have J := Lib.hid hj
    obtain ⟨I, Jl, m, q, cc, hT, hI, hm, hn, hb, hap, hbx, hN⟩ := hO
    clear O0
    by_cases hjl : j < len0
    · by_cases hj40 : j < 40
      · have t2 : decide ((j : Int) < 40) = true := decide_eq_true (by omega)
        have t3 : decide (j < 40) = true := decide_eq_true hj40
        have t4 : decide ((j : Int) < (len0 : Int)) = true := decide_eq_true (by omega)
        have t5 : decide (j < len0) = true := decide_eq_true hjl
        obtain ⟨x, rfl, hx⟩ := HL.out j hjl
        obtain ⟨u, cu, B, hB⟩ := hx 0 _ rfl
        obtain ⟨v, cv, n, rfl, hn64⟩ := hx 1 _ rfl
        have cv0 := cv
        have cu := hN.keeps cu
        have cv := hN.keeps cv
        obtain ⟨qB, cB, rfl⟩ := hB.byts.shape
        have HB := Lib.hid (hB.byts.new hN)
        obtain ⟨hb1, hb2, hb3⟩ := HB.out.caps
        unfold maxLen at hb3
        rw [show ([Fk.bys, Fk.num .i64] : List Fk).length = 2 from rfl] at cu cv cv0
        rw [Nat.add_zero] at cu
        rw [fk_field x (j * 2) 1 (by omega)] at cv cv0
        have CV0 := Lib.hid cv0
        clear cv0
        have HM := Lib.hid (And.intro hI (And.intro hm hn))
        have HT := Lib.hid hT
        have HQ := Lib.hid hb
        have HA := Lib.hid hap
        have HX := Lib.hid hbx
        have HN := Lib.hid hN
        have HC := Lib.hid (And.intro cu cv)
        clear hT hI hm hn hb hap hbx hN hB hx hb1
        by_cases h2 : B.length ≤ 200
        · have h3 : ¬ (200 : Int) < (B.length : Int) := by omega
          have cW := fun W (k : New wr W) => pwrite_own (p := ⟨m, 1, 1⟩) (HQ.out.new k) (HB.out.new k) (by omega)
          have FW := Lib.hid (And.intro (po_wE (b := B) HM.out.2.1) (And.intro (po_w (b := B) HM.out.2.1) (And.intro (po_len (b := B) HM.out.2.1) (po_full (b := B) HM.out.2.1))))
          unfold PpV at cW
          generalize pwK ⟨m, 1, 1⟩ B = K at *
          generalize pwE ⟨m, 1, 1⟩ B = E at *
          generalize pwP ⟨m, 1, 1⟩ B = P at *
          obtain ⟨l4, r4, s4⟩ := P
          dsimp only at cW
          obtain ⟨t, ht⟩ : ∃ t, t = B.take (64 - m.length) := ⟨_, rfl⟩
          have htl : t.length ≤ B.length := by rw [ht, List.length_take]; omega
          have htB : t = B.take t.length := by rw [ht, List.length_take]; rcases Nat.le_total (64 - m.length) B.length with c | c; rw [Nat.min_eq_left c]; rw [Nat.min_eq_right c, List.take_of_length_le c, List.take_of_length_le (Nat.le_refl _)]
          rw [← ht] at FW
          have HTB := Lib.hid htB
          generalize hBl : B.length = Bl at *
          generalize hml : m.length = ml at *
          have HBL := Lib.hid hBl
          have HML := Lib.hid hml
          clear hBl hml ht htB
          have CW := Lib.hid cW
          have h2 := Lib.hid h2
          have hj4 := Lib.hid hj4
          have htl := Lib.hid htl
          clear cW
          obtain ⟨cu, cv⟩ := HC.out
          obtain ⟨lb, z0, z1, z2, g0, g1, g2⟩ := HX.out.three'
          have KEEP : ∀ W', New wr W' → New wr W' ∧ W'.cell? ⟨w2.heap.size, 0, none⟩ = some (.slice q ml cc) ∧ W'.cell? ⟨w2.heap.size, 1, none⟩ = some (.int .i64 1) ∧ W'.cell? ⟨w2.heap.size, 2, none⟩ = some (.int .i64 1) ∧ W'.cell? (x.add (j * 2)) = some (.slice qB Bl cB) := fun W' k => ⟨k, k.keeps z0, k.keeps z1, k.keeps z2, k.keeps cu⟩
          go_upto_region 10 with fail
          go_cut [10, 11, 12] from 49 to 60 (fun kv pv ev wx => ∃ yb q4 c4, kv = .int .i64 K ∧ pv = .pointer (some ⟨yb, 0, none⟩) ∧ ev = erN E ∧ wr.heap.size ≤ yb ∧ Box wx yb #[.slice q4 l4.length c4, .int .i64 r4, .int .i64 s4] 26 ∧ OwnB wr.heap.size wx (.slice q4 l4.length c4) l4 ∧ New wr wx)
          case first =>
            have KEEP := Lib.hid KEEP
            have nd : New wr wr.drew := (New.refl wr).drew
            have na : New wr (wr.alloc (.cells #[.slice none 0 0, .int .i64 0, .int .i64 0] 26)).drew := ((New.refl wr).alloc _ _).drew
            have sza : (wr.alloc (.cells #[.slice none 0 0, .int .i64 0, .int .i64 0] 26)).drew.heap.size = wr.heap.size + 1 := World.size_alloc _ _
            have SZA := Lib.hid sza
            clear sza
            go_region_held3 (fun W' => New wr W' ∧ W'.cell? ⟨w2.heap.size, 0, none⟩ = some (.slice q ml cc) ∧ W'.cell? ⟨w2.heap.size, 1, none⟩ = some (.int .i64 1) ∧ W'.cell? ⟨w2.heap.size, 2, none⟩ = some (.int .i64 1) ∧ W'.cell? (x.add (j * 2)) = some (.slice qB Bl cB))
              (first | exact KEEP.out _ hnx | exact KEEP.out _ (hnx.alloc _ _) | exact KEEP.out _ nd | exact KEEP.out _ na | exact KEEP.out _ (((hnx.setCell (Nat.le_refl _) _).setCell (Nat.le_refl _) _).setCell (Nat.le_refl _) _))
              (first
                | (go_at_call 9; (with_reducible refine (CW.out _ nd).mono ?_); rintro e w4 ⟨v4, rfl, o4, n4⟩; have hnx : New wr w4 := nd.trans n4; have O4 := Lib.hid o4; obtain ⟨q4, c4, rfl⟩ := o4.shape)
                | (go_at_call 9; (with_reducible refine (CW.out _ na).mono ?_); rintro e w4 ⟨v4, rfl, o4, n4⟩; have hnx : New wr w4 := na.trans n4; rw [SZA.out] at o4; have O4 := Lib.hid o4; obtain ⟨q4, c4, rfl⟩ := o4.shape
                   have hbz : Box w4 wr.heap.size #[.slice none 0 0, .int .i64 0, .int .i64 0] 26 := ((Box.here wr wr.heap.size _ _ rfl).new (New.refl _).drew).new n4
                   obtain ⟨bl, x0, x1, x2, fx0, fx1, fx2⟩ := hbz.three'))
            · go_wp2_with fail
              go_meet
              case rel =>
                exact ⟨w4.heap.size, q4, c4, rfl, rfl, rfl, hnx.size, Box.here _ _ _ _ rfl, O4.out.new ((New.refl w4).alloc _ _), hnx.alloc _ _⟩
            · go_wp2_with fail
              go_meet
              case rel =>
                exact ⟨wr.heap.size, q4, c4, rfl, rfl, rfl, Nat.le_refl _, hbz.set3 _ _ _, (O4.out.but (But.set3 (S := fun g => g = wr.heap.size) w4 rfl _ _ _) (fun g hg c => by have := O4.out.ge hg; omega)).more (by omega), hnx.set3 (Nat.le_refl _) _ _ _⟩
          case rest =>
            obtain ⟨yb, q4, c4, rfl, rfl, rfl, hyb, hB4, o4, n4⟩ := hcut
            rename_i K1 A1 K2 A2
            refine A2 _ _ ?_
            refine wp_seq_k (fun K3 A3 => ?_)
            clear z0 z1 z2 g0 g1 g2 lb KEEP cu cv CW
            go_cut [7] from 60 to 104 (fun vi2 wx => Ord (w2.heap.size + 1) w2.heap.size w wx vi2 u8 (j + 1))
            case first =>
              have E01 : E = 0 ∨ E = 11 := by rw [FW.out.1]; split; exact .inr rfl; exact .inl rfl
              have O4 := Lib.hid o4
              have HB4 := Lib.hid hB4
              have N4 := Lib.hid n4
              have cu := n4.keeps HC.out.1
              have HYB := Lib.hid hyb
              have lti := fun g hg => OwnB.lt HT.out.1 (g := g) hg
              have LTI := Lib.hid lti
              clear o4 hB4 hyb n4 lti
              rcases E01 with rfl | rfl
              · obtain ⟨hK, hP⟩ := FW.out.2.1 rfl
                have hl4 := FW.out.2.2.1
                have hfu := FW.out.2.2.2
                simp only [Pp.mk.injEq] at hP
                obtain ⟨rfl, rfl, rfl⟩ := hP
                rw [er0]
                have hT4 := HT.out.new N4.out
                have HL4 := Lib.hid hl4
                have hfr : Byts wc (.slice qB t.length cB) t := by
                  have := (HB.out.new N4.out).front t.length (by have := htl.out; have := HBL.out; omega)
                  rw [← HTB.out] at this
                  exact this
                have FR := Lib.hid hfr
                have HT4 := Lib.hid hT4
                have h6 : ¬ (t.length : Int) < 0 := by omega
                have h7 : ¬ (Bl : Int) < (t.length : Int) := by have := htl.out; omega
                have htc : t.length ≤ cB := by have := htl.out; omega
                have il : I.length ≤ 200 * j := HM.out.2.2
                have IL := Lib.hid il
                have bl2 := Lib.hid (show t.length ≤ 200 by have := htl.out; have := h2.out; omega)
                clear hfr hT4 il
                generalize hTL : t.length = tl at *
                have HTL := Lib.hid hTL
                generalize hLL : (m ++ t).length = LL at *
                have HLL := Lib.hid hLL
                clear hTL hLL hl4
                subst hK
                have WY : (tl < Bl ∧ LL = 64) ∨ ¬ tl < Bl := by
                  by_cases c : tl < Bl
                  · exact .inl ⟨c, hfu c⟩
                  · exact .inr c
                clear hfu
                obtain ⟨ly, y0, y1, y2, f0, f1, f2⟩ := HB4.out.three'
                rcases WY with ⟨hw1, rfl⟩ | hw1
                · go_wp2_with (first
                    | ((with_reducible refine at_slot 98 ?_); refine wpList_app_b rfl _ _ rfl rfl _ _ rfl (HT4.out.1.more (Nat.zero_le _)) _ t rfl FR.out (by have := IL.out; have := HTL.out; have := bl2.out; have := hj4.out; omega) ?_))
                  intro v3 w3 o3 k3 x3
                  have nx3 : ∀ g, u7.ownBlock = some g → ¬ g = yb ∧ ¬ g = w2.heap.size := fun g hg => by have := LTI.out g hg; have := HYB.out; have := HT.out.1.ge hg; omega
                  have B3 := HB4.out.but k3 (fun hg => (nx3 _ hg).1 rfl)
                  have X3 := (HX.out.new N4.out).but k3 (fun hg => (nx3 _ hg).2 rfl)
                  have T3 := HT4.out.left (by have := N4.out.size; have := HX.out.lt; omega) o3 k3 x3
                  have N3 : New w w3 := HT4.out.1.step (by omega) (HN.out.trans N4.out) k3
                  have D3 : ∀ g, (Value.slice q4 _ c4).ownBlock = some g → v3.ownBlock ≠ some g ∧ u8.ownBlock ≠ some g := fun g hg => by
                    have l1 := O4.out.ge hg
                    have l2 := O4.out.lt hg
                    refine ⟨fun c => ?_, fun c => ?_⟩
                    · rcases x3 g c with e | e
                      · have := LTI.out g e; omega
                      · omega
                    · have := HT.out.2.1.lt c; omega
                  have Y3 := O4.out.byts.butX k3 (fun g hg c => by have := O4.out.ge hg; have := LTI.out g c; omega)
                  have KS := But.set3 (S := fun g => g = w2.heap.size) w3 (g := w2.heap.size) rfl (.slice q4 64 c4) (.int .i64 1) (.int .i64 1)
                  have END := Lib.hid (And.intro (T3.far KS (fun g hg => by omega)) (And.intro (Y3.box X3 KS) (And.intro D3 (And.intro (X3.set3 (.slice q4 64 c4) (.int .i64 1) (.int .i64 1)) (N3.set3 (by omega) (.slice q4 64 c4) (.int .i64 1) (.int .i64 1))))))
                  obtain ⟨l5, a0, a1, a2, e0, e1, e2⟩ := B3.three'
                  obtain ⟨l6, b0, b1, b2, d0, d1, d2⟩ := X3.three'
                  clear B3 X3 T3 N3 D3 Y3 KS o3 k3 nx3 y0 y1 y2 f0 f1 f2 cu
                  go_wp2
                  go_meet
                  case rel =>
                    obtain ⟨T, Y, D, X, N⟩ := END.out
                    obtain ⟨k1, k2, k3⟩ := HM.out
                    exact ⟨_, _, m ++ t, q4, c4, T, po_in k1 t, by rw [HLL.out]; exact HL4.out, by rw [List.length_append]; have := HTL.out; have := bl2.out; omega, by rw [HLL.out]; exact Y, by rw [HLL.out]; exact D, by rw [HLL.out]; exact X, N⟩
                · go_wp2_with (first
                    | ((with_reducible refine at_slot 98 ?_); refine wpList_app_b rfl _ _ rfl rfl _ _ rfl (HT4.out.1.more (Nat.zero_le _)) _ t rfl FR.out (by have := IL.out; have := HTL.out; have := bl2.out; have := hj4.out; omega) ?_))
                  intro v3 w3 o3 k3 x3
                  have nx3 : ∀ g, u7.ownBlock = some g → ¬ g = yb ∧ ¬ g = w2.heap.size := fun g hg => by have := LTI.out g hg; have := HYB.out; have := HT.out.1.ge hg; omega
                  have B3 := HB4.out.but k3 (fun hg => (nx3 _ hg).1 rfl)
                  have X3 := (HX.out.new N4.out).but k3 (fun hg => (nx3 _ hg).2 rfl)
                  have T3 := HT4.out.left (by have := N4.out.size; have := HX.out.lt; omega) o3 k3 x3
                  have N3 : New w w3 := HT4.out.1.step (by omega) (HN.out.trans N4.out) k3
                  have D3 : ∀ g, (Value.slice q4 _ c4).ownBlock = some g → v3.ownBlock ≠ some g ∧ u8.ownBlock ≠ some g := fun g hg => by
                    have l1 := O4.out.ge hg
                    have l2 := O4.out.lt hg
                    refine ⟨fun c => ?_, fun c => ?_⟩
                    · rcases x3 g c with e | e
                      · have := LTI.out g e; omega
                      · omega
                    · have := HT.out.2.1.lt c; omega
                  have Y3 := O4.out.byts.butX k3 (fun g hg c => by have := O4.out.ge hg; have := LTI.out g c; omega)
                  have KS := But.set3 (S := fun g => g = w2.heap.size) w3 (g := w2.heap.size) rfl (.slice q4 LL c4) (.int .i64 1) (.int .i64 1)
                  have END := Lib.hid (And.intro (T3.far KS (fun g hg => by omega)) (And.intro (Y3.box X3 KS) (And.intro D3 (And.intro (X3.set3 (.slice q4 LL c4) (.int .i64 1) (.int .i64 1)) (N3.set3 (by omega) (.slice q4 LL c4) (.int .i64 1) (.int .i64 1))))))
                  obtain ⟨l5, a0, a1, a2, e0, e1, e2⟩ := B3.three'
                  obtain ⟨l6, b0, b1, b2, d0, d1, d2⟩ := X3.three'
                  clear B3 X3 T3 N3 D3 Y3 KS o3 k3 nx3 y0 y1 y2 f0 f1 f2 cu
                  go_wp2
                  go_meet
                  case rel =>
                    obtain ⟨T, Y, D, X, N⟩ := END.out
                    obtain ⟨k1, k2, k3⟩ := HM.out
                    exact ⟨_, _, m ++ t, q4, c4, T, po_in k1 t, by rw [HLL.out]; exact HL4.out, by rw [List.length_append]; have := HTL.out; have := bl2.out; omega, by rw [HLL.out]; exact Y, by rw [HLL.out]; exact D, by rw [HLL.out]; exact X, N⟩
              · have c := num_er 11 wc (LD.out.new (HN.out.trans N4.out))
                rw [erN_pos (by omega)] at c
                rw [erN_pos (by omega)]
                clear cu
                go_wp2_with fail
                refine c.mono ?_
                rintro e w5 ⟨rfl, n5⟩
                have n6 := Lib.hid (N4.out.trans n5)
                clear n5 c
                go_wp2
                go_meet
                case rel =>
                  obtain ⟨k1, k2, k3⟩ := HM.out
                  exact ⟨I, Jl, m, q, cc, HT.out.new n6.out, k1, by rw [HML.out]; exact k2, by omega, by rw [HML.out]; exact HQ.out.new n6.out, by rw [HML.out]; exact HA.out, by rw [HML.out]; exact HX.out.new n6.out, HN.out.trans n6.out⟩
            case rest =>
              obtain ⟨I2, Jl2, m2, q7, cc2, hT, hI, hm, hn, hb, hap, hbx, hN⟩ := hcut
              obtain ⟨kk, hk, hk100⟩ := cut_by n 100 (by omega) (by omega)
              have hk' : wrap64 ((IntKind.u64.wrap n).tmod 100) = (kk : Int) := hk
              have hk2 : IntKind.i64.wrap ((IntKind.u64.wrap n).tmod 100) = (kk : Int) := by rw [← hk', IntKind.wrap_i64]; simp only [wrap64]
              have EK := Lib.hid hk2
              have cR := fun W (k : New wc W) => pread_own (p := ⟨m2, 1, 1⟩) (hb.new k) (kk : Int) (by omega)
              have FR := Lib.hid (And.intro (po_rE (m := m2) (k := (kk : Int)) hm (by omega)) (po_r (m := m2) (k := (kk : Int)) hm))
              unfold PpV at cR
              generalize prO ⟨m2, 1, 1⟩ (kk : Int) = O at *
              generalize prE ⟨m2, 1, 1⟩ (kk : Int) = E2 at *
              generalize prP ⟨m2, 1, 1⟩ (kk : Int) = P2 at *
              obtain ⟨l6, r6, s6⟩ := P2
              dsimp only at cR
              have HM2 := Lib.hid (And.intro hI (And.intro hm hn))
              generalize hml2 : m2.length = ml2 at *
              have HML2 := Lib.hid hml2
              have HT2 := Lib.hid hT
              have HQ2 := Lib.hid hb
              have HA2 := Lib.hid hap
              have HX2 := Lib.hid hbx
              have HN2 := Lib.hid hN
              have CR := Lib.hid cR
              have cv := hN.keeps CV0.out
              have CV := Lib.hid cv
              clear hml2 hT hI hm hn hb hap hbx hN cR hk hk' hk2 FW HTB HBL h2 htl hB4 o4 n4 hyb HC HM HT HQ HA HX HN HB
              obtain ⟨lb, z0, z1, z2, g0, g1, g2⟩ := HX2.out.three'
              have KEEP : ∀ W', New wc W' → New wc W' ∧ W'.cell? ⟨w2.heap.size, 0, none⟩ = some (.slice q7 ml2 cc2) ∧ W'.cell? ⟨w2.heap.size, 1, none⟩ = some (.int .i64 1) ∧ W'.cell? ⟨w2.heap.size, 2, none⟩ = some (.int .i64 1) ∧ W'.cell? ⟨(x.add (j * 2)).block, (x.add (j * 2)).off + 1, none⟩ = some (.int .i64 n) := fun W' k => ⟨k, k.keeps z0, k.keeps z1, k.keeps z2, k.keeps CV.out⟩
              go_upto_region 18 with fail
              go_cut [13, 14, 15] from 103 to 117 (fun ov pv ev wx => ∃ zb q6 c6, pv = .pointer (some ⟨zb, 0, none⟩) ∧ ev = erN E2 ∧ wc.heap.size ≤ zb ∧ Box wx zb #[.slice q6 l6.length c6, .int .i64 r6, .int .i64 s6] 26 ∧ OwnB wc.heap.size wx ov O ∧ OwnB wc.heap.size wx (.slice q6 l6.length c6) l6 ∧ New wc wx)
              case first =>
                have KEEP := Lib.hid KEEP
                have nd : New wc wc.drew := (New.refl wc).drew
                have na : New wc (wc.alloc (.cells #[.slice none 0 0, .int .i64 0, .int .i64 0] 26)).drew := ((New.refl wc).alloc _ _).drew
                have sza : (wc.alloc (.cells #[.slice none 0 0, .int .i64 0, .int .i64 0] 26)).drew.heap.size = wc.heap.size + 1 := World.size_alloc _ _
                have SZA := Lib.hid sza
                clear sza
                go_region_held3 (fun W' => New wc W' ∧ W'.cell? ⟨w2.heap.size, 0, none⟩ = some (.slice q7 ml2 cc2) ∧ W'.cell? ⟨w2.heap.size, 1, none⟩ = some (.int .i64 1) ∧ W'.cell? ⟨w2.heap.size, 2, none⟩ = some (.int .i64 1) ∧ W'.cell? ⟨(x.add (j * 2)).block, (x.add (j * 2)).off + 1, none⟩ = some (.int .i64 n))
                  (first | exact KEEP.out _ hnx | exact KEEP.out _ (hnx.alloc _ _) | exact KEEP.out _ nd | exact KEEP.out _ na | exact KEEP.out _ (((hnx.setCell (Nat.le_refl _) _).setCell (Nat.le_refl _) _).setCell (Nat.le_refl _) _))
                  (first
                    | (go_at_call 7; simp only [EK.out]; (with_reducible refine (CR.out _ nd).mono ?_); rintro e w4 ⟨vo, v4, rfl, oo, o4, n4⟩; have hnx : New wc w4 := nd.trans n4; have O4 := Lib.hid o4; have OO := Lib.hid oo; obtain ⟨q4, c4, rfl⟩ := o4.shape)
                    | (go_at_call 7; simp only [EK.out]; (with_reducible refine (CR.out _ na).mono ?_); rintro e w4 ⟨vo, v4, rfl, oo, o4, n4⟩; have hnx : New wc w4 := na.trans n4; rw [SZA.out] at o4 oo; have O4 := Lib.hid o4; have OO := Lib.hid oo; obtain ⟨q4, c4, rfl⟩ := o4.shape
                       have hbz : Box w4 wc.heap.size #[.slice none 0 0, .int .i64 0, .int .i64 0] 26 := ((Box.here wc wc.heap.size _ _ rfl).new (New.refl _).drew).new n4
                       obtain ⟨bl, x0, x1, x2, fx0, fx1, fx2⟩ := hbz.three'))
                · go_wp2_with fail
                  go_meet
                  case rel =>
                    exact ⟨w4.heap.size, q4, c4, rfl, rfl, hnx.size, Box.here _ _ _ _ rfl, OO.out.new ((New.refl w4).alloc _ _), O4.out.new ((New.refl w4).alloc _ _), hnx.alloc _ _⟩
                · go_wp2_with fail
                  go_meet
                  case rel =>
                    exact ⟨wc.heap.size, q4, c4, rfl, rfl, Nat.le_refl _, hbz.set3 _ _ _, (OO.out.but (But.set3 (S := fun g => g = wc.heap.size) w4 rfl _ _ _) (fun g hg c => by have := OO.out.ge hg; omega)).more (by omega), (O4.out.but (But.set3 (S := fun g => g = wc.heap.size) w4 rfl _ _ _) (fun g hg c => by have := O4.out.ge hg; omega)).more (by omega), hnx.set3 (Nat.le_refl _) _ _ _⟩
              case rest =>
                obtain ⟨zb, q6, c6, rfl, rfl, hzb, hB6, oo, o6, n6⟩ := hcut
                rename_i K5 A5 K6 A6
                refine A6 _ _ ?_
                refine wp_seq_k (fun K7 A7 => ?_)
                clear z0 z1 z2 g0 g1 g2 lb KEEP cv CR CV
                have O6 := Lib.hid o6
                have OO := Lib.hid oo
                have HB6 := Lib.hid hB6
                have N6 := Lib.hid n6
                have HZB := Lib.hid hzb
                clear o6 oo hB6 n6 hzb
                go_cut [8] from 117 to 126 (fun vo2 wx => Ord (w2.heap.size + 1) w2.heap.size w wx u7 vo2 (j + 1))
                case first =>
                  have E01 : E2 = 0 ∨ E2 = 11 := by rw [FR.out.1]; split; exact .inr rfl; exact .inl rfl
                  have lti := fun g hg => OwnB.lt HT2.out.2.1 (g := g) hg
                  have LTI := Lib.hid lti
                  clear lti
                  rcases E01 with rfl | rfl
                  · obtain ⟨hO, hP⟩ := FR.out.2 rfl
                    rw [Int.toNat_natCast] at hO hP
                    simp only [Pp.mk.injEq] at hP
                    obtain ⟨h61, rfl, rfl⟩ := hP
                    rw [er0]
                    have HO := Lib.hid hO
                    have H61 := Lib.hid h61
                    have HT6 := Lib.hid (HT2.out.new N6.out)
                    have il : I2.length ≤ 200 * (j + 1) := HM2.out.2.2
                    have jl : Jl2.length ≤ 200 * (j + 1) := by have := congrArg List.length HM2.out.1; rw [List.length_append] at this; omega
                    have ol : O.length ≤ 64 := by rw [hO, List.length_take]; have := HM2.out.2.1; have := HML2.out; omega
                    have l6l : l6.length ≤ 64 := by rw [h61, List.length_drop]; have := HM2.out.2.1; have := HML2.out; omega
                    have JL := Lib.hid (And.intro jl (And.intro ol (And.intro il l6l)))
                    clear hO h61 il jl ol l6l
                    generalize hLL : l6.length = LL at *
                    have HLL := Lib.hid hLL
                    clear hLL
                    obtain ⟨ly, y0, y1, y2, f0, f1, f2⟩ := HB6.out.three'
                    go_wp2_with (first
                      | ((with_reducible refine at_slot 121 ?_); refine wpList_app_b rfl _ _ rfl rfl _ _ rfl (HT6.out.2.1.more (Nat.zero_le _)) _ O rfl OO.out.byts (by have := JL.out.1; have := JL.out.2.1; have := hj4.out; omega) ?_))
                    intro v3 w3 o3 k3 x3
                    have nx3 : ∀ g, u8.ownBlock = some g → ¬ g = zb ∧ ¬ g = w2.heap.size := fun g hg => by have := LTI.out g hg; have := HZB.out; have := HT2.out.2.1.ge hg; omega
                    have B3 := HB6.out.but k3 (fun hg => (nx3 _ hg).1 rfl)
                    have X3 := (HX2.out.new N6.out).but k3 (fun hg => (nx3 _ hg).2 rfl)
                    have T3 := (HT6.out.swap.left (by have := N6.out.size; have := HX2.out.lt; omega) o3 k3 x3).swap
                    have N3 : New w w3 := HT6.out.2.1.step (by omega) (HN2.out.trans N6.out) k3
                    have D3 : ∀ g, (Value.slice q6 LL c6).ownBlock = some g → u7.ownBlock ≠ some g ∧ v3.ownBlock ≠ some g := fun g hg => by
                      have l1 := O6.out.ge hg
                      have l2 := O6.out.lt hg
                      refine ⟨fun c => ?_, fun c => ?_⟩
                      · have := HT2.out.1.lt c; omega
                      · rcases x3 g c with e | e
                        · have := LTI.out g e; omega
                        · omega
                    have Y3 := O6.out.byts.butX k3 (fun g hg c => by have := O6.out.ge hg; have := LTI.out g c; omega)
                    have KS := But.set3 (S := fun g => g = w2.heap.size) w3 (g := w2.heap.size) rfl (.slice q6 LL c6) (.int .i64 1) (.int .i64 1)
                    have END := Lib.hid (And.intro (T3.far KS (fun g hg => by omega)) (And.intro (Y3.box X3 KS) (And.intro D3 (And.intro (X3.set3 (.slice q6 LL c6) (.int .i64 1) (.int .i64 1)) (N3.set3 (by omega) (.slice q6 LL c6) (.int .i64 1) (.int .i64 1))))))
                    obtain ⟨l5, a0, a1, a2, e0, e1, e2⟩ := B3.three'
                    obtain ⟨l6', b0, b1, b2, d0, d1, d2⟩ := X3.three'
                    clear B3 X3 T3 N3 D3 Y3 KS o3 k3 nx3 y0 y1 y2 f0 f1 f2
                    go_wp2
                    go_meet
                    case rel =>
                      obtain ⟨T, Y, D, X, N⟩ := END.out
                      obtain ⟨k1, k2, k3⟩ := HM2.out
                      exact ⟨_, _, l6, q6, c6, T, by rw [HO.out, H61.out]; exact po_out k1 kk, by have := JL.out.2.2.2; have := HLL.out; omega, JL.out.2.2.1, by rw [HLL.out]; exact Y, by rw [HLL.out]; exact D, by rw [HLL.out]; exact X, N⟩
                  · have c := num_er 11 wc (LD.out.new (HN2.out.trans N6.out))
                    rw [erN_pos (by omega)] at c
                    rw [erN_pos (show (11 : Int) ≠ 0 by omega)]
                    go_wp2_with fail
                    refine c.mono ?_
                    rintro e w5 ⟨rfl, n5⟩
                    have n6 := Lib.hid (N6.out.trans n5)
                    clear n5 c
                    go_wp2
                    go_meet
                    case rel =>
                      obtain ⟨k1, k2, k3⟩ := HM2.out
                      exact ⟨I2, Jl2, m2, q7, cc2, HT2.out.new n6.out, k1, by rw [HML2.out]; exact k2, k3, by rw [HML2.out]; exact HQ2.out.new n6.out, by rw [HML2.out]; exact HA2.out, by rw [HML2.out]; exact HX2.out.new n6.out, HN2.out.trans n6.out⟩
                case rest =>
                  clear HT2 HQ2 HA2 HX2 HN2 HM2 O6 OO HB6 N6 HZB FR
                  have KO := Lib.hid hcut
                  obtain ⟨I3, J3, m3, q8, c8, hT, hI, hm, hn, hb, hap, hbx, hN⟩ := hcut
                  have S1 := str_of hT.1.byts
                  have S2 := str_of hT.2.1.byts
                  have S3 := str_of hb
                  have SJ := str_join J3 m3
                  have jl : J3.length ≤ 200 * (j + 1) := by have := congrArg List.length hI; rw [List.length_append] at this; omega
                  have sz1 : (strOfNums J3).size ≤ 8200 := by rw [strOfNums_size]; omega
                  have sz2 : (strOfNums m3).size ≤ 64 := by rw [strOfNums_size]; omega
                  rw [← hI] at SJ
                  rw [← SJ] at S1
                  have h64 : ¬ (64 : Int) < (m3.length : Int) := by omega
                  obtain ⟨l6', b0, b1, b2, -, -, -⟩ := hbx.three'
                  clear hT hI hm hn hb hap hbx hN SJ jl
                  generalize strOfNums J3 = sJ at *
                  generalize strOfNums m3 = sM at *
                  generalize m3.length = ml3 at *
                  go_wp2
                  go_roundg (len0 - (j + 1))
                  case measure => have := J.out; omega
                  case rel => exact ⟨j + 1, by have := J.out; omega, by go_num, by omega, KO.out⟩
        · have h3 : (200 : Int) < (B.length : Int) := by omega
          have H3 := Lib.hid h2
          clear h2
          generalize B.length = Bl at *
          go_wp2_with fail
          go_roundg (len0 - (j + 1))
          case measure => have := J.out; omega
          case rel =>
            obtain ⟨k1, k2, k3⟩ := HM.out
            exact ⟨j + 1, by have := J.out; omega, by go_num, by omega, I, Jl, m, q, cc, HT.out, k1, k2, by omega, HQ.out, HA.out, HX.out, HN.out⟩
      · have t2 : decide ((j : Int) < 40) = false := decide_eq_false (by omega)
        have t3 : decide (j < 40) = false := decide_eq_false hj40
        have HNN := hN
        clear hT hI hm hn hb hap hbx
        have c := cS.out wr (LD.out.new HNN)
        clear cS
        go_wp2_with fail
        refine c.mono ?_
        rintro e w9 ⟨rfl, n9⟩
        go_wp2
        go_ret
        exact ⟨rfl, HNN.trans n9⟩
    · have t2 : decide ((j : Int) < (len0 : Int)) = false := decide_eq_false (by omega)
      have t3 : decide (j < len0) = false := decide_eq_false hjl
      have HNN := hN
      clear hT hI hm hn hb hap hbx
      have c := cS.out wr (LD.out.new HNN)
      clear cS
      go_wp2_with fail
      refine c.mono ?_
      rintro e w9 ⟨rfl, n9⟩
      go_wp2
      go_ret
      exact ⟨rfl, HNN.trans n9⟩

/-! ### THE ROW's STEP: WRITTEN OUT: LEAVE IT -/
theorem door_met (os : Os) (args : Array Value) : laidMetH Tryd.prog Rows.pipeOrderRow.laid ((World.doorLaid Tryd.prog 400 os).forCall (fun _ _ => 0) ⟨#[], args, []⟩).memory :=
  laidMetH_of_parts3 (fuel := 8) (laidMet_of_run' 8 (by kernel_rfl) (by kernel_rfl)) (by kernel_rfl) (by kernel_rfl)
set_option maxRecDepth 100000 in
theorem lifted (os : Os) (started : os.Started) (H : Type) (enc : TypeId × Value → H) :
    ReturnsInHanded {} Tryd.checked os 4 .any (fun w args => (Rows.pipeOrderSpec.pre enc Tryd.prog Tryd.f4 [] false w args ∧ laidMetH Tryd.prog Rows.pipeOrderRow.laid w) ∧ sizedMet enc Tryd.prog Tryd.f4 (OpenSpec.ofChange Rows.pipeOrderSpec) false w args) (Rows.pipeOrderSpec.post enc Tryd.prog Tryd.f4 false true false false) := by
  refine returnsInHanded_of_change_and (C := Tryd.checked) (X := fun w _ => laidMetH Tryd.prog Rows.pipeOrderRow.laid w) (fun _ _ _ hh h => h.of_heap hh) own started (by kernel_rfl) Tryd.func4
    (ChangeSpec.witness_shaped (enc := enc) (C := Tryd.checked) (os := os) (X := fun w _ => laidMetH Tryd.prog Rows.pipeOrderRow.laid w) false (World.doorLaid Tryd.prog 400 os) #[.slice none 0 0] 8 rfl (World.shaped_of_RefB (by kernel_rfl) (by kernel_rfl)) (by kernel_rfl) (by kernel_rfl) (by kernel_rfl) (door_met os _)) ?_
  intro W base args ds gs before hval0 hW _ _ hL _
  have hL' : laidMet Tryd.prog [] W ∧ handlesMet Tryd.prog [("errors.errorType", Rows.laid_errors_errorType)] W := hL
  have hval : ∀ (j : Nat) t v, Tryd.f4.params[j]? = some t → args[j]? = some v → Value.okWide Tryd.prog W .any base t v := hval0
  have hW' := hW
  obtain ⟨p, q, hA0, hV, rfl, hfz, hnd⟩ := hW
  have hA : DataW.TrodAll enc Tryd.prog W 0 (fun _ => true) true Tryd.f4.params.toList args.toList ds p := hA0
  rw [Tryd.params4] at hA hval
  obtain ⟨v0, vs0, d0, ds0, p0, q0, hargs, rfl, rfl, h0, r0⟩ := trodAll_cons hA
  obtain ⟨rfl, rfl, rfl⟩ := trodAll_nil r0
  obtain rfl : args = #[v0] := by cases args; simp_all
  obtain ⟨rfl, rfl⟩ := trodVars_none hV
  obtain ⟨a0, len0, cap0, rfl⟩ := okWide_slice Tryd.underlying46 (hval 0 46 v0 rfl rfl)
  have k0 := h0
  have lt0 : ∀ x ∈ p0, x.block < W.heap.size := by obtain ⟨m, hm⟩ := k0; exact DataW.trod_lt m _ _ _ hm
  have w0 : FkRows [.bys, .num .i64] W a0 len0 := fkrows_of Tryd.underlying46 Tryd.underlying48 (by kernel_rfl) (by kernel_rfl) rfl (fun i f c hf hc => by
    rcases i with _| _| _
    · (simp at hf hc; subst hf hc; exact ⟨_, Tryd.underlying22, Tryd.underlying5, by kernel_rfl⟩)
    · (simp at hf hc; subst hf hc; exact Tryd.underlying3)
    · simp at hc) h0
  clear hA0 hval0
  refine (walk a0 len0 cap0 W w0 (handle_of_hs hL'.2)).mono fun e W' ⟨he, bel⟩ => ?_
  subst he
  exact ⟨_, rfl, _, _, _, [], _, [], hW', trodAll_mk1 (shut_bool Tryd.underlying4 _), (trodAll_cons_mk (Below.trod laidOut (by kernel_rfl) (of_decide_eq_true (by kernel_rfl)) k0 bel lt0) trodAll_mk0), rfl, bel.frame _, fun h => by cases h⟩

theorem over : Rows.pipeOrderRow.holds Tryd.pinned (OpenSpec.ofChange Rows.pipeOrderSpec) :=
  OpenClaim.holds_of_wide 4 Tryd.f4 rfl rfl rfl rfl rfl rfl rfl ⟨rfl, rfl, rfl, rfl, rfl⟩ rfl rfl rfl rfl rfl (by kernel_rfl) Tryd.func4 (by kernel_rfl)
    (of_decide_eq_true (by kernel_rfl)) (by unfold Func.isWrapper; first | (rw [if_pos (by decide +kernel)]; kernel_rfl) | (rw [if_neg (by decide +kernel)]; exact ⟨rfl, rfl⟩))
    (fun os started H enc _ => lifted os started H enc)

theorem proved : Rows.PipeOrderSaid := over
theorem card : Rows.PipeOrderCardSaid :=
  Claim7.holds_tied_plain_at .later [] [.handle] true (true, "443cb5858d902024aab65cd81cef51599dcd275aa6e665fd74d71f010075fde0") true
    over (fun _ h => by cases h) (by kernel_rfl) (fun _ h => by cases h) pipeOrder_row_tie rfl ⟨rfl, rfl⟩ (by kernel_rfl) rfl
    (fun f fn hf hfn => by
      obtain rfl : f = 4 := Option.some.inj ((show Tryd.prog.funcNamed "halter/halterlaw18.PipeOrder" = some 4 by kernel_rfl).symm.trans hf) |>.symm
      obtain rfl : fn = Tryd.f4 := (Option.some.inj (Tryd.func4.symm.trans hfn)).symm
      exact ⟨by kernel_rfl, fun j t ht => by
        rw [Tryd.params4] at ht
        have hm : t ∈ [46] := by have := Array.mem_of_getElem? ht; simpa using this
        have hall : ([46].all fun u => !Tryd.prog.wantsStandIn u) = true := by kernel_rfl
        exact (show Tryd.prog.wantsStandIn t = false by simpa using List.all_eq_true.1 hall t hm)⟩)
    (by kernel_rfl)
#print axioms card
end Go.Proofs.YtdoppkeaidemgaaDoor.pipeOrder
