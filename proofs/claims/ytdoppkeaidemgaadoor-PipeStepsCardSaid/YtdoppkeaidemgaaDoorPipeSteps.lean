/- Any pipe read, written, opened and closed: as the document answers, or its errors, and it stays; the statement holds for every input, where the listed variable holds what the library's own text lays, which the card ties. -/
import Derived.Test.YtdoppkeaidemgaaDoorRows
import Derived.Test.YtdoppkeaidemgaaDoorPiD
import Derived.Test.YtdoppkeaidemgaaDoorByIn
import Derived.Test.YtdoppkeaidemgaaDoorLay
import Derived.Deep.LoopGhost
import Derived.Deep.RegionHeld3
import Derived.Test.YtdoppkeaidemgaaDoorCards
import Derived.Test.YtdoppkeaidemgaaDoorTie
import Derived.LaidMore
import Derived.LaidLaws
import Derived.LaidHandle
import Derived.Test.YtdoppkeaidemgaaDoorLay
import Derived.Test.YtdoppkeaidemgaaDoorPost
import Derived.WalkKit
import Derived.ProofKit
import Derived.OpenShut
import Derived.ShutString
import Derived.ChangeOld
import Derived.Below
namespace Go.Proofs.YtdoppkeaidemgaaDoor.pipeSteps
open Go.ChangeShapes Go.WideShapes Go.ChangeAt Go.RowKit
open Go.ChangeMaps (open_string shut_string)
set_option linter.unusedVariables false

theorem own : ownKnob Tryd.prog.godebug = none := by kernel_rfl
theorem laidOut : laidOutB Tryd.prog = true := by kernel_rfl

/-- WHAT THE WALK IS TOLD OF A SLICE OF INTEGERS THAT CAME IN: it is nil; or it leads to a row of 'cap' cells, the numbers 'zs' (the first 'len' are its elements, the rest its spare room), each fitting its kind. -/
def IsRow (k : IntKind) (w : World) (a : Option Addr) (len cap : Nat) (zs : List Int) : Prop :=
  (a = none ∧ len = 0 ∧ cap = 0 ∧ zs = []) ∨
  ∃ x, a = some x ∧ len ≤ cap ∧ cap ≤ maxLen ∧ zs.length = cap ∧ (∀ i, i < zs.length → w.cell? (x.add i) = some (.int k (zs.getD i 0))) ∧ ∀ n ∈ zs, (Lit.int k n).wf = true

theorem isrow_byts {w : World} {a : Option Addr} {len cap : Nat} {z : List Int} (h : IsRow .u8 w a len cap z) : ∃ l : List Int, l.length = len ∧ Byts w (.slice a len cap) l ∧ Oct l := by
  rcases h with ⟨rfl, rfl, rfl, rfl⟩ | ⟨x, rfl, h1, h2, h3, h4, h5⟩
  · exact ⟨[], rfl, Byts.nil w, Oct.nil⟩
  · have hl : (z.take len).length = len := by rw [List.length_take]; omega
    refine ⟨z.take len, hl, ⟨some x, cap, by rw [hl], ⟨by rw [hl]; omega, by omega⟩, fun i hi => ⟨x, rfl, ?_⟩⟩, fun n hn => ?_⟩
    · rw [hl] at hi
      rw [h4 i (by omega), getD_eq _ _ (by omega), getD_eq _ _ (by omega), List.getElem_take]
    · exact u8_bd (h5 n (List.mem_of_mem_take hn))
/-! ### STEP 1: THE WALK: the Go text returns true, AND WRITES NOTHING THAT WAS THERE: 'Below w.heap.size w w'' (Derived/Below.lean: '.refl', '.alloc', '.drew', '.setCell' at a new block, '.trans'). Open each 'IsRow' by 'rcases' AHEAD of 'go_enter'; part every test ahead of the walk. -/
set_option maxHeartbeats 4000000 in
set_option maxRecDepth 100000 in
theorem walk (v0 : Value) (a1 : Int) (a2 : Option Addr) (len2 cap2 : Nat) (z2 : List Int) (w : World) (w0 : FkVal [.bys, .num .i64, .num .i64] w v0) (w1 : (Lit.int .i64 a1).wf = true) (w2 : IsRow .u8 w a2 len2 cap2 z2) (hl : Laid w) :
    Calls Tryd.prog 3 #[v0, .int .i64 a1, .slice a2 len2 cap2] w fun e w' => e = .returned (.bool true) ∧ Below w.heap.size w w' := by
  obtain ⟨x0, x1, x2, rfl, f0, f1, f2⟩ := fkval3 w0
  obtain ⟨l, f0⟩ := f0
  obtain ⟨r, rfl, f1⟩ := f1
  obtain ⟨s, rfl, f2⟩ := f2
  have BP := f0.byts
  obtain ⟨q, cap, rfl⟩ := BP.shape
  obtain ⟨b, hbl, BB, bO⟩ := isrow_byts w2
  have y1 := i64_bd w1
  clear w0 w1 w2 f0 f1 f2 bO
  subst hbl
  have cS := fun W (q : Laid W) => psure_any W q
  have T : 200 < l.length ∨ (l.length ≤ 200 ∧ 300 < b.length) ∨ (l.length ≤ 200 ∧ b.length ≤ 300) := by omega
  rcases T with T | ⟨T, T2⟩ | hb
  · have cS := cS _ (hl.new ((New.refl w).alloc #[.slice q l.length cap, .int .i64 r, .int .i64 s] 24))
    have h1 : (200 : Int) < (l.length : Int) := by omega
    clear T BP BB
    generalize l.length = n1 at *
    generalize b.length = n2 at *
    go_enter Tryd.func3, Tryd.ntmps3
    go_wp2_with fail
    refine cS.mono ?_
    rintro e w1 ⟨rfl, n1⟩
    go_wp2
    go_ret
    exact ⟨rfl, ((New.refl w).alloc _ _).trans n1⟩
  · have cS := cS _ (hl.new ((New.refl w).alloc #[.slice q l.length cap, .int .i64 r, .int .i64 s] 24))
    have h1 : ¬ (200 : Int) < (l.length : Int) := by omega
    have h2 : (300 : Int) < (b.length : Int) := by omega
    clear T T2 BP BB
    generalize l.length = n1 at *
    generalize b.length = n2 at *
    go_enter Tryd.func3, Tryd.ntmps3
    go_wp2_with fail
    refine cS.mono ?_
    rintro e w1 ⟨rfl, n1⟩
    go_wp2
    go_ret
    exact ⟨rfl, ((New.refl w).alloc _ _).trans n1⟩
  · have h0 := hb
    have h1 : ¬ (200 : Int) < (l.length : Int) := by omega
    have h2 : ¬ (300 : Int) < (b.length : Int) := by omega
    have c1 := fun W (k : New w W) => pread_any (p := ⟨l, r, s⟩) (BP.new k) a1 y1.2
    have c2 := fun W (k : New w W) => rread_any (p := ⟨l, r, s⟩) (BP.new k) a1 y1.2
    have c3 := fun W (k : New w W) => pwrite_any (p := ⟨l, r, s⟩) (BP.new k) (BB.new k) (by omega)
    have c4 := fun W (k : New w W) => rwrite_any (p := ⟨l, r, s⟩) (BP.new k) (BB.new k) (by omega)
    have c5 := fun W wt (k : New w W) => popen_any (p := ⟨l, r, s⟩) (BP.new k) wt
    have c6 := fun W wt (k : New w W) => rpopen_any (p := ⟨l, r, s⟩) (BP.new k) wt 1 (by omega)
    have c7 := fun W wt (k : New w W) => pclose_any (p := ⟨l, r, s⟩) (BP.new k) wt
    have c8 := fun W wt (k : New w W) => rpopen_any (p := ⟨l, r, s⟩) (BP.new k) wt (-1) (by omega)
    have c9 := fun W (k : New w W) => pcheck_any (p := ⟨l, r, s⟩) (BP.new k)
    have c10 := fun W (k : New w W) => rpmay_any (p := ⟨l, r, s⟩) (BP.new k)
    have c11 := fun W (k : New w W) => psame_any (p := ⟨l, r, s⟩) (BP.new k) (BP.new k)
    have cN := fun c W (k : New w W) => num_er c W (hl.new k)
    have cS := fun W (k : New w W) => cS W (hl.new k)
    have cE := fun (W : World) (p : Pp) (u v : Value) (h : Byts W u p.l) (k : Byts W v p.l) => psame_any (w := W) h k
    unfold ReadD at c1
    unfold WriteD at c3
    unfold TurnD at c5 c7
    generalize prO ⟨l, r, s⟩ a1 = O at *
    generalize prE ⟨l, r, s⟩ a1 = E1 at *
    generalize prP ⟨l, r, s⟩ a1 = P1 at *
    generalize pwK ⟨l, r, s⟩ b = K at *
    generalize pwE ⟨l, r, s⟩ b = E2 at *
    generalize pwP ⟨l, r, s⟩ b = P2 at *
    generalize ptP ⟨l, r, s⟩ = PT at *
    generalize ptE ⟨l, r, s⟩ = ET at *
    dsimp only at c9 c10
    generalize decide (piOk l r s) = ok at *
    obtain ⟨l1, r1, s1⟩ := P1
    obtain ⟨l2, r2, s2⟩ := P2
    unfold PpV at *
    dsimp only at *
    have C1 := Lib.hid c1
    have C2 := Lib.hid c2
    have C3 := Lib.hid c3
    have C4 := Lib.hid c4
    have C5 := Lib.hid c5
    have C6 := Lib.hid c6
    have C7 := Lib.hid c7
    have C8 := Lib.hid c8
    have C9 := Lib.hid c9
    have C10 := Lib.hid c10
    have C11 := Lib.hid c11
    have CN := Lib.hid cN
    have CS := Lib.hid cS
    have CE := Lib.hid cE
    obtain ⟨F, hF⟩ : ∃ F, F = (w.alloc (.cells #[.slice q l.length cap, .int .i64 r, .int .i64 s] 24)).alloc (.cells #[.slice q l.length cap, .int .i64 r, .int .i64 s] 26) := ⟨_, rfl⟩
    have N0 : New w F := by rw [hF]; exact ((New.refl w).alloc _ _).alloc _ _
    have bA : Box F w.heap.size #[.slice q l.length cap, .int .i64 r, .int .i64 s] 24 := by rw [hF]; exact (Box.here w _ _ _ rfl).alloc _
    have bB : Box F (w.heap.size + 1) #[.slice q l.length cap, .int .i64 r, .int .i64 s] 26 := by rw [hF]; exact Box.here _ _ _ _ (by rw [World.size_alloc])
    clear c1 c2 c3 c4 c5 c6 c7 c8 c9 c10 c11 cN cS cE hb h0 y1 BP BB hl
    have N0 := Lib.hid N0
    have BA := Lib.hid bA
    have BX := Lib.hid bB
    clear bA bB
    go_enter Tryd.func3, Tryd.ntmps3
    go_wp2_with fail
    rw [← hF]
    refine (C1.out _ N0.out).mono ?_
    rintro e w1 ⟨o1, v1, rfl, d1, b1, -, -, m1⟩
    clear hF
    obtain ⟨q1, c1, rfl⟩ := b1.shape
    have al := (New.refl w1).alloc #[.slice q1 l1.length c1, .int .i64 r1, .int .i64 s1] 26
    have st := m1.trans al
    have N1 := Lib.hid (New.trans N0.out st)
    have B1 := Lib.hid (Box.here w1 w1.heap.size #[.slice q1 l1.length c1, .int .i64 r1, .int .i64 s1] 26 rfl)
    have BA := Lib.hid (BA.out.new st)
    have BX := Lib.hid (BX.out.new st)
    have Y1 := Lib.hid (b1.new al)
    clear st al b1 m1
    have D1 := Lib.hid (d1.new ((New.refl w1).alloc #[.slice q1 l1.length c1, .int .i64 r1, .int .i64 s1] 26))
    clear d1
    obtain ⟨ll, a0, a1, a2, g0, g1, g2⟩ := BA.out.three'
    go_wp2_with fail
    refine (C2.out _ N1.out).mono ?_
    rintro e w2 ⟨o2, v2, rfl, d2, b2, m2⟩
    clear ll a0 a1 a2 g0 g1 g2
    obtain ⟨q2, c2, rfl⟩ := b2.shape
    have al := (New.refl w2).alloc #[.slice q2 l1.length c2, .int .i64 r1, .int .i64 s1] 24
    have st := m2.trans al
    have N2 := Lib.hid (New.trans N1.out st)
    have B2 := Lib.hid (Box.here w2 w2.heap.size #[.slice q2 l1.length c2, .int .i64 r1, .int .i64 s1] 24 rfl)
    have BA := Lib.hid (BA.out.new st)
    have BX := Lib.hid (BX.out.new st)
    have B1 := Lib.hid (B1.out.new st)
    have Y1 := Lib.hid (Y1.out.new st)
    have D1 := Lib.hid (D1.out.new st)
    have Y2 := Lib.hid (b2.new al)
    clear st al b2 m2
    have D2 := Lib.hid (d2.new ((New.refl w2).alloc #[.slice q2 l1.length c2, .int .i64 r1, .int .i64 s1] 24))
    clear d2
    obtain ⟨ll, a0, a1, a2, g0, g1, g2⟩ := BX.out.three'
    go_wp2_with fail
    refine (C3.out _ N2.out).mono ?_
    rintro e w3 ⟨v3, rfl, b3, -, m3⟩
    clear ll a0 a1 a2 g0 g1 g2
    obtain ⟨q3, c3, rfl⟩ := b3.shape
    have al := (New.refl w3).alloc #[.slice q3 l2.length c3, .int .i64 r2, .int .i64 s2] 26
    have st := m3.trans al
    have N3 := Lib.hid (New.trans N2.out st)
    have B3 := Lib.hid (Box.here w3 w3.heap.size #[.slice q3 l2.length c3, .int .i64 r2, .int .i64 s2] 26 rfl)
    have BA := Lib.hid (BA.out.new st)
    have BX := Lib.hid (BX.out.new st)
    have B1 := Lib.hid (B1.out.new st)
    have B2 := Lib.hid (B2.out.new st)
    have Y1 := Lib.hid (Y1.out.new st)
    have D1 := Lib.hid (D1.out.new st)
    have Y2 := Lib.hid (Y2.out.new st)
    have D2 := Lib.hid (D2.out.new st)
    have Y3 := Lib.hid (b3.new al)
    clear st al b3 m3
    obtain ⟨ll, a0, a1, a2, g0, g1, g2⟩ := BA.out.three'
    go_wp2_with fail
    refine (C4.out _ N3.out).mono ?_
    rintro e w4 ⟨v4, rfl, b4, m4⟩
    clear ll a0 a1 a2 g0 g1 g2
    obtain ⟨q4, c4, rfl⟩ := b4.shape
    have al := (New.refl w4).alloc #[.slice q4 l2.length c4, .int .i64 r2, .int .i64 s2] 24
    have st := m4.trans al
    have N4 := Lib.hid (New.trans N3.out st)
    have B4 := Lib.hid (Box.here w4 w4.heap.size #[.slice q4 l2.length c4, .int .i64 r2, .int .i64 s2] 24 rfl)
    have BA := Lib.hid (BA.out.new st)
    have BX := Lib.hid (BX.out.new st)
    have B1 := Lib.hid (B1.out.new st)
    have B2 := Lib.hid (B2.out.new st)
    have B3 := Lib.hid (B3.out.new st)
    have Y1 := Lib.hid (Y1.out.new st)
    have D1 := Lib.hid (D1.out.new st)
    have Y2 := Lib.hid (Y2.out.new st)
    have D2 := Lib.hid (D2.out.new st)
    have Y3 := Lib.hid (Y3.out.new st)
    have Y4 := Lib.hid (b4.new al)
    clear st al b4 m4
    have S1 := str_of D1.out
    have S2 := str_of D2.out
    obtain ⟨l5, a0, a1, a2, g0, g1, g2⟩ := B1.out.three'
    obtain ⟨l6, x0, x1, x2, z0, z1, z2⟩ := B2.out.three'
    generalize strOfNums O = st at *
    go_wp2_with fail
    refine (CE.out _ ⟨l1, r1, s1⟩ _ _ Y1.out Y2.out).mono ?_
    rintro e w5 ⟨rfl, m5⟩
    have N5 := Lib.hid (N4.out.trans m5)
    have b3 := B3.out.new m5
    have b4 := B4.out.new m5
    have y3 := Y3.out.new m5
    have y4 := Y4.out.new m5
    have BA := Lib.hid (BA.out.new m5)
    have BX := Lib.hid (BX.out.new m5)
    clear S1 S2 l5 a0 a1 a2 g0 g1 g2 l6 x0 x1 x2 z0 z1 z2 m5 B1 B2 B3 B4 Y1 Y2 Y3 Y4 D1 D2 N0 N1 N2 N3 N4 C1 C2 C3 C4
    have b3 := Lib.hid b3
    have b4 := Lib.hid b4
    have y3 := Lib.hid y3
    have y4 := Lib.hid y4
    go_wp2_with fail
    refine (CN.out E1 _ N5.out).mono ?_
    rintro e w6 ⟨rfl, m6⟩
    have N6 := Lib.hid (N5.out.trans m6)
    obtain ⟨l5, a0, a1, a2, g0, g1, g2⟩ := (b3.out.new m6).three'
    obtain ⟨l6, x0, x1, x2, z0, z1, z2⟩ := (b4.out.new m6).three'
    have BA := Lib.hid (BA.out.new m6)
    have BX := Lib.hid (BX.out.new m6)
    have y3 := Lib.hid (y3.out.new m6)
    have y4 := Lib.hid (y4.out.new m6)
    clear m6 b3 b4 N5
    go_wp2_with fail
    refine (CE.out _ ⟨l2, r2, s2⟩ _ _ y3.out y4.out).mono ?_
    rintro e w7 ⟨rfl, m7⟩
    have N7 := Lib.hid (N6.out.trans m7)
    have BA := Lib.hid (BA.out.new m7)
    have BX := Lib.hid (BX.out.new m7)
    clear m7 l5 a0 a1 a2 g0 g1 g2 l6 x0 x1 x2 z0 z1 z2 y3 y4 N6
    go_wp2_with fail
    refine (CN.out E2 _ N7.out).mono ?_
    rintro e w8 ⟨rfl, m8⟩
    have N8 := Lib.hid (N7.out.trans m8)
    have BA := Lib.hid (BA.out.new m8)
    have BX := Lib.hid (BX.out.new m8)
    clear m8 N7
    go_wp2_with fail
    go_loopg [20] 2 (fun gk i wr => ∃ j : Nat, j + gk = 2 ∧ i = .int .i64 (j : Int) ∧ New w8 wr)
    case atStart => exact ⟨0, by omega, rfl, New.refl _⟩
    case round =>
      obtain ⟨j, hj, rfl, hN⟩ := hrel
      have J := Lib.hid hj
      have NR := Lib.hid (N8.out.trans hN)
      have HN := Lib.hid hN
      have bA := Lib.hid (BA.out.new hN)
      have bX := Lib.hid (BX.out.new hN)
      clear hN
      by_cases hj2 : j < 2
      · have E : j = 0 ∨ j = 1 := by omega
        obtain ⟨wt, hwt⟩ : ∃ wt, wt = decide (j = 1) := ⟨_, rfl⟩
        have t1 : ((j : Int) == 1) = wt := by rw [hwt]; rcases E with rfl | rfl <;> rfl
        have t2 : decide ((j : Int) < 2) = true := decide_eq_true (by omega)
        have t3 : decide (j < 2) = true := decide_eq_true hj2
        have t4 : (j == 1) = wt := by rw [hwt]; rcases E with rfl | rfl <;> rfl
        have c5 := fun W => C5.out W wt
        have c6 := fun W => C6.out W wt
        have c7 := fun W => C7.out W wt
        have c8 := fun W => C8.out W wt
        generalize PT wt 1 = P3 at *
        generalize PT wt (-1) = P4 at *
        generalize ET wt 1 = E3 at *
        generalize ET wt (-1) = E4 at *
        obtain ⟨l3, r3, s3⟩ := P3
        obtain ⟨l4, r4, s4⟩ := P4
        have C5' := Lib.hid c5
        have C6' := Lib.hid c6
        have C7' := Lib.hid c7
        have C8' := Lib.hid c8
        have HJ2 := Lib.hid hj2
        clear c5 c6 c7 c8 hj2 E hwt hj
        obtain ⟨ll, a0, a1, a2, g0, g1, g2⟩ := bX.out.three'
        go_wp2_with fail
        refine (C5'.out _ NR.out).mono ?_
        rintro e w11 ⟨v11, rfl, b11, -, m11⟩
        clear ll a0 a1 a2 g0 g1 g2
        obtain ⟨q11, c11, rfl⟩ := b11.shape
        have al := (New.refl w11).alloc #[.slice q11 l3.length c11, .int .i64 r3, .int .i64 s3] 26
        have st := m11.trans al
        have N11 := Lib.hid (New.trans NR.out st)
        have B11 := Lib.hid (Box.here w11 w11.heap.size #[.slice q11 l3.length c11, .int .i64 r3, .int .i64 s3] 26 rfl)
        have bA := Lib.hid (bA.out.new st)
        have bX := Lib.hid (bX.out.new st)
        have Y11 := Lib.hid (b11.new al)
        have HN := Lib.hid (New.trans HN.out st)
        clear st al b11 m11
        obtain ⟨ll, a0, a1, a2, g0, g1, g2⟩ := bA.out.three'
        go_wp2_with fail
        refine (C6'.out _ N11.out).mono ?_
        rintro e w12 ⟨v12, rfl, b12, -, m12⟩
        clear ll a0 a1 a2 g0 g1 g2
        obtain ⟨q12, c12, rfl⟩ := b12.shape
        have al := (New.refl w12).alloc #[.slice q12 l3.length c12, .int .i64 r3, .int .i64 s3] 24
        have st := m12.trans al
        have N12 := Lib.hid (New.trans N11.out st)
        have B12 := Lib.hid (Box.here w12 w12.heap.size #[.slice q12 l3.length c12, .int .i64 r3, .int .i64 s3] 24 rfl)
        have bA := Lib.hid (bA.out.new st)
        have bX := Lib.hid (bX.out.new st)
        have B11 := Lib.hid (B11.out.new st)
        have Y11 := Lib.hid (Y11.out.new st)
        have Y12 := Lib.hid (b12.new al)
        have HN := Lib.hid (New.trans HN.out st)
        clear st al b12 m12
        obtain ⟨ll, a0, a1, a2, g0, g1, g2⟩ := bX.out.three'
        go_wp2_with fail
        refine (C7'.out _ N12.out).mono ?_
        rintro e w13 ⟨v13, rfl, b13, -, m13⟩
        clear ll a0 a1 a2 g0 g1 g2
        obtain ⟨q13, c13, rfl⟩ := b13.shape
        have al := (New.refl w13).alloc #[.slice q13 l4.length c13, .int .i64 r4, .int .i64 s4] 26
        have st := m13.trans al
        have N13 := Lib.hid (New.trans N12.out st)
        have B13 := Lib.hid (Box.here w13 w13.heap.size #[.slice q13 l4.length c13, .int .i64 r4, .int .i64 s4] 26 rfl)
        have bA := Lib.hid (bA.out.new st)
        have bX := Lib.hid (bX.out.new st)
        have B11 := Lib.hid (B11.out.new st)
        have B12 := Lib.hid (B12.out.new st)
        have Y11 := Lib.hid (Y11.out.new st)
        have Y12 := Lib.hid (Y12.out.new st)
        have Y13 := Lib.hid (b13.new al)
        have HN := Lib.hid (New.trans HN.out st)
        clear st al b13 m13
        obtain ⟨ll, a0, a1, a2, g0, g1, g2⟩ := bA.out.three'
        go_wp2_with fail
        refine (C8'.out _ N13.out).mono ?_
        rintro e w14 ⟨v14, rfl, b14, -, m14⟩
        clear ll a0 a1 a2 g0 g1 g2
        obtain ⟨q14, c14, rfl⟩ := b14.shape
        have al := (New.refl w14).alloc #[.slice q14 l4.length c14, .int .i64 r4, .int .i64 s4] 24
        have st := m14.trans al
        have N14 := Lib.hid (New.trans N13.out st)
        have B14 := Lib.hid (Box.here w14 w14.heap.size #[.slice q14 l4.length c14, .int .i64 r4, .int .i64 s4] 24 rfl)
        have bA := Lib.hid (bA.out.new st)
        have bX := Lib.hid (bX.out.new st)
        have B11 := Lib.hid (B11.out.new st)
        have B12 := Lib.hid (B12.out.new st)
        have B13 := Lib.hid (B13.out.new st)
        have Y11 := Lib.hid (Y11.out.new st)
        have Y12 := Lib.hid (Y12.out.new st)
        have Y13 := Lib.hid (Y13.out.new st)
        have Y14 := Lib.hid (b14.new al)
        have HN := Lib.hid (New.trans HN.out st)
        clear st al b14 m14
        obtain ⟨l5, a0, a1, a2, g0, g1, g2⟩ := B11.out.three'
        obtain ⟨l6, x0, x1, x2, z0, z1, z2⟩ := B12.out.three'
        go_wp2_with fail
        refine (CE.out _ ⟨l3, r3, s3⟩ _ _ Y11.out Y12.out).mono ?_
        rintro e w15 ⟨rfl, m15⟩
        have N15 := Lib.hid (N14.out.trans m15)
        have HN := Lib.hid (HN.out.trans m15)
        have B13 := Lib.hid (B13.out.new m15)
        have B14 := Lib.hid (B14.out.new m15)
        have Y13 := Lib.hid (Y13.out.new m15)
        have Y14 := Lib.hid (Y14.out.new m15)
        clear m15 l5 a0 a1 a2 g0 g1 g2 l6 x0 x1 x2 z0 z1 z2
        go_wp2_with fail
        refine (CN.out E3 _ N15.out).mono ?_
        rintro e w16 ⟨rfl, m16⟩
        have N16 := Lib.hid (N15.out.trans m16)
        have HN := Lib.hid (HN.out.trans m16)
        obtain ⟨l5, a0, a1, a2, g0, g1, g2⟩ := (B13.out.new m16).three'
        obtain ⟨l6, x0, x1, x2, z0, z1, z2⟩ := (B14.out.new m16).three'
        have Y13 := Lib.hid (Y13.out.new m16)
        have Y14 := Lib.hid (Y14.out.new m16)
        clear m16
        go_wp2_with fail
        refine (CE.out _ ⟨l4, r4, s4⟩ _ _ Y13.out Y14.out).mono ?_
        rintro e w17 ⟨rfl, m17⟩
        have N17 := Lib.hid (N16.out.trans m17)
        have HN := Lib.hid (HN.out.trans m17)
        clear m17 l5 a0 a1 a2 g0 g1 g2 l6 x0 x1 x2 z0 z1 z2
        go_wp2_with fail
        refine (CN.out E4 _ N17.out).mono ?_
        rintro e w18 ⟨rfl, m18⟩
        have HN := Lib.hid (HN.out.trans m18)
        clear m18
        have hj3 := HJ2.out
        go_wp2_with fail
        go_roundg (2 - (j + 1))
        case measure => have := J.out; have := HJ2.out; omega
        case rel => exact ⟨j + 1, by have := J.out; have := HJ2.out; omega, by have := HJ2.out; go_num, HN.out⟩
      · have t2 : decide ((j : Int) < 2) = false := decide_eq_false (by omega)
        have t3 : decide (j < 2) = false := decide_eq_false hj2
        have KY : ∃ (X : Value), (∀ (W : World), New w W → Calls Tryd.prog 16 #[.agg #[.slice q l.length cap, .int .i64 r, .int .i64 s]] W fun e w' => e = .returned X ∧ New W w') ∧ ((X = .nilIface ∧ ok = true) ∨ (X = .iface 52 (.int .i64 22) ∧ ok = false)) := by
          cases ok
          · exact ⟨_, C9.out, .inr ⟨rfl, rfl⟩⟩
          · exact ⟨_, C9.out, .inl ⟨rfl, rfl⟩⟩
        obtain ⟨X, c9, KY⟩ := KY
        have c10 := C10.out
        have c11 := C11.out
        have cS := CS.out
        have n0 := NR.out
        obtain ⟨ll, a0, a1, a2, -, -, -⟩ := bA.out.three'
        obtain ⟨lx, x0, x1, x2, -, -, -⟩ := bX.out.three'
        clear J HN NR bA bX hj hj2 C5 C6 C7 C8 C9 C10 C11 CN CS CE N8 BA BX
        rcases KY with ⟨rfl, rfl⟩ | ⟨rfl, rfl⟩
        all_goals
          go_wp2_with fail
          go_region_held3 (fun w' => New wr w' ∧ w'.cell? ⟨w.heap.size, 0, none⟩ = some (.slice q l.length cap) ∧ w'.cell? ⟨w.heap.size, 1, none⟩ = some (.int .i64 r) ∧ w'.cell? ⟨w.heap.size, 2, none⟩ = some (.int .i64 s) ∧
              w'.cell? ⟨w.heap.size + 1, 0, none⟩ = some (.slice q l.length cap) ∧ w'.cell? ⟨w.heap.size + 1, 1, none⟩ = some (.int .i64 r) ∧ w'.cell? ⟨w.heap.size + 1, 2, none⟩ = some (.int .i64 s))
            (first
              | exact ⟨hnx, hnx.keeps a0, hnx.keeps a1, hnx.keeps a2, hnx.keeps x0, hnx.keeps x1, hnx.keeps x2⟩
              | (have hnx := (New.refl wr).drew; exact ⟨hnx, hnx.keeps a0, hnx.keeps a1, hnx.keeps a2, hnx.keeps x0, hnx.keeps x1, hnx.keeps x2⟩))
            (first
              | (go_at_call 11; (with_reducible refine (c11 _ (n0.trans (by first | exact hnx | exact (New.refl _).drew | exact New.refl _))).mono ?_); rintro e wz ⟨rfl, hny⟩; have hnx : New wr wz := New.trans (by first | exact hnx | exact (New.refl _).drew | exact New.refl _) hny)
              | (go_at_call 16; (with_reducible refine (c9 _ (n0.trans (by first | exact hnx | exact (New.refl _).drew | exact New.refl _))).mono ?_); rintro e wz ⟨rfl, hny⟩; have hnx : New wr wz := New.trans (by first | exact hnx | exact (New.refl _).drew | exact New.refl _) hny)
              | (go_at_call 17; (with_reducible refine (c10 _ (n0.trans (by first | exact hnx | exact (New.refl _).drew | exact New.refl _))).mono ?_); rintro e wz ⟨rfl, hny⟩; have hnx : New wr wz := New.trans (by first | exact hnx | exact (New.refl _).drew | exact New.refl _) hny)
              | (go_at_call 6; (with_reducible refine (cS _ (n0.trans (by first | exact hnx | exact (New.refl _).drew | exact New.refl _))).mono ?_); rintro e wz ⟨rfl, hny⟩; have hnx : New wr wz := New.trans (by first | exact hnx | exact (New.refl _).drew | exact New.refl _) hny))
          go_wp2_with fail
          go_ret
          exact ⟨rfl, New.trans n0 hnx⟩

/-! ### THE ROW's STEP: WRITTEN OUT: LEAVE IT -/
theorem door_met (os : Os) (args : Array Value) : laidMetH Tryd.prog Rows.pipeStepsRow.laid ((World.doorLaid Tryd.prog 400 os).forCall (fun _ _ => 0) ⟨#[], args, []⟩).memory :=
  laidMetH_of_parts3 (fuel := 8) (laidMet_of_run' 8 (by kernel_rfl) (by kernel_rfl)) (by kernel_rfl) (by kernel_rfl)
set_option maxRecDepth 100000 in
theorem lifted (os : Os) (started : os.Started) (H : Type) (enc : TypeId × Value → H) :
    ReturnsInHanded {} Tryd.checked os 3 .any (fun w args => (Rows.pipeStepsSpec.pre enc Tryd.prog Tryd.f3 [] false w args ∧ laidMetH Tryd.prog Rows.pipeStepsRow.laid w) ∧ sizedMet enc Tryd.prog Tryd.f3 (OpenSpec.ofChange Rows.pipeStepsSpec) false w args) (Rows.pipeStepsSpec.post enc Tryd.prog Tryd.f3 false true false false) := by
  refine returnsInHanded_of_change_and (C := Tryd.checked) (X := fun w _ => laidMetH Tryd.prog Rows.pipeStepsRow.laid w) (fun _ _ _ hh h => h.of_heap hh) own started (by kernel_rfl) Tryd.func3
    (ChangeSpec.witness_shaped (enc := enc) (C := Tryd.checked) (os := os) (X := fun w _ => laidMetH Tryd.prog Rows.pipeStepsRow.laid w) false (World.doorLaid Tryd.prog 400 os) #[.agg #[.slice none 0 0, .int .i64 0, .int .i64 0], .int .i64 0, .slice none 0 0] 8 rfl (World.shaped_of_RefB (by kernel_rfl) (by kernel_rfl)) (by kernel_rfl) (by kernel_rfl) (by kernel_rfl) (door_met os _)) ?_
  intro W base args ds gs before hval0 hW _ _ hL _
  have hL' : laidMet Tryd.prog [] W ∧ handlesMet Tryd.prog [("errors.errorType", Rows.laid_errors_errorType)] W := hL
  have hval : ∀ (j : Nat) t v, Tryd.f3.params[j]? = some t → args[j]? = some v → Value.okWide Tryd.prog W .any base t v := hval0
  have hW' := hW
  obtain ⟨p, q, hA0, hV, rfl, hfz, hnd⟩ := hW
  have hA : DataW.TrodAll enc Tryd.prog W 0 (fun _ => true) true Tryd.f3.params.toList args.toList ds p := hA0
  rw [Tryd.params3] at hA hval
  obtain ⟨v0, vs0, d0, ds0, p0, q0, hargs, rfl, rfl, h0, r0⟩ := trodAll_cons hA
  obtain ⟨v1, vs1, d1, ds1, p1, q1, rfl, rfl, rfl, h1, r1⟩ := trodAll_cons r0
  obtain ⟨v2, vs2, d2, ds2, p2, q2, rfl, rfl, rfl, h2, r2⟩ := trodAll_cons r1
  obtain ⟨rfl, rfl, rfl⟩ := trodAll_nil r2
  obtain rfl : args = #[v0, v1, v2] := by cases args; simp_all
  obtain ⟨rfl, rfl⟩ := trodVars_none hV
  have k0 := h0
  have lt0 : ∀ x ∈ p0, x.block < W.heap.size := by obtain ⟨m, hm⟩ := k0; exact DataW.trod_lt m _ _ _ hm
  have w0 : FkVal [.bys, .num .i64, .num .i64] W v0 := fkval_of Tryd.underlying24 (by kernel_rfl) (by kernel_rfl) rfl (fun i f c hf hc => by
    rcases i with _| _| _| _
    · (simp at hf hc; subst hf hc; exact ⟨_, Tryd.underlying22, Tryd.underlying5, by kernel_rfl⟩)
    · (simp at hf hc; subst hf hc; exact Tryd.underlying3)
    · (simp at hf hc; subst hf hc; exact Tryd.underlying3)
    · simp at hc) (hval 0 24 v0 rfl rfl) h0
  obtain ⟨a1, rfl, rfl, rfl, w1⟩ := open_int Tryd.underlying3 (hval 1 3 v1 rfl rfl) h1
  obtain ⟨a2, len2, cap2, rfl⟩ := okWide_slice Tryd.underlying22 (hval 2 22 v2 rfl rfl)
  have k2 := h2
  have lt2 : ∀ x ∈ p2, x.block < W.heap.size := by obtain ⟨m, hm⟩ := k2; exact DataW.trod_lt m _ _ _ hm
  obtain ⟨z2, w2⟩ : ∃ zs, IsRow .u8 W a2 len2 cap2 zs := by
    obtain ⟨fuel, hf⟩ := h2
    rcases open_ints Tryd.underlying22 Tryd.underlying5 (by kernel_rfl) hf with ⟨hcs, _⟩ | ⟨x, l, c, zs, hcs, _, hl, hm, hz, _, hcell, hwz⟩
    · simp [Value.cells] at hcs
      obtain ⟨rfl, rfl, rfl⟩ := hcs
      exact ⟨[], .inl ⟨rfl, rfl, rfl, rfl⟩⟩
    · simp [Value.cells] at hcs
      obtain ⟨rfl, rfl, rfl⟩ := hcs
      exact ⟨zs, .inr ⟨_, rfl, hl, hm, by simpa using hz, hcell, hwz⟩⟩
  clear hA0 hval0
  refine (walk v0 a1 a2 len2 cap2 z2 W w0 w1 w2 (handle_of_hs hL'.2)).mono fun e W' ⟨he, bel⟩ => ?_
  subst he
  exact ⟨_, rfl, _, _, _, [], _, [], hW', trodAll_mk1 (shut_bool Tryd.underlying4 _), (trodAll_cons_mk (Below.trod laidOut (by kernel_rfl) (of_decide_eq_true (by kernel_rfl)) k0 bel lt0) (trodAll_cons_mk (shut_int Tryd.underlying3 w1) (trodAll_cons_mk (Below.trod laidOut (by kernel_rfl) (of_decide_eq_true (by kernel_rfl)) k2 bel lt2) trodAll_mk0))), rfl, bel.frame _, fun h => by cases h⟩

theorem over : Rows.pipeStepsRow.holds Tryd.pinned (OpenSpec.ofChange Rows.pipeStepsSpec) :=
  OpenClaim.holds_of_wide 3 Tryd.f3 rfl rfl rfl rfl rfl rfl rfl ⟨rfl, rfl, rfl, rfl, rfl⟩ rfl rfl rfl rfl rfl (by kernel_rfl) Tryd.func3 (by kernel_rfl)
    (of_decide_eq_true (by kernel_rfl)) (by unfold Func.isWrapper; first | (rw [if_pos (by decide +kernel)]; kernel_rfl) | (rw [if_neg (by decide +kernel)]; exact ⟨rfl, rfl⟩))
    (fun os started H enc _ => lifted os started H enc)

theorem proved : Rows.PipeStepsSaid := over
theorem card : Rows.PipeStepsCardSaid :=
  Claim7.holds_tied_plain_at .later [] [.handle] true (true, "443cb5858d902024aab65cd81cef51599dcd275aa6e665fd74d71f010075fde0") true
    over (fun _ h => by cases h) (by kernel_rfl) (fun _ h => by cases h) pipeSteps_row_tie rfl ⟨rfl, rfl⟩ (by kernel_rfl) rfl
    (fun f fn hf hfn => by
      obtain rfl : f = 3 := Option.some.inj ((show Tryd.prog.funcNamed "halter/halterlaw18.PipeSteps" = some 3 by kernel_rfl).symm.trans hf) |>.symm
      obtain rfl : fn = Tryd.f3 := (Option.some.inj (Tryd.func3.symm.trans hfn)).symm
      exact ⟨by kernel_rfl, fun j t ht => by
        rw [Tryd.params3] at ht
        have hm : t ∈ [24, 3, 22] := by have := Array.mem_of_getElem? ht; simpa using this
        have hall : ([24, 3, 22].all fun u => !Tryd.prog.wantsStandIn u) = true := by kernel_rfl
        exact (show Tryd.prog.wantsStandIn t = false by simpa using List.all_eq_true.1 hall t hm)⟩)
    (by kernel_rfl)
#print axioms card
end Go.Proofs.YtdoppkeaidemgaaDoor.pipeSteps
