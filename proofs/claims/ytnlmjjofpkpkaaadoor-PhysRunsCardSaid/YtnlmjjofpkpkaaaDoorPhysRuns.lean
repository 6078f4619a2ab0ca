/- Whatever is done to frames of bytes, each answer, and each read then, are the document's notes', or the errors; of a nil one there is nothing; the statement holds for every input, where the library's variable errors.errorType holds what its own text lays, which the card ties. -/
import Derived.Test.YtnlmjjofpkpkaaaDoorRows
import Derived.Test.YtnlmjjofpkpkaaaDoorPhM
import Derived.Deep.LoopGhost
import Derived.Deep.RegionHeld3
import Derived.Test.YtnlmjjofpkpkaaaDoorCards
import Derived.Test.YtnlmjjofpkpkaaaDoorTie
import Derived.LaidMore
import Derived.LaidLaws
import Derived.LaidHandle
import Derived.Test.YtnlmjjofpkpkaaaDoorLay
import Derived.Test.YtnlmjjofpkpkaaaDoorPost
import Derived.WalkKit
import Derived.ProofKit
import Derived.OpenShut
import Derived.ShutString
import Derived.ChangeOld
import Derived.Below
namespace Go.Proofs.YtnlmjjofpkpkaaaDoor.physRuns
open Go.ChangeShapes Go.WideShapes Go.ChangeAt Go.RowKit
open Go.ChangeMaps (open_string shut_string)
set_option linter.unusedVariables false

theorem own : ownKnob Tryd.prog.godebug = none := by kernel_rfl
theorem laidOut : laidOutB Tryd.prog = true := by kernel_rfl

/-- WHAT THE WALK IS TOLD OF A SLICE OF INTEGERS THAT CAME IN: it is nil; or it leads to a row of 'cap' cells, the numbers 'zs' (the first 'len' are its elements, the rest its spare room), each fitting its kind. -/
def IsRow (k : IntKind) (w : World) (a : Option Addr) (len cap : Nat) (zs : List Int) : Prop :=
  (a = none ∧ len = 0 ∧ cap = 0 ∧ zs = []) ∨
  ∃ x, a = some x ∧ len ≤ cap ∧ cap ≤ maxLen ∧ zs.length = cap ∧ (∀ i, i < zs.length → w.cell? (x.add i) = some (.int k (zs.getD i 0))) ∧ ∀ n ∈ zs, (Lit.int k n).wf = true

/-! ### STEP 1: THE WALK: the Go text returns true, AND WRITES NOTHING THAT WAS THERE: 'Below w.heap.size w w'' (Derived/Below.lean: '.refl', '.alloc', '.drew', '.setCell' at a new block, '.trans'). Open each 'IsRow' by 'rcases' AHEAD of 'go_enter'; part every test ahead of the walk. -/
set_option maxHeartbeats 16000000 in
set_option maxRecDepth 100000 in
theorem walk (a0 : Int) (a1 : Option Addr) (len1 cap1 : Nat) (w : World) (w0 : (Lit.int .i64 a0).wf = true) (w1 : ActRows .i64 4 w a1 len1) (hl : Laid w) :
    Calls Tryd.prog 3 #[.int .i64 a0, .slice a1 len1 cap1] w fun e w' => e = .returned (.bool true) ∧ Below w.heap.size w w' := by
  have hlt := hl.lt
  have hlw := w0
  have b0 := i64_bd w0
  go_enter Tryd.func3, Tryd.ntmps3
  go_wp2_with fail
  refine (read_nil 0 0 0 _).mono ?_
  rintro e W1 ⟨rfl, rfl⟩
  go_wp2_with fail
  refine (num_err 22 _ hl).mono ?_
  rintro e W1 ⟨rfl, n1⟩
  go_wp2_with fail
  refine (write_nil 0 0 none 0 0 (Nat.zero_le _) _).mono ?_
  rintro e Wx ⟨rfl, rfl⟩
  go_wp2_with fail
  refine (num_err 22 _ (hl.new n1)).mono ?_
  rintro e W2 ⟨rfl, m2⟩
  have n2 := n1.trans m2
  clear n1 m2
  go_wp2_with fail
  refine (zero_nil 0 _).mono ?_
  rintro e Wx ⟨rfl, rfl⟩
  go_wp2_with fail
  refine (num_err 22 _ (hl.new n2)).mono ?_
  rintro e W3 ⟨rfl, m3⟩
  have n3 := n2.trans m3
  clear n2 m3
  go_wp2_with fail
  refine (copy_nil 0 0 _).mono ?_
  rintro e Wx ⟨rfl, rfl⟩
  go_wp2_with fail
  refine (num_err 22 _ (hl.new n3)).mono ?_
  rintro e W4 ⟨rfl, m4⟩
  have n4 := n3.trans m4
  clear n3 m4
  go_wp2_with fail
  refine (many_nil _).mono ?_
  rintro e Wx ⟨rfl, rfl⟩
  go_wp2_with fail
  have fin : ∀ W, New w W → Calls Tryd.prog 13 #[] W fun e w' => e = .returned (.bool true) ∧ New w w' := fun W h => (psure_any W (hl.new h)).mono fun e w' ⟨h1, h2⟩ => ⟨h1, h.trans h2⟩
  by_cases big : a0 < 1 ∨ 1024 < a0
  · refine (pmade_bad a0 _ big).mono ?_
    rintro e W5 ⟨rfl, m5⟩
    have n5 := n4.trans m5
    clear m5
    by_cases c : a0 < 1
    · clear big
      go_wp2_with fail
      refine (num_err 22 _ (hl.new n5)).mono ?_
      rintro e W6 ⟨rfl, m6⟩
      have F := fin _ (n5.trans m6)
      clear fin
      go_wp2_with fail
      refine F.mono ?_
      rintro e W7 ⟨rfl, n7⟩
      go_wp2_with fail
      go_ret
      exact ⟨rfl, n7⟩
    · have d : 1024 < a0 := by omega
      have c1 : decide (a0 < 1) = false := by simpa using c
      clear big
      go_wp2_with fail
      refine (num_err 22 _ (hl.new n5)).mono ?_
      rintro e W6 ⟨rfl, m6⟩
      have F := fin _ (n5.trans m6)
      clear fin
      go_wp2_with fail
      refine F.mono ?_
      rintro e W7 ⟨rfl, n7⟩
      go_wp2_with fail
      go_ret
      exact ⟨rfl, n7⟩
  · obtain ⟨many, rfl⟩ := Int.eq_ofNat_of_zero_le (show 0 ≤ a0 by omega)
    have g1 : 1 ≤ many := by omega
    have g2 : many ≤ 1024 := by omega
    have c1 : decide ((many : Int) < 1) = false := by simp; omega
    have c2 : decide (1024 < (many : Int)) = false := by simp; omega
    refine (pmade_any many _ g1 g2).mono ?_
    rintro e W5 ⟨rfl, hP, m5⟩
    have n5 := n4.trans m5
    have s4 := n4.size
    have s5 : W4.heap.size + 1 < W5.heap.size := hP.lt.1
    have HB0 := Lib.hid (Both.zeros many)
    obtain ⟨bs0, hbs0⟩ : ∃ bs0, bs0 = List.replicate (many * 256) (0 : Int) := ⟨_, rfl⟩
    rw [← hbs0] at hP HB0
    clear hbs0 m5 n4 big
    have M5 := many_any hP
    have HP := Lib.hid hP
    clear hP
    go_wp2_with fail
    refine M5.mono ?_
    rintro e Wx ⟨rfl, rfl⟩
    clear M5
    go_wp2_with fail
    obtain ⟨bx, hbx⟩ : ∃ bx, bx = W5.heap.size := ⟨_, rfl⟩
    have hX0 : Whole (W5.alloc (.cells #[.int .i64 (many : Int), .slice none 0 0] 39)) bx #[.int .i64 (many : Int), .slice none 0 0] 39 := by rw [hbx]; exact Whole.made W5 _ _
    have nA := (New.refl W5).alloc #[.int .i64 (many : Int), .slice none 0 0] 39
    have hP0 := HP.out.new nA
    have n6 := n5.trans nA
    rw [← hbx] at s5 ⊢
    generalize W5.alloc (.cells #[.int .i64 (many : Int), .slice none 0 0] 39) = W6 at *
    clear hbx nA n5 HP
    generalize W4.heap.size = rb at *
    have HL := Lib.hid w1.2
    have hmx := w1.1
    unfold maxLen at hmx
    clear w1
    go_loopg [11] len1 (fun k i wr => ∃ (j : Nat) (bs : List Int) (L : List Nt) (p : Option Addr) (ll cp : Nat), j + k = len1 ∧ i = .int .i64 (j : Int) ∧ j ≤ 25 ∧ Both many bs L ∧ L.length ≤ j ∧ Ph wr (rb + 1) rb many bs ∧ Whole wr bx #[.int .i64 (many : Int), .slice p ll cp] 39 ∧ Notes (fun k => k < w.heap.size ∨ bx + 1 ≤ k) wr (.slice p ll cp) L ∧ New w wr)
    case atStart => exact ⟨0, _, [], none, 0, 0, by omega, rfl, by omega, HB0.out, by simp, hP0, hX0, Notes.nil, n6⟩
    case round =>
      obtain ⟨j, bs, L, p, ll, cp, hj, rfl, hj25, hBo, hLl, hP, hX, hNt, hN⟩ := hrel
      have J := Lib.hid hj
      have HB := Lib.hid hBo
      clear hj hBo
      by_cases c : j < len1 ∧ j < 25
      · obtain ⟨c3, c4⟩ := c
        have d3 : decide ((j : Int) < (len1 : Int)) = true := by simp; omega
        have d4 : decide ((j : Int) < 25) = true := by simp; omega
        obtain ⟨x, rfl, hx, u, l, hu, hin⟩ := HL.out j c3
        obtain ⟨kd, hk0, _⟩ := hx 0 (by omega)
        obtain ⟨fr, hk1, wf1⟩ := hx 1 (by omega)
        obtain ⟨of, hk2, wf2⟩ := hx 2 (by omega)
        obtain ⟨nn, hk3, wf3⟩ := hx 3 (by omega)
        rw [← hN.cell (p := x.add (j * 5 + 0)) (cell_lt hk0)] at hk0
        rw [← hN.cell (p := x.add (j * 5 + 1)) (cell_lt hk1)] at hk1
        rw [← hN.cell (p := x.add (j * 5 + 2)) (cell_lt hk2)] at hk2
        rw [← hN.cell (p := x.add (j * 5 + 3)) (cell_lt hk3)] at hk3
        rw [← hN.cell (p := x.add (j * 5 + 4)) (cell_lt hu)] at hu
        rw [Nat.add_zero] at hk0
        rw [add_field x _ 1 (by omega)] at hk1
        rw [add_field x _ 2 (by omega)] at hk2
        rw [add_field x _ 3 (by omega)] at hk3
        rw [add_field x _ 4 (by omega)] at hu
        have bd2 := i64_bd wf2
        have bd3 := i64_bd wf3
        have HI := Lib.hid hin
        obtain ⟨pu, cu, rfl, hlc, hcm, hoc, _⟩ := hin
        have HO := Lib.hid hoc
        have hcm' := hcm
        unfold maxLen at hcm'
        have HLM := Lib.hid (Nat.le_trans hlc hcm)
        clear hx wf1 wf2 wf3 hoc hcm
        obtain ⟨x0, x1, x2, x3⟩ := hX.two
        have hab : bx < wr.heap.size := hX.lt
        have HP := Lib.hid hP
        have HX := Lib.hid hX
        have HN := Lib.hid hNt
        clear hP hX hNt
        by_cases c5 : 300 < l.length
        · have d5 : decide (300 < (l.length : Int)) = true := by simp; omega
          have d6 : decide (300 < l.length) = true := by simp; omega
          clear c5
          have F := fun W (h : New wr W) => fin W (hN.trans h)
          go_wp2_with fail
          refine (F _ ((New.refl wr).alloc _ _)).mono ?_
          rintro e W7 ⟨rfl, n7⟩
          go_wp2_with fail
          go_ret
          exact ⟨rfl, n7⟩
        · have d5 : decide (300 < (l.length : Int)) = false := by simp; omega
          have d6 : decide (300 < l.length) = false := by simp; omega
          obtain ⟨q, eq, hq⟩ := mod8 kd
          clear c5
          by_cases q4 : q < 4
          · have t1 : decide ((q : Int) < 4) = true := by simp; omega
            clear q4
            go_wp2_with fail
            clear eq
            have kA := ((New.refl wr).alloc #[.int .i64 kd, .int .i64 fr, .int .i64 of, .int .i64 nn, .slice pu l.length cu] 41).alloc #[.int .i64 (many : Int), .slice p ll cp] 39
            have hA0 : Whole ((wr.alloc (.cells #[.int .i64 kd, .int .i64 fr, .int .i64 of, .int .i64 nn, .slice pu l.length cu] 41)).alloc (.cells #[.int .i64 (many : Int), .slice p ll cp] 39)) wr.heap.size #[.int .i64 kd, .int .i64 fr, .int .i64 of, .int .i64 nn, .slice pu l.length cu] 41 := (Whole.made wr _ _).new ((New.refl _).alloc _ _)
            have hY0 : Whole ((wr.alloc (.cells #[.int .i64 kd, .int .i64 fr, .int .i64 of, .int .i64 nn, .slice pu l.length cu] 41)).alloc (.cells #[.int .i64 (many : Int), .slice p ll cp] 39)) (wr.heap.size + 1) #[.int .i64 (many : Int), .slice p ll cp] 39 := by have := Whole.made (wr.alloc (.cells #[.int .i64 kd, .int .i64 fr, .int .i64 of, .int .i64 nn, .slice pu l.length cu] 41)) #[.int .i64 (many : Int), .slice p ll cp] 39; rw [World.size_alloc] at this; exact this
            have hs0 : ((wr.alloc (.cells #[.int .i64 kd, .int .i64 fr, .int .i64 of, .int .i64 nn, .slice pu l.length cu] 41)).alloc (.cells #[.int .i64 (many : Int), .slice p ll cp] 39)).heap.size = wr.heap.size + 2 := by simp
            have hP0 := HP.out.new kA
            have hX0 := HX.out.new kA
            have hN0 := hN.trans kA
            obtain ⟨T, hT⟩ : ∃ T : Nat → Prop, T = fun k => (k < w.heap.size ∨ bx + 1 ≤ k) ∧ k ≠ wr.heap.size + 1 := ⟨_, rfl⟩
            have hNt0 := (HN.out.mono (T := T) (fun i h1 h2 => by rw [hT]; exact ⟨h2, by omega⟩)).new kA
            have T1 := Lib.hid (show ∀ k, wr.heap.size + 2 ≤ k → T k from fun k hk => by rw [hT]; exact ⟨by omega, by omega⟩)
            have T2 := Lib.hid (show ∀ k, k < w.heap.size → T k from fun k hk => by rw [hT]; exact ⟨by omega, by omega⟩)
            have T3 := Lib.hid (show ¬ T (wr.heap.size + 1) by rw [hT]; exact fun q => q.2 rfl)
            have T4 := Lib.hid (show ¬ T bx by rw [hT]; exact fun q => by omega)
            have T5 := Lib.hid (show ¬ T rb by rw [hT]; exact fun q => by omega)
            have T6 := Lib.hid (show ∀ k, T k → (k < w.heap.size ∨ bx + 1 ≤ k) from fun k hk => by rw [hT] at hk; exact hk.1)
            have HU := Lib.hid (HI.out.outer (S := T) T2.out)
            have P0 := Lib.hid hP0
            have N0 := Lib.hid hNt0
            have A0 := Lib.hid hA0
            have Y0 := Lib.hid hY0
            have X0 := Lib.hid hX0
            clear hT kA hA0 hY0 hP0 hX0 hNt0 x0 x1 x2 x3 hk0 hk1 hk2 hk3 hu
            generalize ((wr.alloc (.cells #[.int .i64 kd, .int .i64 fr, .int .i64 of, .int .i64 nn, .slice pu l.length cu] 41)).alloc (.cells #[.int .i64 (many : Int), .slice p ll cp] 39)) = V0 at *
            obtain ⟨ab, eab⟩ : ∃ ab, ab = wr.heap.size := ⟨_, rfl⟩
            rw [← eab] at A0 Y0 T1 T3 hs0 hab ⊢
            clear eab
            obtain ⟨cc, bs2, L2, hB2, hL2, XP, XD⟩ := step_write (S := T) (mb := rb + 1) (rb := rb) fr of pu l cu HB.out g2 (by omega) HO.out HLM.out (by omega)
            have HB2 := Lib.hid hB2
            clear hB2
            refine (XP V0 P0.out (HU.out.gap (Gap.of_new T hN0)).byts).mono ?_
            rintro e V1 ⟨rfl, p1, f1⟩
            have P1 := Lib.hid p1
            have A1 := Lib.hid (A0.out.off f1 (by omega))
            have Y1 := Lib.hid (Y0.out.off f1 (by omega))
            have X1 := Lib.hid (X0.out.off f1 (by omega))
            have N1 := Lib.hid (N0.out.gap (Gap.of_far f1 T5.out))
            have hN1 := f1.new hN0 (by omega)
            have hs1 := f1.size
            clear p1 f1 P0 A0 Y0 X0 N0 XP hN0
            go_wp2_with fail
            refine (num_er cc _ (hl.new hN1)).mono ?_
            rintro e V2 ⟨rfl, k2⟩
            have P2 := Lib.hid (P1.out.new k2)
            have A2 := Lib.hid (A1.out.new k2)
            have Y2 := Lib.hid (Y1.out.new k2)
            have X2 := Lib.hid (X1.out.new k2)
            have N2 := Lib.hid (N1.out.new k2)
            have hN2 := hN1.trans k2
            have hs2 := k2.size
            clear k2 P1 A1 Y1 X1 N1 hN1
            obtain ⟨x0, x1, x2, x3⟩ := X2.out.two
            obtain ⟨a0, a1, a2, a3, a4⟩ := A2.out.five
            go_wp2_with fail
            refine (XD V2 _ N2.out (fun k hk => T1.out k (by omega)) (HU.out.gap (Gap.of_new T hN2))).mono ?_
            rintro e V3 ⟨v3, he, nt3, k3⟩
            have P3 := Lib.hid (P2.out.new k3)
            have A3 := Lib.hid (A2.out.new k3)
            have Y3 := Lib.hid (Y2.out.new k3)
            have X3 := Lib.hid (X2.out.new k3)
            have hN3 := hN2.trans k3
            have HLL := Lib.hid (show L2.length ≤ j + 1 by omega)
            obtain ⟨p3, cp3, e3, hc31, hc32⟩ := nt3.shape
            obtain ⟨ll3, hll⟩ : ∃ k, k = L2.length := ⟨_, rfl⟩
            rw [← hll] at e3 hc31
            clear hll
            subst e3
            unfold maxLen at hc32
            obtain rfl : e = .returned (.tuple #[.agg #[.int .i64 (many : Int), .slice p3 ll3 cp3], .int .i64 cc]) := he
            have N3 := Lib.hid nt3
            clear nt3 k3 XD P2 A2 Y2 X2 N2 hN2 x0 x1 x2 x3 a0 a1 a2 a3 a4 hL2
            obtain ⟨x0, x1, x2, x3⟩ := X3.out.two
            obtain ⟨y0, y1, y2, y3⟩ := Y3.out.two
            obtain ⟨a0, a1, a2, a3, a4⟩ := A3.out.five
            go_wp2_with fail
            have fY := Far.put V3 (ab + 1) (.int .i64 (many : Int)) (.slice p3 ll3 cp3)
            have X4a := X3.out.off fY (by omega)
            have P4a := P3.out.off fY (by omega) (by omega)
            have A4a := A3.out.off fY (by omega)
            have N4a := N3.out.gap (Gap.of_far fY T3.out)
            have hN4a := fY.new hN3 (by omega)
            clear fY Y3 x0 x1 x2 x3 y0 y1 y2 y3 a0 a1 a2 a3 a4 P3 A3 X3 N3 hN3
            generalize (V3.setCell ⟨ab + 1, 0, none⟩ (.int .i64 (many : Int))).setCell ⟨ab + 1, 1, none⟩ (.slice p3 ll3 cp3) = V3b at *
            have fX := Far.put V3b bx (.int .i64 (many : Int)) (.slice p3 ll3 cp3)
            have X4 := Lib.hid (X4a.put (.int .i64 (many : Int)) (.slice p3 ll3 cp3))
            have P4 := Lib.hid (P4a.off fX (by omega) (by omega))
            have A4 := Lib.hid (A4a.off fX (by omega))
            have N4 := Lib.hid ((N4a.gap (Gap.of_far fX T4.out)).mono (T := fun k => k < w.heap.size ∨ bx + 1 ≤ k) (fun i _ hi => T6.out i hi))
            have hN4 := fX.new hN4a (by omega)
            clear fX X4a P4a A4a N4a hN4a T1 T2 T3 T4 T5 T6 HU
            generalize (V3b.setCell ⟨bx, 0, none⟩ (.int .i64 (many : Int))).setCell ⟨bx, 1, none⟩ (.slice p3 ll3 cp3) = V4 at *
            obtain ⟨c2, l2, RP, RD⟩ := step_read (S := fun k => k < w.heap.size ∨ bx + 1 ≤ k) (mb := rb + 1) (rb := rb) fr of nn HB2.out g2 (by have := HLL.out; omega) (by omega) (by omega)
            refine (RP V4 P4.out).mono ?_
            rintro e V5 ⟨pv, rfl, b5, k5⟩
            have P5 := Lib.hid (P4.out.new k5)
            have A5 := Lib.hid (A4.out.new k5)
            have X5 := Lib.hid (X4.out.new k5)
            have N5 := Lib.hid (N4.out.new k5)
            have hN5 := hN4.trans k5
            have B5 := Lib.hid b5
            clear k5 b5 P4 A4 X4 N4 hN4 RP
            obtain ⟨x0, x1, x2, x3⟩ := X5.out.two
            obtain ⟨a0, a1, a2, a3, a4⟩ := A5.out.five
            go_wp2_with fail
            refine (RD V5 _ N5.out).mono ?_
            rintro e V6 ⟨dv, rfl, d6, k6⟩
            have P6 := Lib.hid (P5.out.new k6)
            have X6 := Lib.hid (X5.out.new k6)
            have N6 := Lib.hid (N5.out.new k6)
            have hN6 := hN5.trans k6
            have z1 := str_of (B5.out.new k6)
            have z2 := str_of d6
            generalize strOfNums l2 = sx at *
            clear k6 d6 B5 P5 A5 X5 N5 hN5 RD x0 x1 x2 x3 a0 a1 a2 a3 a4
            go_wp2_with fail
            refine (num_er c2 _ (hl.new hN6)).mono ?_
            rintro e V7 ⟨rfl, k7⟩
            go_wp2_with fail
            go_roundg (len1 - (j + 1))
            case measure => have := J.out; omega
            case rel => exact ⟨j + 1, bs2, L2, p3, ll3, cp3, by have := J.out; omega, by go_num, by omega, HB2.out, HLL.out, P6.out.new k7, X6.out.new k7, N6.out.new k7, hN6.trans k7⟩
          · by_cases q5 : q = 4
            · have t1 : decide ((q : Int) < 4) = false := by simp; omega
              have t2 : ((q : Int) == 4) = true := by simp; omega
              clear q4 q5
              go_wp2_with fail
              clear eq
              have kA := ((New.refl wr).alloc #[.int .i64 kd, .int .i64 fr, .int .i64 of, .int .i64 nn, .slice pu l.length cu] 41).alloc #[.int .i64 (many : Int), .slice p ll cp] 39
              have hA0 : Whole ((wr.alloc (.cells #[.int .i64 kd, .int .i64 fr, .int .i64 of, .int .i64 nn, .slice pu l.length cu] 41)).alloc (.cells #[.int .i64 (many : Int), .slice p ll cp] 39)) wr.heap.size #[.int .i64 kd, .int .i64 fr, .int .i64 of, .int .i64 nn, .slice pu l.length cu] 41 := (Whole.made wr _ _).new ((New.refl _).alloc _ _)
              have hY0 : Whole ((wr.alloc (.cells #[.int .i64 kd, .int .i64 fr, .int .i64 of, .int .i64 nn, .slice pu l.length cu] 41)).alloc (.cells #[.int .i64 (many : Int), .slice p ll cp] 39)) (wr.heap.size + 1) #[.int .i64 (many : Int), .slice p ll cp] 39 := by have := Whole.made (wr.alloc (.cells #[.int .i64 kd, .int .i64 fr, .int .i64 of, .int .i64 nn, .slice pu l.length cu] 41)) #[.int .i64 (many : Int), .slice p ll cp] 39; rw [World.size_alloc] at this; exact this
              have hs0 : ((wr.alloc (.cells #[.int .i64 kd, .int .i64 fr, .int .i64 of, .int .i64 nn, .slice pu l.length cu] 41)).alloc (.cells #[.int .i64 (many : Int), .slice p ll cp] 39)).heap.size = wr.heap.size + 2 := by simp
              have hP0 := HP.out.new kA
              have hX0 := HX.out.new kA
              have hN0 := hN.trans kA
              obtain ⟨T, hT⟩ : ∃ T : Nat → Prop, T = fun k => (k < w.heap.size ∨ bx + 1 ≤ k) ∧ k ≠ wr.heap.size + 1 := ⟨_, rfl⟩
              have hNt0 := (HN.out.mono (T := T) (fun i h1 h2 => by rw [hT]; exact ⟨h2, by omega⟩)).new kA
              have T1 := Lib.hid (show ∀ k, wr.heap.size + 2 ≤ k → T k from fun k hk => by rw [hT]; exact ⟨by omega, by omega⟩)
              have T2 := Lib.hid (show ∀ k, k < w.heap.size → T k from fun k hk => by rw [hT]; exact ⟨by omega, by omega⟩)
              have T3 := Lib.hid (show ¬ T (wr.heap.size + 1) by rw [hT]; exact fun q => q.2 rfl)
              have T4 := Lib.hid (show ¬ T bx by rw [hT]; exact fun q => by omega)
              have T5 := Lib.hid (show ¬ T rb by rw [hT]; exact fun q => by omega)
              have T6 := Lib.hid (show ∀ k, T k → (k < w.heap.size ∨ bx + 1 ≤ k) from fun k hk => by rw [hT] at hk; exact hk.1)
              have HU := Lib.hid (HI.out.outer (S := T) T2.out)
              have P0 := Lib.hid hP0
              have N0 := Lib.hid hNt0
              have A0 := Lib.hid hA0
              have Y0 := Lib.hid hY0
              have X0 := Lib.hid hX0
              clear hT kA hA0 hY0 hP0 hX0 hNt0 x0 x1 x2 x3 hk0 hk1 hk2 hk3 hu
              generalize ((wr.alloc (.cells #[.int .i64 kd, .int .i64 fr, .int .i64 of, .int .i64 nn, .slice pu l.length cu] 41)).alloc (.cells #[.int .i64 (many : Int), .slice p ll cp] 39)) = V0 at *
              obtain ⟨ab, eab⟩ : ∃ ab, ab = wr.heap.size := ⟨_, rfl⟩
              rw [← eab] at A0 Y0 T1 T3 hs0 hab ⊢
              clear eab
              obtain ⟨cc, bs2, L2, hB2, hL2, XP, XD⟩ := step_zero (S := T) (mb := rb + 1) (rb := rb) fr HB.out g2 (by omega)
              have HB2 := Lib.hid hB2
              clear hB2
              refine (XP V0 P0.out).mono ?_
              rintro e V1 ⟨rfl, p1, f1⟩
              have P1 := Lib.hid p1
              have A1 := Lib.hid (A0.out.off f1 (by omega))
              have Y1 := Lib.hid (Y0.out.off f1 (by omega))
              have X1 := Lib.hid (X0.out.off f1 (by omega))
              have N1 := Lib.hid (N0.out.gap (Gap.of_far f1 T5.out))
              have hN1 := f1.new hN0 (by omega)
              have hs1 := f1.size
              clear p1 f1 P0 A0 Y0 X0 N0 XP hN0
              go_wp2_with fail
              refine (num_er cc _ (hl.new hN1)).mono ?_
              rintro e V2 ⟨rfl, k2⟩
              have P2 := Lib.hid (P1.out.new k2)
              have A2 := Lib.hid (A1.out.new k2)
              have Y2 := Lib.hid (Y1.out.new k2)
              have X2 := Lib.hid (X1.out.new k2)
              have N2 := Lib.hid (N1.out.new k2)
              have hN2 := hN1.trans k2
              have hs2 := k2.size
              clear k2 P1 A1 Y1 X1 N1 hN1
              obtain ⟨x0, x1, x2, x3⟩ := X2.out.two
              obtain ⟨a0, a1, a2, a3, a4⟩ := A2.out.five
              go_wp2_with fail
              refine (XD V2 _ N2.out (fun k hk => T1.out k (by omega)) ).mono ?_
              rintro e V3 ⟨v3, he, nt3, k3⟩
              have P3 := Lib.hid (P2.out.new k3)
              have A3 := Lib.hid (A2.out.new k3)
              have Y3 := Lib.hid (Y2.out.new k3)
              have X3 := Lib.hid (X2.out.new k3)
              have hN3 := hN2.trans k3
              have HLL := Lib.hid (show L2.length ≤ j + 1 by omega)
              obtain ⟨p3, cp3, e3, hc31, hc32⟩ := nt3.shape
              obtain ⟨ll3, hll⟩ : ∃ k, k = L2.length := ⟨_, rfl⟩
              rw [← hll] at e3 hc31
              clear hll
              subst e3
              unfold maxLen at hc32
              obtain rfl : e = .returned (.tuple #[.agg #[.int .i64 (many : Int), .slice p3 ll3 cp3], .int .i64 cc]) := he
              have N3 := Lib.hid nt3
              clear nt3 k3 XD P2 A2 Y2 X2 N2 hN2 x0 x1 x2 x3 a0 a1 a2 a3 a4 hL2
              obtain ⟨x0, x1, x2, x3⟩ := X3.out.two
              obtain ⟨y0, y1, y2, y3⟩ := Y3.out.two
              obtain ⟨a0, a1, a2, a3, a4⟩ := A3.out.five
              go_wp2_with fail
              have fY := Far.put V3 (ab + 1) (.int .i64 (many : Int)) (.slice p3 ll3 cp3)
              have X4a := X3.out.off fY (by omega)
              have P4a := P3.out.off fY (by omega) (by omega)
              have A4a := A3.out.off fY (by omega)
              have N4a := N3.out.gap (Gap.of_far fY T3.out)
              have hN4a := fY.new hN3 (by omega)
              clear fY Y3 x0 x1 x2 x3 y0 y1 y2 y3 a0 a1 a2 a3 a4 P3 A3 X3 N3 hN3
              generalize (V3.setCell ⟨ab + 1, 0, none⟩ (.int .i64 (many : Int))).setCell ⟨ab + 1, 1, none⟩ (.slice p3 ll3 cp3) = V3b at *
              have fX := Far.put V3b bx (.int .i64 (many : Int)) (.slice p3 ll3 cp3)
              have X4 := Lib.hid (X4a.put (.int .i64 (many : Int)) (.slice p3 ll3 cp3))
              have P4 := Lib.hid (P4a.off fX (by omega) (by omega))
              have A4 := Lib.hid (A4a.off fX (by omega))
              have N4 := Lib.hid ((N4a.gap (Gap.of_far fX T4.out)).mono (T := fun k => k < w.heap.size ∨ bx + 1 ≤ k) (fun i _ hi => T6.out i hi))
              have hN4 := fX.new hN4a (by omega)
              clear fX X4a P4a A4a N4a hN4a T1 T2 T3 T4 T5 T6 HU
              generalize (V3b.setCell ⟨bx, 0, none⟩ (.int .i64 (many : Int))).setCell ⟨bx, 1, none⟩ (.slice p3 ll3 cp3) = V4 at *
              obtain ⟨c2, l2, RP, RD⟩ := step_read (S := fun k => k < w.heap.size ∨ bx + 1 ≤ k) (mb := rb + 1) (rb := rb) fr of nn HB2.out g2 (by have := HLL.out; omega) (by omega) (by omega)
              refine (RP V4 P4.out).mono ?_
              rintro e V5 ⟨pv, rfl, b5, k5⟩
              have P5 := Lib.hid (P4.out.new k5)
              have A5 := Lib.hid (A4.out.new k5)
              have X5 := Lib.hid (X4.out.new k5)
              have N5 := Lib.hid (N4.out.new k5)
              have hN5 := hN4.trans k5
              have B5 := Lib.hid b5
              clear k5 b5 P4 A4 X4 N4 hN4 RP
              obtain ⟨x0, x1, x2, x3⟩ := X5.out.two
              obtain ⟨a0, a1, a2, a3, a4⟩ := A5.out.five
              go_wp2_with fail
              refine (RD V5 _ N5.out).mono ?_
              rintro e V6 ⟨dv, rfl, d6, k6⟩
              have P6 := Lib.hid (P5.out.new k6)
              have X6 := Lib.hid (X5.out.new k6)
              have N6 := Lib.hid (N5.out.new k6)
              have hN6 := hN5.trans k6
              have z1 := str_of (B5.out.new k6)
              have z2 := str_of d6
              generalize strOfNums l2 = sx at *
              clear k6 d6 B5 P5 A5 X5 N5 hN5 RD x0 x1 x2 x3 a0 a1 a2 a3 a4
              go_wp2_with fail
              refine (num_er c2 _ (hl.new hN6)).mono ?_
              rintro e V7 ⟨rfl, k7⟩
              go_wp2_with fail
              go_roundg (len1 - (j + 1))
              case measure => have := J.out; omega
              case rel => exact ⟨j + 1, bs2, L2, p3, ll3, cp3, by have := J.out; omega, by go_num, by omega, HB2.out, HLL.out, P6.out.new k7, X6.out.new k7, N6.out.new k7, hN6.trans k7⟩
            · by_cases q6 : q = 5
              · have t1 : decide ((q : Int) < 4) = false := by simp; omega
                have t2 : ((q : Int) == 4) = false := by simp; omega
                have t3 : ((q : Int) == 5) = true := by simp; omega
                clear q4 q5 q6
                go_wp2_with fail
                clear eq
                have kA := ((New.refl wr).alloc #[.int .i64 kd, .int .i64 fr, .int .i64 of, .int .i64 nn, .slice pu l.length cu] 41).alloc #[.int .i64 (many : Int), .slice p ll cp] 39
                have hA0 : Whole ((wr.alloc (.cells #[.int .i64 kd, .int .i64 fr, .int .i64 of, .int .i64 nn, .slice pu l.length cu] 41)).alloc (.cells #[.int .i64 (many : Int), .slice p ll cp] 39)) wr.heap.size #[.int .i64 kd, .int .i64 fr, .int .i64 of, .int .i64 nn, .slice pu l.length cu] 41 := (Whole.made wr _ _).new ((New.refl _).alloc _ _)
                have hY0 : Whole ((wr.alloc (.cells #[.int .i64 kd, .int .i64 fr, .int .i64 of, .int .i64 nn, .slice pu l.length cu] 41)).alloc (.cells #[.int .i64 (many : Int), .slice p ll cp] 39)) (wr.heap.size + 1) #[.int .i64 (many : Int), .slice p ll cp] 39 := by have := Whole.made (wr.alloc (.cells #[.int .i64 kd, .int .i64 fr, .int .i64 of, .int .i64 nn, .slice pu l.length cu] 41)) #[.int .i64 (many : Int), .slice p ll cp] 39; rw [World.size_alloc] at this; exact this
                have hs0 : ((wr.alloc (.cells #[.int .i64 kd, .int .i64 fr, .int .i64 of, .int .i64 nn, .slice pu l.length cu] 41)).alloc (.cells #[.int .i64 (many : Int), .slice p ll cp] 39)).heap.size = wr.heap.size + 2 := by simp
                have hP0 := HP.out.new kA
                have hX0 := HX.out.new kA
                have hN0 := hN.trans kA
                obtain ⟨T, hT⟩ : ∃ T : Nat → Prop, T = fun k => (k < w.heap.size ∨ bx + 1 ≤ k) ∧ k ≠ wr.heap.size + 1 := ⟨_, rfl⟩
                have hNt0 := (HN.out.mono (T := T) (fun i h1 h2 => by rw [hT]; exact ⟨h2, by omega⟩)).new kA
                have T1 := Lib.hid (show ∀ k, wr.heap.size + 2 ≤ k → T k from fun k hk => by rw [hT]; exact ⟨by omega, by omega⟩)
                have T2 := Lib.hid (show ∀ k, k < w.heap.size → T k from fun k hk => by rw [hT]; exact ⟨by omega, by omega⟩)
                have T3 := Lib.hid (show ¬ T (wr.heap.size + 1) by rw [hT]; exact fun q => q.2 rfl)
                have T4 := Lib.hid (show ¬ T bx by rw [hT]; exact fun q => by omega)
                have T5 := Lib.hid (show ¬ T rb by rw [hT]; exact fun q => by omega)
                have T6 := Lib.hid (show ∀ k, T k → (k < w.heap.size ∨ bx + 1 ≤ k) from fun k hk => by rw [hT] at hk; exact hk.1)
                have HU := Lib.hid (HI.out.outer (S := T) T2.out)
                have P0 := Lib.hid hP0
                have N0 := Lib.hid hNt0
                have A0 := Lib.hid hA0
                have Y0 := Lib.hid hY0
                have X0 := Lib.hid hX0
                clear hT kA hA0 hY0 hP0 hX0 hNt0 x0 x1 x2 x3 hk0 hk1 hk2 hk3 hu
                generalize ((wr.alloc (.cells #[.int .i64 kd, .int .i64 fr, .int .i64 of, .int .i64 nn, .slice pu l.length cu] 41)).alloc (.cells #[.int .i64 (many : Int), .slice p ll cp] 39)) = V0 at *
                obtain ⟨ab, eab⟩ : ∃ ab, ab = wr.heap.size := ⟨_, rfl⟩
                rw [← eab] at A0 Y0 T1 T3 hs0 hab ⊢
                clear eab
                obtain ⟨cc, bs2, L2, hB2, hL2, XP, XD⟩ := step_copy (S := T) (mb := rb + 1) (rb := rb) fr nn HB.out g2 (by omega)
                have HB2 := Lib.hid hB2
                clear hB2
                refine (XP V0 P0.out).mono ?_
                rintro e V1 ⟨rfl, p1, f1⟩
                have P1 := Lib.hid p1
                have A1 := Lib.hid (A0.out.off f1 (by omega))
                have Y1 := Lib.hid (Y0.out.off f1 (by omega))
                have X1 := Lib.hid (X0.out.off f1 (by omega))
                have N1 := Lib.hid (N0.out.gap (Gap.of_far f1 T5.out))
                have hN1 := f1.new hN0 (by omega)
                have hs1 := f1.size
                clear p1 f1 P0 A0 Y0 X0 N0 XP hN0
                go_wp2_with fail
                refine (num_er cc _ (hl.new hN1)).mono ?_
                rintro e V2 ⟨rfl, k2⟩
                have P2 := Lib.hid (P1.out.new k2)
                have A2 := Lib.hid (A1.out.new k2)
                have Y2 := Lib.hid (Y1.out.new k2)
                have X2 := Lib.hid (X1.out.new k2)
                have N2 := Lib.hid (N1.out.new k2)
                have hN2 := hN1.trans k2
                have hs2 := k2.size
                clear k2 P1 A1 Y1 X1 N1 hN1
                obtain ⟨x0, x1, x2, x3⟩ := X2.out.two
                obtain ⟨a0, a1, a2, a3, a4⟩ := A2.out.five
                go_wp2_with fail
                refine (XD V2 _ N2.out (fun k hk => T1.out k (by omega)) ).mono ?_
                rintro e V3 ⟨v3, he, nt3, k3⟩
                have P3 := Lib.hid (P2.out.new k3)
                have A3 := Lib.hid (A2.out.new k3)
                have Y3 := Lib.hid (Y2.out.new k3)
                have X3 := Lib.hid (X2.out.new k3)
                have hN3 := hN2.trans k3
                have HLL := Lib.hid (show L2.length ≤ j + 1 by omega)
                obtain ⟨p3, cp3, e3, hc31, hc32⟩ := nt3.shape
                obtain ⟨ll3, hll⟩ : ∃ k, k = L2.length := ⟨_, rfl⟩
                rw [← hll] at e3 hc31
                clear hll
                subst e3
                unfold maxLen at hc32
                obtain rfl : e = .returned (.tuple #[.agg #[.int .i64 (many : Int), .slice p3 ll3 cp3], .int .i64 cc]) := he
                have N3 := Lib.hid nt3
                clear nt3 k3 XD P2 A2 Y2 X2 N2 hN2 x0 x1 x2 x3 a0 a1 a2 a3 a4 hL2
                obtain ⟨x0, x1, x2, x3⟩ := X3.out.two
                obtain ⟨y0, y1, y2, y3⟩ := Y3.out.two
                obtain ⟨a0, a1, a2, a3, a4⟩ := A3.out.five
                go_wp2_with fail
                have fY := Far.put V3 (ab + 1) (.int .i64 (many : Int)) (.slice p3 ll3 cp3)
                have X4a := X3.out.off fY (by omega)
                have P4a := P3.out.off fY (by omega) (by omega)
                have A4a := A3.out.off fY (by omega)
                have N4a := N3.out.gap (Gap.of_far fY T3.out)
                have hN4a := fY.new hN3 (by omega)
                clear fY Y3 x0 x1 x2 x3 y0 y1 y2 y3 a0 a1 a2 a3 a4 P3 A3 X3 N3 hN3
                generalize (V3.setCell ⟨ab + 1, 0, none⟩ (.int .i64 (many : Int))).setCell ⟨ab + 1, 1, none⟩ (.slice p3 ll3 cp3) = V3b at *
                have fX := Far.put V3b bx (.int .i64 (many : Int)) (.slice p3 ll3 cp3)
                have X4 := Lib.hid (X4a.put (.int .i64 (many : Int)) (.slice p3 ll3 cp3))
                have P4 := Lib.hid (P4a.off fX (by omega) (by omega))
                have A4 := Lib.hid (A4a.off fX (by omega))
                have N4 := Lib.hid ((N4a.gap (Gap.of_far fX T4.out)).mono (T := fun k => k < w.heap.size ∨ bx + 1 ≤ k) (fun i _ hi => T6.out i hi))
                have hN4 := fX.new hN4a (by omega)
                clear fX X4a P4a A4a N4a hN4a T1 T2 T3 T4 T5 T6 HU
                generalize (V3b.setCell ⟨bx, 0, none⟩ (.int .i64 (many : Int))).setCell ⟨bx, 1, none⟩ (.slice p3 ll3 cp3) = V4 at *
                obtain ⟨c2, l2, RP, RD⟩ := step_read (S := fun k => k < w.heap.size ∨ bx + 1 ≤ k) (mb := rb + 1) (rb := rb) fr of nn HB2.out g2 (by have := HLL.out; omega) (by omega) (by omega)
                refine (RP V4 P4.out).mono ?_
                rintro e V5 ⟨pv, rfl, b5, k5⟩
                have P5 := Lib.hid (P4.out.new k5)
                have A5 := Lib.hid (A4.out.new k5)
                have X5 := Lib.hid (X4.out.new k5)
                have N5 := Lib.hid (N4.out.new k5)
                have hN5 := hN4.trans k5
                have B5 := Lib.hid b5
                clear k5 b5 P4 A4 X4 N4 hN4 RP
                obtain ⟨x0, x1, x2, x3⟩ := X5.out.two
                obtain ⟨a0, a1, a2, a3, a4⟩ := A5.out.five
                go_wp2_with fail
                refine (RD V5 _ N5.out).mono ?_
                rintro e V6 ⟨dv, rfl, d6, k6⟩
                have P6 := Lib.hid (P5.out.new k6)
                have X6 := Lib.hid (X5.out.new k6)
                have N6 := Lib.hid (N5.out.new k6)
                have hN6 := hN5.trans k6
                have z1 := str_of (B5.out.new k6)
                have z2 := str_of d6
                generalize strOfNums l2 = sx at *
                clear k6 d6 B5 P5 A5 X5 N5 hN5 RD x0 x1 x2 x3 a0 a1 a2 a3 a4
                go_wp2_with fail
                refine (num_er c2 _ (hl.new hN6)).mono ?_
                rintro e V7 ⟨rfl, k7⟩
                go_wp2_with fail
                go_roundg (len1 - (j + 1))
                case measure => have := J.out; omega
                case rel => exact ⟨j + 1, bs2, L2, p3, ll3, cp3, by have := J.out; omega, by go_num, by omega, HB2.out, HLL.out, P6.out.new k7, X6.out.new k7, N6.out.new k7, hN6.trans k7⟩
              · have t1 : decide ((q : Int) < 4) = false := by simp; omega
                have t2 : ((q : Int) == 4) = false := by simp; omega
                have t3 : ((q : Int) == 5) = false := by simp; omega
                clear q4 q5 q6
                go_wp2_with fail
                clear eq
                have fX := Far.put wr bx (.int .i64 (many : Int)) (.slice p ll cp)
                have X1 := HX.out.put (.int .i64 (many : Int)) (.slice p ll cp)
                have P1 := HP.out.off fX (by omega) (by omega)
                have N1 := HN.out.gap (Gap.of_far fX (fun q => by omega))
                have hN1 := fX.new hN (by omega)
                have hs1 : ((wr.setCell ⟨bx, 0, none⟩ (.int .i64 (many : Int))).setCell ⟨bx, 1, none⟩ (.slice p ll cp)).heap.size = wr.heap.size := by simp [World.setCell]
                clear fX x0 x1 x2 x3 hk0 hk1 hk2 hk3 hu HP HX HN hN
                generalize (wr.setCell ⟨bx, 0, none⟩ (.int .i64 (many : Int))).setCell ⟨bx, 1, none⟩ (.slice p ll cp) = V1 at *
                have kA := ((New.refl V1).alloc #[.int .i64 kd, .int .i64 fr, .int .i64 of, .int .i64 nn, .slice pu l.length cu] 41).alloc #[.int .i64 (many : Int), .slice p ll cp] 39
                have hA4 : Whole ((V1.alloc (.cells #[.int .i64 kd, .int .i64 fr, .int .i64 of, .int .i64 nn, .slice pu l.length cu] 41)).alloc (.cells #[.int .i64 (many : Int), .slice p ll cp] 39)) wr.heap.size #[.int .i64 kd, .int .i64 fr, .int .i64 of, .int .i64 nn, .slice pu l.length cu] 41 := by rw [← hs1]; exact (Whole.made V1 _ _).new ((New.refl _).alloc _ _)
                have A4 := Lib.hid hA4
                have P4 := Lib.hid (P1.new kA)
                have X4 := Lib.hid (X1.new kA)
                have N4 := Lib.hid (N1.new kA)
                have hN4 := hN1.trans kA
                clear kA hA4 P1 X1 N1 hN1 hs1
                generalize ((V1.alloc (.cells #[.int .i64 kd, .int .i64 fr, .int .i64 of, .int .i64 nn, .slice pu l.length cu] 41)).alloc (.cells #[.int .i64 (many : Int), .slice p ll cp] 39)) = V4 at *
                generalize wr.heap.size = ab at *
                have HB2 := HB
                have HLL := Lib.hid (show L.length ≤ j + 1 by omega)
                obtain ⟨c2, l2, RP, RD⟩ := step_read (S := fun k => k < w.heap.size ∨ bx + 1 ≤ k) (mb := rb + 1) (rb := rb) fr of nn HB2.out g2 (by have := HLL.out; omega) (by omega) (by omega)
                refine (RP V4 P4.out).mono ?_
                rintro e V5 ⟨pv, rfl, b5, k5⟩
                have P5 := Lib.hid (P4.out.new k5)
                have A5 := Lib.hid (A4.out.new k5)
                have X5 := Lib.hid (X4.out.new k5)
                have N5 := Lib.hid (N4.out.new k5)
                have hN5 := hN4.trans k5
                have B5 := Lib.hid b5
                clear k5 b5 P4 A4 X4 N4 hN4 RP
                obtain ⟨x0, x1, x2, x3⟩ := X5.out.two
                obtain ⟨a0, a1, a2, a3, a4⟩ := A5.out.five
                go_wp2_with fail
                refine (RD V5 _ N5.out).mono ?_
                rintro e V6 ⟨dv, rfl, d6, k6⟩
                have P6 := Lib.hid (P5.out.new k6)
                have X6 := Lib.hid (X5.out.new k6)
                have N6 := Lib.hid (N5.out.new k6)
                have hN6 := hN5.trans k6
                have z1 := str_of (B5.out.new k6)
                have z2 := str_of d6
                generalize strOfNums l2 = sx at *
                clear k6 d6 B5 P5 A5 X5 N5 hN5 RD x0 x1 x2 x3 a0 a1 a2 a3 a4
                go_wp2_with fail
                refine (num_er c2 _ (hl.new hN6)).mono ?_
                rintro e V7 ⟨rfl, k7⟩
                go_wp2_with fail
                go_roundg (len1 - (j + 1))
                case measure => have := J.out; omega
                case rel => exact ⟨j + 1, bs, L, p, ll, cp, by have := J.out; omega, by go_num, by omega, HB2.out, HLL.out, P6.out.new k7, X6.out.new k7, N6.out.new k7, hN6.trans k7⟩
      · by_cases c7 : j < len1
        · have d3 : decide ((j : Int) < (len1 : Int)) = true := by simp; omega
          have d4 : decide ((j : Int) < 25) = false := by simp; omega
          have F := fin _ hN
          clear c fin
          go_wp2_with fail
          refine F.mono ?_
          rintro e V2 ⟨rfl, n7⟩
          go_wp2_with fail
          go_ret
          exact ⟨rfl, n7⟩
        · have d3 : decide ((j : Int) < (len1 : Int)) = false := by simp; omega
          have d5 : decide (j < len1) = false := by simpa using c7
          have F := fin _ hN
          clear c fin
          go_wp2_with fail
          refine F.mono ?_
          rintro e V2 ⟨rfl, n7⟩
          go_wp2_with fail
          go_ret
          exact ⟨rfl, n7⟩

/-! ### THE ROW's STEP: WRITTEN OUT: LEAVE IT -/
theorem door_met (os : Os) (args : Array Value) : laidMetH Tryd.prog Rows.physRunsRow.laid ((World.doorLaid Tryd.prog 400 os).forCall (fun _ _ => 0) ⟨#[], args, []⟩).memory :=
  laidMetH_of_parts3 (fuel := 8) (laidMet_of_run' 8 (by kernel_rfl) (by kernel_rfl)) (by kernel_rfl) (by kernel_rfl)
set_option maxRecDepth 100000 in
theorem lifted (os : Os) (started : os.Started) (H : Type) (enc : TypeId × Value → H) :
    ReturnsInHanded {} Tryd.checked os 3 .any (fun w args => (Rows.physRunsSpec.pre enc Tryd.prog Tryd.f3 [] false w args ∧ laidMetH Tryd.prog Rows.physRunsRow.laid w) ∧ sizedMet enc Tryd.prog Tryd.f3 (OpenSpec.ofChange Rows.physRunsSpec) false w args) (Rows.physRunsSpec.post enc Tryd.prog Tryd.f3 false true false false) := by
  refine returnsInHanded_of_change_and (C := Tryd.checked) (X := fun w _ => laidMetH Tryd.prog Rows.physRunsRow.laid w) (fun _ _ _ hh h => h.of_heap hh) own started (by kernel_rfl) Tryd.func3
    (ChangeSpec.witness_shaped (enc := enc) (C := Tryd.checked) (os := os) (X := fun w _ => laidMetH Tryd.prog Rows.physRunsRow.laid w) false (World.doorLaid Tryd.prog 400 os) #[.int .i64 0, .slice none 0 0] 8 rfl (World.shaped_of_RefB (by kernel_rfl) (by kernel_rfl)) (by kernel_rfl) (by kernel_rfl) (by kernel_rfl) (door_met os _)) ?_
  intro W base args ds gs before hval0 hW _ _ hL _
  have hL' : laidMet Tryd.prog [] W ∧ handlesMet Tryd.prog [("errors.errorType", Rows.laid_errors_errorType)] W := hL
  have hval : ∀ (j : Nat) t v, Tryd.f3.params[j]? = some t → args[j]? = some v → Value.okWide Tryd.prog W .any base t v := hval0
  have hW' := hW
  obtain ⟨p, q, hA0, hV, rfl, hfz, hnd⟩ := hW
  have hA : DataW.TrodAll enc Tryd.prog W 0 (fun _ => true) true Tryd.f3.params.toList args.toList ds p := hA0
  rw [Tryd.params3] at hA hval
  obtain ⟨v0, vs0, d0, ds0, p0, q0, hargs, rfl, rfl, h0, r0⟩ := trodAll_cons hA
  obtain ⟨v1, vs1, d1, ds1, p1, q1, rfl, rfl, rfl, h1, r1⟩ := trodAll_cons r0
  obtain ⟨rfl, rfl, rfl⟩ := trodAll_nil r1
  obtain rfl : args = #[v0, v1] := by cases args; simp_all
  obtain ⟨rfl, rfl⟩ := trodVars_none hV
  obtain ⟨a0, rfl, rfl, rfl, w0⟩ := open_int Tryd.underlying3 (hval 0 3 v0 rfl rfl) h0
  obtain ⟨a1, len1, cap1, rfl⟩ := okWide_slice Tryd.underlying22 (hval 1 22 v1 rfl rfl)
  have k1 := h1
  have lt1 : ∀ x ∈ p1, x.block < W.heap.size := by obtain ⟨m, hm⟩ := k1; exact DataW.trod_lt m _ _ _ hm
  have w1 : ActRows .i64 4 W a1 len1 := actrows_of 4 Tryd.underlying22 Tryd.underlying41 (by kernel_rfl) (by kernel_rfl) rfl (fun i f hi hf => by
    rcases i with _| _| _| _| _
    · (simp at hf; subst hf; exact Tryd.underlying3)
    · (simp at hf; subst hf; exact Tryd.underlying3)
    · (simp at hf; subst hf; exact Tryd.underlying3)
    · (simp at hf; subst hf; exact Tryd.underlying3)
    · omega) (fun f hf => by simp at hf; subst hf; rfl) Tryd.underlying24 Tryd.underlying5 (by kernel_rfl) h1
  clear hA0 hval0
  refine (walk a0 a1 len1 cap1 W w0 w1 (handle_of_hs hL'.2)).mono fun e W' ⟨he, bel⟩ => ?_
  subst he
  exact ⟨_, rfl, _, _, _, [], _, [], hW', trodAll_mk1 (shut_bool Tryd.underlying4 _), (trodAll_cons_mk (shut_int Tryd.underlying3 w0) (trodAll_cons_mk (Below.trod laidOut (by kernel_rfl) (of_decide_eq_true (by kernel_rfl)) k1 bel lt1) trodAll_mk0)), rfl, bel.frame _, fun h => by cases h⟩

theorem over : Rows.physRunsRow.holds Tryd.pinned (OpenSpec.ofChange Rows.physRunsSpec) :=
  OpenClaim.holds_of_wide 3 Tryd.f3 rfl rfl rfl rfl rfl rfl rfl ⟨rfl, rfl, rfl, rfl, rfl⟩ rfl rfl rfl rfl rfl (by kernel_rfl) Tryd.func3 (by kernel_rfl)
    (of_decide_eq_true (by kernel_rfl)) (by unfold Func.isWrapper; first | (rw [if_pos (by decide +kernel)]; kernel_rfl) | (rw [if_neg (by decide +kernel)]; exact ⟨rfl, rfl⟩))
    (fun os started H enc _ => lifted os started H enc)

theorem proved : Rows.PhysRunsSaid := over
theorem card : Rows.PhysRunsCardSaid :=
  Claim7.holds_tied_plain_at .later [] [.handle] true (true, "50b6ce0e58cce5bc445f114f7c1e65a65e7b73ef9d31aac836e0e2edf81a856c") true
    over (fun _ h => by cases h) (by kernel_rfl) (fun _ h => by cases h) physRuns_row_tie rfl ⟨rfl, rfl⟩ (by kernel_rfl) rfl
    (fun f fn hf hfn => by
      obtain rfl : f = 3 := Option.some.inj ((show Tryd.prog.funcNamed "halter/halterlaw05.PhysRuns" = some 3 by kernel_rfl).symm.trans hf) |>.symm
      obtain rfl : fn = Tryd.f3 := (Option.some.inj (Tryd.func3.symm.trans hfn)).symm
      exact ⟨by kernel_rfl, fun j t ht => by
        rw [Tryd.params3] at ht
        have hm : t ∈ [3, 22] := by have := Array.mem_of_getElem? ht; simpa using this
        have hall : ([3, 22].all fun u => !Tryd.prog.wantsStandIn u) = true := by kernel_rfl
        exact (show Tryd.prog.wantsStandIn t = false by simpa using List.all_eq_true.1 hall t hm)⟩)
    (by kernel_rfl)
#print axioms card
end Go.Proofs.YtnlmjjofpkpkaaaDoor.physRuns
