/- What was written into a frame of bytes is read, other bytes of the frame, and other frames, stay; what was answered is its own; a copy is the same, and no more goes with it; the statement holds for every input, where the library's variable errors.errorType holds what its own text lays, which the card ties. -/
import Derived.Test.YtnlmjjofpkpkaaaDoorRows
import Derived.Test.YtnlmjjofpkpkaaaDoorPhG
import Derived.Test.YtnlmjjofpkpkaaaDoorActRows
import Derived.StillTailTactics
import Derived.BigQuiet
import Derived.Deep.LoopGhost
import Derived.Test.YtnlmjjofpkpkaaaDoorCards
import Derived.Test.YtnlmjjofpkpkaaaDoorTie
import Derived.LaidMore
import Derived.LaidLaws
import Derived.LaidHandle
import Derived.Test.YtnlmjjofpkpkaaaDoorLay
import Derived.Test.YtnlmjjofpkpkaaaDoorPost
import Derived.WalkKit
import Derived.ProofKit
import Derived.OpenShut
import Derived.ShutString
import Derived.ChangeOld
import Derived.Below
namespace Go.Proofs.YtnlmjjofpkpkaaaDoor.physKeeps
open Go.ChangeShapes Go.WideShapes Go.ChangeAt Go.RowKit
open Go.ChangeMaps (open_string shut_string)
set_option linter.unusedVariables false

theorem own : ownKnob Tryd.prog.godebug = none := by kernel_rfl
theorem laidOut : laidOutB Tryd.prog = true := by kernel_rfl

/-- WHAT THE WALK IS TOLD OF A SLICE OF INTEGERS THAT CAME IN: it is nil; or it leads to a row of 'cap' cells, the numbers 'zs' (the first 'len' are its elements, the rest its spare room), each fitting its kind. -/
def IsRow (k : IntKind) (w : World) (a : Option Addr) (len cap : Nat) (zs : List Int) : Prop :=
  (a = none ∧ len = 0 ∧ cap = 0 ∧ zs = []) ∨
  ∃ x, a = some x ∧ len ≤ cap ∧ cap ≤ maxLen ∧ zs.length = cap ∧ (∀ i, i < zs.length → w.cell? (x.add i) = some (.int k (zs.getD i 0))) ∧ ∀ n ∈ zs, (Lit.int k n).wf = true

/-! ### STEP 1: THE WALK: the Go text returns true, AND WRITES NOTHING THAT WAS THERE: 'Below w.heap.size w w'' (Derived/Below.lean: '.refl', '.alloc', '.drew', '.setCell' at a new block, '.trans'). Open each 'IsRow' by 'rcases' AHEAD of 'go_enter'; part every test ahead of the walk. -/
set_option maxHeartbeats 16000000 in
set_option maxRecDepth 100000 in
theorem walk (a0 : Option Addr) (len0 cap0 : Nat) (w : World) (w0 : ActRows .i64 4 w a0 len0) (hl : Laid w) :
    Calls Tryd.prog 4 #[.slice a0 len0 cap0] w fun e w' => e = .returned (.bool true) ∧ Below w.heap.size w w' := by
  have hlt := hl.lt
  have HL := Lib.hid w0.2
  have hmx := w0.1
  unfold maxLen at hmx
  clear w0
  go_enter Tryd.func4, Tryd.ntmps4
  go_wp2_with fail
  refine (pmade_three _).mono ?_
  rintro e W1 ⟨rfl, h1, n1⟩
  go_wp2_with fail
  go_loopg [5] len0 (fun k i wr => ∃ (j : Nat) (bs : List Int), j + k = len0 ∧ i = .int .i64 (j : Int) ∧ j ≤ 25 ∧ Ph wr (w.heap.size + 1) w.heap.size 3 bs ∧ New w wr)
  case atStart => exact ⟨0, _, by omega, rfl, by omega, h1, n1⟩
  case round =>
    obtain ⟨j, bs, hj, rfl, hj25, hP, hN⟩ := hrel
    have J := Lib.hid hj
    clear hj
    by_cases c : j < len0 ∧ j < 25
    · obtain ⟨c3, c4⟩ := c
      have d3 : decide ((j : Int) < (len0 : Int)) = true := by simp; omega
      have d4 : decide ((j : Int) < 25) = true := by simp; omega
      obtain ⟨x, rfl, hx, u, l, hu, hin⟩ := HL.out j c3
      obtain ⟨fr, hf, _⟩ := hx 1 (by omega)
      obtain ⟨of, ho, _⟩ := hx 2 (by omega)
      rw [← hN.cell (p := x.add (j * 5 + 1)) (cell_lt hf)] at hf
      rw [← hN.cell (p := x.add (j * 5 + 2)) (cell_lt ho)] at ho
      rw [← hN.cell (p := x.add (j * 5 + 4)) (cell_lt hu)] at hu
      rw [add_field x _ 1 (by omega)] at hf
      rw [add_field x _ 2 (by omega)] at ho
      rw [add_field x _ 4 (by omega)] at hu
      clear hx
      obtain ⟨f, ef, hf3⟩ := cut_by fr 3 (by omega) (by omega)
      obtain ⟨o, eo, ho3⟩ := cut_by of 256 (by omega) (by omega)
      have ef' : wrap64 ((IntKind.u64.wrap fr).tmod 3) = (f : Int) := ef
      have eo' : wrap64 ((IntKind.u64.wrap of).tmod 256) = (o : Int) := eo
      have EF := Lib.hid ef'
      have EO := Lib.hid eo'
      clear ef eo ef' eo'
      have HP := Lib.hid hP
      clear hP
      go_wp2_with fail
      go_quiet (fail)
      simp only [EF.out, EO.out]
      have kq : New wr (wr.drewN nq) := (New.refl wr).drewN nq
      have hP2 := HP.out.new kq
      have hN2 := hN.trans kq
      have hu2 : (wr.drewN nq).cell? ⟨(x.add (j * 5)).block, (x.add (j * 5)).off + 4, none⟩ = some u := hu
      clear HP hN hu hf ho kq EF EO
      generalize wr.drewN nq = W2 at *
      have HP := Lib.hid hP2
      clear hP2
      obtain ⟨p, cap, rfl, hlc, hcm, hoc, hb⟩ := hin
      have HB := Lib.hid hb
      have HO := Lib.hid hoc
      unfold maxLen at hcm
      clear hb hoc
      obtain ⟨m, hm⟩ : ∃ m, m = min l.length (256 - o) := ⟨_, rfl⟩
      have hm1 : m ≤ l.length := by omega
      have hm2 : o + m ≤ 256 := by omega
      have e1 : (0 : Int) ≤ 256 - (o : Int) := by omega
      have E := Lib.hid (show (if 256 - (o : Int) < (l.length : Int) then 256 - (o : Int) else (l.length : Int)) = (m : Int) by split <;> omega)
      clear hm
      go_wp2_with fail
      go_quiet (fail)
      simp only [E.out, Int.toNat_natCast]
      have kq : New W2 (W2.drewN nq) := (New.refl W2).drewN nq
      have hP3 := HP.out.new kq
      have hN3 := hN2.trans kq
      obtain ⟨b, hb⟩ : ∃ b, b = l.take m := ⟨_, rfl⟩
      have hbl : b.length = m := by rw [hb, List.length_take]; omega
      have bB : ∀ W, New w W → Byts W (.slice p m cap) b := by
        intro W kW
        refine ⟨p, cap, by rw [hbl], by unfold maxLen; omega, fun i hi => ?_⟩
        obtain ⟨a, ha, hc⟩ := HB.out i (by omega)
        refine ⟨a, ha, ?_⟩
        rw [kW.cell (cell_lt hc), hc, hb, getD_eq _ _ (by omega), getD_eq _ _ (by rw [← hb]; omega), List.getElem_take]
      have oB : Oct b := fun y hy => HO.out y (by rw [hb] at hy; exact List.mem_of_mem_take hy)
      clear hb HB HO E HP hN2 kq hu2
      generalize W2.drewN nq = W3 at *
      subst hbl
      obtain ⟨g, hg⟩ : ∃ g, g = (f + 1) % 3 := ⟨_, rfl⟩
      obtain ⟨h, hh⟩ : ∃ h, h = (f + 2) % 3 := ⟨_, rfl⟩
      have g1 : g < 3 := by omega
      have g2 : h < 3 := by omega
      have g3 : f ≠ g := by omega
      have g4 : f ≠ h := by omega
      have g5 : ((f : Int) + 1) % 3 = (g : Int) := by omega
      have g6 : ((f : Int) + 2) % 3 = (h : Int) := by omega
      have G5 := Lib.hid g5
      have G6 := Lib.hid g6
      clear hg hh g5 g6
      have HP := Lib.hid hP3
      have BB := Lib.hid bB
      have oB' := Lib.hid oB
      clear hP3 bB oB
      have LN := Lib.hid HP.out.len
      have F3 := Lib.hid (show f * 256 + 256 ≤ bs.length by have := LN.out; omega)
      have F4 := Lib.hid (show g * 256 + 256 ≤ bs.length by have := LN.out; omega)
      have F5 := Lib.hid (show h * 256 + 256 ≤ bs.length by have := LN.out; omega)
      obtain ⟨C, hC⟩ : ∃ C, C = cut bs (f * 256) 256 := ⟨_, rfl⟩
      obtain ⟨G, hG⟩ : ∃ G, G = cut bs (g * 256) 256 := ⟨_, rfl⟩
      obtain ⟨bs1, hB1⟩ : ∃ bs1, bs1 = splice bs (f * 256 + o) b := ⟨_, rfl⟩
      obtain ⟨N, hNN⟩ : ∃ N, N = splice C o b := ⟨_, rfl⟩
      have lC : C.length = 256 := by rw [hC]; exact cut_len _ _ _ F3.out
      have lG : G.length = 256 := by rw [hG]; exact cut_len _ _ _ F4.out
      have lN : N.length = 256 := by rw [hNN, splice_len _ _ _ (by omega)]; exact lC
      have q1 : cut bs1 (f * 256) 256 = N := by rw [hB1, cut_splice_frame bs f o b F3.out hm2, ← hC, ← hNN]
      have q2 : cut bs1 (g * 256) 256 = G := by rw [hB1, cut_splice_other bs f g o b F3.out F4.out hm2 g3, ← hG]
      have q3 : cut N 0 o = cut C 0 o := by rw [hNN]; exact cut_splice_off _ _ _ _ _ (by omega) (by omega) (by omega)
      have q4 : cut N o b.length = b := by rw [hNN]; exact cut_splice_at _ _ _ (by omega)
      have q5 : cut N (o + b.length) (256 - (o + b.length)) = cut C (o + b.length) (256 - (o + b.length)) := by rw [hNN]; exact cut_splice_off _ _ _ _ _ (by omega) (by omega) (by omega)
      have l1 : bs1.length = 3 * 256 := by rw [hB1, splice_len _ _ _ (by have := F3.out; omega)]; exact LN.out
      have Q0 := Lib.hid hC
      have Q0' := Lib.hid hG
      have QB := Lib.hid hB1
      have LC := Lib.hid lC
      have LG := Lib.hid lG
      have LNN := Lib.hid lN
      have Q1 := Lib.hid q1
      have Q2 := Lib.hid q2
      have Q3 := Lib.hid q3
      have Q4 := Lib.hid q4
      have Q5 := Lib.hid q5
      have L1 := Lib.hid l1
      clear hC hG hB1 hNN lC lG lN q1 q2 q3 q4 q5 l1 F3 F4 F5 LN
      have r3 : w.heap.size + 1 < W3.heap.size := HP.out.lt.1
      go_wp2_with fail
      have R4 := read_frame f _ rfl HP.out hf3
      rw [← Q0.out] at R4
      refine R4.mono ?_
      rintro e W4 ⟨v4, p4, n4⟩
      rw [LC.out] at v4
      subst v4
      have B4 : Blk8 W4 W3.heap.size C := p4
      have P4 := Lib.hid (HP.out.new n4)
      have N4 := hN3.trans n4
      have r4 : W3.heap.size < W4.heap.size := B4.lt
      clear R4 p4 n4 HP hN3
      go_wp2_with fail
      have R5 := read_frame g (((f : Int) + 1) % 3) G5.out P4.out g1
      rw [← Q0'.out] at R5
      refine R5.mono ?_
      rintro e W5 ⟨v5, p5, n5⟩
      rw [LG.out] at v5
      subst v5
      have B5 := B4.new n5
      have D5 : Blk8 W5 W4.heap.size G := p5
      have P5 := Lib.hid (P4.out.new n5)
      have N5 := N4.trans n5
      have r5 : W4.heap.size < W5.heap.size := D5.lt
      clear R5 p5 n5 P4 B4 N4
      go_wp2_with fail
      refine (write_at f _ rfl _ o rfl P5.out (BB.out _ N5) oB'.out hf3 hm2).mono ?_
      rintro e W6 ⟨rfl, p6, f6⟩
      rw [← QB.out] at p6
      have B6 := B5.off f6 (by omega)
      have D6 := D5.off f6 (by omega)
      have P6 := Lib.hid p6
      have N6 := f6.new N5 (Nat.le_refl _)
      have r6 : W5.heap.size ≤ W6.heap.size := f6.size
      clear p6 f6 P5 B5 D5 N5
      go_wp2_with fail
      have R7 := read_frame f _ rfl P6.out hf3
      rw [Q1.out] at R7
      refine R7.mono ?_
      rintro e W7 ⟨v7, p7, n7⟩
      rw [LNN.out] at v7
      subst v7
      have B7 := B6.new n7
      have D7 := D6.new n7
      have M7 : Blk8 W7 W6.heap.size N := p7
      have P7 := Lib.hid (P6.out.new n7)
      have N7 := N6.trans n7
      have r7 : W6.heap.size < W7.heap.size := M7.lt
      clear R7 p7 n7 P6 B6 D6 N6
      go_wp2_with fail
      have R8 := read_frame g (((f : Int) + 1) % 3) G5.out P7.out g1
      rw [Q2.out] at R8
      refine R8.mono ?_
      rintro e W8 ⟨v8, p8, n8⟩
      rw [LG.out] at v8
      subst v8
      have B8 := B7.new n8
      have D8 := D7.new n8
      have M8 := M7.new n8
      have S8 : Blk8 W8 W7.heap.size G := p8
      have P8 := Lib.hid (P7.out.new n8)
      have N8 := N7.trans n8
      have r8 : W7.heap.size < W8.heap.size := S8.lt
      clear R8 p8 n8 P7 B7 D7 M7 N7
      have ex : ∃ s, s = strOfNums G := ⟨_, rfl⟩
      obtain ⟨sG, hsG⟩ := ex
      have hm : maxLen = 9223372036854775807 := rfl
      have sD := fun c => str_of (D8.byts (cap := c) (by rw [LG.out]; omega))
      have sS := fun c => str_of (S8.byts (cap := c) (by rw [LG.out]; omega))
      simp only [LG.out, ← hsG] at sD sS
      clear hm hsG
      go_wp2_with fail
      have hm : maxLen = 9223372036854775807 := rfl
      have y1 : ∃ s, s = strOfNums (cut C 0 o) := ⟨_, rfl⟩
      have y2 : ∃ s, s = strOfNums b := ⟨_, rfl⟩
      have y3 : ∃ s, s = strOfNums (cut C (o + b.length) (256 - (o + b.length))) := ⟨_, rfl⟩
      obtain ⟨x1, hx1⟩ := y1
      obtain ⟨x2, hx2⟩ := y2
      obtain ⟨x3, hx3⟩ := y3
      have z1 := fun n c => str_of ((M8.new ((New.refl W8).drewN n)).part (cap := c) 0 o (by rw [LNN.out]; omega) (by rw [LNN.out]; omega))
      have z2 := fun n c => str_of ((B8.new ((New.refl W8).drewN n)).part (cap := c) 0 o (by rw [LC.out]; omega) (by rw [LC.out]; omega))
      have z3 := fun n c => str_of ((M8.new ((New.refl W8).drewN n)).part (cap := c) o b.length (by rw [LNN.out]; omega) (by rw [LNN.out]; omega))
      have z4 := fun n => str_of (BB.out (W8.drewN n) (N8.drewN n))
      have z5 := fun n c => str_of ((M8.new ((New.refl W8).drewN n)).rest (o + b.length) LNN.out hm2 c)
      have z6 := fun n c => str_of ((B8.new ((New.refl W8).drewN n)).rest (o + b.length) LC.out hm2 c)
      simp only [Q3.out, Q4.out, Q5.out] at z1 z3 z5
      simp only [← hx1] at z1 z2
      simp only [← hx2] at z3 z4
      simp only [← hx3] at z5 z6
      have f1 : ¬ 256 = o := by omega
      have f3 : (o : Int) + (b.length : Int) ≤ 256 := by omega
      have f5 : (0 : Int) ≤ (o : Int) + (b.length : Int) := by omega
      have f6 : IntKind.i64.wrap ((o : Int) + (b.length : Int)) = (o : Int) + (b.length : Int) := IntWalk.i64_in _ (by omega)
      have f7 : ((o : Int) + (b.length : Int)).toNat = o + b.length := by omega
      clear hx1 hx2 hx3 hm sD sS
      go_quiet (fail)
      clear f1 f3 f5 f6 f7 z1 z2 z3 z4 z5 z6
      generalize (if 256 = o + b.length then some (⟨W6.heap.size, 0, none⟩ : Addr) else some ⟨W6.heap.size, o + b.length, none⟩) = A1
      generalize (if 256 = o + b.length then some (⟨W3.heap.size, 0, none⟩ : Addr) else some ⟨W3.heap.size, o + b.length, none⟩) = A2
      have kq : New W8 (W8.drewN nq) := (New.refl W8).drewN nq
      have P9 := Lib.hid (P8.out.new kq)
      have M9 := M8.new kq
      have N9 := N8.trans kq
      have r9 : W8.heap.size ≤ (W8.drewN nq).heap.size := kq.size
      clear kq P8 M8 N8 D8 B8 S8
      generalize W8.drewN nq = W9 at *
      have oN : Oct N := by rw [← Q1.out]; exact P9.out.oct.cut _ _
      obtain ⟨hc0, hf0⟩ := M9.cell 0 (by rw [LNN.out]; omega)
      obtain ⟨y0, y1⟩ := oN.get 0
      have ey : ∃ y, y = N.getD 0 0 := ⟨_, rfl⟩
      obtain ⟨y, ey⟩ := ey
      rw [← ey] at hc0 y0 y1
      have EY := Lib.hid ey
      clear oN ey
      have hfl := flip_bit y y0 y1
      obtain ⟨z, hz⟩ : ∃ z, z = bits BinOp.xor IntKind.u8 y 1 := ⟨_, rfl⟩
      have hz0 : 0 ≤ z ∧ z ≤ 255 := by rw [hz]; exact ⟨hfl.1, hfl.2.1⟩
      have hzy : z ≠ y := by rw [hz]; exact hfl.2.2
      have HZ := Lib.hid hz
      have HZ0 := Lib.hid hz0
      have HZY := Lib.hid hzy
      clear hfl hz hz0 hzy
      go_wp2_with fail
      rw [← HZ.out]
      have wc := World.cell?_setCell_same W9 ⟨W6.heap.size, 0, none⟩ (.int .u8 z) hc0
      have wf : (W9.setCell ⟨W6.heap.size, 0, none⟩ (.int .u8 z)).frozen? ⟨W6.heap.size, 0, none⟩ = false := by rw [World.frozen?_setCell]; exact hf0
      have P10 := Lib.hid (P9.out.off (Far.set W9 W6.heap.size 0 (.int .u8 z)) (by omega) (by omega))
      have N10 := N9.setAt W6.heap.size 0 (by omega) (.int .u8 z)
      have r10 : (W9.setCell ⟨W6.heap.size, 0, none⟩ (.int .u8 z)).heap.size = W9.heap.size := by simp [World.setCell]
      generalize hW10 : W9.setCell ⟨W6.heap.size, 0, none⟩ (.int .u8 z) = W10 at *
      have r10' : W8.heap.size ≤ W10.heap.size := by omega
      clear P9 M9 N9 hc0 hf0 r10 hW10 r9
      have R11 := read_frame f _ rfl P10.out hf3
      rw [Q1.out] at R11
      refine R11.mono ?_
      rintro e W11 ⟨v11, p11, n11⟩
      rw [LNN.out] at v11
      subst v11
      have M11 : Blk8 W11 W10.heap.size N := p11
      have P11 := Lib.hid (P10.out.new n11)
      have N11 := N10.trans n11
      have r11 : W10.heap.size < W11.heap.size := M11.lt
      have wc1 : W11.cell? ⟨W6.heap.size, 0, none⟩ = some (.int .u8 z) := by rw [n11.cell (by show W6.heap.size < _; omega)]; exact wc
      obtain ⟨hc1, hf1⟩ := M11.cell 0 (by rw [LNN.out]; omega)
      rw [← EY.out] at hc1
      clear R11 p11 n11 P10 N10 wc wf
      have u1 : (y == z) = false := by simpa using fun e => HZY.out e.symm
      go_wp2_with fail
      go_quiet (fail)
      have kq : New W11 (W11.drewN nq) := (New.refl W11).drewN nq
      have P12 := Lib.hid (P11.out.new kq)
      have M12 := M11.new kq
      have N12 := N11.trans kq
      have wc2 : (W11.drewN nq).cell? ⟨W6.heap.size, 0, none⟩ = some (.int .u8 z) := wc1
      have r12 : W11.heap.size ≤ (W11.drewN nq).heap.size := kq.size
      clear kq P11 M11 N11 wc1 u1 hc1 hf1
      generalize W11.drewN nq = W12 at *
      have WC2 := Lib.hid wc2
      clear wc2
      go_wp2_with fail
      refine (copy_at h f (((f : Int) + 2) % 3) _ G6.out rfl P12.out g2 hf3).mono ?_
      rintro e W13 ⟨rfl, p13, f13⟩
      rw [Q1.out] at p13
      have M13 := M12.off f13 (by omega)
      have N13 := f13.new N12 (Nat.le_refl _)
      have wc3 : W13.cell? ⟨W6.heap.size, 0, none⟩ = some (.int .u8 z) := by rw [f13.cell (by show W6.heap.size < _; omega) (by show W6.heap.size ≠ _; omega)]; exact WC2.out
      have r13 := f13.size
      have P13 := Lib.hid p13
      clear f13 P12 M12 N12 WC2 p13
      go_wp2_with fail
      have na := (New.refl W13).alloc #[.int .u8 z] 5
      have bz : Byts (W13.alloc (.cells #[.int .u8 z] 5)) (.slice (some ⟨W13.heap.size, 0, none⟩) 1 1) [z] := byts_of_block (l := [z]) (heap_alloc_new W13 _) (by simp [maxLen])
      refine (write_at f _ rfl 0 0 rfl (P13.out.new na) bz (fun q hq => by rw [List.mem_singleton] at hq; subst hq; exact HZ0.out) hf3 (by simp)).mono ?_
      rintro e W14 ⟨rfl, p14, f14⟩
      have M14 := (M13.new na).off f14 (by omega)
      have N14 := f14.new (N13.trans na) (Nat.le_refl _)
      have P14 := Lib.hid p14
      have r14 : W13.heap.size ≤ W14.heap.size := Nat.le_trans na.size f14.size
      have lb2 : (splice bs1 (h * 256) N).length = 3 * 256 := by rw [splice_len _ _ _ (by rw [LNN.out, L1.out]; omega)]; exact L1.out
      have q6 : cut (splice (splice bs1 (h * 256) N) (f * 256 + 0) [z]) (h * 256) 256 = N := by
        rw [cut_splice_other _ f h 0 [z] (by omega) (by omega) (by simp) g4]
        have := cut_splice_at bs1 (h * 256) N (by rw [LNN.out, L1.out]; omega)
        rwa [LNN.out] at this
      have Q6 := Lib.hid q6
      clear P13 M13 N13 na bz p14 f14 wc3 lb2 q6
      go_wp2_with fail
      have R15 := read_frame h (((f : Int) + 2) % 3) G6.out P14.out g2
      rw [Q6.out] at R15
      refine R15.mono ?_
      rintro e W15 ⟨v15, p15, n15⟩
      rw [LNN.out] at v15
      subst v15
      have M15 := M14.new n15
      have S15 : Blk8 W15 W14.heap.size N := p15
      have P15 := Lib.hid (P14.out.new n15)
      have N15 := N14.trans n15
      clear R15 p15 n15 P14 M14 N14
      have hm : maxLen = 9223372036854775807 := rfl
      have y4 : ∃ s, s = strOfNums N := ⟨_, rfl⟩
      obtain ⟨x4, hx4⟩ := y4
      have z7 := fun c => str_of (M15.byts (cap := c) (by rw [LNN.out]; omega))
      have z8 := fun c => str_of (S15.byts (cap := c) (by rw [LNN.out]; omega))
      simp only [LNN.out, ← hx4] at z7 z8
      clear hx4 hm
      go_wp2_with fail
      go_roundg (len0 - (j + 1))
      case measure => have := J.out; omega
      case rel => exact ⟨j + 1, _, by have := J.out; omega, by go_num, by omega, P15.out, N15⟩
    · have hs : ∀ W, New w W → Calls Tryd.prog 13 #[] W fun e w' => e = .returned (.bool true) ∧ New w w' := fun W h => (psure_any W (hl.new h)).mono fun e w' ⟨k1, k2⟩ => ⟨k1, h.trans k2⟩
      have X := hs _ hN
      clear hs hP
      by_cases c1 : j < len0
      · have d3 : decide ((j : Int) < (len0 : Int)) = true := by simp; omega
        have d4 : decide ((j : Int) < 25) = false := by simp; omega
        clear c
        go_wp2_with fail
        refine X.mono ?_
        rintro e W2 ⟨rfl, n2⟩
        go_wp2_with fail
        go_ret
        exact ⟨rfl, n2⟩
      · have d3 : decide ((j : Int) < (len0 : Int)) = false := by simp; omega
        have d5 : decide (j < len0) = false := by simpa using c1
        clear c
        go_wp2_with fail
        refine X.mono ?_
        rintro e W2 ⟨rfl, n2⟩
        go_wp2_with fail
        go_ret
        exact ⟨rfl, n2⟩

/-! ### THE ROW's STEP: WRITTEN OUT: LEAVE IT -/
theorem door_met (os : Os) (args : Array Value) : laidMetH Tryd.prog Rows.physKeepsRow.laid ((World.doorLaid Tryd.prog 400 os).forCall (fun _ _ => 0) ⟨#[], args, []⟩).memory :=
  laidMetH_of_parts3 (fuel := 8) (laidMet_of_run' 8 (by kernel_rfl) (by kernel_rfl)) (by kernel_rfl) (by kernel_rfl)
set_option maxRecDepth 100000 in
theorem lifted (os : Os) (started : os.Started) (H : Type) (enc : TypeId × Value → H) :
    ReturnsInHanded {} Tryd.checked os 4 .any (fun w args => (Rows.physKeepsSpec.pre enc Tryd.prog Tryd.f4 [] false w args ∧ laidMetH Tryd.prog Rows.physKeepsRow.laid w) ∧ sizedMet enc Tryd.prog Tryd.f4 (OpenSpec.ofChange Rows.physKeepsSpec) false w args) (Rows.physKeepsSpec.post enc Tryd.prog Tryd.f4 false true false false) := by
  refine returnsInHanded_of_change_and (C := Tryd.checked) (X := fun w _ => laidMetH Tryd.prog Rows.physKeepsRow.laid w) (fun _ _ _ hh h => h.of_heap hh) own started (by kernel_rfl) Tryd.func4
    (ChangeSpec.witness_shaped (enc := enc) (C := Tryd.checked) (os := os) (X := fun w _ => laidMetH Tryd.prog Rows.physKeepsRow.laid w) false (World.doorLaid Tryd.prog 400 os) #[.slice none 0 0] 8 rfl (World.shaped_of_RefB (by kernel_rfl) (by kernel_rfl)) (by kernel_rfl) (by kernel_rfl) (by kernel_rfl) (door_met os _)) ?_
  intro W base args ds gs before hval0 hW _ _ hL _
  have hL' : laidMet Tryd.prog [] W ∧ handlesMet Tryd.prog [("errors.errorType", Rows.laid_errors_errorType)] W := hL
  have hval : ∀ (j : Nat) t v, Tryd.f4.params[j]? = some t → args[j]? = some v → Value.okWide Tryd.prog W .any base t v := hval0
  have hW' := hW
  obtain ⟨p, q, hA0, hV, rfl, hfz, hnd⟩ := hW
  have hA : DataW.TrodAll enc Tryd.prog W 0 (fun _ => true) true Tryd.f4.params.toList args.toList ds p := hA0
  rw [Tryd.params4] at hA hval
  obtain ⟨v0, vs0, d0, ds0, p0, q0, hargs, rfl, rfl, h0, r0⟩ := trodAll_cons hA
  obtain ⟨rfl, rfl, rfl⟩ := trodAll_nil r0
  obtain rfl : args = #[v0] := by cases args; simp_all
  obtain ⟨rfl, rfl⟩ := trodVars_none hV
  obtain ⟨a0, len0, cap0, rfl⟩ := okWide_slice Tryd.underlying22 (hval 0 22 v0 rfl rfl)
  have k0 := h0
  have lt0 : ∀ x ∈ p0, x.block < W.heap.size := by obtain ⟨m, hm⟩ := k0; exact DataW.trod_lt m _ _ _ hm
  have w0 : ActRows .i64 4 W a0 len0 := actrows_of 4 Tryd.underlying22 Tryd.underlying41 (by kernel_rfl) (by kernel_rfl) rfl (fun i f hi hf => by
    rcases i with _| _| _| _| _
    · (simp at hf; subst hf; exact Tryd.underlying3)
    · (simp at hf; subst hf; exact Tryd.underlying3)
    · (simp at hf; subst hf; exact Tryd.underlying3)
    · (simp at hf; subst hf; exact Tryd.underlying3)
    · omega) (fun f hf => by simp at hf; subst hf; rfl) Tryd.underlying24 Tryd.underlying5 (by kernel_rfl) h0
  clear hA0 hval0
  refine (walk a0 len0 cap0 W w0 (handle_of_hs hL'.2)).mono fun e W' ⟨he, bel⟩ => ?_
  subst he
  exact ⟨_, rfl, _, _, _, [], _, [], hW', trodAll_mk1 (shut_bool Tryd.underlying4 _), (trodAll_cons_mk (Below.trod laidOut (by kernel_rfl) (of_decide_eq_true (by kernel_rfl)) k0 bel lt0) trodAll_mk0), rfl, bel.frame _, fun h => by cases h⟩

theorem over : Rows.physKeepsRow.holds Tryd.pinned (OpenSpec.ofChange Rows.physKeepsSpec) :=
  OpenClaim.holds_of_wide 4 Tryd.f4 rfl rfl rfl rfl rfl rfl rfl ⟨rfl, rfl, rfl, rfl, rfl⟩ rfl rfl rfl rfl rfl (by kernel_rfl) Tryd.func4 (by kernel_rfl)
    (of_decide_eq_true (by kernel_rfl)) (by unfold Func.isWrapper; first | (rw [if_pos (by decide +kernel)]; kernel_rfl) | (rw [if_neg (by decide +kernel)]; exact ⟨rfl, rfl⟩))
    (fun os started H enc _ => lifted os started H enc)

theorem proved : Rows.PhysKeepsSaid := over
theorem card : Rows.PhysKeepsCardSaid :=
  Claim7.holds_tied_plain_at .later [] [.handle] true (true, "50b6ce0e58cce5bc445f114f7c1e65a65e7b73ef9d31aac836e0e2edf81a856c") true
    over (fun _ h => by cases h) (by kernel_rfl) (fun _ h => by cases h) physKeeps_row_tie rfl ⟨rfl, rfl⟩ (by kernel_rfl) rfl
    (fun f fn hf hfn => by
      obtain rfl : f = 4 := Option.some.inj ((show Tryd.prog.funcNamed "halter/halterlaw05.PhysKeeps" = some 4 by kernel_rfl).symm.trans hf) |>.symm
      obtain rfl : fn = Tryd.f4 := (Option.some.inj (Tryd.func4.symm.trans hfn)).symm
      exact ⟨by kernel_rfl, fun j t ht => by
        rw [Tryd.params4] at ht
        have hm : t ∈ [22] := by have := Array.mem_of_getElem? ht; simpa using this
        have hall : ([22].all fun u => !Tryd.prog.wantsStandIn u) = true := by kernel_rfl
        exact (show Tryd.prog.wantsStandIn t = false by simpa using List.all_eq_true.1 hall t hm)⟩)
    (by kernel_rfl)
#print axioms card
end Go.Proofs.YtnlmjjofpkpkaaaDoor.physKeeps
