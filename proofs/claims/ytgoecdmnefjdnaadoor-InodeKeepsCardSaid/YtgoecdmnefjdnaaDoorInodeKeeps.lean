/- What was written to a file that is held is read, whatever is done beside it, and whether or not it has a name; let go without one it is no more; the statement holds for every input, where the listed variable holds what the library's own text lays, which the card ties. -/
import Derived.Test.YtgoecdmnefjdnaaDoorRows
import Derived.Test.YtgoecdmnefjdnaaDoorInI
import Derived.Test.YtgoecdmnefjdnaaDoorByIn
import Derived.Test.YtgoecdmnefjdnaaDoorInH
import Derived.Test.YtgoecdmnefjdnaaDoorLay
import Derived.Deep.LoopGhost
import Derived.BigQuiet
import Derived.Test.YtgoecdmnefjdnaaDoorCards
import Derived.Test.YtgoecdmnefjdnaaDoorTie
import Derived.LaidMore
import Derived.LaidLaws
import Derived.LaidHandle
import Derived.Test.YtgoecdmnefjdnaaDoorLay
import Derived.Test.YtgoecdmnefjdnaaDoorPost
import Derived.WalkKit
import Derived.ProofKit
import Derived.OpenShut
import Derived.ShutString
import Derived.ChangeOld
import Derived.Below
namespace Go.Proofs.YtgoecdmnefjdnaaDoor.inodeKeeps
open Go.ChangeShapes Go.WideShapes Go.ChangeAt Go.RowKit
open Go.ChangeMaps (open_string shut_string)
set_option linter.unusedVariables false

theorem own : ownKnob Tryd.prog.godebug = none := by kernel_rfl
theorem laidOut : laidOutB Tryd.prog = true := by kernel_rfl

/-- WHAT THE WALK IS TOLD OF A SLICE OF INTEGERS THAT CAME IN: it is nil; or it leads to a row of 'cap' cells, the numbers 'zs' (the first 'len' are its elements, the rest its spare room), each fitting its kind. -/
def IsRow (k : IntKind) (w : World) (a : Option Addr) (len cap : Nat) (zs : List Int) : Prop :=
  (a = none ∧ len = 0 ∧ cap = 0 ∧ zs = []) ∨
  ∃ x, a = some x ∧ len ≤ cap ∧ cap ≤ maxLen ∧ zs.length = cap ∧ (∀ i, i < zs.length → w.cell? (x.add i) = some (.int k (zs.getD i 0))) ∧ ∀ n ∈ zs, (Lit.int k n).wf = true

theorem isrow_byts {w : World} {a : Option Addr} {len cap : Nat} {z : List Int} (h : IsRow .u8 w a len cap z) : ∃ l : List Int, l.length = len ∧ Byts w (.slice a len cap) l ∧ Oct l := by
  rcases h with ⟨rfl, rfl, rfl, rfl⟩ | ⟨x, rfl, h1, h2, h3, h4, h5⟩
  · exact ⟨[], rfl, Byts.nil w, Oct.nil⟩
  · have hl : (z.take len).length = len := by rw [List.length_take]; omega
    refine ⟨z.take len, hl, ⟨some x, cap, by rw [hl], by omega, fun i hi => ⟨x, rfl, ?_⟩⟩, fun n hn => ?_⟩
    · rw [hl] at hi
      rw [h4 i (by omega), getD_eq _ _ (by omega), getD_eq _ _ (by omega), List.getElem_take]
    · exact u8_bd (h5 n (List.mem_of_mem_take hn))
theorem xold {w : World} {u : Value} {l : List Int} (h : Byts w u l) (hl : 0 < l.length) : ∀ g, u.ownBlock = some g → g < w.heap.size := by
  intro g hg
  obtain ⟨p, cap, rfl, -, h3⟩ := h
  obtain ⟨a, rfl, hc⟩ := h3 0 hl
  have := cell_lt hc
  rw [addb] at this
  simp [Value.ownBlock] at hg
  omega
/-! ### STEP 1: THE WALK: the Go text returns true, AND WRITES NOTHING THAT WAS THERE: 'Below w.heap.size w w'' (Derived/Below.lean: '.refl', '.alloc', '.drew', '.setCell' at a new block, '.trans'). Open each 'IsRow' by 'rcases' AHEAD of 'go_enter'; part every test ahead of the walk. -/
set_option maxHeartbeats 8000000 in
set_option maxRecDepth 100000 in
theorem walk (a0 : Option Addr) (len0 cap0 : Nat) (a1 : Option Addr) (len1 cap1 : Nat) (z1 : List Int) (a2 : Bool) (w : World) (w0 : FkRows [.num .i64, .num .i64, .str, .num .i64, .num .i64, .bys] w a0 len0) (w1 : IsRow .u8 w a1 len1 cap1 z1) (hl : Laid w) :
    Calls Tryd.prog 3 #[.slice a0 len0 cap0, .slice a1 len1 cap1, .bool a2] w fun e w' => e = .returned (.bool true) ∧ Below w.heap.size w w' := by
  have hlt := hl.lt
  obtain ⟨b, hbl, BB, bO⟩ := isrow_byts w1
  have HL := Lib.hid w0.2
  have hmx := w0.1
  unfold maxLen at hmx
  clear w0 w1
  subst hbl
  have c := new_any 12 w (by omega)
  have cS := fun W (q : Laid W) => isure_any W q
  by_cases hb3 : 300 < b.length
  · have hb3' : (300 : Int) < (b.length : Int) := by omega
    generalize b.length = bl at *
    go_enter Tryd.func3, Tryd.ntmps3
    go_wp2_with fail
    refine c.mono ?_
    rintro e w1 ⟨tb, rfl, -, n1⟩
    go_wp2_with fail
    refine (cS _ (hl.new n1)).mono ?_
    rintro e w2 ⟨rfl, n2⟩
    go_wp2
    go_ret
    exact ⟨rfl, n1.trans n2⟩
  · have hb3' : ¬ (300 : Int) < (b.length : Int) := by omega
    have HB := Lib.hid hb3
    go_enter Tryd.func3, Tryd.ntmps3
    go_wp2_with fail
    refine c.mono ?_
    rintro e w1 ⟨tb, rfl, T0, n1⟩
    have T1 := T0 (fun g => g < w.heap.size) (fun g h => h)
    have c := make_any (s := zz) (k := 0) T1 (ok64 (i := 1) (by omega)) (by decide) k_make.2.2
    clear T0 T1 hb3
    go_wp2_with fail
    refine c.mono ?_
    rintro e w2 ⟨E, T2, k2⟩
    rw [k_make.1, k_make.2.1, er0] at E
    rw [k_a] at T2
    subst E
    have n2 : New w w2 := ((But.of_new (fun g => ¬ g < w.heap.size) n1).trans k2).new (fun i h c => c h)
    have c := write_any (off := 0) T2 (ok64 (i := 2) (by omega)) (BB.new n2) (fun h0 => xold BB (List.length_pos_iff.2 h0)) (by have := HB.out; omega) bO
    clear k2 n1
    go_wp2_with fail
    refine c.mono ?_
    rintro e w3 ⟨E, T3, k3⟩
    obtain ⟨z1, z2⟩ := k_b b (by have := HB.out; omega)
    rw [z1, er0] at E
    rw [z2] at T3
    subst E
    have n3 : New w w3 := ((But.of_new (fun g => ¬ g < w.heap.size) n2).trans k3).new (fun i h c => c h)
    have c := hold_any T3 (ok64 (i := 2) (by omega))
    rw [(k_c b).1, (k_c b).2, er0] at c
    clear T2 k3 n2 z1 z2
    generalize wrV _ _ _ _ = wv at *
    go_wp2_with fail
    refine c.mono ?_
    rintro e w4 ⟨rfl, T4, k4⟩
    have n4 : New w w4 := ((But.of_new (fun g => ¬ g < w.heap.size) n3).trans k4).new (fun i h c => c h)
    have cU := unlink_any (s := zz) T4 (ok64 (i := 1) (by omega)) (by decide) (fun _ => by rw [(k_d b).2.1]; rfl)
    clear T3 k4 n3 c
    have REST : ∀ W, Tr (fun g => g < w.heap.size) W tb 12 (kS a2 b) → New w W → True := fun _ _ _ => trivial
    clear REST
    cases a2 with
    | false =>
      clear cU
      have T5 : Tr (fun g => g < w.heap.size) w4 tb 12 (kS false b) := T4
      clear T4
      go_wp2_with fail
      have I0 := inv_start false b
      go_loopg [14] len0 (fun gk s14 wr => ∃ (j : Nat) (L : Pt), j + gk = len0 ∧ s14 = .int .i64 (j : Int) ∧ j ≤ 25 ∧ Tr (fun g => g < w.heap.size) wr tb 12 L ∧ Inv (j + 1) false b L ∧ New w wr)
      case atStart => exact ⟨0, _, by omega, rfl, by omega, T5, I0, n4⟩
      case round =>
        obtain ⟨j, L, hj, rfl, hj25, T, I, hn⟩ := hrel
        have J := Lib.hid hj
        have HI := Lib.hid I
        clear hj I T5 I0 n4
        by_cases c : j < len0 ∧ j < 25
        · obtain ⟨c3, c4⟩ := c
          have d3 : (j : Int) < (len0 : Int) := by omega
          have d4 : (j : Int) < 25 := by omega
          obtain ⟨x, rfl, hx⟩ := HL.out j c3
          obtain ⟨v0, h0, k0, rfl, ok0⟩ := hx 0 _ rfl
          obtain ⟨v1, h1, id, rfl, ok1⟩ := hx 1 _ rfl
          obtain ⟨v2, h2, nm, rfl, ok2⟩ := hx 2 _ rfl
          obtain ⟨v3, h3, wh, rfl, ok3⟩ := hx 3 _ rfl
          obtain ⟨v4, h4, of, rfl, ok4⟩ := hx 4 _ rfl
          obtain ⟨v5, h5, l, hin⟩ := hx 5 _ rfl
          clear hx
          have e6 : ([Fk.num .i64, .num .i64, .str, .num .i64, .num .i64, .bys] : List Fk).length = 6 := rfl
          rw [e6] at h0 h1 h2 h3 h4 h5
          rw [Nat.add_zero] at h0
          rw [fk_field x _ _ (by omega)] at h1 h2 h3 h4 h5
          have h0 := hn.keeps h0
          have h1 := hn.keeps h1
          have h2 := hn.keeps h2
          have h3 := hn.keeps h3
          have h4 := hn.keeps h4
          have h5 := hn.keeps h5
          have H := Lib.hid T
          obtain ⟨pB, cB, rfl, hB1, hB2, oB, hB3⟩ := (show ∃ p cap, v5 = .slice p l.length cap ∧ l.length ≤ cap ∧ cap ≤ maxLen ∧ Oct l ∧ ∀ i, i < l.length → ∃ a, p = some a ∧ w.cell? (a.add i) = some (.int .u8 (l.getD i 0)) from hin)
          have BL := Lib.hid (show Byts w (.slice pB l.length cB) l from hin.byts)
          unfold maxLen at hB2
          clear T e6 hin
          by_cases q1 : id = 2
          · subst q1
            go_wp2_with fail
            go_roundg (len0 - (j + 1))
            case measure => have := J.out; omega
            case rel => exact ⟨j + 1, L, by have := J.out; omega, rfl, by omega, H.out.new ((New.refl wr).alloc _ _), HI.out.more, hn.trans ((New.refl wr).alloc _ _)⟩
          · have q1b : (id == 2) = false := beq_eq_false_iff_ne.2 q1
            by_cases q2 : nm = zz
            · subst q2
              have k1 : ((ba zz).toList == [122, 122]) = true := by rw [ba_list]; rfl
              go_wp2_with fail
              go_roundg (len0 - (j + 1))
              case measure => have := J.out; omega
              case rel => exact ⟨j + 1, L, by have := J.out; omega, rfl, by omega, H.out.new ((New.refl wr).alloc _ _), HI.out.more, hn.trans ((New.refl wr).alloc _ _)⟩
            · have k1 : ((ba nm).toList == [122, 122]) = false := by rw [ba_list]; exact beq_eq_false_iff_ne.2 q2
              by_cases q3 : 300 < l.length
              · have q3' : (300 : Int) < (l.length : Int) := by omega
                generalize l.length = ll at *
                go_wp2_with fail
                go_roundg (len0 - (j + 1))
                case measure => have := J.out; omega
                case rel => exact ⟨j + 1, L, by have := J.out; omega, rfl, by omega, H.out.new ((New.refl wr).alloc _ _), HI.out.more, hn.trans ((New.refl wr).alloc _ _)⟩
              · have q3' : ¬ (300 : Int) < (l.length : Int) := by omega
                have QL := Lib.hid q3
                have QI := Lib.hid q1
                have QN := Lib.hid q2
                obtain ⟨q, eq, hq⟩ := kmod k0
                have EQ := Lib.hid eq
                clear q3 eq
                by_cases r4 : q = 4
                · have EQ4 : wrap64 ((IntKind.u64.wrap k0).tmod 10) = (4 : Int) := by have h := EQ.out; rw [r4] at h; exact h
                  clear EQ hq r4
                  have HA : ∀ W, New wr W → Tr (fun g => g < w.heap.size) W tb 12 L := fun W k => H.out.new k
                  have C := fun W (k : New wr W) => unlink_any (s := nm) (HA W k) ok1 ok2 (fun e => HI.out.target e)
                  clear HA
                  go_wp2_with fail
                  refine (C _ ((New.refl wr).alloc _ _)).mono ?_
                  rintro e w5 ⟨E, T5, k5⟩
                  subst E
                  have I5 := (HI.out.unlink H.out.apart QI.out QN.out).more
                  have n5 : New w w5 := ((But.of_new (fun g => ¬ g < w.heap.size) (hn.trans ((New.refl wr).alloc _ _))).trans k5).new (fun i h c => c h)
                  have cM := many_any T5
                  have fw := T5.few
                  have T6 := Lib.hid T5
                  have I6 := Lib.hid I5
                  have fw' : ¬ (12 : Int) < ((unR L id nm).length : Int) := by omega
                  generalize (unR L id nm).length = ml at *
                  clear C T5 I5 k5 fw h0 h1 h2 h3 h4 h5 hn
                  go_wp2_with fail
                  refine cM.mono ?_
                  rintro e w6 ⟨rfl, rfl⟩
                  go_wp2_with fail
                  go_roundg (len0 - (j + 1))
                  case measure => have := J.out; omega
                  case rel => exact ⟨j + 1, _, by have := J.out; omega, rfl, by omega, T6.out, I6.out, n5⟩
                · by_cases r5 : q = 5
                  · have EQ4 : wrap64 ((IntKind.u64.wrap k0).tmod 10) = (5 : Int) := by have h := EQ.out; rw [r5] at h; exact h
                    clear EQ hq r4 r5
                    have HA : ∀ W, New wr W → Tr (fun g => g < w.heap.size) W tb 12 L := fun W k => H.out.new k
                    have C := fun W (k : New wr W) => hold_any (HA W k) ok1
                    clear HA
                    go_wp2_with fail
                    refine (C _ ((New.refl wr).alloc _ _)).mono ?_
                    rintro e w5 ⟨E, T5, k5⟩
                    subst E
                    have I5 := (HI.out.hold QI.out).more
                    have n5 : New w w5 := ((But.of_new (fun g => ¬ g < w.heap.size) (hn.trans ((New.refl wr).alloc _ _))).trans k5).new (fun i h c => c h)
                    have cM := many_any T5
                    have fw := T5.few
                    have T6 := Lib.hid T5
                    have I6 := Lib.hid I5
                    have fw' : ¬ (12 : Int) < ((hoR L id).length : Int) := by omega
                    generalize (hoR L id).length = ml at *
                    clear C T5 I5 k5 fw h0 h1 h2 h3 h4 h5 hn
                    go_wp2_with fail
                    refine cM.mono ?_
                    rintro e w6 ⟨rfl, rfl⟩
                    go_wp2_with fail
                    go_roundg (len0 - (j + 1))
                    case measure => have := J.out; omega
                    case rel => exact ⟨j + 1, _, by have := J.out; omega, rfl, by omega, T6.out, I6.out, n5⟩
                  · by_cases r6 : q = 6
                    · have EQ4 : wrap64 ((IntKind.u64.wrap k0).tmod 10) = (6 : Int) := by have h := EQ.out; rw [r6] at h; exact h
                      clear EQ hq r4 r5 r6
                      have HA : ∀ W, New wr W → Tr (fun g => g < w.heap.size) W tb 12 L := fun W k => H.out.new k
                      have C := fun W (k : New wr W) => drop_any (HA W k) ok1
                      clear HA
                      go_wp2_with fail
                      refine (C _ ((New.refl wr).alloc _ _)).mono ?_
                      rintro e w5 ⟨E, T5, k5⟩
                      subst E
                      have I5 := (HI.out.drop H.out.apart QI.out).more
                      have n5 : New w w5 := ((But.of_new (fun g => ¬ g < w.heap.size) (hn.trans ((New.refl wr).alloc _ _))).trans k5).new (fun i h c => c h)
                      have cM := many_any T5
                      have fw := T5.few
                      have T6 := Lib.hid T5
                      have I6 := Lib.hid I5
                      have fw' : ¬ (12 : Int) < ((drR L id).length : Int) := by omega
                      generalize (drR L id).length = ml at *
                      clear C T5 I5 k5 fw h0 h1 h2 h3 h4 h5 hn
                      go_wp2_with fail
                      refine cM.mono ?_
                      rintro e w6 ⟨rfl, rfl⟩
                      go_wp2_with fail
                      go_roundg (len0 - (j + 1))
                      case measure => have := J.out; omega
                      case rel => exact ⟨j + 1, _, by have := J.out; omega, rfl, by omega, T6.out, I6.out, n5⟩
                    · by_cases r7 : q = 7
                      · have EQ4 : wrap64 ((IntKind.u64.wrap k0).tmod 10) = (7 : Int) := by have h := EQ.out; rw [r7] at h; exact h
                        clear EQ hq r4 r5 r6 r7
                        have HA : ∀ W, New wr W → Tr (fun g => g < w.heap.size) W tb 12 L := fun W k => H.out.new k
                        have C := fun W (k : New wr W) => write_any (off := of) (HA W k) ok1 ((BL.out.new hn).new k) (fun h0 => xold BL.out (List.length_pos_iff.2 h0)) (by have := QL.out; omega) oB
                        clear HA
                        go_wp2_with fail
                        refine (C _ ((New.refl wr).alloc _ _)).mono ?_
                        rintro e w5 ⟨E, T5, k5⟩
                        subst E
                        have I5 := (HI.out.write QI.out of l).more
                        have n5 : New w w5 := ((But.of_new (fun g => ¬ g < w.heap.size) (hn.trans ((New.refl wr).alloc _ _))).trans k5).new (fun i h c => c h)
                        have cM := many_any T5
                        have fw := T5.few
                        have T6 := Lib.hid T5
                        have I6 := Lib.hid I5
                        have fw' : ¬ (12 : Int) < ((wrR L id of l).length : Int) := by omega
                        generalize (wrR L id of l).length = ml at *
                        clear C T5 I5 k5 fw h0 h1 h2 h3 h4 h5 hn
                        go_wp2_with fail
                        refine cM.mono ?_
                        rintro e w6 ⟨rfl, rfl⟩
                        go_wp2_with fail
                        go_roundg (len0 - (j + 1))
                        case measure => have := J.out; omega
                        case rel => exact ⟨j + 1, _, by have := J.out; omega, rfl, by omega, T6.out, I6.out, n5⟩
                      · by_cases r8 : q = 8
                        · have EQ4 : wrap64 ((IntKind.u64.wrap k0).tmod 10) = (8 : Int) := by have h := EQ.out; rw [r8] at h; exact h
                          clear EQ hq r4 r5 r6 r7 r8
                          have HA : ∀ W, New wr W → Tr (fun g => g < w.heap.size) W tb 12 L := fun W k => H.out.new k
                          have C := fun W (k : New wr W) => write_any (off := of) (HA W k) ok1 ((BL.out.new hn).new k) (fun h0 => xold BL.out (List.length_pos_iff.2 h0)) (by have := QL.out; omega) oB
                          clear HA
                          go_wp2_with fail
                          refine (C _ ((New.refl wr).alloc _ _)).mono ?_
                          rintro e w5 ⟨E, T5, k5⟩
                          subst E
                          have I5 := (HI.out.write QI.out of l).more
                          have n5 : New w w5 := ((But.of_new (fun g => ¬ g < w.heap.size) (hn.trans ((New.refl wr).alloc _ _))).trans k5).new (fun i h c => c h)
                          have cM := many_any T5
                          have fw := T5.few
                          have T6 := Lib.hid T5
                          have I6 := Lib.hid I5
                          have fw' : ¬ (12 : Int) < ((wrR L id of l).length : Int) := by omega
                          generalize (wrR L id of l).length = ml at *
                          clear C T5 I5 k5 fw h0 h1 h2 h3 h4 h5 hn
                          go_wp2_with fail
                          refine cM.mono ?_
                          rintro e w6 ⟨rfl, rfl⟩
                          go_wp2_with fail
                          go_roundg (len0 - (j + 1))
                          case measure => have := J.out; omega
                          case rel => exact ⟨j + 1, _, by have := J.out; omega, rfl, by omega, T6.out, I6.out, n5⟩
                        · have EQ4 := EQ.out
                          have s4 : ((q : Int) == 4) = false := beq_eq_false_iff_ne.2 (by omega)
                          have s5 : ((q : Int) == 5) = false := beq_eq_false_iff_ne.2 (by omega)
                          have s6 : ((q : Int) == 6) = false := beq_eq_false_iff_ne.2 (by omega)
                          have s7 : ((q : Int) == 7) = false := beq_eq_false_iff_ne.2 (by omega)
                          have s8 : ((q : Int) == 8) = false := beq_eq_false_iff_ne.2 (by omega)
                          have u4 : ¬ (q : Int) = 4 := by omega
                          have u5 : ¬ (q : Int) = 5 := by omega
                          have u6 : ¬ (q : Int) = 6 := by omega
                          have u7 : ¬ (q : Int) = 7 := by omega
                          have u8 : ¬ (q : Int) = 8 := by omega
                          clear EQ hq r4 r5 r6 r7 r8
                          have HA : ∀ W, New wr W → Tr (fun g => g < w.heap.size) W tb 12 L := fun W k => H.out.new k
                          have C := fun W (k : New wr W) => make_any (s := nm) (k := wh) (HA W k) ok1 ok2 (Nat.lt_of_le_of_lt (nat_cnt HI.out) (by omega))
                          clear HA
                          go_wp2_with fail
                          refine (C _ ((New.refl wr).alloc _ _)).mono ?_
                          rintro e w5 ⟨E, T5, k5⟩
                          subst E
                          have I5 := HI.out.make (most := 12) (s := nm) (k := wh) QI.out
                          have n5 : New w w5 := ((But.of_new (fun g => ¬ g < w.heap.size) (hn.trans ((New.refl wr).alloc _ _))).trans k5).new (fun i h c => c h)
                          have cM := many_any T5
                          have fw := T5.few
                          have T6 := Lib.hid T5
                          have I6 := Lib.hid I5
                          have fw' : ¬ (12 : Int) < ((mkR 12 L id nm wh).length : Int) := by omega
                          generalize (mkR 12 L id nm wh).length = ml at *
                          clear C T5 I5 k5 fw h0 h1 h2 h3 h4 h5 hn
                          go_wp2_with fail
                          refine cM.mono ?_
                          rintro e w6 ⟨rfl, rfl⟩
                          go_wp2_with fail
                          go_roundg (len0 - (j + 1))
                          case measure => have := J.out; omega
                          case rel => exact ⟨j + 1, _, by have := J.out; omega, rfl, by omega, T6.out, I6.out, n5⟩
        · obtain ⟨a1, a2, a3, a4, a5⟩ := inv_end HI.out T.apart (by have := HB.out; omega)
          have c1 := read_any (off := 0) (k := 400) T (ok64 (i := 2) (by omega)) (by omega) (by omega) a1
          rw [a2] at c1
          have HD := Lib.hid a4
          have HK := Lib.hid a5
          have TT := Lib.hid T
          clear a1 a2 a3 a4 a5 T
          by_cases e1 : j < len0
          · have e2 : ¬ (j : Int) < 25 := by
              have : ¬ j < 25 := fun h => c ⟨e1, h⟩
              omega
            have e3 : (j : Int) < (len0 : Int) := by omega
            clear c e1
            go_wp2_with fail
            refine c1.mono ?_
            rintro e w6 ⟨v, rfl, o6, n6⟩
            have T6 : Tr (fun g => g < w.heap.size ∨ (wr.heap.size ≤ g ∧ g < w6.heap.size)) w6 tb 12 L := TT.out.keep (But.of_new (fun _ => False) n6) (fun _ h => h.elim) (fun g hg => by
              have s1 := hn.size
              have s2 := n6.size
              rcases hg with h | h
              · exact ⟨by omega, .inl h⟩
              · exact ⟨h.2, .inr h.1⟩)
            have c2 := size_any (TT.out.new n6) (ok64 (i := 2) (by omega)) (inv_end HI.out TT.out.apart (by have := HB.out; omega)).1
            rw [(inv_end HI.out TT.out.apart (by have := HB.out; omega)).2.2.1] at c2
            clear c1
            go_wp2_with fail
            refine c2.mono ?_
            rintro e w7 ⟨rfl, rfl⟩
            have c3 := drop_any T6 (ok64 (i := 2) (by omega))
            rw [HD.out, er0] at c3
            clear c2
            go_wp2_with fail
            refine c3.mono ?_
            rintro e w8 ⟨rfl, T8, k8⟩
            have c4 := kind_any T8 (ok64 (i := 2) (by omega))
            rw [HK.out, show kEnd false = 0 from rfl] at c4
            have n8 : New w w8 := ((But.of_new (fun g => ¬ g < w.heap.size) (hn.trans n6)).trans (k8.ofX fun g h => .inl h)).new (fun i h c => c h)
            have BY := o6.byts.butX k8 (fun g hg h => h (.inr (World.ownsRow.lt o6 g hg)))
            have S1 := str_of BY
            have S2 := str_of (BB.new n8)
            obtain ⟨pv, cv, rfl⟩ := o6.shape
            clear c3 T6 k8 o6 BY n6
            go_wp2_with fail
            refine c4.mono ?_
            rintro e w9 ⟨⟨kv, rfl⟩, rfl⟩
            have cN := num_er 0 w9 (hl.new n8)
            clear c4 T8
            go_wp2_with fail
            refine cN.mono ?_
            rintro e w10 ⟨rfl, n10⟩
            have n11 := n8.trans n10
            go_wp2_with fail
            refine (cS _ (hl.new n11)).mono ?_
            rintro e w11 ⟨rfl, n12⟩
            go_wp2
            go_ret
            exact ⟨rfl, n11.trans n12⟩
          · have e3 : ¬ (j : Int) < (len0 : Int) := by omega
            clear c e1
            go_wp2_with fail
            refine c1.mono ?_
            rintro e w6 ⟨v, rfl, o6, n6⟩
            have T6 : Tr (fun g => g < w.heap.size ∨ (wr.heap.size ≤ g ∧ g < w6.heap.size)) w6 tb 12 L := TT.out.keep (But.of_new (fun _ => False) n6) (fun _ h => h.elim) (fun g hg => by
              have s1 := hn.size
              have s2 := n6.size
              rcases hg with h | h
              · exact ⟨by omega, .inl h⟩
              · exact ⟨h.2, .inr h.1⟩)
            have c2 := size_any (TT.out.new n6) (ok64 (i := 2) (by omega)) (inv_end HI.out TT.out.apart (by have := HB.out; omega)).1
            rw [(inv_end HI.out TT.out.apart (by have := HB.out; omega)).2.2.1] at c2
            clear c1
            go_wp2_with fail
            refine c2.mono ?_
            rintro e w7 ⟨rfl, rfl⟩
            have c3 := drop_any T6 (ok64 (i := 2) (by omega))
            rw [HD.out, er0] at c3
            clear c2
            go_wp2_with fail
            refine c3.mono ?_
            rintro e w8 ⟨rfl, T8, k8⟩
            have c4 := kind_any T8 (ok64 (i := 2) (by omega))
            rw [HK.out, show kEnd false = 0 from rfl] at c4
            have n8 : New w w8 := ((But.of_new (fun g => ¬ g < w.heap.size) (hn.trans n6)).trans (k8.ofX fun g h => .inl h)).new (fun i h c => c h)
            have BY := o6.byts.butX k8 (fun g hg h => h (.inr (World.ownsRow.lt o6 g hg)))
            have S1 := str_of BY
            have S2 := str_of (BB.new n8)
            obtain ⟨pv, cv, rfl⟩ := o6.shape
            clear c3 T6 k8 o6 BY n6
            go_wp2_with fail
            refine c4.mono ?_
            rintro e w9 ⟨⟨kv, rfl⟩, rfl⟩
            have cN := num_er 0 w9 (hl.new n8)
            clear c4 T8
            go_wp2_with fail
            refine cN.mono ?_
            rintro e w10 ⟨rfl, n10⟩
            have n11 := n8.trans n10
            go_wp2_with fail
            refine (cS _ (hl.new n11)).mono ?_
            rintro e w11 ⟨rfl, n12⟩
            go_wp2
            go_ret
            exact ⟨rfl, n11.trans n12⟩
    | true =>
      go_wp2_with fail
      refine cU.mono ?_
      rintro e w5 ⟨E, T5', k5⟩
      rw [(k_d b).1, er0] at E
      rw [(k_d b).2.2] at T5'
      subst E
      have n5 : New w w5 := ((But.of_new (fun g => ¬ g < w.heap.size) n4).trans k5).new (fun i h c => c h)
      have T5 : Tr (fun g => g < w.heap.size) w5 tb 12 (kS true b) := T5'
      clear T4 T5' k5 n4 cU
      go_wp2_with fail
      have I0 := inv_start true b
      go_loopg [14] len0 (fun gk s14 wr => ∃ (j : Nat) (L : Pt), j + gk = len0 ∧ s14 = .int .i64 (j : Int) ∧ j ≤ 25 ∧ Tr (fun g => g < w.heap.size) wr tb 12 L ∧ Inv (j + 1) true b L ∧ New w wr)
      case atStart => exact ⟨0, _, by omega, rfl, by omega, T5, I0, n5⟩
      case round =>
        obtain ⟨j, L, hj, rfl, hj25, T, I, hn⟩ := hrel
        have J := Lib.hid hj
        have HI := Lib.hid I
        clear hj I T5 I0 n5
        by_cases c : j < len0 ∧ j < 25
        · obtain ⟨c3, c4⟩ := c
          have d3 : (j : Int) < (len0 : Int) := by omega
          have d4 : (j : Int) < 25 := by omega
          obtain ⟨x, rfl, hx⟩ := HL.out j c3
          obtain ⟨v0, h0, k0, rfl, ok0⟩ := hx 0 _ rfl
          obtain ⟨v1, h1, id, rfl, ok1⟩ := hx 1 _ rfl
          obtain ⟨v2, h2, nm, rfl, ok2⟩ := hx 2 _ rfl
          obtain ⟨v3, h3, wh, rfl, ok3⟩ := hx 3 _ rfl
          obtain ⟨v4, h4, of, rfl, ok4⟩ := hx 4 _ rfl
          obtain ⟨v5, h5, l, hin⟩ := hx 5 _ rfl
          clear hx
          have e6 : ([Fk.num .i64, .num .i64, .str, .num .i64, .num .i64, .bys] : List Fk).length = 6 := rfl
          rw [e6] at h0 h1 h2 h3 h4 h5
          rw [Nat.add_zero] at h0
          rw [fk_field x _ _ (by omega)] at h1 h2 h3 h4 h5
          have h0 := hn.keeps h0
          have h1 := hn.keeps h1
          have h2 := hn.keeps h2
          have h3 := hn.keeps h3
          have h4 := hn.keeps h4
          have h5 := hn.keeps h5
          have H := Lib.hid T
          obtain ⟨pB, cB, rfl, hB1, hB2, oB, hB3⟩ := (show ∃ p cap, v5 = .slice p l.length cap ∧ l.length ≤ cap ∧ cap ≤ maxLen ∧ Oct l ∧ ∀ i, i < l.length → ∃ a, p = some a ∧ w.cell? (a.add i) = some (.int .u8 (l.getD i 0)) from hin)
          have BL := Lib.hid (show Byts w (.slice pB l.length cB) l from hin.byts)
          unfold maxLen at hB2
          clear T e6 hin
          by_cases q1 : id = 2
          · subst q1
            go_wp2_with fail
            go_roundg (len0 - (j + 1))
            case measure => have := J.out; omega
            case rel => exact ⟨j + 1, L, by have := J.out; omega, rfl, by omega, H.out.new ((New.refl wr).alloc _ _), HI.out.more, hn.trans ((New.refl wr).alloc _ _)⟩
          · have q1b : (id == 2) = false := beq_eq_false_iff_ne.2 q1
            by_cases q2 : nm = zz
            · subst q2
              have k1 : ((ba zz).toList == [122, 122]) = true := by rw [ba_list]; rfl
              go_wp2_with fail
              go_roundg (len0 - (j + 1))
              case measure => have := J.out; omega
              case rel => exact ⟨j + 1, L, by have := J.out; omega, rfl, by omega, H.out.new ((New.refl wr).alloc _ _), HI.out.more, hn.trans ((New.refl wr).alloc _ _)⟩
            · have k1 : ((ba nm).toList == [122, 122]) = false := by rw [ba_list]; exact beq_eq_false_iff_ne.2 q2
              by_cases q3 : 300 < l.length
              · have q3' : (300 : Int) < (l.length : Int) := by omega
                generalize l.length = ll at *
                go_wp2_with fail
                go_roundg (len0 - (j + 1))
                case measure => have := J.out; omega
                case rel => exact ⟨j + 1, L, by have := J.out; omega, rfl, by omega, H.out.new ((New.refl wr).alloc _ _), HI.out.more, hn.trans ((New.refl wr).alloc _ _)⟩
              · have q3' : ¬ (300 : Int) < (l.length : Int) := by omega
                have QL := Lib.hid q3
                have QI := Lib.hid q1
                have QN := Lib.hid q2
                obtain ⟨q, eq, hq⟩ := kmod k0
                have EQ := Lib.hid eq
                clear q3 eq
                by_cases r4 : q = 4
                · have EQ4 : wrap64 ((IntKind.u64.wrap k0).tmod 10) = (4 : Int) := by have h := EQ.out; rw [r4] at h; exact h
                  clear EQ hq r4
                  have HA : ∀ W, New wr W → Tr (fun g => g < w.heap.size) W tb 12 L := fun W k => H.out.new k
                  have C := fun W (k : New wr W) => unlink_any (s := nm) (HA W k) ok1 ok2 (fun e => HI.out.target e)
                  clear HA
                  go_wp2_with fail
                  refine (C _ ((New.refl wr).alloc _ _)).mono ?_
                  rintro e w5 ⟨E, T5, k5⟩
                  subst E
                  have I5 := (HI.out.unlink H.out.apart QI.out QN.out).more
                  have n5 : New w w5 := ((But.of_new (fun g => ¬ g < w.heap.size) (hn.trans ((New.refl wr).alloc _ _))).trans k5).new (fun i h c => c h)
                  have cM := many_any T5
                  have fw := T5.few
                  have T6 := Lib.hid T5
                  have I6 := Lib.hid I5
                  have fw' : ¬ (12 : Int) < ((unR L id nm).length : Int) := by omega
                  generalize (unR L id nm).length = ml at *
                  clear C T5 I5 k5 fw h0 h1 h2 h3 h4 h5 hn
                  go_wp2_with fail
                  refine cM.mono ?_
                  rintro e w6 ⟨rfl, rfl⟩
                  go_wp2_with fail
                  go_roundg (len0 - (j + 1))
                  case measure => have := J.out; omega
                  case rel => exact ⟨j + 1, _, by have := J.out; omega, rfl, by omega, T6.out, I6.out, n5⟩
                · by_cases r5 : q = 5
                  · have EQ4 : wrap64 ((IntKind.u64.wrap k0).tmod 10) = (5 : Int) := by have h := EQ.out; rw [r5] at h; exact h
                    clear EQ hq r4 r5
                    have HA : ∀ W, New wr W → Tr (fun g => g < w.heap.size) W tb 12 L := fun W k => H.out.new k
                    have C := fun W (k : New wr W) => hold_any (HA W k) ok1
                    clear HA
                    go_wp2_with fail
                    refine (C _ ((New.refl wr).alloc _ _)).mono ?_
                    rintro e w5 ⟨E, T5, k5⟩
                    subst E
                    have I5 := (HI.out.hold QI.out).more
                    have n5 : New w w5 := ((But.of_new (fun g => ¬ g < w.heap.size) (hn.trans ((New.refl wr).alloc _ _))).trans k5).new (fun i h c => c h)
                    have cM := many_any T5
                    have fw := T5.few
                    have T6 := Lib.hid T5
                    have I6 := Lib.hid I5
                    have fw' : ¬ (12 : Int) < ((hoR L id).length : Int) := by omega
                    generalize (hoR L id).length = ml at *
                    clear C T5 I5 k5 fw h0 h1 h2 h3 h4 h5 hn
                    go_wp2_with fail
                    refine cM.mono ?_
                    rintro e w6 ⟨rfl, rfl⟩
                    go_wp2_with fail
                    go_roundg (len0 - (j + 1))
                    case measure => have := J.out; omega
                    case rel => exact ⟨j + 1, _, by have := J.out; omega, rfl, by omega, T6.out, I6.out, n5⟩
                  · by_cases r6 : q = 6
                    · have EQ4 : wrap64 ((IntKind.u64.wrap k0).tmod 10) = (6 : Int) := by have h := EQ.out; rw [r6] at h; exact h
                      clear EQ hq r4 r5 r6
                      have HA : ∀ W, New wr W → Tr (fun g => g < w.heap.size) W tb 12 L := fun W k => H.out.new k
                      have C := fun W (k : New wr W) => drop_any (HA W k) ok1
                      clear HA
                      go_wp2_with fail
                      refine (C _ ((New.refl wr).alloc _ _)).mono ?_
                      rintro e w5 ⟨E, T5, k5⟩
                      subst E
                      have I5 := (HI.out.drop H.out.apart QI.out).more
                      have n5 : New w w5 := ((But.of_new (fun g => ¬ g < w.heap.size) (hn.trans ((New.refl wr).alloc _ _))).trans k5).new (fun i h c => c h)
                      have cM := many_any T5
                      have fw := T5.few
                      have T6 := Lib.hid T5
                      have I6 := Lib.hid I5
                      have fw' : ¬ (12 : Int) < ((drR L id).length : Int) := by omega
                      generalize (drR L id).length = ml at *
                      clear C T5 I5 k5 fw h0 h1 h2 h3 h4 h5 hn
                      go_wp2_with fail
                      refine cM.mono ?_
                      rintro e w6 ⟨rfl, rfl⟩
                      go_wp2_with fail
                      go_roundg (len0 - (j + 1))
                      case measure => have := J.out; omega
                      case rel => exact ⟨j + 1, _, by have := J.out; omega, rfl, by omega, T6.out, I6.out, n5⟩
                    · by_cases r7 : q = 7
                      · have EQ4 : wrap64 ((IntKind.u64.wrap k0).tmod 10) = (7 : Int) := by have h := EQ.out; rw [r7] at h; exact h
                        clear EQ hq r4 r5 r6 r7
                        have HA : ∀ W, New wr W → Tr (fun g => g < w.heap.size) W tb 12 L := fun W k => H.out.new k
                        have C := fun W (k : New wr W) => write_any (off := of) (HA W k) ok1 ((BL.out.new hn).new k) (fun h0 => xold BL.out (List.length_pos_iff.2 h0)) (by have := QL.out; omega) oB
                        clear HA
                        go_wp2_with fail
                        refine (C _ ((New.refl wr).alloc _ _)).mono ?_
                        rintro e w5 ⟨E, T5, k5⟩
                        subst E
                        have I5 := (HI.out.write QI.out of l).more
                        have n5 : New w w5 := ((But.of_new (fun g => ¬ g < w.heap.size) (hn.trans ((New.refl wr).alloc _ _))).trans k5).new (fun i h c => c h)
                        have cM := many_any T5
                        have fw := T5.few
                        have T6 := Lib.hid T5
                        have I6 := Lib.hid I5
                        have fw' : ¬ (12 : Int) < ((wrR L id of l).length : Int) := by omega
                        generalize (wrR L id of l).length = ml at *
                        clear C T5 I5 k5 fw h0 h1 h2 h3 h4 h5 hn
                        go_wp2_with fail
                        refine cM.mono ?_
                        rintro e w6 ⟨rfl, rfl⟩
                        go_wp2_with fail
                        go_roundg (len0 - (j + 1))
                        case measure => have := J.out; omega
                        case rel => exact ⟨j + 1, _, by have := J.out; omega, rfl, by omega, T6.out, I6.out, n5⟩
                      · by_cases r8 : q = 8
                        · have EQ4 : wrap64 ((IntKind.u64.wrap k0).tmod 10) = (8 : Int) := by have h := EQ.out; rw [r8] at h; exact h
                          clear EQ hq r4 r5 r6 r7 r8
                          have HA : ∀ W, New wr W → Tr (fun g => g < w.heap.size) W tb 12 L := fun W k => H.out.new k
                          have C := fun W (k : New wr W) => write_any (off := of) (HA W k) ok1 ((BL.out.new hn).new k) (fun h0 => xold BL.out (List.length_pos_iff.2 h0)) (by have := QL.out; omega) oB
                          clear HA
                          go_wp2_with fail
                          refine (C _ ((New.refl wr).alloc _ _)).mono ?_
                          rintro e w5 ⟨E, T5, k5⟩
                          subst E
                          have I5 := (HI.out.write QI.out of l).more
                          have n5 : New w w5 := ((But.of_new (fun g => ¬ g < w.heap.size) (hn.trans ((New.refl wr).alloc _ _))).trans k5).new (fun i h c => c h)
                          have cM := many_any T5
                          have fw := T5.few
                          have T6 := Lib.hid T5
                          have I6 := Lib.hid I5
                          have fw' : ¬ (12 : Int) < ((wrR L id of l).length : Int) := by omega
                          generalize (wrR L id of l).length = ml at *
                          clear C T5 I5 k5 fw h0 h1 h2 h3 h4 h5 hn
                          go_wp2_with fail
                          refine cM.mono ?_
                          rintro e w6 ⟨rfl, rfl⟩
                          go_wp2_with fail
                          go_roundg (len0 - (j + 1))
                          case measure => have := J.out; omega
                          case rel => exact ⟨j + 1, _, by have := J.out; omega, rfl, by omega, T6.out, I6.out, n5⟩
                        · have EQ4 := EQ.out
                          have s4 : ((q : Int) == 4) = false := beq_eq_false_iff_ne.2 (by omega)
                          have s5 : ((q : Int) == 5) = false := beq_eq_false_iff_ne.2 (by omega)
                          have s6 : ((q : Int) == 6) = false := beq_eq_false_iff_ne.2 (by omega)
                          have s7 : ((q : Int) == 7) = false := beq_eq_false_iff_ne.2 (by omega)
                          have s8 : ((q : Int) == 8) = false := beq_eq_false_iff_ne.2 (by omega)
                          have u4 : ¬ (q : Int) = 4 := by omega
                          have u5 : ¬ (q : Int) = 5 := by omega
                          have u6 : ¬ (q : Int) = 6 := by omega
                          have u7 : ¬ (q : Int) = 7 := by omega
                          have u8 : ¬ (q : Int) = 8 := by omega
                          clear EQ hq r4 r5 r6 r7 r8
                          have HA : ∀ W, New wr W → Tr (fun g => g < w.heap.size) W tb 12 L := fun W k => H.out.new k
                          have C := fun W (k : New wr W) => make_any (s := nm) (k := wh) (HA W k) ok1 ok2 (Nat.lt_of_le_of_lt (nat_cnt HI.out) (by omega))
                          clear HA
                          go_wp2_with fail
                          refine (C _ ((New.refl wr).alloc _ _)).mono ?_
                          rintro e w5 ⟨E, T5, k5⟩
                          subst E
                          have I5 := HI.out.make (most := 12) (s := nm) (k := wh) QI.out
                          have n5 : New w w5 := ((But.of_new (fun g => ¬ g < w.heap.size) (hn.trans ((New.refl wr).alloc _ _))).trans k5).new (fun i h c => c h)
                          have cM := many_any T5
                          have fw := T5.few
                          have T6 := Lib.hid T5
                          have I6 := Lib.hid I5
                          have fw' : ¬ (12 : Int) < ((mkR 12 L id nm wh).length : Int) := by omega
                          generalize (mkR 12 L id nm wh).length = ml at *
                          clear C T5 I5 k5 fw h0 h1 h2 h3 h4 h5 hn
                          go_wp2_with fail
                          refine cM.mono ?_
                          rintro e w6 ⟨rfl, rfl⟩
                          go_wp2_with fail
                          go_roundg (len0 - (j + 1))
                          case measure => have := J.out; omega
                          case rel => exact ⟨j + 1, _, by have := J.out; omega, rfl, by omega, T6.out, I6.out, n5⟩
        · obtain ⟨a1, a2, a3, a4, a5⟩ := inv_end HI.out T.apart (by have := HB.out; omega)
          have c1 := read_any (off := 0) (k := 400) T (ok64 (i := 2) (by omega)) (by omega) (by omega) a1
          rw [a2] at c1
          have HD := Lib.hid a4
          have HK := Lib.hid a5
          have TT := Lib.hid T
          clear a1 a2 a3 a4 a5 T
          by_cases e1 : j < len0
          · have e2 : ¬ (j : Int) < 25 := by
              have : ¬ j < 25 := fun h => c ⟨e1, h⟩
              omega
            have e3 : (j : Int) < (len0 : Int) := by omega
            clear c e1
            go_wp2_with fail
            refine c1.mono ?_
            rintro e w6 ⟨v, rfl, o6, n6⟩
            have T6 : Tr (fun g => g < w.heap.size ∨ (wr.heap.size ≤ g ∧ g < w6.heap.size)) w6 tb 12 L := TT.out.keep (But.of_new (fun _ => False) n6) (fun _ h => h.elim) (fun g hg => by
              have s1 := hn.size
              have s2 := n6.size
              rcases hg with h | h
              · exact ⟨by omega, .inl h⟩
              · exact ⟨h.2, .inr h.1⟩)
            have c2 := size_any (TT.out.new n6) (ok64 (i := 2) (by omega)) (inv_end HI.out TT.out.apart (by have := HB.out; omega)).1
            rw [(inv_end HI.out TT.out.apart (by have := HB.out; omega)).2.2.1] at c2
            clear c1
            go_wp2_with fail
            refine c2.mono ?_
            rintro e w7 ⟨rfl, rfl⟩
            have c3 := drop_any T6 (ok64 (i := 2) (by omega))
            rw [HD.out, er0] at c3
            clear c2
            go_wp2_with fail
            refine c3.mono ?_
            rintro e w8 ⟨rfl, T8, k8⟩
            have c4 := kind_any T8 (ok64 (i := 2) (by omega))
            rw [HK.out, show kEnd true = 2 from rfl] at c4
            have n8 : New w w8 := ((But.of_new (fun g => ¬ g < w.heap.size) (hn.trans n6)).trans (k8.ofX fun g h => .inl h)).new (fun i h c => c h)
            have BY := o6.byts.butX k8 (fun g hg h => h (.inr (World.ownsRow.lt o6 g hg)))
            have S1 := str_of BY
            have S2 := str_of (BB.new n8)
            obtain ⟨pv, cv, rfl⟩ := o6.shape
            clear c3 T6 k8 o6 BY n6
            go_wp2_with fail
            refine c4.mono ?_
            rintro e w9 ⟨⟨kv, rfl⟩, rfl⟩
            have cN := num_er 2 w9 (hl.new n8)
            clear c4 T8
            go_wp2_with fail
            refine cN.mono ?_
            rintro e w10 ⟨rfl, n10⟩
            have n11 := n8.trans n10
            go_wp2_with fail
            refine (cS _ (hl.new n11)).mono ?_
            rintro e w11 ⟨rfl, n12⟩
            go_wp2
            go_ret
            exact ⟨rfl, n11.trans n12⟩
          · have e3 : ¬ (j : Int) < (len0 : Int) := by omega
            clear c e1
            go_wp2_with fail
            refine c1.mono ?_
            rintro e w6 ⟨v, rfl, o6, n6⟩
            have T6 : Tr (fun g => g < w.heap.size ∨ (wr.heap.size ≤ g ∧ g < w6.heap.size)) w6 tb 12 L := TT.out.keep (But.of_new (fun _ => False) n6) (fun _ h => h.elim) (fun g hg => by
              have s1 := hn.size
              have s2 := n6.size
              rcases hg with h | h
              · exact ⟨by omega, .inl h⟩
              · exact ⟨h.2, .inr h.1⟩)
            have c2 := size_any (TT.out.new n6) (ok64 (i := 2) (by omega)) (inv_end HI.out TT.out.apart (by have := HB.out; omega)).1
            rw [(inv_end HI.out TT.out.apart (by have := HB.out; omega)).2.2.1] at c2
            clear c1
            go_wp2_with fail
            refine c2.mono ?_
            rintro e w7 ⟨rfl, rfl⟩
            have c3 := drop_any T6 (ok64 (i := 2) (by omega))
            rw [HD.out, er0] at c3
            clear c2
            go_wp2_with fail
            refine c3.mono ?_
            rintro e w8 ⟨rfl, T8, k8⟩
            have c4 := kind_any T8 (ok64 (i := 2) (by omega))
            rw [HK.out, show kEnd true = 2 from rfl] at c4
            have n8 : New w w8 := ((But.of_new (fun g => ¬ g < w.heap.size) (hn.trans n6)).trans (k8.ofX fun g h => .inl h)).new (fun i h c => c h)
            have BY := o6.byts.butX k8 (fun g hg h => h (.inr (World.ownsRow.lt o6 g hg)))
            have S1 := str_of BY
            have S2 := str_of (BB.new n8)
            obtain ⟨pv, cv, rfl⟩ := o6.shape
            clear c3 T6 k8 o6 BY n6
            go_wp2_with fail
            refine c4.mono ?_
            rintro e w9 ⟨⟨kv, rfl⟩, rfl⟩
            have cN := num_er 2 w9 (hl.new n8)
            clear c4 T8
            go_wp2_with fail
            refine cN.mono ?_
            rintro e w10 ⟨rfl, n10⟩
            have n11 := n8.trans n10
            go_wp2_with fail
            refine (cS _ (hl.new n11)).mono ?_
            rintro e w11 ⟨rfl, n12⟩
            go_wp2
            go_ret
            exact ⟨rfl, n11.trans n12⟩

/-! ### THE ROW's STEP: WRITTEN OUT: LEAVE IT -/
theorem door_met (os : Os) (args : Array Value) : laidMetH Tryd.prog Rows.inodeKeepsRow.laid ((World.doorLaid Tryd.prog 400 os).forCall (fun _ _ => 0) ⟨#[], args, []⟩).memory :=
  laidMetH_of_parts3 (fuel := 8) (laidMet_of_run' 8 (by kernel_rfl) (by kernel_rfl)) (by kernel_rfl) (by kernel_rfl)
set_option maxRecDepth 100000 in
theorem lifted (os : Os) (started : os.Started) (H : Type) (enc : TypeId × Value → H) :
    ReturnsInHanded {} Tryd.checked os 3 .any (fun w args => (Rows.inodeKeepsSpec.pre enc Tryd.prog Tryd.f3 [] false w args ∧ laidMetH Tryd.prog Rows.inodeKeepsRow.laid w) ∧ sizedMet enc Tryd.prog Tryd.f3 (OpenSpec.ofChange Rows.inodeKeepsSpec) false w args) (Rows.inodeKeepsSpec.post enc Tryd.prog Tryd.f3 false true false false) := by
  refine returnsInHanded_of_change_and (C := Tryd.checked) (X := fun w _ => laidMetH Tryd.prog Rows.inodeKeepsRow.laid w) (fun _ _ _ hh h => h.of_heap hh) own started (by kernel_rfl) Tryd.func3
    (ChangeSpec.witness_shaped (enc := enc) (C := Tryd.checked) (os := os) (X := fun w _ => laidMetH Tryd.prog Rows.inodeKeepsRow.laid w) false (World.doorLaid Tryd.prog 400 os) #[.slice none 0 0, .slice none 0 0, .bool false] 8 rfl (World.shaped_of_RefB (by kernel_rfl) (by kernel_rfl)) (by kernel_rfl) (by kernel_rfl) (by kernel_rfl) (door_met os _)) ?_
  intro W base args ds gs before hval0 hW _ _ hL _
  have hL' : laidMet Tryd.prog [] W ∧ handlesMet Tryd.prog [("errors.errorType", Rows.laid_errors_errorType)] W := hL
  have hval : ∀ (j : Nat) t v, Tryd.f3.params[j]? = some t → args[j]? = some v → Value.okWide Tryd.prog W .any base t v := hval0
  have hW' := hW
  obtain ⟨p, q, hA0, hV, rfl, hfz, hnd⟩ := hW
  have hA : DataW.TrodAll enc Tryd.prog W 0 (fun _ => true) true Tryd.f3.params.toList args.toList ds p := hA0
  rw [Tryd.params3] at hA hval
  obtain ⟨v0, vs0, d0, ds0, p0, q0, hargs, rfl, rfl, h0, r0⟩ := trodAll_cons hA
  obtain ⟨v1, vs1, d1, ds1, p1, q1, rfl, rfl, rfl, h1, r1⟩ := trodAll_cons r0
  obtain ⟨v2, vs2, d2, ds2, p2, q2, rfl, rfl, rfl, h2, r2⟩ := trodAll_cons r1
  obtain ⟨rfl, rfl, rfl⟩ := trodAll_nil r2
  obtain rfl : args = #[v0, v1, v2] := by cases args; simp_all
  obtain ⟨rfl, rfl⟩ := trodVars_none hV
  obtain ⟨a0, len0, cap0, rfl⟩ := okWide_slice Tryd.underlying22 (hval 0 22 v0 rfl rfl)
  have k0 := h0
  have lt0 : ∀ x ∈ p0, x.block < W.heap.size := by obtain ⟨m, hm⟩ := k0; exact DataW.trod_lt m _ _ _ hm
  have w0 : FkRows [.num .i64, .num .i64, .str, .num .i64, .num .i64, .bys] W a0 len0 := fkrows_of Tryd.underlying22 Tryd.underlying36 (by kernel_rfl) (by kernel_rfl) rfl (fun i f c hf hc => by
    rcases i with _| _| _| _| _| _| _
    · (simp at hf hc; subst hf hc; exact Tryd.underlying3)
    · (simp at hf hc; subst hf hc; exact Tryd.underlying3)
    · (simp at hf hc; subst hf hc; exact Tryd.underlying9)
    · (simp at hf hc; subst hf hc; exact Tryd.underlying3)
    · (simp at hf hc; subst hf hc; exact Tryd.underlying3)
    · (simp at hf hc; subst hf hc; exact ⟨_, Tryd.underlying23, Tryd.underlying5, by kernel_rfl⟩)
    · simp at hc) h0
  obtain ⟨a1, len1, cap1, rfl⟩ := okWide_slice Tryd.underlying23 (hval 1 23 v1 rfl rfl)
  have k1 := h1
  have lt1 : ∀ x ∈ p1, x.block < W.heap.size := by obtain ⟨m, hm⟩ := k1; exact DataW.trod_lt m _ _ _ hm
  obtain ⟨z1, w1⟩ : ∃ zs, IsRow .u8 W a1 len1 cap1 zs := by
    obtain ⟨fuel, hf⟩ := h1
    rcases open_ints Tryd.underlying23 Tryd.underlying5 (by kernel_rfl) hf with ⟨hcs, _⟩ | ⟨x, l, c, zs, hcs, _, hl, hm, hz, _, hcell, hwz⟩
    · simp [Value.cells] at hcs
      obtain ⟨rfl, rfl, rfl⟩ := hcs
      exact ⟨[], .inl ⟨rfl, rfl, rfl, rfl⟩⟩
    · simp [Value.cells] at hcs
      obtain ⟨rfl, rfl, rfl⟩ := hcs
      exact ⟨zs, .inr ⟨_, rfl, hl, hm, by simpa using hz, hcell, hwz⟩⟩
  obtain ⟨a2, rfl, rfl, rfl⟩ := open_bool Tryd.underlying4 (hval 2 4 v2 rfl rfl) h2
  clear hA0 hval0
  refine (walk a0 len0 cap0 a1 len1 cap1 z1 a2 W w0 w1 (handle_of_hs hL'.2)).mono fun e W' ⟨he, bel⟩ => ?_
  subst he
  exact ⟨_, rfl, _, _, _, [], _, [], hW', trodAll_mk1 (shut_bool Tryd.underlying4 _), (trodAll_cons_mk (Below.trod laidOut (by kernel_rfl) (of_decide_eq_true (by kernel_rfl)) k0 bel lt0) (trodAll_cons_mk (Below.trod laidOut (by kernel_rfl) (of_decide_eq_true (by kernel_rfl)) k1 bel lt1) (trodAll_cons_mk (shut_bool Tryd.underlying4 _) trodAll_mk0))), rfl, bel.frame _, fun h => by cases h⟩

theorem over : Rows.inodeKeepsRow.holds Tryd.pinned (OpenSpec.ofChange Rows.inodeKeepsSpec) :=
  OpenClaim.holds_of_wide 3 Tryd.f3 rfl rfl rfl rfl rfl rfl rfl ⟨rfl, rfl, rfl, rfl, rfl⟩ rfl rfl rfl rfl rfl (by kernel_rfl) Tryd.func3 (by kernel_rfl)
    (of_decide_eq_true (by kernel_rfl)) (by unfold Func.isWrapper; first | (rw [if_pos (by decide +kernel)]; kernel_rfl) | (rw [if_neg (by decide +kernel)]; exact ⟨rfl, rfl⟩))
    (fun os started H enc _ => lifted os started H enc)

theorem proved : Rows.InodeKeepsSaid := over
theorem card : Rows.InodeKeepsCardSaid :=
  Claim7.holds_tied_plain_at .later [] [.handle] true (true, "4c681425a615979ab14c02aa115893ea6e32c4c0f9140b92fbbb3054b1627978") true
    over (fun _ h => by cases h) (by kernel_rfl) (fun _ h => by cases h) inodeKeeps_row_tie rfl ⟨rfl, rfl⟩ (by kernel_rfl) rfl
    (fun f fn hf hfn => by
      obtain rfl : f = 3 := Option.some.inj ((show Tryd.prog.funcNamed "halter/halterlaw17.InodeKeeps" = some 3 by kernel_rfl).symm.trans hf) |>.symm
      obtain rfl : fn = Tryd.f3 := (Option.some.inj (Tryd.func3.symm.trans hfn)).symm
      exact ⟨by kernel_rfl, fun j t ht => by
        rw [Tryd.params3] at ht
        have hm : t ∈ [22, 23, 4] := by have := Array.mem_of_getElem? ht; simpa using this
        have hall : ([22, 23, 4].all fun u => !Tryd.prog.wantsStandIn u) = true := by kernel_rfl
        exact (show Tryd.prog.wantsStandIn t = false by simpa using List.all_eq_true.1 hall t hm)⟩)
    (by kernel_rfl)
#print axioms card
end Go.Proofs.YtgoecdmnefjdnaaDoor.inodeKeeps
