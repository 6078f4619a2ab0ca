/- A program may be only where it begins in pages that can be done: without that use, or with another beginning, or pages of the stack, it is none; the statement holds for every input, where the listed variable holds what the library's own text lays, which the card ties. -/
import Derived.Test.YtealjgfijlencaaDoorRows
import Derived.Test.YtealjgfijlencaaDoorImJ
import Derived.Test.YtealjgfijlencaaDoorImW
import Derived.Test.YtealjgfijlencaaDoorFkIn
import Derived.Test.YtealjgfijlencaaDoorLay
import Derived.Deep.RegionHeld3
import Derived.Test.YtealjgfijlencaaDoorCards
import Derived.Test.YtealjgfijlencaaDoorTie
import Derived.LaidMore
import Derived.LaidLaws
import Derived.LaidHandle
import Derived.Test.YtealjgfijlencaaDoorLay
import Derived.Test.YtealjgfijlencaaDoorPost
import Derived.Test.YtealjgfijlencaaDoorFkSz
import Derived.WalkKit
import Derived.ProofKit
import Derived.OpenShut
import Derived.ShutString
import Derived.ChangeOld
import Derived.Below
namespace Go.Proofs.YtealjgfijlencaaDoor.imageRuns
open Go.ChangeShapes Go.WideShapes Go.ChangeAt Go.RowKit
open Go.ChangeMaps (open_string shut_string)
set_option linter.unusedVariables false

theorem own : ownKnob Tryd.prog.godebug = none := by kernel_rfl
theorem laidOut : laidOutB Tryd.prog = true := by kernel_rfl

/-- WHAT THE WALK IS TOLD OF A SLICE OF INTEGERS THAT CAME IN: it is nil; or it leads to a row of 'cap' cells, the numbers 'zs' (the first 'len' are its elements, the rest its spare room), each fitting its kind. -/
def IsRow (k : IntKind) (w : World) (a : Option Addr) (len cap : Nat) (zs : List Int) : Prop :=
  (a = none ∧ len = 0 ∧ cap = 0 ∧ zs = []) ∨
  ∃ x, a = some x ∧ len ≤ cap ∧ cap ≤ maxLen ∧ zs.length = cap ∧ (∀ i, i < zs.length → w.cell? (x.add i) = some (.int k (zs.getD i 0))) ∧ ∀ n ∈ zs, (Lit.int k n).wf = true

theorem im_mod4 (a : Int) : ∃ x : Nat, wrap64 ((IntKind.u64.wrap a).tmod 4) = (x : Int) ∧ x < 4 := by
  rw [IntKind.wrap_u64, Int.tmod_eq_emod_of_nonneg (by omega)]
  exact ⟨(a % 18446744073709551616 % 4).toNat, by unfold wrap64; omega, by omega⟩
theorem owsg_at {w wr : World} {base g n cap : Nat} {L : List Sg} (h : OwSg RSp w base wr (.slice (some ⟨g, 0, none⟩) n cap) L) (kw : New w wr) (k : Nat) (hk : k < L.length) :
    wr.cell? ⟨g, k * 4 + 1, none⟩ = some (.int .i64 L[k].t) ∧ wr.cell? ⟨g, k * 4 + 2, none⟩ = some (.int .u8 L[k].p) ∧ (∀ i, wr.frozen? ⟨g, i, none⟩ = false) ∧ g < wr.heap.size := by
  obtain ⟨a, q, c, e, -, h1, h2, -, -⟩ := (h.sgs kw).cells rfl k hk
  cases e
  rw [Addr.add_mid] at h1 h2
  obtain ⟨rows, ho, -, -⟩ := h
  rcases ho.1.2 with ⟨hn, -⟩ | ⟨g', cap', cur, e, hb, hg, -⟩
  · cases hn
  · cases e
    have hB : Box wr g cur RSp.T := hg
    refine ⟨by rw [← h1]; congr 2; omega, by rw [← h2]; congr 2; omega, fun i => hB.unfrozen i, hB.lt⟩
theorem owsg_apart {w wr : World} {base g n cap b : Nat} {L : List Sg} {cs : Array Value} (h : OwSg RSp w base wr (.slice (some ⟨g, 0, none⟩) n cap) L) (k : Box wr b cs 36) : g ≠ b := by
  obtain ⟨rows, ho, -, -⟩ := h
  rcases ho.1.2 with ⟨hn, -⟩ | ⟨g', cap', cur, e, hb, hg, -⟩
  · cases hn
  · cases e
    have hB : Box wr g cur RSp.T := hg
    rintro rfl
    unfold Box at hB k
    rw [hB] at k
    injection k with k
    injection k with _ ht _
    exact absurd ht (by decide)
theorem owsg_new {w wr w2 : World} {base : Nat} {v : Value} {L : List Sg} (h : OwSg RSp w base wr v L) (k : New wr w2) : OwSg RSp w base w2 v L := by
  obtain ⟨rows, h1, h2, h3⟩ := h
  exact ⟨rows, h1.new k, h2, h3⟩
def p4 (s : Sg) : Sg := { s with p := s.p % 4 }
theorem p4_at (L : List Sg) (j : Nat) (hj : j < L.length) (h : j < ((L.take j).map p4 ++ L.drop j).length) : ((L.take j).map p4 ++ L.drop j)[j] = L[j] := by
  have hl : ((L.take j).map p4).length = j := by rw [List.length_map, List.length_take]; omega
  rw [List.getElem_append_right (by omega), List.getElem_drop]
  congr 1; omega
theorem p4_step (L : List Sg) (j : Nat) (hj : j < L.length) (h : j < ((L.take j).map p4 ++ L.drop j).length) : ((L.take j).map p4 ++ L.drop j).set j { ((L.take j).map p4 ++ L.drop j)[j] with p := ((L.take j).map p4 ++ L.drop j)[j].p % 4 } = (L.take (j + 1)).map p4 ++ L.drop (j + 1) := by
  have hl : ((L.take j).map p4).length = j := by rw [List.length_map, List.length_take]; omega
  rw [p4_at L j hj h, List.set_append_right _ _ (by omega), hl, Nat.sub_self, List.drop_eq_getElem_cons hj, List.set_cons_zero, take_push L j hj, List.map_append, List.append_assoc]
  rfl
theorem p4_b {L : List Sg} (h : SgsB L) : SgsB (L.map p4) := fun s hs => by
  obtain ⟨x, hx, rfl⟩ := List.mem_map.1 hs
  have := h x hx
  exact ⟨this.1, this.2.1, by show 0 ≤ x.p % 4 ∧ x.p % 4 ≤ 255; omega, this.2.2.2⟩
theorem t_b {L : List Sg} (h : SgsB L) (k : Nat) (hk : k < L.length) : SgsB (L.set k { L[k] with t := 4081 }) := fun s hs => by
  rcases List.mem_or_eq_of_mem_set hs with hs | hs
  · exact h s hs
  · subst hs
    have := h L[k] (List.getElem_mem hk)
    exact ⟨this.1, ⟨by dsimp only; omega, by dsimp only; omega⟩, this.2.2.1, this.2.2.2⟩
theorem owsg_box {w wr : World} {base b i : Nat} {v u : Value} {L : List Sg} {cs : Array Value} (h : OwSg RSp w base wr v L) (k : Box wr b cs 36) : OwSg RSp w base (wr.setCell ⟨b, i, none⟩ u) v L := by
  have hx := h
  obtain ⟨rows, h1, h2, h3⟩ := h
  refine ⟨rows, h1.but (But.set (S := fun g => g = b) wr (p := ⟨b, i, none⟩) rfl u) (fun g hg c => ?_), h2, h3⟩
  rcases h1.1.2 with ⟨rfl, -⟩ | ⟨g', cap', cur, rfl, hb, hg', -⟩
  · cases hg
  · obtain rfl : g' = g := by simpa [Value.ownBlock] using hg
    exact owsg_apart hx k c
/-! ### STEP 1: THE WALK: the Go text returns true, AND WRITES NOTHING THAT WAS THERE: 'Below w.heap.size w w'' (Derived/Below.lean: '.refl', '.alloc', '.drew', '.setCell' at a new block, '.trans'). Open each 'IsRow' by 'rcases' AHEAD of 'go_enter'; part every test ahead of the walk. -/
set_option maxHeartbeats 8000000 in
set_option maxRecDepth 100000 in
theorem walk (v0 : Value) (a1 : Int) (w : World) (w0 : FvVal [.one (.num .u32), .rows [.num .i64, .num .i64, .num .u8, .bys]] w v0) (w1 : (Lit.int .i64 a1).wf = true) (hl : Laid w) (hB : RowBytes 48 1 v0) :
    Calls Tryd.prog 5 #[v0, .int .i64 a1] w fun e w' => e = .returned (.bool true) ∧ Below w.heap.size w w' := by
  obtain ⟨e, v, L, rfl, he, hS, hSB⟩ := img_in w0
  clear w0
  have CS := Lib.hid (fun W (k : New w W) => imsure_any W (hl.new k))
  have CN := Lib.hid (fun W (k : New w W) (x : Int) => num_er x W (hl.new k))
  clear hl
  obtain ⟨p, cap, rfl, hcap, hm⟩ := hS.shape
  have hL48 := Lib.hid (show L.length * 48 ≤ 140737488351232 from hB _ p L.length cap rfl rfl)
  obtain ⟨D, hD⟩ : ∃ D, D = w.alloc (.cells #[.int .u32 e, .slice p L.length cap] 25) := ⟨_, rfl⟩
  have nD : New w D := by rw [hD]; exact (New.refl w).alloc _ _
  have bI : Box D w.heap.size #[.int .u32 e, .slice p L.length cap] 25 := by rw [hD]; exact Box.here _ _ _ _ rfl
  have HS := Lib.hid (hS.new nD)
  have ND := Lib.hid nD
  have BI := Lib.hid bI
  have HSB := Lib.hid hSB
  have HE := Lib.hid he
  obtain ⟨i0, i1⟩ := bI.two
  have c1 := rgive_wide HS.out hL48.out e
  generalize hln : L.length = ln at *
  have HLN := Lib.hid hln
  clear hS hSB he nD bI hln hcap hm hB
  go_enter Tryd.func5, Tryd.ntmps5
  go_upto_region 1 with fail
  rw [← hD]
  clear hD
  go_wp2_with fail
  refine c1.mono ?_
  rintro en x1 ⟨v1, rfl, ow1, n1⟩
  have S1 := ow1.sgs n1
  obtain ⟨q1, k1, rfl, -, -⟩ := S1.shape
  have M1 := Lib.hid (ND.out.trans n1)
  have BI1 := Lib.hid (BI.out.new n1)
  obtain ⟨W2, hW2⟩ : ∃ W2, W2 = x1.alloc (.cells #[.int .u32 e, .slice q1 L.length k1] 36) := ⟨_, rfl⟩
  have n2 : New x1 W2 := by rw [hW2]; exact (New.refl x1).alloc _ _
  have BX := Lib.hid (show Box W2 x1.heap.size #[.int .u32 e, .slice q1 L.length k1] 36 by rw [hW2]; exact Box.here _ _ _ _ rfl)
  have M2 := Lib.hid (M1.out.trans n2)
  have S2 := S1.new n2
  have BI2 := Lib.hid (BI1.out.new n2)
  have HS2 := Lib.hid (HS.out.new (n1.trans n2))
  obtain ⟨i0, i1⟩ := BI2.out.two
  obtain ⟨x0, x1'⟩ := BX.out.two
  have cC := pcheck_im S2 HSB.out e HE.out
  have HLN2 := Lib.hid (show L.length = ln from HLN.out)
  generalize hln : L.length = l2 at *
  have HLL := Lib.hid hln
  clear c1 ow1 n1 n2 S1 S2 BI1 hln
  go_upto_region 2 with fail
  rw [← hW2]
  clear hW2
  cases hok : imOk e L with
  | false =>
    rw [show imE e L = 8 from if_neg (by rw [hok]; simp), erN_pos (show (8 : Int) ≠ 0 by decide)] at cC
    clear hok
    go_wp2_with fail
    refine cC.mono ?_
    rintro en w3 ⟨rfl, n3⟩
    have M3 := Lib.hid (M2.out.trans n3)
    clear n3 cC
    go_wp2_with fail
    refine (CS.out _ M3.out).mono ?_
    rintro en w4 ⟨rfl, n4⟩
    go_wp2
    go_ret
    exact ⟨rfl, M3.out.trans n4⟩
  | true =>
    rw [show imE e L = 0 from if_pos hok, erN_zero] at cC
    have HOK := Lib.hid hok
    have hl8 : ln ≤ 8 := by have := (imOk_parts hok).2.1; have := HLN2.out; have := HLL.out; omega
    clear hok
    go_wp2_with fail
    refine cC.mono ?_
    rintro en w3 ⟨rfl, n3⟩
    have M3 := Lib.hid (M2.out.trans n3)
    have HS3 := HS2.out.new n3
    have BI3 := Lib.hid (BI2.out.new n3)
    have c4 := rgive_wide HS3 (by have := HLN2.out; have := HLL.out; omega) e
    obtain ⟨i0, i1⟩ := BI3.out.two
    clear cC n3 x0 x1' HS3
    go_wp2_with fail
    refine c4.mono ?_
    rintro en x4 ⟨v4, rfl, ow4, n4⟩
    have N4 := Lib.hid (M3.out.trans n4)
    have LP := Lib.hid (show 0 < L.length by have := (imOk_parts HOK.out).1; omega)
    obtain ⟨g, k4, rfl, hgb, hgl, hk4⟩ := ow4.row LP.out
    obtain ⟨W5, hW5⟩ : ∃ W5, W5 = x4.alloc (.cells #[.int .u32 e, .slice (some ⟨g, 0, none⟩) L.length k4] 36) := ⟨_, rfl⟩
    have n5 : New x4 W5 := by rw [hW5]; exact (New.refl x4).alloc _ _
    obtain ⟨yb, hyb⟩ : ∃ yb, yb = x4.heap.size := ⟨_, rfl⟩
    have BY := Lib.hid (show Box W5 yb #[.int .u32 e, .slice (some ⟨g, 0, none⟩) L.length k4] 36 by rw [hW5]; exact Box.here _ _ _ _ hyb)
    have N5 := Lib.hid (N4.out.trans n5)
    have OW5 : OwSg RSp w3 w3.heap.size W5 (.slice (some ⟨g, 0, none⟩) L.length k4) L := by
      obtain ⟨rows, h1, h2, h3⟩ := ow4
      exact ⟨rows, h1.new n5, h2, h3⟩
    have R5 := Lib.hid (n4.trans n5)
    have YG := Lib.hid (show w.heap.size ≤ yb by rw [hyb]; exact N4.out.size)
    have GG := Lib.hid (show w.heap.size ≤ g from Nat.le_trans M3.out.size hgb)
    have GG3 := Lib.hid hgb
    have GY := Lib.hid (owsg_apart OW5 BY.out)
    have YG3 := Lib.hid (show w3.heap.size ≤ yb by rw [hyb]; exact n4.size)
    generalize hln3 : L.length = l3 at *
    have HL3 := Lib.hid hln3
    have AT := Lib.hid (fun k hk => owsg_at OW5 R5.out k hk)
    have OW := Lib.hid OW5
    obtain ⟨y0, y1⟩ := BY.out.two
    have yl := BY.out.lt
    have yf0 := BY.out.unfrozen 0
    have yf1 := BY.out.unfrozen 1
    have hl38 : l3 ≤ 8 := by have := HLN2.out; have := HLL.out; have := HL3.out; omega
    clear c4 ow4 n4 n5 i0 i1 OW5 hln3 hgb hgl hk4
    go_upto_region 5 with fail
    rw [← hW5]
    rw [← hyb]
    clear hW5 hyb
    obtain ⟨q, eq, hq⟩ := im_mod4 a1
    have hq4 : q = 0 ∨ q = 1 ∨ q = 2 ∨ q = 3 := by omega
    clear hq
    rcases hq4 with rfl | rfl | rfl | rfl
    · have eq1 : wrap64 ((IntKind.u64.wrap a1).tmod 4) = 0 := eq
      clear eq
      have EQ1 := Lib.hid eq1
      clear y0 y1 yl yf0 yf1
      go_upto_region 9 with fail
      go_loopg [7] l3 (fun q kv wr => ∃ (j : Nat) (M : List Sg), j + q = l3 ∧ kv = .int .i64 (j : Int) ∧ M = (L.take j).map p4 ++ L.drop j ∧ OwSg RSp w3 w3.heap.size wr (.slice (some ⟨g, 0, none⟩) l3 k4) M ∧ Box wr yb #[.int .u32 e, .slice (some ⟨g, 0, none⟩) l3 k4] 36 ∧ New w wr ∧ New w3 wr)
      case atStart => exact ⟨0, L, by omega, rfl, by simp, OW.out, BY.out, N5.out, R5.out⟩
      case round =>
        obtain ⟨j, M, hj, rfl, hM, how, hby, hn, hr3⟩ := hrel
        have J := Lib.hid hj
        have HM := Lib.hid hM
        have HOW := Lib.hid how
        have HBY := Lib.hid hby
        have HN := Lib.hid hn
        have HR3 := Lib.hid hr3
        obtain ⟨z0, z1⟩ := hby.two
        clear eq1
        by_cases cj : j < l3
        · have hjL : j < L.length := by rw [HL3.out]; exact cj
          have hML : M.length = L.length := by rw [hM, List.length_append, List.length_map, List.length_take, List.length_drop]; omega
          have hjM : j < M.length := by omega
          obtain ⟨c1', c2', cf, cg⟩ := owsg_at how hr3 j hjM
          have cf2 := cf (j * 4 + 2)
          have hpb := (HSB.out _ (List.getElem_mem hjL)).2.2.1
          have T := Lib.hid (how.setP j hjM (M[j].p % 4))
          have GB := Lib.hid (owsg_apart how hby)
          have HSTEP := Lib.hid (show M.set j { M[j] with p := M[j].p % 4 } = (L.take (j + 1)).map p4 ++ L.drop (j + 1) by subst hM; exact p4_step L j hjL hjM)
          have hpp : M[j].p = L[j].p := by subst hM; rw [p4_at L j hjL hjM]
          rw [← hpp] at hpb
          clear c1' cf hpp hj hM how hby hn hr3 hML
          generalize M[j].p = pp at *
          have hpm : pp.tmod 4 = pp % 4 := Int.tmod_eq_emod_of_nonneg hpb.1
          have hw8 : IntKind.u8.wrap (pp % 4) = pp % 4 := by rw [IntKind.wrap_u8]; omega
          go_wp2_with fail
          go_region
          have END : ∃ Wn : World, Wn = (wr.setCell ⟨g, j * 4 + 2, none⟩ (.int .u8 (pp % 4))).drew ∧ OwSg RSp w3 w3.heap.size Wn (.slice (some ⟨g, 0, none⟩) l3 k4) (M.set j { M[j] with p := pp % 4 }) ∧ Box Wn yb #[.int .u32 e, .slice (some ⟨g, 0, none⟩) l3 k4] 36 ∧ New w Wn ∧ New w3 Wn :=
            ⟨_, rfl, owsg_new T.out (New.refl _).drew, (HBY.out.other (p := ⟨g, j * 4 + 2, none⟩) GB.out _).new (New.refl _).drew, (HN.out.setCell (p := ⟨g, j * 4 + 2, none⟩) GG.out _).drew, (HR3.out.setCell (p := ⟨g, j * 4 + 2, none⟩) GG3.out _).drew⟩
          obtain ⟨Wn, hWn, eo, eb, en1, en3⟩ := END
          rw [← hWn]
          have EO := Lib.hid eo
          have EB := Lib.hid eb
          have EN1 := Lib.hid en1
          have EN3 := Lib.hid en3
          clear hWn eo eb en1 en3 c2' cf2 hpm hw8 z0 z1
          go_wp2
          go_roundg (l3 - (j + 1))
          case measure => have := J.out; omega
          case rel => exact ⟨j + 1, _, by have := J.out; omega, by go_num, HSTEP.out, EO.out, EB.out, EN1.out, EN3.out⟩
        · obtain rfl : j = l3 := by omega
          have hMM : M = L.map p4 := by rw [hM, List.take_of_length_le (by rw [HL3.out]; exact Nat.le_refl _), List.drop_of_length_le (by rw [HL3.out]; exact Nat.le_refl _), List.append_nil]
          rw [hMM] at how
          have TB := HBY
          have TN := HN
          have TS := Lib.hid (how.sgs hr3)
          have TO := Lib.hid (show imOk e (L.map p4) = false from im_perm e L (fun s hs => (HSB.out s hs).2.2.1.1))
          have TL := Lib.hid (p4_b HSB.out)
          have TE := HE
          have eq1 : wrap64 ((IntKind.u64.wrap a1).tmod 4) = 0 := EQ1.out
          clear hj hM how hby hn hr3 hMM
          go_upto_region 16 with fail
          clear eq1 z0 z1
          have cE := penc_im TS.out TL.out _ TE.out
          rw [show imE e (L.map p4) = 8 from if_neg (by rw [TO.out]; simp), erN_pos (show (8 : Int) ≠ 0 by decide)] at cE
          have cC := fun W' (k : New wr W') => pcheck_im (TS.out.new k) TL.out _ TE.out
          rw [show imE e (L.map p4) = 8 from if_neg (by rw [TO.out]; simp), erN_pos (show (8 : Int) ≠ 0 by decide)] at cC
          have cC := Lib.hid cC
          generalize imT e (L.map p4) = tx at *
          obtain ⟨y0, y1⟩ := TB.out.two
          go_wp2_with fail
          refine cE.mono ?_
          rintro en w8 ⟨bv, rfl, ob, n8⟩
          obtain ⟨pb, kb, rfl⟩ := ob.shape
          have TB8 := Lib.hid (TB.out.new n8)
          have N8 := Lib.hid (TN.out.trans n8)
          have cC8 := Lib.hid (fun W' (k : New w8 W') => cC.out W' (n8.trans k))
          have cN := CN.out w8 N8.out 8
          simp only [erN_pos (show (8 : Int) ≠ 0 by decide)] at cN
          clear cE ob y0 y1 n8
          go_wp2_with fail
          refine cN.mono ?_
          rintro en w9 ⟨rfl, n9⟩
          obtain ⟨y0, y1⟩ := (TB8.out.new n9).two
          have N9 := Lib.hid (N8.out.trans n9)
          have cC := cC8.out w9 n9
          clear cN
          go_wp2_with fail
          refine cC.mono ?_
          rintro en w10 ⟨rfl, n10⟩
          have N10 := Lib.hid (N9.out.trans n10)
          clear cC n10 y0 y1
          go_wp2_with fail
          refine (CS.out _ N10.out).mono ?_
          rintro en w11 ⟨rfl, n11⟩
          go_wp2
          go_ret
          exact ⟨rfl, N10.out.trans n11⟩
    · have eq1 : wrap64 ((IntKind.u64.wrap a1).tmod 4) = 1 := eq
      clear eq
      have he2 : IntKind.u32.wrap (e + 2) = e + 2 := by have := (imOk_parts HOK.out).2.2.1; have := HE.out; rw [IntKind.wrap_u32]; omega
      go_upto_region 16 with fail
      have TB := Lib.hid (show Box (W5.setCell ⟨yb, 0, none⟩ (.int .u32 (e + 2))) yb #[.int .u32 (e + 2), .slice (some ⟨g, 0, none⟩) l3 k4] 36 by simpa using BY.out.set 0 (.int .u32 (e + 2)))
      have TN := Lib.hid (N5.out.setCell (p := ⟨yb, 0, none⟩) YG.out (.int .u32 (e + 2)))
      have TS := Lib.hid ((owsg_box (i := 0) (u := .int .u32 (e + 2)) OW.out BY.out).sgs (R5.out.setCell (p := ⟨yb, 0, none⟩) YG3.out _))
      have TO := Lib.hid (im_two HOK.out)
      have TL := HSB
      have TE := Lib.hid (show 0 ≤ e + 2 ∧ e + 2 ≤ 4294967295 by have := (imOk_parts HOK.out).2.2.1; have := HE.out; omega)
      generalize (W5.setCell ⟨yb, 0, none⟩ (.int .u32 (e + 2))) = WW at *
      clear eq1 he2 y0 y1 yl yf0 yf1
      have cE := penc_im TS.out TL.out _ TE.out
      rw [show imE (e + 2) L = 8 from if_neg (by rw [TO.out]; simp), erN_pos (show (8 : Int) ≠ 0 by decide)] at cE
      have cC := fun W' (k : New WW W') => pcheck_im (TS.out.new k) TL.out _ TE.out
      rw [show imE (e + 2) L = 8 from if_neg (by rw [TO.out]; simp), erN_pos (show (8 : Int) ≠ 0 by decide)] at cC
      have cC := Lib.hid cC
      generalize imT (e + 2) L = tx at *
      obtain ⟨y0, y1⟩ := TB.out.two
      go_wp2_with fail
      refine cE.mono ?_
      rintro en w8 ⟨bv, rfl, ob, n8⟩
      obtain ⟨pb, kb, rfl⟩ := ob.shape
      have TB8 := Lib.hid (TB.out.new n8)
      have N8 := Lib.hid (TN.out.trans n8)
      have cC8 := Lib.hid (fun W' (k : New w8 W') => cC.out W' (n8.trans k))
      have cN := CN.out w8 N8.out 8
      simp only [erN_pos (show (8 : Int) ≠ 0 by decide)] at cN
      clear cE ob y0 y1 n8
      go_wp2_with fail
      refine cN.mono ?_
      rintro en w9 ⟨rfl, n9⟩
      obtain ⟨y0, y1⟩ := (TB8.out.new n9).two
      have N9 := Lib.hid (N8.out.trans n9)
      have cC := cC8.out w9 n9
      clear cN
      go_wp2_with fail
      refine cC.mono ?_
      rintro en w10 ⟨rfl, n10⟩
      have N10 := Lib.hid (N9.out.trans n10)
      clear cC n10 y0 y1
      go_wp2_with fail
      refine (CS.out _ N10.out).mono ?_
      rintro en w11 ⟨rfl, n11⟩
      go_wp2
      go_ret
      exact ⟨rfl, N10.out.trans n11⟩
    · have eq1 : wrap64 ((IntKind.u64.wrap a1).tmod 4) = 2 := eq
      clear eq
      obtain ⟨r, rfl⟩ : ∃ r, l3 = r + 1 := ⟨l3 - 1, by have := LP.out; omega⟩
      have hrL : r < L.length := by rw [HL3.out]; omega
      obtain ⟨c1', c2', cf, cg⟩ := AT.out r hrL
      have cf2 := cf (r * 4 + 1)
      have hlr : L.length - 1 = r := by have := HL3.out; omega
      have er : ((r : Int) + 1 - 1) = (r : Int) := by omega
      have er3 : IntKind.i64.wrap (r : Int) = (r : Int) := wrap_idk _ (by omega)
      have er4 : (r : Int) < (r : Int) + 1 := by omega
      have HLR := Lib.hid hlr
      clear c2' cf hlr
      generalize L[r].t = tt at *
      clear hrL
      go_upto_region 16 with fail
      have TB := Lib.hid (show Box (W5.setCell ⟨g, r * 4 + 1, none⟩ (.int .i64 4081)) yb #[.int .u32 e, .slice (some ⟨g, 0, none⟩) (r + 1) k4] 36 from BY.out.other (p := ⟨g, r * 4 + 1, none⟩) GY.out _)
      have TN := Lib.hid (N5.out.setCell (p := ⟨g, r * 4 + 1, none⟩) GG.out (.int .i64 4081))
      have TS := Lib.hid (show Sgs RSp (W5.setCell ⟨g, r * 4 + 1, none⟩ (.int .i64 4081)) (.slice (some ⟨g, 0, none⟩) (r + 1) k4) (L.set (L.length - 1) { L[L.length - 1]'(by have := HL3.out; omega) with t := 4081 }) by
        have T := OW.out.setT (L.length - 1) (by have := HL3.out; omega) 4081
        rw [show (L.length - 1) * 4 + 1 = r * 4 + 1 by rw [HLR.out]] at T
        exact T.sgs (R5.out.setCell (p := ⟨g, r * 4 + 1, none⟩) GG3.out _))
      have TO := Lib.hid (im_last e L (by have := HL3.out; omega))
      have TL := Lib.hid (t_b HSB.out (L.length - 1) (by have := HL3.out; omega))
      have TE := HE
      generalize (L.set (L.length - 1) { L[L.length - 1]'(by have := HL3.out; omega) with t := 4081 }) = LX at *
      generalize (W5.setCell ⟨g, r * 4 + 1, none⟩ (.int .i64 4081)) = WW at *
      clear eq1 er er3 er4 cf2 c1' cg y0 y1 yl yf0 yf1
      have cE := penc_im TS.out TL.out _ TE.out
      rw [show imE e LX = 8 from if_neg (by rw [TO.out]; simp), erN_pos (show (8 : Int) ≠ 0 by decide)] at cE
      have cC := fun W' (k : New WW W') => pcheck_im (TS.out.new k) TL.out _ TE.out
      rw [show imE e LX = 8 from if_neg (by rw [TO.out]; simp), erN_pos (show (8 : Int) ≠ 0 by decide)] at cC
      have cC := Lib.hid cC
      generalize imT e LX = tx at *
      obtain ⟨y0, y1⟩ := TB.out.two
      go_wp2_with fail
      refine cE.mono ?_
      rintro en w8 ⟨bv, rfl, ob, n8⟩
      obtain ⟨pb, kb, rfl⟩ := ob.shape
      have TB8 := Lib.hid (TB.out.new n8)
      have N8 := Lib.hid (TN.out.trans n8)
      have cC8 := Lib.hid (fun W' (k : New w8 W') => cC.out W' (n8.trans k))
      have cN := CN.out w8 N8.out 8
      simp only [erN_pos (show (8 : Int) ≠ 0 by decide)] at cN
      clear cE ob y0 y1 n8
      go_wp2_with fail
      refine cN.mono ?_
      rintro en w9 ⟨rfl, n9⟩
      obtain ⟨y0, y1⟩ := (TB8.out.new n9).two
      have N9 := Lib.hid (N8.out.trans n9)
      have cC := cC8.out w9 n9
      clear cN
      go_wp2_with fail
      refine cC.mono ?_
      rintro en w10 ⟨rfl, n10⟩
      have N10 := Lib.hid (N9.out.trans n10)
      clear cC n10 y0 y1
      go_wp2_with fail
      refine (CS.out _ N10.out).mono ?_
      rintro en w11 ⟨rfl, n11⟩
      go_wp2
      go_ret
      exact ⟨rfl, N10.out.trans n11⟩
    · have eq1 : wrap64 ((IntKind.u64.wrap a1).tmod 4) = 3 := eq
      clear eq
      go_upto_region 16 with fail
      have TB := Lib.hid (show Box (W5.setCell ⟨yb, 0, none⟩ (.int .u32 1044480)) yb #[.int .u32 1044480, .slice (some ⟨g, 0, none⟩) l3 k4] 36 by simpa using BY.out.set 0 (.int .u32 1044480))
      have TN := Lib.hid (N5.out.setCell (p := ⟨yb, 0, none⟩) YG.out (.int .u32 1044480))
      have TS := Lib.hid ((owsg_box (i := 0) (u := .int .u32 1044480) OW.out BY.out).sgs (R5.out.setCell (p := ⟨yb, 0, none⟩) YG3.out _))
      have TO := Lib.hid (im_top HOK.out)
      have TL := HSB
      have TE := Lib.hid (show (0 : Int) ≤ 1044480 ∧ (1044480 : Int) ≤ 4294967295 by decide)
      generalize (W5.setCell ⟨yb, 0, none⟩ (.int .u32 1044480)) = WW at *
      clear eq1 y0 y1 yl yf0 yf1
      have cE := penc_im TS.out TL.out _ TE.out
      rw [show imE 1044480 L = 8 from if_neg (by rw [TO.out]; simp), erN_pos (show (8 : Int) ≠ 0 by decide)] at cE
      have cC := fun W' (k : New WW W') => pcheck_im (TS.out.new k) TL.out _ TE.out
      rw [show imE 1044480 L = 8 from if_neg (by rw [TO.out]; simp), erN_pos (show (8 : Int) ≠ 0 by decide)] at cC
      have cC := Lib.hid cC
      generalize imT 1044480 L = tx at *
      obtain ⟨y0, y1⟩ := TB.out.two
      go_wp2_with fail
      refine cE.mono ?_
      rintro en w8 ⟨bv, rfl, ob, n8⟩
      obtain ⟨pb, kb, rfl⟩ := ob.shape
      have TB8 := Lib.hid (TB.out.new n8)
      have N8 := Lib.hid (TN.out.trans n8)
      have cC8 := Lib.hid (fun W' (k : New w8 W') => cC.out W' (n8.trans k))
      have cN := CN.out w8 N8.out 8
      simp only [erN_pos (show (8 : Int) ≠ 0 by decide)] at cN
      clear cE ob y0 y1 n8
      go_wp2_with fail
      refine cN.mono ?_
      rintro en w9 ⟨rfl, n9⟩
      obtain ⟨y0, y1⟩ := (TB8.out.new n9).two
      have N9 := Lib.hid (N8.out.trans n9)
      have cC := cC8.out w9 n9
      clear cN
      go_wp2_with fail
      refine cC.mono ?_
      rintro en w10 ⟨rfl, n10⟩
      have N10 := Lib.hid (N9.out.trans n10)
      clear cC n10 y0 y1
      go_wp2_with fail
      refine (CS.out _ N10.out).mono ?_
      rintro en w11 ⟨rfl, n11⟩
      go_wp2
      go_ret
      exact ⟨rfl, N10.out.trans n11⟩

/-! ### THE ROW's STEP: WRITTEN OUT: LEAVE IT -/
theorem door_met (os : Os) (args : Array Value) : laidMetH Tryd.prog Rows.imageRunsRow.laid ((World.doorLaid Tryd.prog 400 os).forCall (fun _ _ => 0) ⟨#[], args, []⟩).memory :=
  laidMetH_of_parts3 (fuel := 8) (laidMet_of_run' 8 (by kernel_rfl) (by kernel_rfl)) (by kernel_rfl) (by kernel_rfl)
set_option maxRecDepth 100000 in
theorem lifted (os : Os) (started : os.Started) (H : Type) (enc : TypeId × Value → H) :
    ReturnsInHanded {} Tryd.checked os 5 .any (fun w args => (Rows.imageRunsSpec.pre enc Tryd.prog Tryd.f5 [] false w args ∧ laidMetH Tryd.prog Rows.imageRunsRow.laid w) ∧ sizedMet enc Tryd.prog Tryd.f5 (OpenSpec.ofChange Rows.imageRunsSpec) false w args) (Rows.imageRunsSpec.post enc Tryd.prog Tryd.f5 false true false false) := by
  refine returnsInHanded_of_change_and (C := Tryd.checked) (X := fun w _ => laidMetH Tryd.prog Rows.imageRunsRow.laid w) (fun _ _ _ hh h => h.of_heap hh) own started (by kernel_rfl) Tryd.func5
    (ChangeSpec.witness_shaped (enc := enc) (C := Tryd.checked) (os := os) (X := fun w _ => laidMetH Tryd.prog Rows.imageRunsRow.laid w) false (World.doorLaid Tryd.prog 400 os) #[.agg #[.int .u32 0, .slice none 0 0], .int .i64 0] 8 rfl (World.shaped_of_RefB (by kernel_rfl) (by kernel_rfl)) (by kernel_rfl) (by kernel_rfl) (by kernel_rfl) (door_met os _)) ?_
  intro W base args ds gs before hval0 hW _ hsz0 hL _
  have hL' : laidMet Tryd.prog [] W ∧ handlesMet Tryd.prog [("errors.errorType", Rows.laid_errors_errorType)] W := hL
  have hval : ∀ (j : Nat) t v, Tryd.f5.params[j]? = some t → args[j]? = some v → Value.okWide Tryd.prog W .any base t v := hval0
  have hW' := hW
  obtain ⟨p, q, hA0, hV, rfl, hfz, hnd⟩ := hW
  have hA : DataW.TrodAll enc Tryd.prog W 0 (fun _ => true) true Tryd.f5.params.toList args.toList ds p := hA0
  have hsz : (DataW.weightsEach Tryd.prog (Tryd.f5.params.toList ++ Rows.imageRunsSpec.plain.varTypes Tryd.prog) (ds ++ gs)).all (· ≤ reachBytes) = true := hsz0
  rw [Tryd.params5] at hA hval hsz
  obtain ⟨v0, vs0, d0, ds0, p0, q0, hargs, rfl, rfl, h0, r0⟩ := trodAll_cons hA
  obtain ⟨v1, vs1, d1, ds1, p1, q1, rfl, rfl, rfl, h1, r1⟩ := trodAll_cons r0
  obtain ⟨rfl, rfl, rfl⟩ := trodAll_nil r1
  obtain rfl : args = #[v0, v1] := by cases args; simp_all
  obtain ⟨rfl, rfl⟩ := trodVars_none hV
  have k0 := h0
  have lt0 : ∀ x ∈ p0, x.block < W.heap.size := by obtain ⟨m, hm⟩ := k0; exact DataW.trod_lt m _ _ _ hm
  have w0 : FvVal [.one (.num .u32), .rows [.num .i64, .num .i64, .num .u8, .bys]] W v0 := fvval_of Tryd.underlying25 (by kernel_rfl) (by kernel_rfl) rfl (fun i f c hf hc => by
    rcases i with _| _| _
    · simp at hf hc; subst hf hc
      exact Tryd.underlying22
    · simp at hf hc; subst hf hc
      exact ⟨_, _, Tryd.underlying23, Tryd.underlying29, by kernel_rfl, by kernel_rfl, rfl, fun i f c hf hc => by
        rcases i with _| _| _| _| _
        · (simp at hf hc; subst hf hc; exact Tryd.underlying3)
        · (simp at hf hc; subst hf hc; exact Tryd.underlying3)
        · (simp at hf hc; subst hf hc; exact Tryd.underlying5)
        · (simp at hf hc; subst hf hc; exact ⟨_, Tryd.underlying26, Tryd.underlying5, by kernel_rfl⟩)
        · simp at hc⟩
    · simp at hc) (hval 0 25 v0 rfl rfl) h0
  obtain ⟨a1, rfl, rfl, rfl, w1⟩ := open_int Tryd.underlying3 (hval 1 3 v1 rfl rfl) h1
  have hB : RowBytes 48 1 v0 := rowbytes_of (j := 0) (i := 1) hsz rfl rfl Tryd.underlying25 (by kernel_rfl) (by kernel_rfl) rfl Tryd.underlying23 (by kernel_rfl) (hval 0 25 v0 rfl rfl) h0
  clear hA0 hval0
  refine (walk v0 a1 W w0 w1 (handle_of_hs hL'.2) hB).mono fun e W' ⟨he, bel⟩ => ?_
  subst he
  exact ⟨_, rfl, _, _, _, [], _, [], hW', trodAll_mk1 (shut_bool Tryd.underlying4 _), (trodAll_cons_mk (Below.trod laidOut (by kernel_rfl) (of_decide_eq_true (by kernel_rfl)) k0 bel lt0) (trodAll_cons_mk (shut_int Tryd.underlying3 w1) trodAll_mk0)), rfl, bel.frame _, fun h => by cases h⟩

theorem over : Rows.imageRunsRow.holds Tryd.pinned (OpenSpec.ofChange Rows.imageRunsSpec) :=
  OpenClaim.holds_of_wide 5 Tryd.f5 rfl rfl rfl rfl rfl rfl rfl ⟨rfl, rfl, rfl, rfl, rfl⟩ rfl rfl rfl rfl rfl (by kernel_rfl) Tryd.func5 (by kernel_rfl)
    (of_decide_eq_true (by kernel_rfl)) (by unfold Func.isWrapper; first | (rw [if_pos (by decide +kernel)]; kernel_rfl) | (rw [if_neg (by decide +kernel)]; exact ⟨rfl, rfl⟩))
    (fun os started H enc _ => lifted os started H enc)

theorem proved : Rows.ImageRunsSaid := over
theorem card : Rows.ImageRunsCardSaid :=
  Claim7.holds_tied_plain_at .later [] [.handle] true (true, "c673f5b26ecd1a14bde79e3f67d0e7c3043df558c0ec58ae2d7ad4ff549159af") true
    over (fun _ h => by cases h) (by kernel_rfl) (fun _ h => by cases h) imageRuns_row_tie rfl ⟨rfl, rfl⟩ (by kernel_rfl) rfl
    (fun f fn hf hfn => by
      obtain rfl : f = 5 := Option.some.inj ((show Tryd.prog.funcNamed "halter/halterlaw21.ImageRuns" = some 5 by kernel_rfl).symm.trans hf) |>.symm
      obtain rfl : fn = Tryd.f5 := (Option.some.inj (Tryd.func5.symm.trans hfn)).symm
      exact ⟨by kernel_rfl, fun j t ht => by
        rw [Tryd.params5] at ht
        have hm : t ∈ [25, 3] := by have := Array.mem_of_getElem? ht; simpa using this
        have hall : ([25, 3].all fun u => !Tryd.prog.wantsStandIn u) = true := by kernel_rfl
        exact (show Tryd.prog.wantsStandIn t = false by simpa using List.all_eq_true.1 hall t hm)⟩)
    (by kernel_rfl)
#print axioms card
end Go.Proofs.YtealjgfijlencaaDoor.imageRuns
