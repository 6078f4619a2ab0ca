/- Whatever is done to any number of frames, each answer, and all frames then, are the document's list's, or the errors; of a nil one there is nothing; the statement holds for every input, where the library's variable errors.errorType holds what its own text lays, which the card ties. -/
import Derived.Test.YtonackipdjnjdaaDoorRows
import Derived.Test.YtonackipdjnjdaaDoorFrH
import Derived.Deep.LoopGhost
import Derived.Deep.RegionHeld3
import Derived.Test.YtonackipdjnjdaaDoorCards
import Derived.Test.YtonackipdjnjdaaDoorTie
import Derived.LaidMore
import Derived.LaidLaws
import Derived.LaidHandle
import Derived.Test.YtonackipdjnjdaaDoorLay
import Derived.Test.YtonackipdjnjdaaDoorPost
import Derived.WalkKit
import Derived.ProofKit
import Derived.OpenShut
import Derived.ShutString
import Derived.ChangeOld
import Derived.Below
namespace Go.Proofs.YtonackipdjnjdaaDoor.framesRun
open Go.ChangeShapes Go.WideShapes Go.ChangeAt Go.RowKit
open Go.ChangeMaps (open_string shut_string)
set_option linter.unusedVariables false

theorem own : ownKnob Tryd.prog.godebug = none := by kernel_rfl
theorem laidOut : laidOutB Tryd.prog = true := by kernel_rfl

/-- WHAT THE WALK IS TOLD OF A SLICE OF INTEGERS THAT CAME IN: it is nil; or it leads to a row of 'cap' cells, the numbers 'zs' (the first 'len' are its elements, the rest its spare room), each fitting its kind. -/
def IsRow (k : IntKind) (w : World) (a : Option Addr) (len cap : Nat) (zs : List Int) : Prop :=
  (a = none ∧ len = 0 ∧ cap = 0 ∧ zs = []) ∨
  ∃ x, a = some x ∧ len ≤ cap ∧ cap ≤ maxLen ∧ zs.length = cap ∧ (∀ i, i < zs.length → w.cell? (x.add i) = some (.int k (zs.getD i 0))) ∧ ∀ n ∈ zs, (Lit.int k n).wf = true

/-! ### STEP 1: THE WALK: the Go text returns true, AND WRITES NOTHING THAT WAS THERE: 'Below w.heap.size w w'' (Derived/Below.lean: '.refl', '.alloc', '.drew', '.setCell' at a new block, '.trans'). Open each 'IsRow' by 'rcases' AHEAD of 'go_enter'; part every test ahead of the walk. -/
set_option maxHeartbeats 16000000 in
set_option maxRecDepth 100000 in
theorem walk (a0 : Int) (a1 : Option Addr) (len1 cap1 : Nat) (w : World) (w0 : (Lit.int .i64 a0).wf = true) (w1 : IntRows .i64 2 w a1 len1) (hl : Laid w) :
    Calls Tryd.prog 3 #[.int .i64 a0, .slice a1 len1 cap1] w fun e w' => e = .returned (.bool true) ∧ Below w.heap.size w w' := by
  have hlt := hl.lt
  have hlw := w0
  have b0 := i64_bd w0
  go_enter Tryd.func3, Tryd.ntmps3
  go_wp2_with fail
  refine (alloc_nil _).mono ?_
  rintro e W1 ⟨rfl, rfl⟩
  go_wp2_with fail
  refine (unref_nil 0 _).mono ?_
  rintro e W1 ⟨rfl, rfl⟩
  go_wp2_with fail
  refine (num_err 22 _ hl).mono ?_
  rintro e W1 ⟨rfl, n1⟩
  have l1 := hl.new n1
  go_wp2_with fail
  refine (num_err 22 _ l1).mono ?_
  rintro e W2 ⟨rfl, m2⟩
  have l2 := l1.new m2
  have n2 := n1.trans m2
  clear n1 l1 m2
  go_wp2_with fail
  refine (ref_nil 0 _).mono ?_
  rintro e W3 ⟨rfl, rfl⟩
  go_wp2_with fail
  refine (num_err 22 _ l2).mono ?_
  rintro e W3 ⟨rfl, m3⟩
  have l3 := l2.new m3
  have n3 := n2.trans m3
  clear n2 l2 m3
  go_wp2_with fail
  refine (refs_nil 0 _).mono ?_
  rintro e W4 ⟨rfl, rfl⟩
  go_wp2_with fail
  refine (free_nil _).mono ?_
  rintro e W4 ⟨rfl, rfl⟩
  go_wp2_with fail
  refine (taken_nil _).mono ?_
  rintro e W4 ⟨rfl, rfl⟩
  go_wp2_with fail
  by_cases big : a0 < 1 ∨ 1024 < a0
  · refine (made_bad a0 _ big).mono ?_
    rintro e W4 ⟨rfl, m4⟩
    have l4 := l3.new m4
    have n4 := n3.trans m4
    have fin : ∀ W, New w W → Laid W → Calls Tryd.prog 14 #[] W fun e w' => e = .returned (.bool true) ∧ New w w' := fun W h k => (sure_any W k).mono fun e w' ⟨h1, h2⟩ => ⟨h1, h.trans h2⟩
    by_cases c : a0 < 1
    · clear big
      go_wp2_with fail
      refine (num_err 22 _ l4).mono ?_
      rintro e W5 ⟨rfl, m5⟩
      go_wp2_with fail
      refine (fin _ (n4.trans m5) (l4.new m5)).mono ?_
      rintro e W6 ⟨rfl, n6⟩
      go_wp2_with fail
      go_ret
      exact ⟨rfl, n6⟩
    · have d : 1024 < a0 := by omega
      have c1 : decide (a0 < 1) = false := by simpa using c
      clear big
      go_wp2_with fail
      refine (num_err 22 _ l4).mono ?_
      rintro e W5 ⟨rfl, m5⟩
      go_wp2_with fail
      refine (fin _ (n4.trans m5) (l4.new m5)).mono ?_
      rintro e W6 ⟨rfl, n6⟩
      go_wp2_with fail
      go_ret
      exact ⟨rfl, n6⟩
  · obtain ⟨many, rfl⟩ := Int.eq_ofNat_of_zero_le (show 0 ≤ a0 by omega)
    have g1 : 1 ≤ many := by omega
    have g2 : many ≤ 1024 := by omega
    have c1 : decide ((many : Int) < 1) = false := by simp; omega
    have c2 : decide (1024 < (many : Int)) = false := by simp; omega
    refine (made_any many _ g1 g2).mono ?_
    rintro e W4 ⟨rfl, hF, m4⟩
    have l4 := l3.new m4
    have n4 := n3.trans m4
    have hfb : W3.heap.size + 1 < W4.heap.size := hF.lt.1
    have hsz := n3.size
    clear l3 m4
    go_wp2_with fail
    have hB0 : Bx (W4.alloc (.cells #[.int .i64 (many : Int), .slice none 0 0] 40)) W4.heap.size (.int .i64 (many : Int)) (.slice none 0 0) := heap_alloc_new W4 _
    have nA := (New.refl W4).alloc #[.int .i64 (many : Int), .slice none 0 0] 40
    have hF0 := hF.new nA
    have n5 := n4.trans nA
    have l5 := l4.new nA
    clear hF nA n4 l4 n3
    generalize W4.alloc (.cells #[.int .i64 (many : Int), .slice none 0 0] 40) = W5 at *
    generalize W4.heap.size = bx at *
    generalize W3.heap.size = rb at *
    have HL := Lib.hid w1.2
    have hmx := w1.1
    unfold maxLen at hmx
    clear w1
    have Z0 := Lib.hid (show ∀ m, (List.replicate many (0 : Int)).getD m 0 ≤ ((0 : Nat) : Int) from fun m => by rw [List.getD_eq_getElem?_getD, List.getElem?_replicate]; split <;> simp)
    go_loopg [13] len1 (fun k i wr => ∃ (j : Nat) (rs L : List Int) (p : Option Addr) (ll cp : Nat), j + k = len1 ∧ i = .int .i64 (j : Int) ∧ rs.length = many ∧ j ≤ 30 ∧ (∀ m, rs.getD m 0 ≤ (j : Int)) ∧ L.length ≤ j ∧ Same rs L ∧ Fr wr (rb + 1) rb rs ∧ Bx wr bx (.int .i64 (many : Int)) (.slice p ll cp) ∧ Own (bx + 1) wr (.slice p ll cp) L ∧ New w wr)
    case atStart => exact ⟨0, _, [], none, 0, 0, by omega, rfl, List.length_replicate, by omega, Z0.out, by simp, Same.zeros many, hF0, hB0, Own.nil _ _, n5⟩
    case round =>
      obtain ⟨j, rs, L, p, ll, cp, hj, rfl, hlen, hj30, hle, hLl, hS, hF, hB, hO, hN⟩ := hrel
      have J := Lib.hid hj
      have HLE := Lib.hid hle
      have HLN := Lib.hid hlen
      clear hj hle hlen
      by_cases c : j < len1 ∧ j < 30
      · obtain ⟨c3, c4⟩ := c
        have d3 : decide ((j : Int) < (len1 : Int)) = true := by simp; omega
        have d4 : decide ((j : Int) < 30) = true := by simp; omega
        obtain ⟨x, rfl, hx⟩ := HL.out j c3
        obtain ⟨kd, hk, _⟩ := hx 0 (by omega)
        obtain ⟨nn, hn, wn⟩ := hx 1 (by omega)
        rw [← hN.cell (p := x.add (j * 2 + 0)) (cell_lt hk)] at hk
        rw [← hN.cell (p := x.add (j * 2 + 1)) (cell_lt hn)] at hn
        have bn := i64_bd wn
        rw [Nat.add_zero] at hk
        rw [add_field x _ 1 (by omega)] at hn
        clear hx wn
        obtain ⟨q, eq, hq⟩ := mod4 kd
        by_cases q2 : q < 2
        · have t1 : decide ((q : Int) < 2) = true := by simp; omega
          go_wp2_with fail
          clear eq hk hn
          rcases free_or rs rs.length with hfull | ⟨i, hi, hnf, hz⟩
          · refine (did_alloc_no hF hfull).mono ?_
            rintro e W6 ⟨rfl, h6, f6⟩
            have B6 := hB.far f6 (by omega)
            have O6 := hO.keep f6 (by omega)
            have N6 := f6.new hN hsz
            have hbw := B6.lt
            clear hF hB hO hN f6
            obtain ⟨x0, x1, x2, x3⟩ := B6.get
            go_wp2_with fail
            have q0 : ∀ m : Nat, m < many → cn L (m : Int) ≠ 0 := fun m hm => by rw [hS, rfs_in rs m (by rw [HLN.out]; exact hm)]; exact hfull m (by rw [HLN.out]; exact hm)
            refine (ralloc_none many _ L (bx + 1) W6 O6 (by omega) (by omega) g2 q0).mono ?_
            rintro e W7 ⟨v7, he, O7, m7⟩
            obtain ⟨p7, l7, cp7, rfl⟩ := O7.shape
            obtain rfl : e = .returned (.tuple #[.agg #[.int .i64 (many : Int), .slice p7 l7 cp7], .int .i64 0, .int .i64 12]) := he
            have B7 := B6.new m7
            have h7 := h6.new m7
            have N7 := N6.trans m7
            clear B6 h6 O6 N6 m7 x0 x1 x2 x3
            go_wp2_with fail
            refine (num_err 12 _ (hl.new (by first | exact N7.alloc _ _ | exact N7.trans (New.made W7 _ _ _ _)))).mono ?_
            rintro e W8 ⟨rfl, m8⟩
            have mm : New W7 W8 := by first | exact ((New.refl W7).alloc _ _).trans m8 | exact (New.made W7 _ _ _ _).trans m8
            have By : Bx W8 W7.heap.size (.int .i64 (many : Int)) (.slice p7 l7 cp7) := by first | exact Bx.new (heap_alloc_new W7 _) m8 | exact (Bx.made W7 _ _ _ _).new m8
            have B8 := B7.new mm
            have h8 := h7.new mm
            have O8 := O7.new mm
            have N8 := N7.trans mm
            have L8 := hl.new N8
            clear B7 h7 O7 N7 m8 mm
            obtain ⟨y0, y1, y2, y3⟩ := By.get
            obtain ⟨x0, x1, x2, x3⟩ := B8.get
            go_wp2_with fail
            have B9 := B8.put (.int .i64 (many : Int)) (.slice p7 l7 cp7)
            have h9 := h8.put (b := bx) (by omega) (by omega) (.int .i64 (many : Int)) (.slice p7 l7 cp7)
            have O9 := O8.put (.int .i64 (many : Int)) (.slice p7 l7 cp7)
            have N9 := N8.put bx (by omega) (.int .i64 (many : Int)) (.slice p7 l7 cp7)
            clear B8 h8 O8 N8 By y0 y1 y2 y3 x0 x1 x2 x3 L8
            generalize (W8.setCell ⟨bx, 0, none⟩ (.int .i64 (many : Int))).setCell ⟨bx, 1, none⟩ (.slice p7 l7 cp7) = W9 at *
            have hS2 : Same (rs) (L) := hS
            have hlen2 : (rs).length = many := HLN.out
            have hle2 : ∀ m, (rs).getD m 0 ≤ ((j + 1 : Nat) : Int) := fun m => by have := HLE.out m; omega
            have hLl2 : (L).length ≤ j + 1 := by omega
            have hE := hS2 nn
            generalize (rs) = rs2 at *
            generalize (L) = L2 at *
            have HS2 := Lib.hid hS2
            have HLE2 := Lib.hid hle2
            have HLN2 := Lib.hid hlen2
            clear hS2 hle2 hlen2
            have X1 := fun W k => refs_any nn W (h9.new (w' := W) k)
            have X2 := fun W k => rrefs_n many nn (.slice p7 l7 cp7) L2 W (O9.ints.new (w' := W) k) (by omega)
            simp only [hE] at X2
            clear hE
            obtain ⟨x0, x1, x2, x3⟩ := B9.get
            have hbx := B9.lt
            generalize rfs rs2 nn = zz at *
            go_region_held3 (fun w' => w'.cell? ⟨bx, 0, none⟩ = some (.int .i64 (many : Int)) ∧ w'.cell? ⟨bx, 1, none⟩ = some (.slice p7 l7 cp7))
              (first | go_keep | (refine ⟨?_, ?_⟩ <;> (rw [hnx.cell (by simp; omega)]; first | assumption | simpa using x0 | simpa using x1)))
              (first
                | (go_at_call 10; (with_reducible refine (X1 _ (by first | exact New.refl _ | exact (New.refl _).drew | exact (New.refl _).drewN _ | exact (New.refl _).trans hnx | exact ((New.refl _).drew).trans hnx)).mono ?_); rintro e wz ⟨rfl, rfl⟩)
                | (go_at_call 18; (with_reducible refine (X2 _ (by first | exact New.refl _ | exact (New.refl _).drew | exact (New.refl _).drewN _)).mono ?_); rintro e wy ⟨rfl, hnx⟩))
            have NX := ((New.refl W9).drew).trans hnx
            clear X1 X2
            go_wp2_with fail
            go_roundg (len1 - (j + 1))
            case measure => have := J.out; omega
            case rel => exact ⟨j + 1, rs2, L2, p7, l7, cp7, by have := J.out; omega, by go_num, HLN2.out, by omega, HLE2.out, hLl2, HS2.out, h9.new NX, B9.new NX, O9.new NX, N9.trans NX⟩
          · refine (did_alloc i hF hi hnf hz).mono ?_
            rintro e W6 ⟨rfl, h6, f6⟩
            have B6 := hB.far f6 (by omega)
            have O6 := hO.keep f6 (by omega)
            have N6 := f6.new hN hsz
            have hbw := B6.lt
            clear hF hB hO hN f6
            obtain ⟨x0, x1, x2, x3⟩ := B6.get
            go_wp2_with fail
            have hi2 : i < many := by rw [← HLN.out]; exact hi
            have q0 : ∀ m : Nat, m < i → cn L (m : Int) ≠ 0 := fun m hm => by rw [hS, rfs_in rs m (by omega)]; exact hnf m hm
            have q1 : cn L (i : Int) = 0 := by rw [hS, rfs_in rs i hi]; exact hz
            refine (ralloc_h many _ L i (bx + 1) W6 O6 (by omega) (by omega) (by omega) (by omega) q0 q1).mono ?_
            rintro e W7 ⟨v7, he, O7, m7⟩
            obtain ⟨p7, l7, cp7, rfl⟩ := O7.shape
            obtain rfl : e = .returned (.tuple #[.agg #[.int .i64 (many : Int), .slice p7 l7 cp7], .int .i64 (i : Int), .int .i64 0]) := he
            have B7 := B6.new m7
            have h7 := h6.new m7
            have N7 := N6.trans m7
            clear B6 h6 O6 N6 m7 x0 x1 x2 x3
            go_wp2_with fail
            refine (num_nil _).mono ?_
            rintro e W8 ⟨rfl, m8⟩
            have mm : New W7 W8 := by first | exact ((New.refl W7).alloc _ _).trans m8 | exact (New.made W7 _ _ _ _).trans m8
            have By : Bx W8 W7.heap.size (.int .i64 (many : Int)) (.slice p7 l7 cp7) := by first | exact Bx.new (heap_alloc_new W7 _) m8 | exact (Bx.made W7 _ _ _ _).new m8
            have B8 := B7.new mm
            have h8 := h7.new mm
            have O8 := O7.new mm
            have N8 := N7.trans mm
            have L8 := hl.new N8
            clear B7 h7 O7 N7 m8 mm
            obtain ⟨y0, y1, y2, y3⟩ := By.get
            obtain ⟨x0, x1, x2, x3⟩ := B8.get
            go_wp2_with fail
            have B9 := B8.put (.int .i64 (many : Int)) (.slice p7 l7 cp7)
            have h9 := h8.put (b := bx) (by omega) (by omega) (.int .i64 (many : Int)) (.slice p7 l7 cp7)
            have O9 := O8.put (.int .i64 (many : Int)) (.slice p7 l7 cp7)
            have N9 := N8.put bx (by omega) (.int .i64 (many : Int)) (.slice p7 l7 cp7)
            clear B8 h8 O8 N8 By y0 y1 y2 y3 x0 x1 x2 x3 L8
            generalize (W8.setCell ⟨bx, 0, none⟩ (.int .i64 (many : Int))).setCell ⟨bx, 1, none⟩ (.slice p7 l7 cp7) = W9 at *
            have hS2 : Same (rs.set i 1) (L ++ [(i : Int)]) := hS.take i hi 1 (by rw [rfs_in rs i hi, hz]; rfl)
            have hlen2 : (rs.set i 1).length = many := by rw [List.length_set, HLN.out]
            have hle2 : ∀ m, (rs.set i 1).getD m 0 ≤ ((j + 1 : Nat) : Int) := set_le (j := i) HLE.out i 1 (by omega)
            have hLl2 : (L ++ [(i : Int)]).length ≤ j + 1 := by rw [List.length_append]; simp; omega
            have hE := hS2 nn
            generalize (rs.set i 1) = rs2 at *
            generalize (L ++ [(i : Int)]) = L2 at *
            have HS2 := Lib.hid hS2
            have HLE2 := Lib.hid hle2
            have HLN2 := Lib.hid hlen2
            clear hS2 hle2 hlen2
            have X1 := fun W k => refs_any nn W (h9.new (w' := W) k)
            have X2 := fun W k => rrefs_n many nn (.slice p7 l7 cp7) L2 W (O9.ints.new (w' := W) k) (by omega)
            simp only [hE] at X2
            clear hE
            obtain ⟨x0, x1, x2, x3⟩ := B9.get
            have hbx := B9.lt
            generalize rfs rs2 nn = zz at *
            go_region_held3 (fun w' => w'.cell? ⟨bx, 0, none⟩ = some (.int .i64 (many : Int)) ∧ w'.cell? ⟨bx, 1, none⟩ = some (.slice p7 l7 cp7))
              (first | go_keep | (refine ⟨?_, ?_⟩ <;> (rw [hnx.cell (by simp; omega)]; first | assumption | simpa using x0 | simpa using x1)))
              (first
                | (go_at_call 10; (with_reducible refine (X1 _ (by first | exact New.refl _ | exact (New.refl _).drew | exact (New.refl _).drewN _ | exact (New.refl _).trans hnx | exact ((New.refl _).drew).trans hnx)).mono ?_); rintro e wz ⟨rfl, rfl⟩)
                | (go_at_call 18; (with_reducible refine (X2 _ (by first | exact New.refl _ | exact (New.refl _).drew | exact (New.refl _).drewN _)).mono ?_); rintro e wy ⟨rfl, hnx⟩))
            have NX := ((New.refl W9).drew).trans hnx
            clear X1 X2
            go_wp2_with fail
            go_roundg (len1 - (j + 1))
            case measure => have := J.out; omega
            case rel => exact ⟨j + 1, rs2, L2, p7, l7, cp7, by have := J.out; omega, by go_num, HLN2.out, by omega, HLE2.out, hLl2, HS2.out, h9.new NX, B9.new NX, O9.new NX, N9.trans NX⟩
        · have t1 : decide ((q : Int) < 2) = false := by simp; omega
          by_cases q3 : q = 2
          · subst q3
            obtain ⟨x0, x1, x2, x3⟩ := hB.get
            have hbw := hB.lt
            go_wp2_with fail
            clear eq hk hn
            by_cases z : rfs rs nn = 0
            · have cz : cn L nn = 0 := by rw [hS]; exact z
              refine (rref_no many nn _ L (bx + 1) wr hO (by omega) cz).mono ?_
              rintro e W7 ⟨v7, he, O7, m7⟩
              obtain ⟨p7, l7, cp7, rfl⟩ := O7.shape
              obtain rfl : e = .returned (.tuple #[.agg #[.int .i64 (many : Int), .slice p7 l7 cp7], .int .i64 22]) := he
              have B7 := hB.new m7
              have h7 := hF.new m7
              have N7 := hN.trans m7
              have hbw7 := B7.lt
              clear hB hF hO hN m7 x0 x1 x2 x3
              go_wp2_with fail
              refine (did_ref_no nn (h7.new (by first | exact (New.refl W7).alloc _ _ | exact New.made W7 _ _ _ _)) (Or.inl z)).mono ?_
              rintro e Wa ⟨rfl, ha, fa⟩
              have Na := Far.new fa (N7.trans (by first | exact (New.refl W7).alloc _ _ | exact New.made W7 _ _ _ _)) hsz
              have Ba := Bx.far (B7.new (by first | exact (New.refl W7).alloc _ _ | exact New.made W7 _ _ _ _)) fa (by omega)
              have Oa := Own.keep (O7.new (by first | exact (New.refl W7).alloc _ _ | exact New.made W7 _ _ _ _)) fa (by omega)
              have Ya := Bx.far (b := W7.heap.size) (x := .int .i64 (many : Int)) (y := .slice p7 l7 cp7) (by first | exact heap_alloc_new W7 _ | exact Bx.made W7 _ _ _ _) fa (by omega)
              clear h7 B7 O7 N7 fa
              go_wp2_with fail
              refine (num_err 22 _ (hl.new Na)).mono ?_
              rintro e W8 ⟨rfl, m8⟩
              have By := Ya.new m8
              have B8 := Ba.new m8
              have h8 := ha.new m8
              have O8 := Oa.new m8
              have N8 := Na.trans m8
              have L8 := hl.new N8
              clear Na Ba Oa Ya ha m8
              obtain ⟨y0, y1, y2, y3⟩ := By.get
              obtain ⟨x0, x1, x2, x3⟩ := B8.get
              go_wp2_with fail
              have B9 := B8.put (.int .i64 (many : Int)) (.slice p7 l7 cp7)
              have h9 := h8.put (b := bx) (by omega) (by omega) (.int .i64 (many : Int)) (.slice p7 l7 cp7)
              have O9 := O8.put (.int .i64 (many : Int)) (.slice p7 l7 cp7)
              have N9 := N8.put bx (by omega) (.int .i64 (many : Int)) (.slice p7 l7 cp7)
              clear B8 h8 O8 N8 By y0 y1 y2 y3 x0 x1 x2 x3 L8
              generalize (W8.setCell ⟨bx, 0, none⟩ (.int .i64 (many : Int))).setCell ⟨bx, 1, none⟩ (.slice p7 l7 cp7) = W9 at *
              have hS2 : Same (rs) (L) := hS
              have hlen2 : (rs).length = many := HLN.out
              have hle2 : ∀ m, (rs).getD m 0 ≤ ((j + 1 : Nat) : Int) := fun m => by have := HLE.out m; omega
              have hLl2 : (L).length ≤ j + 1 := by omega
              have hE := hS2 nn
              generalize (rs) = rs2 at *
              generalize (L) = L2 at *
              have HS2 := Lib.hid hS2
              have HLE2 := Lib.hid hle2
              have HLN2 := Lib.hid hlen2
              clear hS2 hle2 hlen2
              have X1 := fun W k => refs_any nn W (h9.new (w' := W) k)
              have X2 := fun W k => rrefs_n many nn (.slice p7 l7 cp7) L2 W (O9.ints.new (w' := W) k) (by omega)
              simp only [hE] at X2
              clear hE
              obtain ⟨x0, x1, x2, x3⟩ := B9.get
              have hbx := B9.lt
              generalize rfs rs2 nn = zz at *
              go_region_held3 (fun w' => w'.cell? ⟨bx, 0, none⟩ = some (.int .i64 (many : Int)) ∧ w'.cell? ⟨bx, 1, none⟩ = some (.slice p7 l7 cp7))
                (first | go_keep | (refine ⟨?_, ?_⟩ <;> (rw [hnx.cell (by simp; omega)]; first | assumption | simpa using x0 | simpa using x1)))
                (first
                  | (go_at_call 10; (with_reducible refine (X1 _ (by first | exact New.refl _ | exact (New.refl _).drew | exact (New.refl _).drewN _ | exact (New.refl _).trans hnx | exact ((New.refl _).drew).trans hnx)).mono ?_); rintro e wz ⟨rfl, rfl⟩)
                  | (go_at_call 18; (with_reducible refine (X2 _ (by first | exact New.refl _ | exact (New.refl _).drew | exact (New.refl _).drewN _)).mono ?_); rintro e wy ⟨rfl, hnx⟩))
              have NX := ((New.refl W9).drew).trans hnx
              clear X1 X2
              go_wp2_with fail
              go_roundg (len1 - (j + 1))
              case measure => have := J.out; omega
              case rel => exact ⟨j + 1, rs2, L2, p7, l7, cp7, by have := J.out; omega, by go_num, HLN2.out, by omega, HLE2.out, hLl2, HS2.out, h9.new NX, B9.new NX, O9.new NX, N9.trans NX⟩
            · obtain ⟨jj, rfl, hjj, hg⟩ := rfs_pos z
              have cz : cn L (jj : Int) ≠ 0 := by rw [hS]; exact z
              have gb := hF.1.2.2 jj
              have gl := HLE.out jj
              have gz : rs.getD jj 0 ≠ 0 := by rw [hg]; exact z
              refine (rref_yes many jj _ L (bx + 1) wr hO (by omega) (by omega) cz).mono ?_
              rintro e W7 ⟨v7, he, O7, m7⟩
              obtain ⟨p7, l7, cp7, rfl⟩ := O7.shape
              obtain rfl : e = .returned (.tuple #[.agg #[.int .i64 (many : Int), .slice p7 l7 cp7], .int .i64 0]) := he
              have B7 := hB.new m7
              have h7 := hF.new m7
              have N7 := hN.trans m7
              have hbw7 := B7.lt
              clear hB hF hO hN m7 x0 x1 x2 x3
              go_wp2_with fail
              refine (did_ref jj (h7.new (by first | exact (New.refl W7).alloc _ _ | exact New.made W7 _ _ _ _)) hjj (by omega) (by omega)).mono ?_
              rintro e Wa ⟨rfl, ha, fa⟩
              have Na := Far.new fa (N7.trans (by first | exact (New.refl W7).alloc _ _ | exact New.made W7 _ _ _ _)) hsz
              have Ba := Bx.far (B7.new (by first | exact (New.refl W7).alloc _ _ | exact New.made W7 _ _ _ _)) fa (by omega)
              have Oa := Own.keep (O7.new (by first | exact (New.refl W7).alloc _ _ | exact New.made W7 _ _ _ _)) fa (by omega)
              have Ya := Bx.far (b := W7.heap.size) (x := .int .i64 (many : Int)) (y := .slice p7 l7 cp7) (by first | exact heap_alloc_new W7 _ | exact Bx.made W7 _ _ _ _) fa (by omega)
              clear h7 B7 O7 N7 fa
              go_wp2_with fail
              refine (num_nil _).mono ?_
              rintro e W8 ⟨rfl, m8⟩
              have By := Ya.new m8
              have B8 := Ba.new m8
              have h8 := ha.new m8
              have O8 := Oa.new m8
              have N8 := Na.trans m8
              have L8 := hl.new N8
              clear Na Ba Oa Ya ha m8
              obtain ⟨y0, y1, y2, y3⟩ := By.get
              obtain ⟨x0, x1, x2, x3⟩ := B8.get
              go_wp2_with fail
              have B9 := B8.put (.int .i64 (many : Int)) (.slice p7 l7 cp7)
              have h9 := h8.put (b := bx) (by omega) (by omega) (.int .i64 (many : Int)) (.slice p7 l7 cp7)
              have O9 := O8.put (.int .i64 (many : Int)) (.slice p7 l7 cp7)
              have N9 := N8.put bx (by omega) (.int .i64 (many : Int)) (.slice p7 l7 cp7)
              clear B8 h8 O8 N8 By y0 y1 y2 y3 x0 x1 x2 x3 L8
              generalize (W8.setCell ⟨bx, 0, none⟩ (.int .i64 (many : Int))).setCell ⟨bx, 1, none⟩ (.slice p7 l7 cp7) = W9 at *
              have hS2 : Same (rs.set jj (rs.getD jj 0 + 1)) (L ++ [(jj : Int)]) := hS.take jj hjj _ (by rw [rfs_in rs jj hjj])
              have hlen2 : (rs.set jj (rs.getD jj 0 + 1)).length = many := by rw [List.length_set, HLN.out]
              have hle2 : ∀ m, (rs.set jj (rs.getD jj 0 + 1)).getD m 0 ≤ ((j + 1 : Nat) : Int) := set_le (j := jj) HLE.out jj _ (by omega)
              have hLl2 : (L ++ [(jj : Int)]).length ≤ j + 1 := by rw [List.length_append]; simp; omega
              have hE := hS2 jj
              generalize (rs.set jj (rs.getD jj 0 + 1)) = rs2 at *
              generalize (L ++ [(jj : Int)]) = L2 at *
              have HS2 := Lib.hid hS2
              have HLE2 := Lib.hid hle2
              have HLN2 := Lib.hid hlen2
              clear hS2 hle2 hlen2
              have X1 := fun W k => refs_any jj W (h9.new (w' := W) k)
              have X2 := fun W k => rrefs_n many jj (.slice p7 l7 cp7) L2 W (O9.ints.new (w' := W) k) (by omega)
              simp only [hE] at X2
              clear hE
              obtain ⟨x0, x1, x2, x3⟩ := B9.get
              have hbx := B9.lt
              generalize rfs rs2 (jj : Int) = zz at *
              go_region_held3 (fun w' => w'.cell? ⟨bx, 0, none⟩ = some (.int .i64 (many : Int)) ∧ w'.cell? ⟨bx, 1, none⟩ = some (.slice p7 l7 cp7))
                (first | go_keep | (refine ⟨?_, ?_⟩ <;> (rw [hnx.cell (by simp; omega)]; first | assumption | simpa using x0 | simpa using x1)))
                (first
                  | (go_at_call 10; (with_reducible refine (X1 _ (by first | exact New.refl _ | exact (New.refl _).drew | exact (New.refl _).drewN _ | exact (New.refl _).trans hnx | exact ((New.refl _).drew).trans hnx)).mono ?_); rintro e wz ⟨rfl, rfl⟩)
                  | (go_at_call 18; (with_reducible refine (X2 _ (by first | exact New.refl _ | exact (New.refl _).drew | exact (New.refl _).drewN _)).mono ?_); rintro e wy ⟨rfl, hnx⟩))
              have NX := ((New.refl W9).drew).trans hnx
              clear X1 X2
              go_wp2_with fail
              go_roundg (len1 - (j + 1))
              case measure => have := J.out; omega
              case rel => exact ⟨j + 1, rs2, L2, p7, l7, cp7, by have := J.out; omega, by go_num, HLN2.out, by omega, HLE2.out, hLl2, HS2.out, h9.new NX, B9.new NX, O9.new NX, N9.trans NX⟩
          · obtain rfl : q = 3 := by omega
            go_wp2_with fail
            clear eq hk hn
            by_cases z : rfs rs nn = 0
            · have cz : cn L nn = 0 := by rw [hS]; exact z
              refine (did_unref_no nn hF z).mono ?_
              rintro e W6 ⟨rfl, h6, f6⟩
              have B6 := hB.far f6 (by omega)
              have O6 := hO.keep f6 (by omega)
              have N6 := f6.new hN hsz
              have hbw := B6.lt
              clear hF hB hO hN f6
              obtain ⟨x0, x1, x2, x3⟩ := B6.get
              go_wp2_with fail
              refine (runref_none many nn _ L (bx + 1) W6 O6 (by omega) (none_at cz)).mono ?_
              rintro e W7 ⟨v7, he, O7, m7⟩
              obtain ⟨p7, l7, cp7, rfl⟩ := O7.shape
              obtain rfl : e = .returned (.tuple #[.agg #[.int .i64 (many : Int), .slice p7 l7 cp7], .bool false, .int .i64 22]) := he
              have B7 := B6.new m7
              have h7 := h6.new m7
              have N7 := N6.trans m7
              clear B6 h6 O6 N6 m7 x0 x1 x2 x3
              go_wp2_with fail
              refine (num_err 22 _ (hl.new (by first | exact N7.alloc _ _ | exact N7.trans (New.made W7 _ _ _ _)))).mono ?_
              rintro e W8 ⟨rfl, m8⟩
              have mm : New W7 W8 := by first | exact ((New.refl W7).alloc _ _).trans m8 | exact (New.made W7 _ _ _ _).trans m8
              have By : Bx W8 W7.heap.size (.int .i64 (many : Int)) (.slice p7 l7 cp7) := by first | exact Bx.new (heap_alloc_new W7 _) m8 | exact (Bx.made W7 _ _ _ _).new m8
              have B8 := B7.new mm
              have h8 := h7.new mm
              have O8 := O7.new mm
              have N8 := N7.trans mm
              have L8 := hl.new N8
              clear B7 h7 O7 N7 m8 mm
              obtain ⟨y0, y1, y2, y3⟩ := By.get
              obtain ⟨x0, x1, x2, x3⟩ := B8.get
              go_wp2_with fail
              have B9 := B8.put (.int .i64 (many : Int)) (.slice p7 l7 cp7)
              have h9 := h8.put (b := bx) (by omega) (by omega) (.int .i64 (many : Int)) (.slice p7 l7 cp7)
              have O9 := O8.put (.int .i64 (many : Int)) (.slice p7 l7 cp7)
              have N9 := N8.put bx (by omega) (.int .i64 (many : Int)) (.slice p7 l7 cp7)
              clear B8 h8 O8 N8 By y0 y1 y2 y3 x0 x1 x2 x3 L8
              generalize (W8.setCell ⟨bx, 0, none⟩ (.int .i64 (many : Int))).setCell ⟨bx, 1, none⟩ (.slice p7 l7 cp7) = W9 at *
              have hS2 : Same (rs) (L) := hS
              have hlen2 : (rs).length = many := HLN.out
              have hle2 : ∀ m, (rs).getD m 0 ≤ ((j + 1 : Nat) : Int) := fun m => by have := HLE.out m; omega
              have hLl2 : (L).length ≤ j + 1 := by omega
              have hE := hS2 nn
              generalize (rs) = rs2 at *
              generalize (L) = L2 at *
              have HS2 := Lib.hid hS2
              have HLE2 := Lib.hid hle2
              have HLN2 := Lib.hid hlen2
              clear hS2 hle2 hlen2
              have X1 := fun W k => refs_any nn W (h9.new (w' := W) k)
              have X2 := fun W k => rrefs_n many nn (.slice p7 l7 cp7) L2 W (O9.ints.new (w' := W) k) (by omega)
              simp only [hE] at X2
              clear hE
              obtain ⟨x0, x1, x2, x3⟩ := B9.get
              have hbx := B9.lt
              generalize rfs rs2 nn = zz at *
              go_region_held3 (fun w' => w'.cell? ⟨bx, 0, none⟩ = some (.int .i64 (many : Int)) ∧ w'.cell? ⟨bx, 1, none⟩ = some (.slice p7 l7 cp7))
                (first | go_keep | (refine ⟨?_, ?_⟩ <;> (rw [hnx.cell (by simp; omega)]; first | assumption | simpa using x0 | simpa using x1)))
                (first
                  | (go_at_call 10; (with_reducible refine (X1 _ (by first | exact New.refl _ | exact (New.refl _).drew | exact (New.refl _).drewN _ | exact (New.refl _).trans hnx | exact ((New.refl _).drew).trans hnx)).mono ?_); rintro e wz ⟨rfl, rfl⟩)
                  | (go_at_call 18; (with_reducible refine (X2 _ (by first | exact New.refl _ | exact (New.refl _).drew | exact (New.refl _).drewN _)).mono ?_); rintro e wy ⟨rfl, hnx⟩))
              have NX := ((New.refl W9).drew).trans hnx
              clear X1 X2
              go_wp2_with fail
              go_roundg (len1 - (j + 1))
              case measure => have := J.out; omega
              case rel => exact ⟨j + 1, rs2, L2, p7, l7, cp7, by have := J.out; omega, by go_num, HLN2.out, by omega, HLE2.out, hLl2, HS2.out, h9.new NX, B9.new NX, O9.new NX, N9.trans NX⟩
            · obtain ⟨jj, rfl, hjj, hg⟩ := rfs_pos z
              have gb := hF.1.2.2 jj
              have gl := HLE.out jj
              have gz : rs.getD jj 0 ≠ 0 := by rw [hg]; exact z
              have gc : cn L (jj : Int) = rs.getD jj 0 := by rw [hS, hg]
              obtain ⟨k, hk1, hk2, hk3⟩ := first_at (l := L) (n := (jj : Int)) (by omega)
              have T := did_unref jj hF hjj (by omega)
              have R := fun W (O : Own (bx + 1) W (.slice p ll cp) L) (hw : bx + 1 ≤ W.heap.size) => runref_hit many jj (.slice p ll cp) L k (bx + 1) W O hw (by omega) hk1 hk2 hk3
              have hbb : (cn (L.take k ++ L.drop (k + 1)) (jj : Int) == 0) = (rs.getD jj 0 == 1) := by
                rw [cn_cut L k _ hk1, hk3, if_pos rfl, gc, Bool.eq_iff_iff]; simp; omega
              rw [hbb] at R
              clear hbb
              have hS1 := hS.give jj hjj (rs.getD jj 0 - 1) (by rw [rfs_in rs jj hjj]) k hk1 hk3
              have hc1 := cut_len L k hk1
              generalize (rs.getD jj 0 == 1) = bb at *
              have GB := Lib.hid gb
              have GL := Lib.hid gl
              clear gb gl gz gc hk1 hk2 hk3
              refine T.mono ?_
              rintro e W6 ⟨rfl, h6, f6⟩
              have B6 := hB.far f6 (by omega)
              have O6 := hO.keep f6 (by omega)
              have N6 := f6.new hN hsz
              have hbw := B6.lt
              clear hF hB hO hN f6 T
              obtain ⟨x0, x1, x2, x3⟩ := B6.get
              go_wp2_with fail
              refine (R W6 O6 (by omega)).mono ?_
              rintro e W7 ⟨v7, he, O7, m7⟩
              obtain ⟨p7, l7, cp7, rfl⟩ := O7.shape
              obtain rfl : e = .returned (.tuple #[.agg #[.int .i64 (many : Int), .slice p7 l7 cp7], .bool bb, .int .i64 0]) := he
              have B7 := B6.new m7
              have h7 := h6.new m7
              have N7 := N6.trans m7
              clear R B6 h6 O6 N6 m7 x0 x1 x2 x3
              go_wp2_with fail
              refine (num_nil _).mono ?_
              rintro e W8 ⟨rfl, m8⟩
              have mm : New W7 W8 := by first | exact ((New.refl W7).alloc _ _).trans m8 | exact (New.made W7 _ _ _ _).trans m8
              have By : Bx W8 W7.heap.size (.int .i64 (many : Int)) (.slice p7 l7 cp7) := by first | exact Bx.new (heap_alloc_new W7 _) m8 | exact (Bx.made W7 _ _ _ _).new m8
              have B8 := B7.new mm
              have h8 := h7.new mm
              have O8 := O7.new mm
              have N8 := N7.trans mm
              have L8 := hl.new N8
              clear B7 h7 O7 N7 m8 mm
              obtain ⟨y0, y1, y2, y3⟩ := By.get
              obtain ⟨x0, x1, x2, x3⟩ := B8.get
              go_wp2_with fail
              have B9 := B8.put (.int .i64 (many : Int)) (.slice p7 l7 cp7)
              have h9 := h8.put (b := bx) (by omega) (by omega) (.int .i64 (many : Int)) (.slice p7 l7 cp7)
              have O9 := O8.put (.int .i64 (many : Int)) (.slice p7 l7 cp7)
              have N9 := N8.put bx (by omega) (.int .i64 (many : Int)) (.slice p7 l7 cp7)
              clear B8 h8 O8 N8 By y0 y1 y2 y3 x0 x1 x2 x3 L8
              generalize (W8.setCell ⟨bx, 0, none⟩ (.int .i64 (many : Int))).setCell ⟨bx, 1, none⟩ (.slice p7 l7 cp7) = W9 at *
              have hS2 : Same (rs.set jj (rs.getD jj 0 - 1)) (L.take k ++ L.drop (k + 1)) := hS1
              have hlen2 : (rs.set jj (rs.getD jj 0 - 1)).length = many := by rw [List.length_set, HLN.out]
              have hle2 : ∀ m, (rs.set jj (rs.getD jj 0 - 1)).getD m 0 ≤ ((j + 1 : Nat) : Int) := set_le (j := jj) HLE.out jj _ (by have := GL.out; omega)
              have hLl2 : (L.take k ++ L.drop (k + 1)).length ≤ j + 1 := by omega
              have hE := hS2 jj
              generalize (rs.set jj (rs.getD jj 0 - 1)) = rs2 at *
              generalize (L.take k ++ L.drop (k + 1)) = L2 at *
              have HS2 := Lib.hid hS2
              have HLE2 := Lib.hid hle2
              have HLN2 := Lib.hid hlen2
              clear hS2 hle2 hlen2
              have X1 := fun W k => refs_any jj W (h9.new (w' := W) k)
              have X2 := fun W k => rrefs_n many jj (.slice p7 l7 cp7) L2 W (O9.ints.new (w' := W) k) (by omega)
              simp only [hE] at X2
              clear hE
              obtain ⟨x0, x1, x2, x3⟩ := B9.get
              have hbx := B9.lt
              generalize rfs rs2 (jj : Int) = zz at *
              go_region_held3 (fun w' => w'.cell? ⟨bx, 0, none⟩ = some (.int .i64 (many : Int)) ∧ w'.cell? ⟨bx, 1, none⟩ = some (.slice p7 l7 cp7))
                (first | go_keep | (refine ⟨?_, ?_⟩ <;> (rw [hnx.cell (by simp; omega)]; first | assumption | simpa using x0 | simpa using x1)))
                (first
                  | (go_at_call 10; (with_reducible refine (X1 _ (by first | exact New.refl _ | exact (New.refl _).drew | exact (New.refl _).drewN _ | exact (New.refl _).trans hnx | exact ((New.refl _).drew).trans hnx)).mono ?_); rintro e wz ⟨rfl, rfl⟩)
                  | (go_at_call 18; (with_reducible refine (X2 _ (by first | exact New.refl _ | exact (New.refl _).drew | exact (New.refl _).drewN _)).mono ?_); rintro e wy ⟨rfl, hnx⟩))
              have NX := ((New.refl W9).drew).trans hnx
              clear X1 X2
              go_wp2_with fail
              go_roundg (len1 - (j + 1))
              case measure => have := J.out; omega
              case rel => exact ⟨j + 1, rs2, L2, p7, l7, cp7, by have := J.out; omega, by go_num, HLN2.out, by omega, HLE2.out, hLl2, HS2.out, h9.new NX, B9.new NX, O9.new NX, N9.trans NX⟩
      · have hjl : len1 ≤ j ∨ (30 : Int) ≤ (j : Int) := by omega
        have TK := hS.taken many (by rw [HLN.out]; exact Nat.le_refl _)
        have X2 := fun W k => rtaken_any many (.slice p ll cp) L W (hO.ints.new (w' := W) k) (by omega) g2
        have X1 := fun W k => taken_any W (hF.new (w' := W) k)
        have X3 := fun W k => free_any W (hF.new (w' := W) k)
        rw [TK] at X2
        rw [HLN.out] at X1 X3
        have tl := tk_len rs many
        generalize tk rs many = T at *
        clear TK c
        obtain ⟨x0, x1, x2, x3⟩ := hB.get
        have go : (decide (j < len1) = false ∧ decide ((j : Int) < (len1 : Int)) = false) ∨ (decide (j < len1) = true ∧ decide ((j : Int) < 30) = false) := by
          by_cases c : j < len1
          · exact .inr ⟨by simp; omega, by simp; omega⟩
          · exact .inl ⟨by simp; omega, by simp; omega⟩
        rcases go with ⟨d3, d4⟩ | ⟨d3, d4⟩
        all_goals
          go_wp2_with fail
          refine (X2 _ (New.refl _)).mono ?_
          rintro e W6 ⟨va, rfl, Oa, m6⟩
          go_wp2_with fail
          refine (X1 _ m6).mono ?_
          rintro e W7 ⟨vb, rfl, Ob, m7⟩
          go_wp2_with fail
          have Ia := Oa.ints.new m7
          have Ib := Ob.ints
          obtain ⟨pa, ca, rfl⟩ := Ia.len
          refine (ints_same _ _ T W7 Ib Ia (by omega)).mono ?_
          rintro e W8 ⟨rfl, m8⟩
          go_wp2_with fail
          refine (X3 _ ((m6.trans m7).trans m8)).mono ?_
          rintro e W9 ⟨rfl, m9⟩
          have N9 := hN.trans (((m6.trans m7).trans m8).trans m9)
          go_wp2_with fail
          refine (sure_any _ (hl.new N9)).mono ?_
          rintro e Wz ⟨rfl, nz⟩
          go_wp2_with fail
          go_ret
          exact ⟨rfl, N9.trans nz⟩

/-! ### THE ROW's STEP: WRITTEN OUT: LEAVE IT -/
theorem door_met (os : Os) (args : Array Value) : laidMetH Tryd.prog Rows.framesRunRow.laid ((World.doorLaid Tryd.prog 400 os).forCall (fun _ _ => 0) ⟨#[], args, []⟩).memory :=
  laidMetH_of_parts3 (fuel := 8) (laidMet_of_run' 8 (by kernel_rfl) (by kernel_rfl)) (by kernel_rfl) (by kernel_rfl)
set_option maxRecDepth 100000 in
theorem lifted (os : Os) (started : os.Started) (H : Type) (enc : TypeId × Value → H) :
    ReturnsInHanded {} Tryd.checked os 3 .any (fun w args => (Rows.framesRunSpec.pre enc Tryd.prog Tryd.f3 [] false w args ∧ laidMetH Tryd.prog Rows.framesRunRow.laid w) ∧ sizedMet enc Tryd.prog Tryd.f3 (OpenSpec.ofChange Rows.framesRunSpec) false w args) (Rows.framesRunSpec.post enc Tryd.prog Tryd.f3 false true false false) := by
  refine returnsInHanded_of_change_and (C := Tryd.checked) (X := fun w _ => laidMetH Tryd.prog Rows.framesRunRow.laid w) (fun _ _ _ hh h => h.of_heap hh) own started (by kernel_rfl) Tryd.func3
    (ChangeSpec.witness_shaped (enc := enc) (C := Tryd.checked) (os := os) (X := fun w _ => laidMetH Tryd.prog Rows.framesRunRow.laid w) false (World.doorLaid Tryd.prog 400 os) #[.int .i64 0, .slice none 0 0] 8 rfl (World.shaped_of_RefB (by kernel_rfl) (by kernel_rfl)) (by kernel_rfl) (by kernel_rfl) (by kernel_rfl) (door_met os _)) ?_
  intro W base args ds gs before hval0 hW _ _ hL _
  have hL' : laidMet Tryd.prog [] W ∧ handlesMet Tryd.prog [("errors.errorType", Rows.laid_errors_errorType)] W := hL
  have hval : ∀ (j : Nat) t v, Tryd.f3.params[j]? = some t → args[j]? = some v → Value.okWide Tryd.prog W .any base t v := hval0
  have hW' := hW
  obtain ⟨p, q, hA0, hV, rfl, hfz, hnd⟩ := hW
  have hA : DataW.TrodAll enc Tryd.prog W 0 (fun _ => true) true Tryd.f3.params.toList args.toList ds p := hA0
  rw [Tryd.params3] at hA hval
  obtain ⟨v0, vs0, d0, ds0, p0, q0, hargs, rfl, rfl, h0, r0⟩ := trodAll_cons hA
  obtain ⟨v1, vs1, d1, ds1, p1, q1, rfl, rfl, rfl, h1, r1⟩ := trodAll_cons r0
  obtain ⟨rfl, rfl, rfl⟩ := trodAll_nil r1
  obtain rfl : args = #[v0, v1] := by cases args; simp_all
  obtain ⟨rfl, rfl⟩ := trodVars_none hV
  obtain ⟨a0, rfl, rfl, rfl, w0⟩ := open_int Tryd.underlying3 (hval 0 3 v0 rfl rfl) h0
  obtain ⟨a1, len1, cap1, rfl⟩ := okWide_slice Tryd.underlying22 (hval 1 22 v1 rfl rfl)
  have k1 := h1
  have lt1 : ∀ x ∈ p1, x.block < W.heap.size := by obtain ⟨m, hm⟩ := k1; exact DataW.trod_lt m _ _ _ hm
  have w1 : IntRows .i64 2 W a1 len1 := introws_of Tryd.underlying22 Tryd.underlying42 (by kernel_rfl) (by kernel_rfl) (fun i f hf => by
    rcases i with _| _| _
    · (simp at hf; subst hf; exact Tryd.underlying3)
    · (simp at hf; subst hf; exact Tryd.underlying3)
    · simp at hf) h1
  clear hA0 hval0
  refine (walk a0 a1 len1 cap1 W w0 w1 (handle_of_hs hL'.2)).mono fun e W' ⟨he, bel⟩ => ?_
  subst he
  exact ⟨_, rfl, _, _, _, [], _, [], hW', trodAll_mk1 (shut_bool Tryd.underlying4 _), (trodAll_cons_mk (shut_int Tryd.underlying3 w0) (trodAll_cons_mk (Below.trod laidOut (by kernel_rfl) (of_decide_eq_true (by kernel_rfl)) k1 bel lt1) trodAll_mk0)), rfl, bel.frame _, fun h => by cases h⟩

theorem over : Rows.framesRunRow.holds Tryd.pinned (OpenSpec.ofChange Rows.framesRunSpec) :=
  OpenClaim.holds_of_wide 3 Tryd.f3 rfl rfl rfl rfl rfl rfl rfl ⟨rfl, rfl, rfl, rfl, rfl⟩ rfl rfl rfl rfl rfl (by kernel_rfl) Tryd.func3 (by kernel_rfl)
    (of_decide_eq_true (by kernel_rfl)) (by unfold Func.isWrapper; first | (rw [if_pos (by decide +kernel)]; kernel_rfl) | (rw [if_neg (by decide +kernel)]; exact ⟨rfl, rfl⟩))
    (fun os started H enc _ => lifted os started H enc)

theorem proved : Rows.FramesRunSaid := over
theorem card : Rows.FramesRunCardSaid :=
  Claim7.holds_tied_plain_at .later [] [.handle] true (true, "100e4c7da3af498487f1a6da07000f463f7c05236fdfe56d7f6fa61c9d6e1efd") true
    over (fun _ h => by cases h) (by kernel_rfl) (fun _ h => by cases h) framesRun_row_tie rfl ⟨rfl, rfl⟩ (by kernel_rfl) rfl
    (fun f fn hf hfn => by
      obtain rfl : f = 3 := Option.some.inj ((show Tryd.prog.funcNamed "halter/halterlaw04.FramesRun" = some 3 by kernel_rfl).symm.trans hf) |>.symm
      obtain rfl : fn = Tryd.f3 := (Option.some.inj (Tryd.func3.symm.trans hfn)).symm
      exact ⟨by kernel_rfl, fun j t ht => by
        rw [Tryd.params3] at ht
        have hm : t ∈ [3, 22] := by have := Array.mem_of_getElem? ht; simpa using this
        have hall : ([3, 22].all fun u => !Tryd.prog.wantsStandIn u) = true := by kernel_rfl
        exact (show Tryd.prog.wantsStandIn t = false by simpa using List.all_eq_true.1 hall t hm)⟩)
    (by kernel_rfl)
#print axioms card
end Go.Proofs.YtonackipdjnjdaaDoor.framesRun
