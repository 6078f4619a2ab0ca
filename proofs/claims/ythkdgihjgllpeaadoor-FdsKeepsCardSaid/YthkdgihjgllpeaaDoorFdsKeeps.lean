/- What was put is at its number, which was the least that was free; all others stay; dropped it is no more; the statement holds for every input, where the listed variable holds what the library's own text lays, which the card ties. -/
import Derived.Test.YthkdgihjgllpeaaDoorRows
import Derived.Test.YthkdgihjgllpeaaDoorFdF
import Derived.Test.YthkdgihjgllpeaaDoorFlatTy
import Derived.Test.YthkdgihjgllpeaaDoorLay
import Derived.Deep.RegionHeld3
import Derived.Test.YthkdgihjgllpeaaDoorCards
import Derived.Test.YthkdgihjgllpeaaDoorTie
import Derived.LaidMore
import Derived.LaidLaws
import Derived.LaidHandle
import Derived.Test.YthkdgihjgllpeaaDoorLay
import Derived.Test.YthkdgihjgllpeaaDoorPost
import Derived.WalkKit
import Derived.ProofKit
import Derived.OpenShut
import Derived.ShutString
import Derived.ChangeOld
import Derived.Below
namespace Go.Proofs.YthkdgihjgllpeaaDoor.fdsKeeps
open Go.ChangeShapes Go.WideShapes Go.ChangeAt Go.RowKit
open Go.ChangeMaps (open_string shut_string)
set_option linter.unusedVariables false

theorem own : ownKnob Tryd.prog.godebug = none := by kernel_rfl
theorem laidOut : laidOutB Tryd.prog = true := by kernel_rfl

/-- WHAT THE WALK IS TOLD OF A SLICE OF INTEGERS THAT CAME IN: it is nil; or it leads to a row of 'cap' cells, the numbers 'zs' (the first 'len' are its elements, the rest its spare room), each fitting its kind. -/
def IsRow (k : IntKind) (w : World) (a : Option Addr) (len cap : Nat) (zs : List Int) : Prop :=
  (a = none ∧ len = 0 ∧ cap = 0 ∧ zs = []) ∨
  ∃ x, a = some x ∧ len ≤ cap ∧ cap ≤ maxLen ∧ zs.length = cap ∧ (∀ i, i < zs.length → w.cell? (x.add i) = some (.int k (zs.getD i 0))) ∧ ∀ n ∈ zs, (Lit.int k n).wf = true

/-! ### STEP 1: THE WALK: the Go text returns true, AND WRITES NOTHING THAT WAS THERE: 'Below w.heap.size w w'' (Derived/Below.lean: '.refl', '.alloc', '.drew', '.setCell' at a new block, '.trans'). Open each 'IsRow' by 'rcases' AHEAD of 'go_enter'; part every test ahead of the walk. -/
set_option maxHeartbeats 8000000 in
set_option maxRecDepth 100000 in
theorem walk (v0 : Value) (a1 : Int) (w : World) (w0 : Flat [some .i64, some .i64, some .i64, some .i64, some .i64, some .i64, some .i64, some .i64] v0) (w1 : (Lit.int .i64 a1).wf = true) (hl : Laid w) :
    Calls Tryd.prog 4 #[v0, .int .i64 a1] w fun e w' => e = .returned (.bool true) ∧ Below w.heap.size w w' := by
  obtain ⟨l0, hl8, rfl, -⟩ := flat_i8 w0
  obtain ⟨k, ek, hk8⟩ := cutm a1 32 (by omega) (by omega)
  have ek2 : IntKind.i64.wrap ((IntKind.u64.wrap a1).tmod 32) = (k : Int) := by rw [← ek, IntKind.wrap_i64]; simp only [wrap64]
  have EK := Lib.hid (And.intro ek ek2)
  have HK8 := Lib.hid hk8
  clear ek ek2 hk8
  clear w0 w1
  have CS := Lib.hid (fun W (q : New w W) => fdsure_any W (hl.new q))
  have CN := Lib.hid (fun W (q : New w W) (x : Int) => num_er x W (hl.new q))
  have BA : Box (w.alloc (.cells (i8 l0).toArray 22)) w.heap.size (i8 l0).toArray 22 := Box.here w _ _ _ rfl
  have nw : New w (w.alloc (.cells (i8 l0).toArray 22)) := (New.refl w).alloc _ _
  clear hl
  go_enter Tryd.func4, Tryd.ntmps4
  go_upto_region 1 with fail
  generalize w.alloc (.cells (i8 l0).toArray 22) = W at *
  have NW := Lib.hid nw
  have HB := Lib.hid BA
  clear BA nw
  go_wp2_with fail
  go_loopg [5] 8 (fun q i wr => ∃ (j : Nat) (L : List Int), j + q = 8 ∧ i = .int .i64 (j : Int) ∧ L.length = 8 ∧ (∀ i, i < j → 0 ≤ L.getD i 0 ∧ L.getD i 0 ≤ 32) ∧ Box wr w.heap.size (i8 L).toArray 22 ∧ New w wr)
  case atStart => exact ⟨0, l0, by omega, rfl, hl8, fun i h => absurd h (Nat.not_lt_zero _), HB.out, NW.out⟩
  case round =>
    obtain ⟨j, l, hj, rfl, h8, hok, hB, hn⟩ := hrel
    have J := Lib.hid hj
    have HO := Lib.hid hok
    have HB := Lib.hid hB
    have HN := Lib.hid hn
    by_cases c : j < 8
    · have hc := hB.c8 j (by omega)
      have fz := hB.unfrozen j
      have lb := hB.lt
      obtain ⟨x, hx⟩ : ∃ x, x = l.getD j 0 := ⟨_, rfl⟩
      rw [← hx] at hc
      obtain ⟨y, ey, hy⟩ := cutm x 33 (by omega) (by omega)
      have ey2 : IntKind.i64.wrap ((IntKind.u64.wrap x).tmod 33) = (y : Int) := by rw [← ey, IntKind.wrap_i64]; simp only [wrap64]
      have EY := Lib.hid (And.intro ey ey2)
      have HX : ∀ i, i < j + 1 → 0 ≤ (l.set j (y : Int)).getD i 0 ∧ (l.set j (y : Int)).getD i 0 ≤ 32 := fun i hi => by
        rw [fget_set _ _ _ _ (by omega)]
        split
        · omega
        · exact HO.out i (by omega)
      have HX := Lib.hid HX
      have H8 := Lib.hid h8
      have HY := Lib.hid hy
      clear hj hok hB hn hx ey ey2 h8 hy
      go_wp2_with fail
      simp only [EY.out.1]
      go_roundg (8 - (j + 1))
      case measure => have := J.out; omega
      case rel => exact ⟨j + 1, l.set j (y : Int), by have := J.out; omega, by go_num, by rw [List.length_set]; exact H8.out, HX.out, HB.out.s8 j (y : Int), HN.out.setCell (p := ⟨w.heap.size, j, none⟩) (Nat.le_refl _) _⟩
    · obtain rfl : j = 8 := by omega
      have hk : fdOk l = true := fdOk_iff.2 fun x hx => by
        obtain ⟨i, hi, rfl⟩ := List.getElem_of_mem hx
        have := hok i (by omega)
        rw [List.getD_eq_getElem?_getD, List.getElem?_eq_getElem hi] at this; exact this
      obtain ⟨x0, x1, x2, x3, x4, x5, x6, x7, hL⟩ := list8 h8
      have Bs : Box wr w.heap.size #[.int .i64 x0, .int .i64 x1, .int .i64 x2, .int .i64 x3, .int .i64 x4, .int .i64 x5, .int .i64 x6, .int .i64 x7] 22 := by rw [hL] at hB; exact hB
      have M := Lib.hid hn
      clear hj hok HO hB HB hn HN NW J c
      have hkb : (0 : Int) ≤ (k : Int) ∧ (k : Int) ≤ 31 := by have := HK8.out; omega
      have q1 := fun W => pput8 l h8 (k : Int) W
      have q3 := fun W => pfree8 l h8 W
      have q5 := fun W (i : Nat) => pat8 l h8 (i : Int) W
      have hul := fpL_len h8 (k : Int)
      obtain ⟨pn, hpn⟩ : ∃ x, x = fpN l (k : Int) := ⟨_, rfl⟩
      obtain ⟨pe, hpe⟩ : ∃ x, x = fpE l (k : Int) := ⟨_, rfl⟩
      obtain ⟨u, hu⟩ : ∃ x, x = fpL l (k : Int) := ⟨_, rfl⟩
      obtain ⟨fr, hfr⟩ : ∃ x, x = frN l := ⟨_, rfl⟩
      rw [← hu] at hul
      rw [← hpn, ← hpe, ← hu] at q1
      rw [← hfr] at q3
      obtain ⟨u0, u1, u2, u3, u4, u5, u6, u7, hU⟩ := list8 hul
      have q6 := fun W (i : Nat) => pat8 u hul (i : Int) W
      have q7 := fun W (i : Nat) => pdrop8 u hul (i : Int) W
      have HLU := Lib.hid (And.intro hL hU)
      have HKO := Lib.hid (And.intro hk h8)
      have HE := Lib.hid (And.intro hpn (And.intro hpe (And.intro hu hfr)))
      have HUL := Lib.hid hul
      clear hpn hpe hu hfr hk hul
      obtain ⟨WA, hWA⟩ : ∃ WA, WA = wr.alloc (.cells #[.int .i64 x0, .int .i64 x1, .int .i64 x2, .int .i64 x3, .int .i64 x4, .int .i64 x5, .int .i64 x6, .int .i64 x7] 24) := ⟨_, rfl⟩
      have Bt := Lib.hid (show Box WA wr.heap.size #[.int .i64 x0, .int .i64 x1, .int .i64 x2, .int .i64 x3, .int .i64 x4, .int .i64 x5, .int .i64 x6, .int .i64 x7] 24 by rw [hWA]; exact Box.here _ _ _ _ rfl)
      have MA := Lib.hid (show New w WA by rw [hWA]; exact M.out.alloc _ _)
      rw [hL] at q1 q3
      rw [hU] at q1
      unfold i8 at q1 q3
      dsimp only [List.map] at q1 q3
      have Q3 := Lib.hid q3
      have Q5 := Lib.hid q5
      have Q6 := Lib.hid q6
      have Q7 := Lib.hid q7
      clear q3 q5 q6 q7 hL hU h8
      obtain ⟨bsl, ⟨bsc0, bsc1, bsc2, bsc3, bsc4, bsc5, bsc6, bsc7⟩, -⟩ := Bs.eight
      go_upto_region 6 with fail
      rw [← hWA]
      clear hWA M Bs bsl bsc0 bsc1 bsc2 bsc3 bsc4 bsc5 bsc6 bsc7
      obtain ⟨btl, ⟨btc0, btc1, btc2, btc3, btc4, btc5, btc6, btc7⟩, -⟩ := Bt.out.eight
      by_cases hF : fdF l = 8
      · have e3 : pe = 24 := by rw [HE.out.2.1]; exact fpE_full HKO.out.1 hkb hF
        have e4 : fr = 0 := by rw [HE.out.2.2.2]; exact full_free HKO.out.2 HKO.out.1 hF
        subst e3 e4
        clear hF HE HLU HKO Q5 Q6 Q7 HUL
        rw [erN_pos (show (24 : Int) ≠ 0 by omega)] at q1
        have CN24 := Lib.hid (fun W (q : New w W) => (by have := CN.out W q 24; rw [erN_pos (show (24 : Int) ≠ 0 by omega)] at this; exact this))
        go_wp2_with fail
        simp only [EK.out.1]
        refine (q1 _).mono ?_
        rintro e w1 ⟨rfl, n1⟩
        have Bt1 := Lib.hid ((Bt.out.new n1).alloc (.cells #[.int .i64 u0, .int .i64 u1, .int .i64 u2, .int .i64 u3, .int .i64 u4, .int .i64 u5, .int .i64 u6, .int .i64 u7] 24))
        have M1 := Lib.hid ((MA.out.trans n1).alloc #[.int .i64 u0, .int .i64 u1, .int .i64 u2, .int .i64 u3, .int .i64 u4, .int .i64 u5, .int .i64 u6, .int .i64 u7] 24)
        clear btl btc0 btc1 btc2 btc3 btc4 btc5 btc6 btc7
        clear n1 q1
        go_wp2_with fail
        refine (CN24.out _ M1.out).mono ?_
        rintro e w3 ⟨rfl, n3⟩
        have M3 := Lib.hid (M1.out.trans n3)
        obtain ⟨btl, ⟨btc0, btc1, btc2, btc3, btc4, btc5, btc6, btc7⟩, -⟩ := (Bt1.out.new n3).eight
        clear n3
        go_wp2_with fail
        refine (Q3.out _).mono ?_
        rintro e w4 ⟨rfl, n4⟩
        have M4 := Lib.hid (M3.out.trans n4)
        clear btl btc0 btc1 btc2 btc3 btc4 btc5 btc6 btc7
        clear n4
        go_wp2_with fail
        refine (CS.out _ M4.out).mono ?_
        rintro e w5 ⟨rfl, n5⟩
        go_wp2
        go_ret
        exact ⟨rfl, M4.out.trans n5⟩
      · have e3 : pe = 0 := by rw [HE.out.2.1]; exact fpE_room HKO.out.1 hkb hF
        have e5 : pn = (fdF l : Int) := by rw [HE.out.1]; unfold fpN; rw [← HE.out.2.1, if_pos e3]
        have e6 : u = l.set (fdF l) ((k : Int) + 1) := by rw [HE.out.2.2.1]; unfold fpL; rw [← HE.out.2.1, if_pos e3]
        have PO := put_of HKO.out.2 HKO.out.1 hkb hF
        rw [← e6] at PO
        generalize fdF l = m at *
        have f1 : faE u (m : Int) = 0 := faE_ok PO.uk m PO.m8 (by rw [PO.um]; omega)
        have f2 : faN u (m : Int) = (k : Int) := by unfold faN; rw [if_pos f1, Int.toNat_natCast, PO.um]; omega
        have f4 : fdL u (m : Int) = l := by unfold fdL; rw [if_pos f1, Int.toNat_natCast, PO.back]
        have f5 : faE l (m : Int) = 9 := faE_free HKO.out.1 m PO.m0
        have f6 : ∀ i : Nat, i ≠ m → faE u (i : Int) = faE l (i : Int) ∧ faN u (i : Int) = faN l (i : Int) := fun i hi => by
          have : faE u (i : Int) = faE l (i : Int) := faE_same (PO.uk.trans HKO.out.1.symm) (PO.other i hi)
          exact ⟨this, by unfold faN; rw [this]; simp only [Int.toNat_natCast, PO.other i hi]⟩
        have f7 : ∀ i : Nat, i < 8 → i ≠ m → faE l (i : Int) = 0 ∨ (faE l (i : Int) = 9 ∧ ¬ i < m) := fun i hi hm => by
          by_cases d : l.getD i 0 = 0
          · exact .inr ⟨faE_free HKO.out.1 i d, fun c => PO.first i c d⟩
          · exact .inl (faE_ok HKO.out.1 i hi d)
        have f8 : faN l (m : Int) = 0 := by unfold faN; rw [f5]; rfl
        have FF := Lib.hid (And.intro f1 (And.intro f2 (And.intro f4 (And.intro f5 (And.intro f6 (And.intro f7 f8))))))
        have qt := tb_equal l HKO.out.2
        rw [HLU.out.1] at qt
        unfold i8 at qt
        dsimp only [List.map] at qt
        have QT := Lib.hid qt
        have q7 := fun W => Q7.out W m
        rw [f1, f2, f4, fe0] at q7
        rw [HLU.out.2] at q7
        have q7b := q7
        rw [HLU.out.1] at q7b
        unfold i8 at q7b
        dsimp only [List.map] at q7b
        have Q7B := Lib.hid q7b
        have q5 := Q5.out
        have q6 := Q6.out
        rw [HLU.out.2] at q6
        have P5 : ∀ W (i : Nat), Calls Tryd.prog 8 #[.agg #[.int .i64 x0, .int .i64 x1, .int .i64 x2, .int .i64 x3, .int .i64 x4, .int .i64 x5, .int .i64 x6, .int .i64 x7], .int .i64 (i : Int)] W fun en w' => en = .returned (.tuple #[.int .i64 (faN l (i : Int)), erN (faE l (i : Int))]) ∧ New W w' := fun W i => by
          have := q5 W i
          have e : (.agg (i8 l).toArray : Value) = .agg #[.int .i64 x0, .int .i64 x1, .int .i64 x2, .int .i64 x3, .int .i64 x4, .int .i64 x5, .int .i64 x6, .int .i64 x7] := by rw [HLU.out.1]; rfl
          rw [e] at this; exact this
        have P6 : ∀ W (i : Nat), Calls Tryd.prog 8 #[.agg #[.int .i64 u0, .int .i64 u1, .int .i64 u2, .int .i64 u3, .int .i64 u4, .int .i64 u5, .int .i64 u6, .int .i64 u7], .int .i64 (i : Int)] W fun en w' => en = .returned (.tuple #[.int .i64 (faN u (i : Int)), erN (faE u (i : Int))]) ∧ New W w' := fun W i => by
          have := Q6.out W i
          have e : (.agg (i8 u).toArray : Value) = .agg #[.int .i64 u0, .int .i64 u1, .int .i64 u2, .int .i64 u3, .int .i64 u4, .int .i64 u5, .int .i64 u6, .int .i64 u7] := by rw [HLU.out.2]; rfl
          rw [e] at this; exact this
        have P5 := Lib.hid P5
        have P6 := Lib.hid P6
        have HM8 := Lib.hid PO.m8
        subst e3 e5
        rw [fe0] at q1
        clear e6 f1 f2 f4 f5 f6 f7 f8 qt q7 q7b q5 q6 Q5 Q6 Q7 HE HUL HLU HKO PO hF
        go_wp2_with fail
        simp only [EK.out.1]
        refine (q1 _).mono ?_
        rintro e w1 ⟨rfl, n1⟩
        obtain ⟨W1, hW1⟩ : ∃ W1, W1 = w1.alloc (.cells #[.int .i64 u0, .int .i64 u1, .int .i64 u2, .int .i64 u3, .int .i64 u4, .int .i64 u5, .int .i64 u6, .int .i64 u7] 24) := ⟨_, rfl⟩
        have Bt1 := Lib.hid (show Box W1 wr.heap.size #[.int .i64 x0, .int .i64 x1, .int .i64 x2, .int .i64 x3, .int .i64 x4, .int .i64 x5, .int .i64 x6, .int .i64 x7] 24 by rw [hW1]; exact (Bt.out.new n1).alloc (.cells #[.int .i64 u0, .int .i64 u1, .int .i64 u2, .int .i64 u3, .int .i64 u4, .int .i64 u5, .int .i64 u6, .int .i64 u7] 24))
        have Bu1 := Lib.hid (show Box W1 w1.heap.size #[.int .i64 u0, .int .i64 u1, .int .i64 u2, .int .i64 u3, .int .i64 u4, .int .i64 u5, .int .i64 u6, .int .i64 u7] 24 by rw [hW1]; exact Box.here w1 w1.heap.size #[.int .i64 u0, .int .i64 u1, .int .i64 u2, .int .i64 u3, .int .i64 u4, .int .i64 u5, .int .i64 u6, .int .i64 u7] 24 rfl)
        have M1 := Lib.hid (show New w W1 by rw [hW1]; exact (MA.out.trans n1).alloc #[.int .i64 u0, .int .i64 u1, .int .i64 u2, .int .i64 u3, .int .i64 u4, .int .i64 u5, .int .i64 u6, .int .i64 u7] 24)
        clear btl btc0 btc1 btc2 btc3 btc4 btc5 btc6 btc7
        go_upto_region 10 with fail
        rw [← hW1]
        clear n1 q1 hW1
        go_wp2_with fail
        go_loopg [11] 8 (fun q i wx => ∃ j : Nat, j + q = 8 ∧ i = .int .i64 (j : Int) ∧ New W1 wx)
        case atStart => exact ⟨0, by omega, rfl, New.refl _⟩
        case round =>
          obtain ⟨j, hj, rfl, hn⟩ := hrel
          have J := Lib.hid hj
          have HN := Lib.hid hn
          by_cases c : j < 8
          · have c5 := fun W => P5.out W j
            have c6 := fun W => P6.out W j
            have MX := Lib.hid (M1.out.trans hn)
            have Btx := Lib.hid (Bt1.out.new hn)
            have Bux := Lib.hid (Bu1.out.new hn)
            have C8 := Lib.hid c
            clear hj hn
            by_cases hjm : j = m
            · subst hjm
              rw [FF.out.2.2.2.1, FF.out.2.2.2.2.2.2] at c5
              rw [FF.out.1, FF.out.2.1] at c6
              rw [erN_pos (show (9 : Int) ≠ 0 by omega)] at c5
              rw [fe0] at c6
              have CN9 := Lib.hid (fun W (q : New w W) => (by have := CN.out W q 9; rw [erN_pos (show (9 : Int) ≠ 0 by omega)] at this; exact this))
              obtain ⟨btl, ⟨btc0, btc1, btc2, btc3, btc4, btc5, btc6, btc7⟩, -⟩ := Btx.out.eight
              go_wp2_with fail
              refine (c5 _).mono ?_
              rintro e w3 ⟨rfl, n3⟩
              have M3 := Lib.hid (MX.out.trans n3)
              have N3 := Lib.hid (HN.out.trans n3)
              clear btl btc0 btc1 btc2 btc3 btc4 btc5 btc6 btc7
              obtain ⟨bul, ⟨buc0, buc1, buc2, buc3, buc4, buc5, buc6, buc7⟩, -⟩ := (Bux.out.new n3).eight
              clear n3 c5
              go_wp2_with fail
              refine (c6 _).mono ?_
              rintro e w4 ⟨rfl, n4⟩
              have M4 := Lib.hid (M3.out.trans n4)
              have N4 := Lib.hid (N3.out.trans n4)
              clear bul buc0 buc1 buc2 buc3 buc4 buc5 buc6 buc7
              clear n4 c6
              go_wp2_with fail
              refine (CN9.out _ M4.out).mono ?_
              rintro e w6 ⟨rfl, n6⟩
              have M6 := Lib.hid (M4.out.trans n6)
              have N6 := Lib.hid (N4.out.trans n6)
              clear n6
              go_wp2_with fail
              go_roundg (8 - (j + 1))
              case measure => have := J.out; omega
              case rel => exact ⟨j + 1, by have := J.out; omega, by go_num, N6.out⟩
            · obtain ⟨g1, g2⟩ := FF.out.2.2.2.2.1 j hjm
              have hji : ¬ ((j : Int) = (m : Int)) := by omega
              have hjb : ((j : Int) == (m : Int)) = false := by simpa using hji
              have hjc : (j == m) = false := by simpa using hjm
              rw [g1, g2] at c6
              clear g1 g2
              generalize faN l (j : Int) = an at *
              rcases FF.out.2.2.2.2.2.1 j C8.out hjm with hz | ⟨hz, hlt⟩
              · rw [hz, fe0] at c5 c6
                have CN0 := Lib.hid (fun W (q : New w W) => (by have := CN.out W q 0; rw [fe0] at this; exact this))
                clear hz
                by_cases hlt : j < m
                · have hl1 : decide (j < m) = true := decide_eq_true hlt
                  have hl2 : decide ((j : Int) < (m : Int)) = true := decide_eq_true (by omega)
                  obtain ⟨btl, ⟨btc0, btc1, btc2, btc3, btc4, btc5, btc6, btc7⟩, -⟩ := Btx.out.eight
                  go_wp2_with fail
                  refine (c5 _).mono ?_
                  rintro e w3 ⟨rfl, n3⟩
                  have M3 := Lib.hid (MX.out.trans n3)
                  have N3 := Lib.hid (HN.out.trans n3)
                  clear btl btc0 btc1 btc2 btc3 btc4 btc5 btc6 btc7
                  obtain ⟨bul, ⟨buc0, buc1, buc2, buc3, buc4, buc5, buc6, buc7⟩, -⟩ := (Bux.out.new n3).eight
                  clear n3 c5
                  go_wp2_with fail
                  refine (c6 _).mono ?_
                  rintro e w4 ⟨rfl, n4⟩
                  have M4 := Lib.hid (M3.out.trans n4)
                  have N4 := Lib.hid (N3.out.trans n4)
                  clear bul buc0 buc1 buc2 buc3 buc4 buc5 buc6 buc7
                  clear n4 c6
                  go_wp2_with fail
                  refine (CN0.out _ M4.out).mono ?_
                  rintro e w6 ⟨rfl, n6⟩
                  have M6 := Lib.hid (M4.out.trans n6)
                  have N6 := Lib.hid (N4.out.trans n6)
                  clear n6
                  go_wp2_with fail
                  refine (CN0.out _ M6.out).mono ?_
                  rintro e w7 ⟨rfl, n7⟩
                  have M7 := Lib.hid (M6.out.trans n7)
                  have N7 := Lib.hid (N6.out.trans n7)
                  clear n7
                  go_wp2_with fail
                  go_roundg (8 - (j + 1))
                  case measure => have := J.out; omega
                  case rel => exact ⟨j + 1, by have := J.out; omega, by go_num, N7.out⟩
                · have hl1 : decide (j < m) = false := decide_eq_false hlt
                  have hl2 : decide ((j : Int) < (m : Int)) = false := decide_eq_false (by omega)
                  obtain ⟨btl, ⟨btc0, btc1, btc2, btc3, btc4, btc5, btc6, btc7⟩, -⟩ := Btx.out.eight
                  go_wp2_with fail
                  refine (c5 _).mono ?_
                  rintro e w3 ⟨rfl, n3⟩
                  have M3 := Lib.hid (MX.out.trans n3)
                  have N3 := Lib.hid (HN.out.trans n3)
                  clear btl btc0 btc1 btc2 btc3 btc4 btc5 btc6 btc7
                  obtain ⟨bul, ⟨buc0, buc1, buc2, buc3, buc4, buc5, buc6, buc7⟩, -⟩ := (Bux.out.new n3).eight
                  clear n3 c5
                  go_wp2_with fail
                  refine (c6 _).mono ?_
                  rintro e w4 ⟨rfl, n4⟩
                  have M4 := Lib.hid (M3.out.trans n4)
                  have N4 := Lib.hid (N3.out.trans n4)
                  clear bul buc0 buc1 buc2 buc3 buc4 buc5 buc6 buc7
                  clear n4 c6
                  go_wp2_with fail
                  refine (CN0.out _ M4.out).mono ?_
                  rintro e w6 ⟨rfl, n6⟩
                  have M6 := Lib.hid (M4.out.trans n6)
                  have N6 := Lib.hid (N4.out.trans n6)
                  clear n6
                  go_wp2_with fail
                  refine (CN0.out _ M6.out).mono ?_
                  rintro e w7 ⟨rfl, n7⟩
                  have M7 := Lib.hid (M6.out.trans n7)
                  have N7 := Lib.hid (N6.out.trans n7)
                  clear n7
                  go_wp2_with fail
                  go_roundg (8 - (j + 1))
                  case measure => have := J.out; omega
                  case rel => exact ⟨j + 1, by have := J.out; omega, by go_num, N7.out⟩
              · rw [hz, erN_pos (show (9 : Int) ≠ 0 by omega)] at c5 c6
                have CN9 := Lib.hid (fun W (q : New w W) => (by have := CN.out W q 9; rw [erN_pos (show (9 : Int) ≠ 0 by omega)] at this; exact this))
                clear hz
                have hl1 : decide (j < m) = false := decide_eq_false hlt
                have hl2 : decide ((j : Int) < (m : Int)) = false := decide_eq_false (by omega)
                obtain ⟨btl, ⟨btc0, btc1, btc2, btc3, btc4, btc5, btc6, btc7⟩, -⟩ := Btx.out.eight
                go_wp2_with fail
                refine (c5 _).mono ?_
                rintro e w3 ⟨rfl, n3⟩
                have M3 := Lib.hid (MX.out.trans n3)
                have N3 := Lib.hid (HN.out.trans n3)
                clear btl btc0 btc1 btc2 btc3 btc4 btc5 btc6 btc7
                obtain ⟨bul, ⟨buc0, buc1, buc2, buc3, buc4, buc5, buc6, buc7⟩, -⟩ := (Bux.out.new n3).eight
                clear n3 c5
                go_wp2_with fail
                refine (c6 _).mono ?_
                rintro e w4 ⟨rfl, n4⟩
                have M4 := Lib.hid (M3.out.trans n4)
                have N4 := Lib.hid (N3.out.trans n4)
                clear bul buc0 buc1 buc2 buc3 buc4 buc5 buc6 buc7
                clear n4 c6
                go_wp2_with fail
                refine (CN9.out _ M4.out).mono ?_
                rintro e w6 ⟨rfl, n6⟩
                have M6 := Lib.hid (M4.out.trans n6)
                have N6 := Lib.hid (N4.out.trans n6)
                clear n6
                go_wp2_with fail
                refine (CN9.out _ M6.out).mono ?_
                rintro e w7 ⟨rfl, n7⟩
                have M7 := Lib.hid (M6.out.trans n7)
                have N7 := Lib.hid (N6.out.trans n7)
                clear n7
                go_wp2_with fail
                go_roundg (8 - (j + 1))
                case measure => have := J.out; omega
                case rel => exact ⟨j + 1, by have := J.out; omega, by go_num, N7.out⟩
          · obtain rfl : j = 8 := by omega
            have Btx := Lib.hid (Bt1.out.new hn)
            have Bux := Lib.hid (Bu1.out.new hn)
            have MX := Lib.hid (M1.out.trans hn)
            clear hj hn c
            obtain ⟨bul, ⟨buc0, buc1, buc2, buc3, buc4, buc5, buc6, buc7⟩, -⟩ := Bux.out.eight
            go_wp2_with fail
            refine (Q7B.out _).mono ?_
            rintro e w5 ⟨rfl, n5⟩
            have Bt5 := Lib.hid ((Btx.out.new n5).alloc (.cells #[.int .i64 x0, .int .i64 x1, .int .i64 x2, .int .i64 x3, .int .i64 x4, .int .i64 x5, .int .i64 x6, .int .i64 x7] 24))
            have Bv5 := Lib.hid (Box.here w5 w5.heap.size #[.int .i64 x0, .int .i64 x1, .int .i64 x2, .int .i64 x3, .int .i64 x4, .int .i64 x5, .int .i64 x6, .int .i64 x7] 24 rfl)
            have M5 := Lib.hid ((MX.out.trans n5).alloc #[.int .i64 x0, .int .i64 x1, .int .i64 x2, .int .i64 x3, .int .i64 x4, .int .i64 x5, .int .i64 x6, .int .i64 x7] 24)
            clear bul buc0 buc1 buc2 buc3 buc4 buc5 buc6 buc7
            have qt := QT.out
            obtain ⟨lt5, ⟨tc0, tc1, tc2, tc3, tc4, tc5, tc6, tc7⟩, -⟩ := (Btx.out.new n5).eight
            clear n5 Btx Bux
            go_wp2_with fail
            refine (CS.out _ M5.out).mono ?_
            rintro e w6 ⟨rfl, n6⟩
            go_wp2
            go_ret
            exact ⟨rfl, M5.out.trans n6⟩

/-! ### THE ROW's STEP: WRITTEN OUT: LEAVE IT -/
theorem door_met (os : Os) (args : Array Value) : laidMetH Tryd.prog Rows.fdsKeepsRow.laid ((World.doorLaid Tryd.prog 400 os).forCall (fun _ _ => 0) ⟨#[], args, []⟩).memory :=
  laidMetH_of_parts3 (fuel := 8) (laidMet_of_run' 8 (by kernel_rfl) (by kernel_rfl)) (by kernel_rfl) (by kernel_rfl)
set_option maxRecDepth 100000 in
theorem lifted (os : Os) (started : os.Started) (H : Type) (enc : TypeId × Value → H) :
    ReturnsInHanded {} Tryd.checked os 4 .any (fun w args => (Rows.fdsKeepsSpec.pre enc Tryd.prog Tryd.f4 [] false w args ∧ laidMetH Tryd.prog Rows.fdsKeepsRow.laid w) ∧ sizedMet enc Tryd.prog Tryd.f4 (OpenSpec.ofChange Rows.fdsKeepsSpec) false w args) (Rows.fdsKeepsSpec.post enc Tryd.prog Tryd.f4 false true false false) := by
  refine returnsInHanded_of_change_and (C := Tryd.checked) (X := fun w _ => laidMetH Tryd.prog Rows.fdsKeepsRow.laid w) (fun _ _ _ hh h => h.of_heap hh) own started (by kernel_rfl) Tryd.func4
    (ChangeSpec.witness_shaped (enc := enc) (C := Tryd.checked) (os := os) (X := fun w _ => laidMetH Tryd.prog Rows.fdsKeepsRow.laid w) false (World.doorLaid Tryd.prog 400 os) #[.agg #[.int .i64 0, .int .i64 0, .int .i64 0, .int .i64 0, .int .i64 0, .int .i64 0, .int .i64 0, .int .i64 0], .int .i64 0] 8 rfl (World.shaped_of_RefB (by kernel_rfl) (by kernel_rfl)) (by kernel_rfl) (by kernel_rfl) (by kernel_rfl) (door_met os _)) ?_
  intro W base args ds gs before hval0 hW _ _ hL _
  have hL' : laidMet Tryd.prog [] W ∧ handlesMet Tryd.prog [("errors.errorType", Rows.laid_errors_errorType)] W := hL
  have hval : ∀ (j : Nat) t v, Tryd.f4.params[j]? = some t → args[j]? = some v → Value.okWide Tryd.prog W .any base t v := hval0
  have hW' := hW
  obtain ⟨p, q, hA0, hV, rfl, hfz, hnd⟩ := hW
  have hA : DataW.TrodAll enc Tryd.prog W 0 (fun _ => true) true Tryd.f4.params.toList args.toList ds p := hA0
  rw [Tryd.params4] at hA hval
  obtain ⟨v0, vs0, d0, ds0, p0, q0, hargs, rfl, rfl, h0, r0⟩ := trodAll_cons hA
  obtain ⟨v1, vs1, d1, ds1, p1, q1, rfl, rfl, rfl, h1, r1⟩ := trodAll_cons r0
  obtain ⟨rfl, rfl, rfl⟩ := trodAll_nil r1
  obtain rfl : args = #[v0, v1] := by cases args; simp_all
  obtain ⟨rfl, rfl⟩ := trodVars_none hV
  have k0 := h0
  have lt0 : ∀ x ∈ p0, x.block < W.heap.size := by obtain ⟨m, hm⟩ := k0; exact DataW.trod_lt m _ _ _ hm
  have w0 : Flat [some .i64, some .i64, some .i64, some .i64, some .i64, some .i64, some .i64, some .i64] v0 := flat_of_arr (ks := [some .i64, some .i64, some .i64, some .i64, some .i64, some .i64, some .i64, some .i64]) Tryd.underlying22 (by
    obtain ⟨ks, hk, e⟩ : ∃ ks, FlatTy Tryd.prog 22 ks ∧ ks = [some .i64, some .i64, some .i64, some .i64, some .i64, some .i64, some .i64, some .i64] := ⟨_, (.array Tryd.underlying22 (.int Tryd.underlying3) (by kernel_rfl)), rfl⟩
    rw [← e]; exact hk) (by kernel_rfl) (hval 0 22 v0 rfl rfl) h0
  obtain ⟨a1, rfl, rfl, rfl, w1⟩ := open_int Tryd.underlying3 (hval 1 3 v1 rfl rfl) h1
  clear hA0 hval0
  refine (walk v0 a1 W w0 w1 (handle_of_hs hL'.2)).mono fun e W' ⟨he, bel⟩ => ?_
  subst he
  exact ⟨_, rfl, _, _, _, [], _, [], hW', trodAll_mk1 (shut_bool Tryd.underlying4 _), (trodAll_cons_mk (Below.trod laidOut (by kernel_rfl) (of_decide_eq_true (by kernel_rfl)) k0 bel lt0) (trodAll_cons_mk (shut_int Tryd.underlying3 w1) trodAll_mk0)), rfl, bel.frame _, fun h => by cases h⟩

theorem over : Rows.fdsKeepsRow.holds Tryd.pinned (OpenSpec.ofChange Rows.fdsKeepsSpec) :=
  OpenClaim.holds_of_wide 4 Tryd.f4 rfl rfl rfl rfl rfl rfl rfl ⟨rfl, rfl, rfl, rfl, rfl⟩ rfl rfl rfl rfl rfl (by kernel_rfl) Tryd.func4 (by kernel_rfl)
    (of_decide_eq_true (by kernel_rfl)) (by unfold Func.isWrapper; first | (rw [if_pos (by decide +kernel)]; kernel_rfl) | (rw [if_neg (by decide +kernel)]; exact ⟨rfl, rfl⟩))
    (fun os started H enc _ => lifted os started H enc)

theorem proved : Rows.FdsKeepsSaid := over
theorem card : Rows.FdsKeepsCardSaid :=
  Claim7.holds_tied_plain_at .later [] [.handle] true (true, "1ae2fa30f38c2c37fba9ec508bca6f5d423a2ae2dae46b1e58bccfcd801d133c") true
    over (fun _ h => by cases h) (by kernel_rfl) (fun _ h => by cases h) fdsKeeps_row_tie rfl ⟨rfl, rfl⟩ (by kernel_rfl) rfl
    (fun f fn hf hfn => by
      obtain rfl : f = 4 := Option.some.inj ((show Tryd.prog.funcNamed "halter/halterlaw20.FdsKeeps" = some 4 by kernel_rfl).symm.trans hf) |>.symm
      obtain rfl : fn = Tryd.f4 := (Option.some.inj (Tryd.func4.symm.trans hfn)).symm
      exact ⟨by kernel_rfl, fun j t ht => by
        rw [Tryd.params4] at ht
        have hm : t ∈ [22, 3] := by have := Array.mem_of_getElem? ht; simpa using this
        have hall : ([22, 3].all fun u => !Tryd.prog.wantsStandIn u) = true := by kernel_rfl
        exact (show Tryd.prog.wantsStandIn t = false by simpa using List.all_eq_true.1 hall t hm)⟩)
    (by kernel_rfl)
#print axioms card
end Go.Proofs.YthkdgihjgllpeaaDoor.fdsKeeps
