/- A number that was doubled means the same file by both, and by one of them when the other one is dropped; so many can be doubled as are free; the statement holds for every input, where the listed variable holds what the library's own text lays, which the card ties. -/
import Derived.Test.YthkdgihjgllpeaaDoorRows
import Derived.Test.YthkdgihjgllpeaaDoorFdF
import Derived.Test.YthkdgihjgllpeaaDoorFlatTy
import Derived.Test.YthkdgihjgllpeaaDoorLay
import Derived.Deep.RegionHeld3
import Derived.Test.YthkdgihjgllpeaaDoorCards
import Derived.Test.YthkdgihjgllpeaaDoorTie
import Derived.LaidMore
import Derived.LaidLaws
import Derived.LaidHandle
import Derived.Test.YthkdgihjgllpeaaDoorLay
import Derived.Test.YthkdgihjgllpeaaDoorPost
import Derived.WalkKit
import Derived.ProofKit
import Derived.OpenShut
import Derived.ShutString
import Derived.ChangeOld
import Derived.Below
namespace Go.Proofs.YthkdgihjgllpeaaDoor.fdsDoubles
open Go.ChangeShapes Go.WideShapes Go.ChangeAt Go.RowKit
open Go.ChangeMaps (open_string shut_string)
set_option linter.unusedVariables false

theorem own : ownKnob Tryd.prog.godebug = none := by kernel_rfl
theorem laidOut : laidOutB Tryd.prog = true := by kernel_rfl

/-- WHAT THE WALK IS TOLD OF A SLICE OF INTEGERS THAT CAME IN: it is nil; or it leads to a row of 'cap' cells, the numbers 'zs' (the first 'len' are its elements, the rest its spare room), each fitting its kind. -/
def IsRow (k : IntKind) (w : World) (a : Option Addr) (len cap : Nat) (zs : List Int) : Prop :=
  (a = none ∧ len = 0 ∧ cap = 0 ∧ zs = []) ∨
  ∃ x, a = some x ∧ len ≤ cap ∧ cap ≤ maxLen ∧ zs.length = cap ∧ (∀ i, i < zs.length → w.cell? (x.add i) = some (.int k (zs.getD i 0))) ∧ ∀ n ∈ zs, (Lit.int k n).wf = true

/-! ### STEP 1: THE WALK: the Go text returns true, AND WRITES NOTHING THAT WAS THERE: 'Below w.heap.size w w'' (Derived/Below.lean: '.refl', '.alloc', '.drew', '.setCell' at a new block, '.trans'). Open each 'IsRow' by 'rcases' AHEAD of 'go_enter'; part every test ahead of the walk. -/
set_option maxHeartbeats 8000000 in
set_option maxRecDepth 100000 in
theorem walk (v0 : Value) (a1 : Int) (w : World) (w0 : Flat [some .i64, some .i64, some .i64, some .i64, some .i64, some .i64, some .i64, some .i64] v0) (w1 : (Lit.int .i64 a1).wf = true) (hl : Laid w) :
    Calls Tryd.prog 5 #[v0, .int .i64 a1] w fun e w' => e = .returned (.bool true) ∧ Below w.heap.size w w' := by
  obtain ⟨l0, hl8, rfl, -⟩ := flat_i8 w0
  obtain ⟨k, ek, hk8⟩ := cutm a1 8 (by omega) (by omega)
  have ek2 : IntKind.i64.wrap ((IntKind.u64.wrap a1).tmod 8) = (k : Int) := by rw [← ek, IntKind.wrap_i64]; simp only [wrap64]
  have EK := Lib.hid (And.intro ek ek2)
  have HK8 := Lib.hid hk8
  clear ek ek2 hk8
  clear w0 w1
  have CS := Lib.hid (fun W (q : New w W) => fdsure_any W (hl.new q))
  have CN := Lib.hid (fun W (q : New w W) (x : Int) => num_er x W (hl.new q))
  have BA : Box (w.alloc (.cells (i8 l0).toArray 22)) w.heap.size (i8 l0).toArray 22 := Box.here w _ _ _ rfl
  have nw : New w (w.alloc (.cells (i8 l0).toArray 22)) := (New.refl w).alloc _ _
  clear hl
  go_enter Tryd.func5, Tryd.ntmps5
  go_upto_region 1 with fail
  generalize w.alloc (.cells (i8 l0).toArray 22) = W at *
  have NW := Lib.hid nw
  have HB := Lib.hid BA
  clear BA nw
  go_wp2_with fail
  go_loopg [5] 8 (fun q i wr => ∃ (j : Nat) (L : List Int), j + q = 8 ∧ i = .int .i64 (j : Int) ∧ L.length = 8 ∧ (∀ i, i < j → 0 ≤ L.getD i 0 ∧ L.getD i 0 ≤ 32) ∧ Box wr w.heap.size (i8 L).toArray 22 ∧ New w wr)
  case atStart => exact ⟨0, l0, by omega, rfl, hl8, fun i h => absurd h (Nat.not_lt_zero _), HB.out, NW.out⟩
  case round =>
    obtain ⟨j, l, hj, rfl, h8, hok, hB, hn⟩ := hrel
    have J := Lib.hid hj
    have HO := Lib.hid hok
    have HB := Lib.hid hB
    have HN := Lib.hid hn
    by_cases c : j < 8
    · have hc := hB.c8 j (by omega)
      have fz := hB.unfrozen j
      have lb := hB.lt
      obtain ⟨x, hx⟩ : ∃ x, x = l.getD j 0 := ⟨_, rfl⟩
      rw [← hx] at hc
      obtain ⟨y, ey, hy⟩ := cutm x 33 (by omega) (by omega)
      have ey2 : IntKind.i64.wrap ((IntKind.u64.wrap x).tmod 33) = (y : Int) := by rw [← ey, IntKind.wrap_i64]; simp only [wrap64]
      have EY := Lib.hid (And.intro ey ey2)
      have HX : ∀ i, i < j + 1 → 0 ≤ (l.set j (y : Int)).getD i 0 ∧ (l.set j (y : Int)).getD i 0 ≤ 32 := fun i hi => by
        rw [fget_set _ _ _ _ (by omega)]
        split
        · omega
        · exact HO.out i (by omega)
      have HX := Lib.hid HX
      have H8 := Lib.hid h8
      have HY := Lib.hid hy
      clear hj hok hB hn hx ey ey2 h8 hy
      go_wp2_with fail
      simp only [EY.out.1]
      go_roundg (8 - (j + 1))
      case measure => have := J.out; omega
      case rel => exact ⟨j + 1, l.set j (y : Int), by have := J.out; omega, by go_num, by rw [List.length_set]; exact H8.out, HX.out, HB.out.s8 j (y : Int), HN.out.setCell (p := ⟨w.heap.size, j, none⟩) (Nat.le_refl _) _⟩
    · obtain rfl : j = 8 := by omega
      have hk : fdOk l = true := fdOk_iff.2 fun x hx => by
        obtain ⟨i, hi, rfl⟩ := List.getElem_of_mem hx
        have := hok i (by omega)
        rw [List.getD_eq_getElem?_getD, List.getElem?_eq_getElem hi] at this; exact this
      obtain ⟨x0, x1, x2, x3, x4, x5, x6, x7, hL⟩ := list8 h8
      have Bs : Box wr w.heap.size #[.int .i64 x0, .int .i64 x1, .int .i64 x2, .int .i64 x3, .int .i64 x4, .int .i64 x5, .int .i64 x6, .int .i64 x7] 22 := by rw [hL] at hB; exact hB
      have M := Lib.hid hn
      clear hj hok HO hB HB hn HN NW J c
      have q1 := fun W => pat8 l h8 (k : Int) W
      have q2 := fun W => pdup8 l h8 (k : Int) W
      have q3 := fun W => pfree8 l h8 W
      have q4 := fun W => pfiles8 l h8 W
      have hul := fuL_len h8 (k : Int)
      obtain ⟨an, han⟩ : ∃ x, x = faN l (k : Int) := ⟨_, rfl⟩
      obtain ⟨ae, hae⟩ : ∃ x, x = faE l (k : Int) := ⟨_, rfl⟩
      obtain ⟨un, hun⟩ : ∃ x, x = fuN l (k : Int) := ⟨_, rfl⟩
      obtain ⟨ue, hue⟩ : ∃ x, x = fuE l (k : Int) := ⟨_, rfl⟩
      obtain ⟨u, hu⟩ : ∃ x, x = fuL l (k : Int) := ⟨_, rfl⟩
      obtain ⟨fr, hfr⟩ : ∃ x, x = frN l := ⟨_, rfl⟩
      obtain ⟨fl, hfl⟩ : ∃ x, x = fiO l := ⟨_, rfl⟩
      rw [← hu] at hul
      rw [← han, ← hae] at q1
      rw [← hun, ← hue, ← hu] at q2
      rw [← hfr] at q3
      rw [← hfl] at q4
      obtain ⟨u0, u1, u2, u3, u4, u5, u6, u7, hU⟩ := list8 hul
      have HE := Lib.hid (And.intro han (And.intro hae (And.intro hun (And.intro hue (And.intro hu (And.intro hfr hfl))))))
      have HLU := Lib.hid (And.intro hL hU)
      have HKO := Lib.hid (And.intro hk h8)
      clear han hae hun hue hfr hfl hul hk
      rw [hL] at q1 q2 q3 q4
      rw [hU] at q2
      unfold i8 at q1 q2 q3 q4
      dsimp only [List.map] at q1 q2 q3
      simp only [List.map_cons (f := Value.int .i64), List.map_nil] at q4
      clear hL hU hu h8
      have Q2 := Lib.hid q2
      have Q3 := Lib.hid q3
      have Q4 := Lib.hid q4
      clear q2 q3 q4
      obtain ⟨WA, hWA⟩ : ∃ WA, WA = wr.alloc (.cells #[.int .i64 x0, .int .i64 x1, .int .i64 x2, .int .i64 x3, .int .i64 x4, .int .i64 x5, .int .i64 x6, .int .i64 x7] 24) := ⟨_, rfl⟩
      have Bt := Lib.hid (show Box WA wr.heap.size #[.int .i64 x0, .int .i64 x1, .int .i64 x2, .int .i64 x3, .int .i64 x4, .int .i64 x5, .int .i64 x6, .int .i64 x7] 24 by rw [hWA]; exact Box.here _ _ _ _ rfl)
      have MA := Lib.hid (show New w WA by rw [hWA]; exact M.out.alloc _ _)
      obtain ⟨bsl, ⟨bsc0, bsc1, bsc2, bsc3, bsc4, bsc5, bsc6, bsc7⟩, -⟩ := Bs.eight
      go_upto_region 6 with fail
      rw [← hWA]
      clear hWA M Bs bsl bsc0 bsc1 bsc2 bsc3 bsc4 bsc5 bsc6 bsc7
      have hkn : faE l (k : Int) = 0 ∨ faE l (k : Int) = 9 := by
        have := HK8.out
        by_cases d : l.getD k 0 = 0
        · exact .inr (faE_free HKO.out.1 k d)
        · exact .inl (faE_ok HKO.out.1 k (by omega) d)
      obtain ⟨btl, ⟨btc0, btc1, btc2, btc3, btc4, btc5, btc6, btc7⟩, -⟩ := Bt.out.eight
      rcases hkn with hae | hae
      · have e1 : ae = 0 := HE.out.2.1.trans hae
        have e2 : ue = fpE l an := by rw [HE.out.2.2.2.1, HE.out.1]; unfold fuE; rw [if_neg (fun c => c hae)]
        have hin := faN_in hae
        rw [← HE.out.1] at hin
        by_cases hF : fdF l = 8
        · have e3 : ue = 24 := by rw [e2]; exact fpE_full HKO.out.1 hin hF
          have e4 : fr = 0 := by rw [HE.out.2.2.2.2.2.1]; exact full_free HKO.out.2 HKO.out.1 hF
          subst e1 e3 e4
          clear e2 hF hin hae HE HLU HKO
          rw [fe0] at q1
          have Q2 := Q2.out
          rw [erN_pos (show (24 : Int) ≠ 0 by omega)] at Q2
          have CN24 := Lib.hid (fun W (q : New w W) => (by have := CN.out W q 24; rw [erN_pos (show (24 : Int) ≠ 0 by omega)] at this; exact this))
          go_wp2_with fail
          simp only [EK.out.1]
          refine (q1 _).mono ?_
          rintro e w1 ⟨rfl, n1⟩
          have Bt1 := Lib.hid (Bt.out.new n1)
          have M1 := Lib.hid (MA.out.trans n1)
          clear btl btc0 btc1 btc2 btc3 btc4 btc5 btc6 btc7
          clear n1 q1
          obtain ⟨btl, ⟨btc0, btc1, btc2, btc3, btc4, btc5, btc6, btc7⟩, -⟩ := Bt1.out.eight
          go_wp2_with fail
          refine (Q2 _).mono ?_
          rintro e w2 ⟨rfl, n2⟩
          have Bt2 := Lib.hid ((Bt1.out.new n2).alloc (.cells #[.int .i64 u0, .int .i64 u1, .int .i64 u2, .int .i64 u3, .int .i64 u4, .int .i64 u5, .int .i64 u6, .int .i64 u7] 24))
          have M2 := Lib.hid ((M1.out.trans n2).alloc #[.int .i64 u0, .int .i64 u1, .int .i64 u2, .int .i64 u3, .int .i64 u4, .int .i64 u5, .int .i64 u6, .int .i64 u7] 24)
          clear btl btc0 btc1 btc2 btc3 btc4 btc5 btc6 btc7
          clear n2 Q2
          go_wp2_with fail
          refine (CN24.out _ M2.out).mono ?_
          rintro e w3 ⟨rfl, n3⟩
          have M3 := Lib.hid (M2.out.trans n3)
          obtain ⟨btl, ⟨btc0, btc1, btc2, btc3, btc4, btc5, btc6, btc7⟩, -⟩ := (Bt2.out.new n3).eight
          clear n3
          go_wp2_with fail
          refine (Q3.out _).mono ?_
          rintro e w4 ⟨rfl, n4⟩
          have M4 := Lib.hid (M3.out.trans n4)
          clear btl btc0 btc1 btc2 btc3 btc4 btc5 btc6 btc7
          clear n4
          go_wp2_with fail
          refine (CS.out _ M4.out).mono ?_
          rintro e w5 ⟨rfl, n5⟩
          go_wp2
          go_ret
          exact ⟨rfl, M4.out.trans n5⟩
        · have e3 : ue = 0 := by rw [e2]; exact fpE_room HKO.out.1 hin hF
          have e4 : fuE l (k : Int) = 0 := by rw [← HE.out.2.2.2.1]; exact e3
          have e5 : un = (fdF l : Int) := by rw [HE.out.2.2.1]; unfold fuN; rw [if_pos e4]
          have e6 : u = l.set (fdF l) (an + 1) := by rw [HE.out.2.2.2.2.1, HE.out.1]; unfold fuL; rw [if_pos e4]
          have PO := put_of HKO.out.2 HKO.out.1 hin hF
          rw [← e6] at PO
          generalize fdF l = m at *
          have hkl : l.getD k 0 ≠ 0 := fun c => by rw [faE_free HKO.out.1 k c] at hae; omega
          have hmk : m ≠ k := fun c => hkl (by rw [← c]; exact PO.m0)
          have k8 : k < 8 := by have := HK8.out; omega
          have DR := drop_of PO.u8 PO.uk k8 hmk
          have f1 : faE u (m : Int) = 0 := faE_ok PO.uk m PO.m8 (by rw [PO.um]; omega)
          have f2 : faN u (m : Int) = an := by unfold faN; rw [if_pos f1, Int.toNat_natCast, PO.um]; omega
          have f3 : faE u (k : Int) = 0 := faE_ok PO.uk k k8 (by rw [PO.other k (fun c => hmk c.symm)]; exact hkl)
          have f4 : fdL u (k : Int) = u.set k 0 := by unfold fdL; rw [if_pos f3, Int.toNat_natCast]
          have f5 : faE (u.set k 0) (m : Int) = 0 := faE_ok DR.vk m PO.m8 (by rw [DR.same, PO.um]; omega)
          have f6 : faN (u.set k 0) (m : Int) = an := by unfold faN; rw [if_pos f5, Int.toNat_natCast, DR.same, PO.um]; omega
          have p1 := fun W => pat8 u PO.u8 (m : Int) W
          have p2 := fun W => pdrop8 u PO.u8 (k : Int) W
          have p3 := fun W => pat8 (u.set k 0) DR.v8 (m : Int) W
          have p4 := fun W => pfree8 u PO.u8 W
          have p5 := fun W => pfiles8 u PO.u8 W
          rw [f1, f2, fe0] at p1
          rw [f3, f4, fe0] at p2
          rw [f5, f6, fe0] at p3
          have g1 : frN u = fr - 1 := by rw [PO.free, ← HE.out.2.2.2.2.2.1]
          have g2 : (fiO u).length = fl.length + 1 := by rw [PO.files, ← HE.out.2.2.2.2.2.2]
          have g3 : fr ≤ 8 ∧ 0 ≤ fr := by
            have := fiS_len l
            rw [HE.out.2.2.2.2.2.1]; unfold frN; rw [if_pos HKO.out.1]; rw [HKO.out.2] at this; omega
          have g4 : fl.length ≤ 8 := by rw [HE.out.2.2.2.2.2.2]; exact fiO_len HKO.out.2
          rw [g1] at p4
          obtain ⟨gg, hgg⟩ : ∃ gg, gg = fr - 1 := ⟨_, rfl⟩
          rw [← hgg] at p4
          have GG := Lib.hid hgg
          clear hgg
          generalize fiO u = fm at *
          obtain ⟨n1, hn1⟩ : ∃ n1, n1 = fl.length := ⟨_, rfl⟩
          obtain ⟨n2, hn2⟩ : ∃ n2, n2 = fm.length := ⟨_, rfl⟩
          rw [← hn1] at g2 g4
          rw [← hn2] at g2
          have HN1 := Lib.hid hn1.symm
          have HN2 := Lib.hid hn2.symm
          clear hn1 hn2
          generalize faN u (k : Int) = dn at *
          obtain ⟨v, hv⟩ : ∃ v, v = u.set k 0 := ⟨_, rfl⟩
          rw [← hv] at p2 p3
          have v8 : v.length = 8 := by rw [hv]; exact DR.v8
          obtain ⟨v0, v1, v2, v3, v4, v5, v6, v7, hV⟩ := list8 v8
          subst e1 e3 e5
          have hmk2 : ¬ ((m : Int) = (k : Int)) := by omega
          have hmk3 : ((m : Int) != (k : Int)) = true := by rw [bne_iff_ne]; omega
          have hmk4 : (m != k) = true := by rw [bne_iff_ne]; exact hmk
          have HMK := Lib.hid (And.intro hmk hmk2)
          clear hmk hmk2
          clear e2 e4 e6 f1 f2 f3 f4 f5 f6 PO DR hkl hF hin hae g1 hv v8 k8
          rw [HLU.out.2] at p1 p2 p4 p5
          rw [hV] at p2 p3
          unfold i8 at p1 p2 p3 p4 p5
          dsimp only [List.map] at p1 p2 p3 p4
          simp only [List.map_cons (f := Value.int .i64), List.map_nil] at p5
          have P1 := Lib.hid p1
          have P2 := Lib.hid p2
          have P3 := Lib.hid p3
          have P4 := Lib.hid p4
          have P5 := Lib.hid p5
          have G2 := Lib.hid g2
          have G4 := Lib.hid g4
          clear p1 p2 p3 p4 p5 g2 g4 hV HE HLU HKO
          have Q2 := Q2.out
          rw [fe0] at q1 Q2
          go_wp2_with fail
          simp only [EK.out.1]
          refine (q1 _).mono ?_
          rintro e w1 ⟨rfl, n1⟩
          have Bt1 := Lib.hid (Bt.out.new n1)
          have M1 := Lib.hid (MA.out.trans n1)
          clear btl btc0 btc1 btc2 btc3 btc4 btc5 btc6 btc7
          clear n1 q1
          obtain ⟨btl, ⟨btc0, btc1, btc2, btc3, btc4, btc5, btc6, btc7⟩, -⟩ := Bt1.out.eight
          go_wp2_with fail
          refine (Q2 _).mono ?_
          rintro e w2 ⟨rfl, n2⟩
          have Bt2 := Lib.hid ((Bt1.out.new n2).alloc (.cells #[.int .i64 u0, .int .i64 u1, .int .i64 u2, .int .i64 u3, .int .i64 u4, .int .i64 u5, .int .i64 u6, .int .i64 u7] 24))
          have Bu2 := Lib.hid (Box.here w2 w2.heap.size #[.int .i64 u0, .int .i64 u1, .int .i64 u2, .int .i64 u3, .int .i64 u4, .int .i64 u5, .int .i64 u6, .int .i64 u7] 24 rfl)
          have M2 := Lib.hid ((M1.out.trans n2).alloc #[.int .i64 u0, .int .i64 u1, .int .i64 u2, .int .i64 u3, .int .i64 u4, .int .i64 u5, .int .i64 u6, .int .i64 u7] 24)
          clear btl btc0 btc1 btc2 btc3 btc4 btc5 btc6 btc7
          clear n2 Q2
          go_wp2_with fail
          refine (P1.out _).mono ?_
          rintro e w3 ⟨rfl, n3⟩
          have Bt3 := Lib.hid (Bt2.out.new n3)
          have Bu3 := Lib.hid (Bu2.out.new n3)
          have M3 := Lib.hid (M2.out.trans n3)
          clear n3
          obtain ⟨bul, ⟨buc0, buc1, buc2, buc3, buc4, buc5, buc6, buc7⟩, -⟩ := Bu3.out.eight
          go_wp2_with fail
          refine (P2.out _).mono ?_
          rintro e w4 ⟨rfl, n4⟩
          have Bt4 := Lib.hid ((Bt3.out.new n4).alloc (.cells #[.int .i64 v0, .int .i64 v1, .int .i64 v2, .int .i64 v3, .int .i64 v4, .int .i64 v5, .int .i64 v6, .int .i64 v7] 24))
          have Bu4 := Lib.hid ((Bu3.out.new n4).alloc (.cells #[.int .i64 v0, .int .i64 v1, .int .i64 v2, .int .i64 v3, .int .i64 v4, .int .i64 v5, .int .i64 v6, .int .i64 v7] 24))
          have M4 := Lib.hid ((M3.out.trans n4).alloc #[.int .i64 v0, .int .i64 v1, .int .i64 v2, .int .i64 v3, .int .i64 v4, .int .i64 v5, .int .i64 v6, .int .i64 v7] 24)
          clear bul buc0 buc1 buc2 buc3 buc4 buc5 buc6 buc7
          clear n4
          go_wp2_with fail
          refine (P3.out _).mono ?_
          rintro e w5 ⟨rfl, n5⟩
          have Bt5 := Lib.hid (Bt4.out.new n5)
          have Bu5 := Lib.hid (Bu4.out.new n5)
          have M5 := Lib.hid (M4.out.trans n5)
          clear n5
          go_upto_region 16 with fail
          have KEEP := Lib.hid (fun W' (q : New w5 W') => show New w5 W' ∧ W'.cell? ⟨wr.heap.size, 0, none⟩ = some (.int .i64 x0) ∧ W'.cell? ⟨wr.heap.size, 1, none⟩ = some (.int .i64 x1) ∧ W'.cell? ⟨wr.heap.size, 2, none⟩ = some (.int .i64 x2) ∧ W'.cell? ⟨wr.heap.size, 3, none⟩ = some (.int .i64 x3) ∧ W'.cell? ⟨wr.heap.size, 4, none⟩ = some (.int .i64 x4) ∧ W'.cell? ⟨wr.heap.size, 5, none⟩ = some (.int .i64 x5) ∧ W'.cell? ⟨wr.heap.size, 6, none⟩ = some (.int .i64 x6) ∧ W'.cell? ⟨wr.heap.size, 7, none⟩ = some (.int .i64 x7) ∧ W'.cell? ⟨w2.heap.size, 0, none⟩ = some (.int .i64 u0) ∧ W'.cell? ⟨w2.heap.size, 1, none⟩ = some (.int .i64 u1) ∧ W'.cell? ⟨w2.heap.size, 2, none⟩ = some (.int .i64 u2) ∧ W'.cell? ⟨w2.heap.size, 3, none⟩ = some (.int .i64 u3) ∧ W'.cell? ⟨w2.heap.size, 4, none⟩ = some (.int .i64 u4) ∧ W'.cell? ⟨w2.heap.size, 5, none⟩ = some (.int .i64 u5) ∧ W'.cell? ⟨w2.heap.size, 6, none⟩ = some (.int .i64 u6) ∧ W'.cell? ⟨w2.heap.size, 7, none⟩ = some (.int .i64 u7) from ⟨q, (Bt5.out.new q).cell 0, (Bt5.out.new q).cell 1, (Bt5.out.new q).cell 2, (Bt5.out.new q).cell 3, (Bt5.out.new q).cell 4, (Bt5.out.new q).cell 5, (Bt5.out.new q).cell 6, (Bt5.out.new q).cell 7, (Bu5.out.new q).cell 0, (Bu5.out.new q).cell 1, (Bu5.out.new q).cell 2, (Bu5.out.new q).cell 3, (Bu5.out.new q).cell 4, (Bu5.out.new q).cell 5, (Bu5.out.new q).cell 6, (Bu5.out.new q).cell 7⟩)
          have nd : New w5 w5.drew := (New.refl w5).drew
          have hs1 : IntKind.i64.wrap (fr - 1) = gg := by rw [IntKind.wrap_i64, GG.out]; omega
          have hs2 : wrap64 (fr - 1) = gg := by rw [GG.out]; unfold wrap64; omega
          have hs3 : IntKind.i64.wrap ((n1 : Int) + 1) = (n2 : Int) := by have := G2.out; have := G4.out; rw [IntKind.wrap_i64]; omega
          have hs4 : wrap64 ((n1 : Int) + 1) = (n2 : Int) := by have := G2.out; have := G4.out; unfold wrap64; omega
          clear g3
          clear Bt Bt1 Bt2 Bt3 Bt4 Bt5 Bu2 Bu3 Bu4 Bu5
          go_region_held3 (fun w' => New w5 w' ∧ w'.cell? ⟨wr.heap.size, 0, none⟩ = some (.int .i64 x0) ∧ w'.cell? ⟨wr.heap.size, 1, none⟩ = some (.int .i64 x1) ∧ w'.cell? ⟨wr.heap.size, 2, none⟩ = some (.int .i64 x2) ∧ w'.cell? ⟨wr.heap.size, 3, none⟩ = some (.int .i64 x3) ∧ w'.cell? ⟨wr.heap.size, 4, none⟩ = some (.int .i64 x4) ∧ w'.cell? ⟨wr.heap.size, 5, none⟩ = some (.int .i64 x5) ∧ w'.cell? ⟨wr.heap.size, 6, none⟩ = some (.int .i64 x6) ∧ w'.cell? ⟨wr.heap.size, 7, none⟩ = some (.int .i64 x7) ∧ w'.cell? ⟨w2.heap.size, 0, none⟩ = some (.int .i64 u0) ∧ w'.cell? ⟨w2.heap.size, 1, none⟩ = some (.int .i64 u1) ∧ w'.cell? ⟨w2.heap.size, 2, none⟩ = some (.int .i64 u2) ∧ w'.cell? ⟨w2.heap.size, 3, none⟩ = some (.int .i64 u3) ∧ w'.cell? ⟨w2.heap.size, 4, none⟩ = some (.int .i64 u4) ∧ w'.cell? ⟨w2.heap.size, 5, none⟩ = some (.int .i64 u5) ∧ w'.cell? ⟨w2.heap.size, 6, none⟩ = some (.int .i64 u6) ∧ w'.cell? ⟨w2.heap.size, 7, none⟩ = some (.int .i64 u7))
            (first | with_reducible exact KEEP.out _ hnx | with_reducible exact KEEP.out _ nd)
            (first
              | (go_at_call 19; (with_reducible refine (P4.out _).mono ?_); rintro e wz ⟨rfl, hny⟩; have hnx : New w5 wz := New.trans (by first | with_reducible exact hnx | with_reducible exact nd) hny)
              | (go_at_call 19; (with_reducible refine (Q3.out _).mono ?_); rintro e wz ⟨rfl, hny⟩; have hnx : New w5 wz := New.trans (by first | with_reducible exact hnx | with_reducible exact nd) hny)
              | (go_at_call 18; (with_reducible refine (P5.out _).mono ?_); rintro e wz ⟨vv, rfl, o, hny⟩; obtain ⟨pp, kp, rfl, -, -⟩ := o.shape; clear o; simp only [List.length_map, HN2.out]; have hnx : New w5 wz := New.trans (by first | with_reducible exact hnx | with_reducible exact nd) hny)
              | (go_at_call 18; (with_reducible refine (Q4.out _).mono ?_); rintro e wz ⟨vv, rfl, o, hny⟩; obtain ⟨pp, kp, rfl, -, -⟩ := o.shape; clear o; simp only [List.length_map, HN1.out]; have hnx : New w5 wz := New.trans (by first | with_reducible exact hnx | with_reducible exact nd) hny)
              | (go_at_call 21; (with_reducible refine (CS.out _ (M5.out.trans (by first | with_reducible exact hnx | with_reducible exact nd))).mono ?_); rintro e wz ⟨rfl, hny⟩; have hnx : New w5 wz := New.trans (by first | with_reducible exact hnx | with_reducible exact nd) hny))
          go_wp2
          go_ret
          exact ⟨rfl, M5.out.trans hnx⟩
      · have e1 : ae = 9 := HE.out.2.1.trans hae
        have hne : faE l (k : Int) ≠ 0 := by rw [hae]; omega
        have e2 : ue = 9 := by rw [HE.out.2.2.2.1]; unfold fuE; rw [if_pos hne, hae]
        subst e1 e2
        clear hne hae HE HLU HKO Q3 Q4
        rw [erN_pos (show (9 : Int) ≠ 0 by omega)] at q1
        have Q2 := Q2.out
        rw [erN_pos (show (9 : Int) ≠ 0 by omega)] at Q2
        have CN9 := Lib.hid (fun W (q : New w W) => (by have := CN.out W q 9; rw [erN_pos (show (9 : Int) ≠ 0 by omega)] at this; exact this))
        go_wp2_with fail
        simp only [EK.out.1]
        refine (q1 _).mono ?_
        rintro e w1 ⟨rfl, n1⟩
        have Bt1 := Lib.hid (Bt.out.new n1)
        have M1 := Lib.hid (MA.out.trans n1)
        clear btl btc0 btc1 btc2 btc3 btc4 btc5 btc6 btc7
        clear n1 q1
        obtain ⟨btl, ⟨btc0, btc1, btc2, btc3, btc4, btc5, btc6, btc7⟩, -⟩ := Bt1.out.eight
        go_wp2_with fail
        refine (Q2 _).mono ?_
        rintro e w2 ⟨rfl, n2⟩
        have M2 := Lib.hid ((M1.out.trans n2).alloc #[.int .i64 u0, .int .i64 u1, .int .i64 u2, .int .i64 u3, .int .i64 u4, .int .i64 u5, .int .i64 u6, .int .i64 u7] 24)
        clear btl btc0 btc1 btc2 btc3 btc4 btc5 btc6 btc7
        clear n2 Q2
        go_wp2_with fail
        refine (CN9.out _ M2.out).mono ?_
        rintro e w3 ⟨rfl, n3⟩
        have M3 := Lib.hid (M2.out.trans n3)
        clear n3
        go_wp2_with fail
        refine (CN9.out _ M3.out).mono ?_
        rintro e w4 ⟨rfl, n4⟩
        have M4 := Lib.hid (M3.out.trans n4)
        clear n4
        go_wp2_with fail
        refine (CS.out _ M4.out).mono ?_
        rintro e w5 ⟨rfl, n5⟩
        go_wp2
        go_ret
        exact ⟨rfl, M4.out.trans n5⟩

/-! ### THE ROW's STEP: WRITTEN OUT: LEAVE IT -/
theorem door_met (os : Os) (args : Array Value) : laidMetH Tryd.prog Rows.fdsDoublesRow.laid ((World.doorLaid Tryd.prog 400 os).forCall (fun _ _ => 0) ⟨#[], args, []⟩).memory :=
  laidMetH_of_parts3 (fuel := 8) (laidMet_of_run' 8 (by kernel_rfl) (by kernel_rfl)) (by kernel_rfl) (by kernel_rfl)
set_option maxRecDepth 100000 in
theorem lifted (os : Os) (started : os.Started) (H : Type) (enc : TypeId × Value → H) :
    ReturnsInHanded {} Tryd.checked os 5 .any (fun w args => (Rows.fdsDoublesSpec.pre enc Tryd.prog Tryd.f5 [] false w args ∧ laidMetH Tryd.prog Rows.fdsDoublesRow.laid w) ∧ sizedMet enc Tryd.prog Tryd.f5 (OpenSpec.ofChange Rows.fdsDoublesSpec) false w args) (Rows.fdsDoublesSpec.post enc Tryd.prog Tryd.f5 false true false false) := by
  refine returnsInHanded_of_change_and (C := Tryd.checked) (X := fun w _ => laidMetH Tryd.prog Rows.fdsDoublesRow.laid w) (fun _ _ _ hh h => h.of_heap hh) own started (by kernel_rfl) Tryd.func5
    (ChangeSpec.witness_shaped (enc := enc) (C := Tryd.checked) (os := os) (X := fun w _ => laidMetH Tryd.prog Rows.fdsDoublesRow.laid w) false (World.doorLaid Tryd.prog 400 os) #[.agg #[.int .i64 0, .int .i64 0, .int .i64 0, .int .i64 0, .int .i64 0, .int .i64 0, .int .i64 0, .int .i64 0], .int .i64 0] 8 rfl (World.shaped_of_RefB (by kernel_rfl) (by kernel_rfl)) (by kernel_rfl) (by kernel_rfl) (by kernel_rfl) (door_met os _)) ?_
  intro W base args ds gs before hval0 hW _ _ hL _
  have hL' : laidMet Tryd.prog [] W ∧ handlesMet Tryd.prog [("errors.errorType", Rows.laid_errors_errorType)] W := hL
  have hval : ∀ (j : Nat) t v, Tryd.f5.params[j]? = some t → args[j]? = some v → Value.okWide Tryd.prog W .any base t v := hval0
  have hW' := hW
  obtain ⟨p, q, hA0, hV, rfl, hfz, hnd⟩ := hW
  have hA : DataW.TrodAll enc Tryd.prog W 0 (fun _ => true) true Tryd.f5.params.toList args.toList ds p := hA0
  rw [Tryd.params5] at hA hval
  obtain ⟨v0, vs0, d0, ds0, p0, q0, hargs, rfl, rfl, h0, r0⟩ := trodAll_cons hA
  obtain ⟨v1, vs1, d1, ds1, p1, q1, rfl, rfl, rfl, h1, r1⟩ := trodAll_cons r0
  obtain ⟨rfl, rfl, rfl⟩ := trodAll_nil r1
  obtain rfl : args = #[v0, v1] := by cases args; simp_all
  obtain ⟨rfl, rfl⟩ := trodVars_none hV
  have k0 := h0
  have lt0 : ∀ x ∈ p0, x.block < W.heap.size := by obtain ⟨m, hm⟩ := k0; exact DataW.trod_lt m _ _ _ hm
  have w0 : Flat [some .i64, some .i64, some .i64, some .i64, some .i64, some .i64, some .i64, some .i64] v0 := flat_of_arr (ks := [some .i64, some .i64, some .i64, some .i64, some .i64, some .i64, some .i64, some .i64]) Tryd.underlying22 (by
    obtain ⟨ks, hk, e⟩ : ∃ ks, FlatTy Tryd.prog 22 ks ∧ ks = [some .i64, some .i64, some .i64, some .i64, some .i64, some .i64, some .i64, some .i64] := ⟨_, (.array Tryd.underlying22 (.int Tryd.underlying3) (by kernel_rfl)), rfl⟩
    rw [← e]; exact hk) (by kernel_rfl) (hval 0 22 v0 rfl rfl) h0
  obtain ⟨a1, rfl, rfl, rfl, w1⟩ := open_int Tryd.underlying3 (hval 1 3 v1 rfl rfl) h1
  clear hA0 hval0
  refine (walk v0 a1 W w0 w1 (handle_of_hs hL'.2)).mono fun e W' ⟨he, bel⟩ => ?_
  subst he
  exact ⟨_, rfl, _, _, _, [], _, [], hW', trodAll_mk1 (shut_bool Tryd.underlying4 _), (trodAll_cons_mk (Below.trod laidOut (by kernel_rfl) (of_decide_eq_true (by kernel_rfl)) k0 bel lt0) (trodAll_cons_mk (shut_int Tryd.underlying3 w1) trodAll_mk0)), rfl, bel.frame _, fun h => by cases h⟩

theorem over : Rows.fdsDoublesRow.holds Tryd.pinned (OpenSpec.ofChange Rows.fdsDoublesSpec) :=
  OpenClaim.holds_of_wide 5 Tryd.f5 rfl rfl rfl rfl rfl rfl rfl ⟨rfl, rfl, rfl, rfl, rfl⟩ rfl rfl rfl rfl rfl (by kernel_rfl) Tryd.func5 (by kernel_rfl)
    (of_decide_eq_true (by kernel_rfl)) (by unfold Func.isWrapper; first | (rw [if_pos (by decide +kernel)]; kernel_rfl) | (rw [if_neg (by decide +kernel)]; exact ⟨rfl, rfl⟩))
    (fun os started H enc _ => lifted os started H enc)

theorem proved : Rows.FdsDoublesSaid := over
theorem card : Rows.FdsDoublesCardSaid :=
  Claim7.holds_tied_plain_at .later [] [.handle] true (true, "1ae2fa30f38c2c37fba9ec508bca6f5d423a2ae2dae46b1e58bccfcd801d133c") true
    over (fun _ h => by cases h) (by kernel_rfl) (fun _ h => by cases h) fdsDoubles_row_tie rfl ⟨rfl, rfl⟩ (by kernel_rfl) rfl
    (fun f fn hf hfn => by
      obtain rfl : f = 5 := Option.some.inj ((show Tryd.prog.funcNamed "halter/halterlaw20.FdsDoubles" = some 5 by kernel_rfl).symm.trans hf) |>.symm
      obtain rfl : fn = Tryd.f5 := (Option.some.inj (Tryd.func5.symm.trans hfn)).symm
      exact ⟨by kernel_rfl, fun j t ht => by
        rw [Tryd.params5] at ht
        have hm : t ∈ [22, 3] := by have := Array.mem_of_getElem? ht; simpa using this
        have hall : ([22, 3].all fun u => !Tryd.prog.wantsStandIn u) = true := by kernel_rfl
        exact (show Tryd.prog.wantsStandIn t = false by simpa using List.all_eq_true.1 hall t hm)⟩)
    (by kernel_rfl)
#print axioms card
end Go.Proofs.YthkdgihjgllpeaaDoor.fdsDoubles
