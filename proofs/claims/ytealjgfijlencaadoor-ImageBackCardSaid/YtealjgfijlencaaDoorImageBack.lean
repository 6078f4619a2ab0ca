/- A program comes back; cut short anywhere, or with more behind, it is none; bytes that are one are told by it; the statement holds for every input, where the listed variable holds what the library's own text lays, which the card ties. -/
import Derived.Test.YtealjgfijlencaaDoorRows
import Derived.Test.YtealjgfijlencaaDoorImJ
import Derived.Test.YtealjgfijlencaaDoorFkIn
import Derived.Test.YtealjgfijlencaaDoorLay
import Derived.Deep.RegionHeld3
import Derived.Test.YtealjgfijlencaaDoorCards
import Derived.Test.YtealjgfijlencaaDoorTie
import Derived.LaidMore
import Derived.LaidLaws
import Derived.LaidHandle
import Derived.Test.YtealjgfijlencaaDoorLay
import Derived.Test.YtealjgfijlencaaDoorPost
import Derived.WalkKit
import Derived.ProofKit
import Derived.OpenShut
import Derived.ShutString
import Derived.ChangeOld
import Derived.Below
namespace Go.Proofs.YtealjgfijlencaaDoor.imageBack
open Go.ChangeShapes Go.WideShapes Go.ChangeAt Go.RowKit
open Go.ChangeMaps (open_string shut_string)
set_option linter.unusedVariables false

theorem own : ownKnob Tryd.prog.godebug = none := by kernel_rfl
theorem laidOut : laidOutB Tryd.prog = true := by kernel_rfl

/-- WHAT THE WALK IS TOLD OF A SLICE OF INTEGERS THAT CAME IN: it is nil; or it leads to a row of 'cap' cells, the numbers 'zs' (the first 'len' are its elements, the rest its spare room), each fitting its kind. -/
def IsRow (k : IntKind) (w : World) (a : Option Addr) (len cap : Nat) (zs : List Int) : Prop :=
  (a = none ∧ len = 0 ∧ cap = 0 ∧ zs = []) ∨
  ∃ x, a = some x ∧ len ≤ cap ∧ cap ≤ maxLen ∧ zs.length = cap ∧ (∀ i, i < zs.length → w.cell? (x.add i) = some (.int k (zs.getD i 0))) ∧ ∀ n ∈ zs, (Lit.int k n).wf = true

/-! ### STEP 1: THE WALK: the Go text returns true, AND WRITES NOTHING THAT WAS THERE: 'Below w.heap.size w w'' (Derived/Below.lean: '.refl', '.alloc', '.drew', '.setCell' at a new block, '.trans'). Open each 'IsRow' by 'rcases' AHEAD of 'go_enter'; part every test ahead of the walk. -/
set_option maxHeartbeats 8000000 in
set_option maxRecDepth 100000 in
theorem walk (v0 : Value) (a1 : Option Addr) (len1 cap1 : Nat) (z1 : List Int) (a2 : Int) (w : World) (w0 : FvVal [.one (.num .u32), .rows [.num .i64, .num .i64, .num .u8, .bys]] w v0) (w1 : IsRow .u8 w a1 len1 cap1 z1) (w2 : (Lit.int .i64 a2).wf = true) (hl : Laid w) :
    Calls Tryd.prog 4 #[v0, .slice a1 len1 cap1, .int .i64 a2] w fun e w' => e = .returned (.bool true) ∧ Below w.heap.size w w' := by
  obtain ⟨e, v, L, rfl, he, hS, hSB⟩ := img_in w0
  obtain ⟨b, hBY, hOC⟩ := byts_row w1
  clear w0 w1 w2
  have CS := Lib.hid (fun W (k : New w W) => imsure_any W (hl.new k))
  have CN := Lib.hid (fun W (k : New w W) (x : Int) => num_er x W (hl.new k))
  clear hl
  obtain ⟨p, cap, rfl, hcap, hm⟩ := hS.shape
  obtain ⟨D, hD⟩ : ∃ D, D = w.alloc (.cells #[.int .u32 e, .slice p L.length cap] 25) := ⟨_, rfl⟩
  have nD : New w D := by rw [hD]; exact (New.refl w).alloc _ _
  have bI : Box D w.heap.size #[.int .u32 e, .slice p L.length cap] 25 := by rw [hD]; exact Box.here _ _ _ _ rfl
  have HS := Lib.hid (hS.new nD)
  have ND := Lib.hid nD
  have BI := Lib.hid bI
  obtain ⟨i0, i1⟩ := bI.two
  generalize hln : L.length = ln at *
  have HLN := Lib.hid hln
  have HSB := Lib.hid hSB
  have HE := Lib.hid he
  have HBY := Lib.hid hBY
  have HOC := Lib.hid hOC
  clear hS hSB he hBY hOC nD bI hln hcap hm
  by_cases c20 : 20 < ln
  · go_enter Tryd.func4, Tryd.ntmps4
    go_upto_region 1 with fail
    rw [← hD]
    clear hD
    go_wp2_with fail
    refine (CS.out _ ND.out).mono ?_
    rintro en w1 ⟨rfl, n1⟩
    go_wp2
    go_ret
    exact ⟨rfl, ND.out.trans n1⟩
  · go_enter Tryd.func4, Tryd.ntmps4
    go_upto_region 1 with fail
    rw [← hD]
    clear hD
    go_wp2_with fail
    go_loopg [7] ln (fun q kv wr => ∃ j : Nat, j + q = ln ∧ kv = .int .i64 (j : Int) ∧ wr = D)
    case atStart => exact ⟨0, by omega, rfl, rfl⟩
    case round =>
      obtain ⟨j, hj, rfl, rfl⟩ := hrel
      have J := Lib.hid hj
      by_cases c : j < ln
      · have hjL : j < L.length := by rw [HLN.out]; exact c
        obtain ⟨a, dp, dc, rfl, d0, d1, d2, d3, db⟩ := HS.out.cells rfl j hjL
        rw [fad a (j * 4) 3 (by omega)] at d3
        generalize L[j].d.length = dn at *
        clear d0 d1 d2 db hj hjL
        by_cases c2 : 2000 < dn
        · go_wp2_with fail
          refine (CS.out _ ND.out).mono ?_
          rintro en w1 ⟨rfl, n1⟩
          go_wp2
          go_ret
          exact ⟨rfl, ND.out.trans n1⟩
        · go_wp2
          go_roundg (ln - (j + 1))
          case measure => have := J.out; omega
          case rel => exact ⟨j + 1, by have := J.out; omega, by go_num, rfl⟩
      · obtain rfl : j = ln := by omega
        clear hj
        go_wp2_with fail
        refine (rgive_any HS.out (by have := HLN.out; omega) e).mono ?_
        rintro en w1 ⟨v1, rfl, ow1, n1⟩
        have S1 := ow1.sgs n1
        obtain ⟨q1, k1, rfl, -, -⟩ := S1.shape
        have M1 := Lib.hid (ND.out.trans n1)
        have bI1 := BI.out.new n1
        have BI1 := Lib.hid bI1
        have HS1 := Lib.hid (HS.out.new n1)
        clear n1 ow1 bI1 i0 i1
        have CX := Lib.hid (fun W (k : New w W) => pdec_im (HBY.out.new k) HOC.out)
        have CEN := penc_im S1 HSB.out e HE.out
        have HOCT := Lib.hid (imT_oct (e := e) HSB.out)
        cases hok : imOk e L with
        | false =>
          have hiE : imE e L = 8 := by unfold imE; rw [hok]; rfl
          rw [hiE, erN_pos (show (8 : Int) ≠ 0 by decide)] at CEN
          generalize imT e L = bt at *
          clear hok hiE
          go_wp2_with fail
          refine CEN.mono ?_
          rintro en w2 ⟨bv, rfl, ob, n2⟩
          obtain ⟨pb, kb, rfl⟩ := ob.shape
          have MT := Lib.hid (M1.out.trans n2)
          clear CEN n2 ob S1 BI1 HS1
          cases hd : imD b with
          | none =>
            obtain ⟨f1, f2, f3⟩ := d_none hd
            have CB := CX.out _ MT.out
            rw [f1, f2, f3, erN_pos (show (8 : Int) ≠ 0 by decide)] at CB
            clear f1 f2 f3 hd
            go_wp2_with fail
            refine CB.mono ?_
            rintro en w20 ⟨sv20, rfl, s20, n20⟩
            obtain ⟨q20, k20, rfl, -, -⟩ := s20.sgs.shape
            have M20 := Lib.hid (MT.out.trans (n20.trans ((New.refl w20).alloc #[.int .u32 0, .slice q20 0 k20] 36)))
            clear CB n20 s20
            go_wp2_with fail
            refine (CS.out _ M20.out).mono ?_
            rintro en w21 ⟨rfl, n21⟩
            go_wp2
            go_ret
            exact ⟨rfl, M20.out.trans n21⟩
          | some z =>
            obtain ⟨e2, L2⟩ := z
            obtain ⟨f1, f2, f3⟩ := d_some hd
            obtain ⟨g1, g2, g3⟩ := imB_imD HOC.out hd
            have g4 := imD_bd HOC.out hd
            have g5 : imE e2 L2 = 0 := by unfold imE; rw [g2]; rfl
            have g6 : imT e2 L2 = b := by unfold imT; rw [g2, ← g1]; rfl
            have CB := CX.out _ MT.out
            rw [f1, f2, f3, erN_zero] at CB
            have CE2 := Lib.hid (fun W v (k : Sgs RSp W v L2) => (by have := penc_im k g4 e2 (by omega); rw [g5, g6, erN_zero] at this; exact this : Calls Tryd.prog 7 #[.agg #[.int .u32 e2, v]] W fun en w' => ∃ bv, en = .returned (.tuple #[bv, .nilIface]) ∧ OwnB W.heap.size w' bv b ∧ New W w'))
            clear f1 f2 f3 g1 g2 g3 g4 g5 g6 hd
            go_wp2_with fail
            refine CB.mono ?_
            rintro en w20 ⟨sv20, rfl, s20, n20⟩
            obtain ⟨q20, k20, rfl, -, -⟩ := s20.sgs.shape
            have aN20 := (New.refl w20).alloc #[.int .u32 e2, .slice q20 L2.length k20] 36
            have M20 := Lib.hid (MT.out.trans (n20.trans aN20))
            have S20 := s20.sgs.new aN20
            have C20 := CE2.out _ _ S20
            obtain ⟨x0, x1⟩ := (Box.here w20 w20.heap.size #[.int .u32 e2, .slice q20 L2.length k20] 36 rfl).two
            clear CB n20 s20 aN20 S20 CE2
            go_wp2_with fail
            refine C20.mono ?_
            rintro en w21 ⟨bv21, rfl, o21, n21⟩
            have str1 := str_of o21.byts
            have M21 := Lib.hid (M20.out.trans n21)
            have str2 := str_of (HBY.out.new M21.out)
            obtain ⟨p21, k21, rfl⟩ := o21.shape
            generalize strOfNums b = sb at *
            clear n21 o21 C20 x0 x1
            go_wp2_with fail
            refine (CS.out _ M21.out).mono ?_
            rintro en w22 ⟨rfl, n22⟩
            go_wp2
            go_ret
            exact ⟨rfl, M21.out.trans n22⟩
        | true =>
          have hiT : imT e L = imB e L := by unfold imT; rw [hok]; rfl
          have hiE : imE e L = 0 := by unfold imE; rw [hok]; rfl
          rw [hiT, hiE, erN_zero] at CEN
          rw [hiT] at HOCT
          have hbe : 0 ≤ e ∧ e < 4294967296 := by have := HE.out; omega
          have hfull := d_some (imD_imB hbe hok)
          have hcut := fun k hk => (d_none (imD_cut hbe hok k hk)).2.2
          have hcutE := fun k hk => d_none (imD_cut hbe hok k hk)
          have happ := d_none (show imD (imB e L ++ [0]) = none by rw [imD_more hbe hok, if_neg (by simp)])
          have hl9 : 9 ≤ (imB e L).length := by rw [imB_cons]; simp
          have hl6 : (imB e L).length ≤ 600000 := by
            have hp := imOk_parts hok
            have := sgsB_len L (fun s hs => (chOk_mem (Int.le_refl 0) hp.2.2.2.1 s hs).2.2.2.2)
            have h8 := Nat.mul_le_mul_right 65542 hp.2.1
            rw [imB_cons]; simp only [List.length_cons]; omega
          clear hok hiT hiE
          generalize imB e L = bt at *
          generalize hlb : bt.length = lb at *
          have HLB := Lib.hid hlb
          have HF := Lib.hid hfull
          have HC := Lib.hid hcutE
          have HA := Lib.hid happ
          clear hfull hcut hcutE happ hlb
          go_wp2_with fail
          refine CEN.mono ?_
          rintro en w2 ⟨bv, rfl, ob, n2⟩
          obtain ⟨pb, kb, rfl⟩ := ob.shape
          rw [HLB.out] at ob ⊢
          have M2 := Lib.hid (M1.out.trans n2)
          have N2 := Lib.hid n2
          have HOWN := Lib.hid (fun g (hg : Value.ownBlock (.slice pb lb kb) = some g) => ob.lt8 hg)
          have OB2 := Lib.hid ob
          have BI2 := Lib.hid (BI1.out.new n2)
          have HS2 := Lib.hid (HS1.out.new n2)
          have CD := pdec_im ob.byts HOCT.out
          rw [HF.out.1, HF.out.2.1, HF.out.2.2, erN_zero] at CD
          clear CEN n2 ob S1
          go_wp2_with fail
          refine CD.mono ?_
          rintro en w3 ⟨sv, rfl, s3, n3⟩
          obtain ⟨q3, k3, rfl, -, -⟩ := s3.sgs.shape
          have aN := (New.refl w3).alloc #[.int .u32 e, .slice q3 L.length k3] 36
          have nx := n3.trans aN
          have M3 := Lib.hid (M2.out.trans nx)
          have N3 := Lib.hid (N2.out.trans nx)
          have S3 := Lib.hid (s3.later (But.of_new _ aN))
          have OB3 := Lib.hid (OB2.out.new nx)
          have BI3 := Lib.hid (BI2.out.new nx)
          have HS3 := Lib.hid (HS2.out.new nx)
          have BX3 := Lib.hid (Box.here w3 w3.heap.size #[.int .u32 e, .slice q3 L.length k3] 36 rfl)
          have SZ := Lib.hid (show w2.heap.size ≤ w3.heap.size from n3.size)
          clear CD n3 s3 aN nx OB2 BI2 HS2
          have hcaps : lb ≤ kb ∧ kb ≤ maxLen := by
            obtain ⟨p', c', e', h2, -⟩ := OB3.out.byts
            cases e'
            rw [HLB.out] at h2; exact h2
          have hm63 : kb ≤ 9223372036854775807 := hcaps.2
          have hub := IntKind.wrap_u64 a2
          obtain ⟨kk, hkk, hkl⟩ : ∃ kk : Nat, (kk : Int) = (IntKind.u64.wrap a2).tmod (lb : Int) ∧ kk < lb := by
            rw [hub, Int.tmod_eq_emod_of_nonneg (by omega)]
            have h := Int.emod_lt_of_pos (a2 % 18446744073709551616) (show (0 : Int) < (lb : Int) by omega)
            have h' := Int.emod_nonneg (a2 % 18446744073709551616) (show (lb : Int) ≠ 0 by omega)
            exact ⟨(a2 % 18446744073709551616 % (lb : Int)).toNat, by omega, by omega⟩
          have HWLB := Lib.hid (show IntKind.u64.wrap (lb : Int) = (lb : Int) by rw [IntKind.wrap_u64]; omega)
          have HKK2 := Lib.hid hkk.symm
          clear hkk hub
          have HKR := Lib.hid (wrap_id (kk : Int) (by omega))
          have HKR2 := Lib.hid (wrap_idk (kk : Int) (by omega))
          have hkc : kk ≤ kb := by omega
          have hlz : ¬ lb = 0 := by omega
          have CC := fun W (k : New (w3.alloc (.cells #[.int .u32 e, .slice q3 L.length k3] 36)) W) => (show Calls Tryd.prog 10 #[.slice pb kk kb] W fun en w' => ∃ sv, en = .returned (.tuple #[.agg #[.int .u32 0, sv], .iface 60 (.int .i64 8)]) ∧ SgN RSp W.heap.size w' sv [] ∧ New W w' from by
            have hf := (OB3.out.byts).frontk kk (by rw [HLB.out]; omega)
            have hd3 := HC.out kk hkl
            have := pdec_im (hf.new k) (fun x hx => HOCT.out x (List.mem_of_mem_take hx))
            rw [hd3.1, hd3.2.1, hd3.2.2, erN_pos (show (8 : Int) ≠ 0 by decide)] at this
            exact this)
          have CC0 := CC _ (New.refl _)
          clear hcaps hm63 CC
          have hwlb := HWLB.out
          have hkk2 := HKK2.out
          have hkr := HKR.out
          have hkr2 := HKR2.out
          go_wp2_with fail
          refine CC0.mono ?_
          rintro en w4 ⟨sx, rfl, s4, n4⟩
          obtain ⟨q4, k4, rfl, -, -⟩ := s4.sgs.shape
          -- region14
          have aN4 := (New.refl w4).alloc #[.int .u32 0, .slice q4 0 k4] 36
          have nx4 := (((New.refl w3).alloc #[.int .u32 e, .slice q3 L.length k3] 36).trans n4).trans aN4
          have K4 := n4.trans aN4
          have M4 := Lib.hid (M3.out.trans K4)
          have S4 := Lib.hid (S3.out.later (But.of_new _ K4))
          have OB4 := Lib.hid (OB3.out.new K4)
          have BI4 := Lib.hid (BI3.out.new K4)
          have HS4 := Lib.hid (HS3.out.new K4)
          have BX4 := Lib.hid (BX3.out.new K4)
          clear aN4 nx4 n4 s4 CC0 hwlb hkk2 hkr hkr2 hkc hlz
          have N4 := Lib.hid (N3.out.trans K4)
          clear K4
          have ONEw := Lib.hid (one_byt (w4.alloc (.cells #[.int .u32 0, .slice q4 0 k4] 36)) 0)
          have a5 := (New.refl (w4.alloc (.cells #[.int .u32 0, .slice q4 0 k4] 36))).alloc #[.int .u8 0] 5
          have OB5w := Lib.hid (OB4.out.new a5)
          have N5 := Lib.hid (N4.out.trans a5)
          have M5 := Lib.hid (M4.out.trans a5)
          have S5 := Lib.hid (S4.out.later (But.of_new _ a5))
          have BX5 := Lib.hid (BX4.out.new a5)
          clear a5 OB4 BI4 HS4 BX4 S4
          have hb5 : w1.heap.size ≤ ((w4.alloc (.cells #[.int .u32 0, .slice q4 0 k4] 36)).alloc (.cells #[.int .u8 0] 5)).heap.size := N5.out.size
          have hlen5 : (bt.map b8).length + ([0].map b8).length ≤ 1000000 := by simp only [List.length_map]; rw [HLB.out]; simp; omega
          rw [World.size_alloc] at ONEw
          go_wp2_with (first
            | ((with_reducible refine at_slot 77 ?_); refine wpList_app_w (R := R8) (u := .slice (some ⟨w4.heap.size + 1, 0, none⟩) 1 1) (m := [0].map b8) (l := bt.map b8) (v := .slice pb lb kb) (base := w1.heap.size) rfl _ _ rfl rfl rfl OB5w.out.w8 rfl ONEw.out.rws8 hlen5 hb5 ?_))
          intro v6 w6 o6 k6 x6 n6
          have nn6 := n6 w1 (Nat.le_refl _) N5.out
          have b6 : Byts w6 v6 (bt ++ [0]) := by
            have q : OwnW R8 w1.heap.size w6 v6 ((bt ++ [0]).map b8) := by rw [List.map_append]; exact o6
            exact q.b8.byts
          have k6s : But (fun g => g < w2.heap.size) ((w4.alloc (.cells #[.int .u32 0, .slice q4 0 k4] 36)).alloc (.cells #[.int .u8 0] 5)) w6 := k6.mono fun g _ hg => HOWN.out g hg
          have M6 := Lib.hid (M1.out.trans nn6)
          have S6 := Lib.hid (S5.out.later k6s)
          have BI6 := Lib.hid (BI1.out.new nn6)
          have HS6 := Lib.hid (HS1.out.new nn6)
          have BX6 := Lib.hid (BX5.out.but k6s (by have := SZ.out; show ¬ w3.heap.size < w2.heap.size; omega))
          have CA := pdec_im b6 (fun x hx => by
            rcases List.mem_append.1 hx with h | h
            · exact HOCT.out x h
            · rw [List.mem_singleton] at h; subst h; decide)
          rw [HA.out.1, HA.out.2.1, HA.out.2.2, erN_pos (show (8 : Int) ≠ 0 by decide)] at CA
          obtain ⟨p6, c6, rfl, -⟩ := id b6
          generalize (bt ++ [0]).length = l6 at *
          clear nn6 b6 k6s n6 x6 k6 o6 S5 BX5 OB5w ONEw hb5 hlen5 N5 M5 N4 M4
          go_wp2_with fail
          refine CA.mono ?_
          rintro en w7 ⟨s7v, rfl, s7, n7⟩
          obtain ⟨q7, k7, rfl, -, -⟩ := s7.sgs.shape
          have aN7 := (New.refl w7).alloc #[.int .u32 0, .slice q7 0 k7] 36
          have K7 := n7.trans aN7
          have M7 := Lib.hid (M6.out.trans K7)
          have S7 := (S6.out.later (But.of_new _ K7)).sgs
          have HS7 := HS6.out.new K7
          have CI := risim_any S7 HS7 (by have := HLN.out; omega) e
          obtain ⟨x0, x1⟩ := (BX6.out.new K7).two
          obtain ⟨i0, i1⟩ := (BI6.out.new K7).two
          clear CA n7 s7 aN7 K7 S6 BI6 HS6 BX6 S7 HS7 M6
          go_wp2_with fail
          refine CI.mono ?_
          rintro en w8 ⟨rfl, n8⟩
          have M8 := Lib.hid (M7.out.trans n8)
          clear CI n8 x0 x1 i0 i1 M7
          have CN8 := CN.out _ M8.out 8
          rw [erN_pos (show (8 : Int) ≠ 0 by decide)] at CN8
          go_wp2_with fail
          refine CN8.mono ?_
          rintro en w9 ⟨rfl, n9⟩
          have M9 := Lib.hid (M8.out.trans n9)
          have CN9 := CN.out _ M9.out 8
          rw [erN_pos (show (8 : Int) ≠ 0 by decide)] at CN9
          clear CN8 n9 M8
          go_wp2_with fail
          refine CN9.mono ?_
          rintro en w10 ⟨rfl, n10⟩
          have MT := Lib.hid (M9.out.trans n10)
          clear CN9 n10 M9
          cases hd : imD b with
          | none =>
            obtain ⟨f1, f2, f3⟩ := d_none hd
            have CB := CX.out _ MT.out
            rw [f1, f2, f3, erN_pos (show (8 : Int) ≠ 0 by decide)] at CB
            clear f1 f2 f3 hd
            go_wp2_with fail
            refine CB.mono ?_
            rintro en w20 ⟨sv20, rfl, s20, n20⟩
            obtain ⟨q20, k20, rfl, -, -⟩ := s20.sgs.shape
            have M20 := Lib.hid (MT.out.trans (n20.trans ((New.refl w20).alloc #[.int .u32 0, .slice q20 0 k20] 36)))
            clear CB n20 s20
            go_wp2_with fail
            refine (CS.out _ M20.out).mono ?_
            rintro en w21 ⟨rfl, n21⟩
            go_wp2
            go_ret
            exact ⟨rfl, M20.out.trans n21⟩
          | some z =>
            obtain ⟨e2, L2⟩ := z
            obtain ⟨f1, f2, f3⟩ := d_some hd
            obtain ⟨g1, g2, g3⟩ := imB_imD HOC.out hd
            have g4 := imD_bd HOC.out hd
            have g5 : imE e2 L2 = 0 := by unfold imE; rw [g2]; rfl
            have g6 : imT e2 L2 = b := by unfold imT; rw [g2, ← g1]; rfl
            have CB := CX.out _ MT.out
            rw [f1, f2, f3, erN_zero] at CB
            have CE2 := Lib.hid (fun W v (k : Sgs RSp W v L2) => (by have := penc_im k g4 e2 (by omega); rw [g5, g6, erN_zero] at this; exact this : Calls Tryd.prog 7 #[.agg #[.int .u32 e2, v]] W fun en w' => ∃ bv, en = .returned (.tuple #[bv, .nilIface]) ∧ OwnB W.heap.size w' bv b ∧ New W w'))
            clear f1 f2 f3 g1 g2 g3 g4 g5 g6 hd
            go_wp2_with fail
            refine CB.mono ?_
            rintro en w20 ⟨sv20, rfl, s20, n20⟩
            obtain ⟨q20, k20, rfl, -, -⟩ := s20.sgs.shape
            have aN20 := (New.refl w20).alloc #[.int .u32 e2, .slice q20 L2.length k20] 36
            have M20 := Lib.hid (MT.out.trans (n20.trans aN20))
            have S20 := s20.sgs.new aN20
            have C20 := CE2.out _ _ S20
            obtain ⟨x0, x1⟩ := (Box.here w20 w20.heap.size #[.int .u32 e2, .slice q20 L2.length k20] 36 rfl).two
            clear CB n20 s20 aN20 S20 CE2
            go_wp2_with fail
            refine C20.mono ?_
            rintro en w21 ⟨bv21, rfl, o21, n21⟩
            have str1 := str_of o21.byts
            have M21 := Lib.hid (M20.out.trans n21)
            have str2 := str_of (HBY.out.new M21.out)
            obtain ⟨p21, k21, rfl⟩ := o21.shape
            generalize strOfNums b = sb at *
            clear n21 o21 C20 x0 x1
            go_wp2_with fail
            refine (CS.out _ M21.out).mono ?_
            rintro en w22 ⟨rfl, n22⟩
            go_wp2
            go_ret
            exact ⟨rfl, M21.out.trans n22⟩

/-! ### THE ROW's STEP: WRITTEN OUT: LEAVE IT -/
theorem door_met (os : Os) (args : Array Value) : laidMetH Tryd.prog Rows.imageBackRow.laid ((World.doorLaid Tryd.prog 400 os).forCall (fun _ _ => 0) ⟨#[], args, []⟩).memory :=
  laidMetH_of_parts3 (fuel := 8) (laidMet_of_run' 8 (by kernel_rfl) (by kernel_rfl)) (by kernel_rfl) (by kernel_rfl)
set_option maxRecDepth 100000 in
theorem lifted (os : Os) (started : os.Started) (H : Type) (enc : TypeId × Value → H) :
    ReturnsInHanded {} Tryd.checked os 4 .any (fun w args => (Rows.imageBackSpec.pre enc Tryd.prog Tryd.f4 [] false w args ∧ laidMetH Tryd.prog Rows.imageBackRow.laid w) ∧ sizedMet enc Tryd.prog Tryd.f4 (OpenSpec.ofChange Rows.imageBackSpec) false w args) (Rows.imageBackSpec.post enc Tryd.prog Tryd.f4 false true false false) := by
  refine returnsInHanded_of_change_and (C := Tryd.checked) (X := fun w _ => laidMetH Tryd.prog Rows.imageBackRow.laid w) (fun _ _ _ hh h => h.of_heap hh) own started (by kernel_rfl) Tryd.func4
    (ChangeSpec.witness_shaped (enc := enc) (C := Tryd.checked) (os := os) (X := fun w _ => laidMetH Tryd.prog Rows.imageBackRow.laid w) false (World.doorLaid Tryd.prog 400 os) #[.agg #[.int .u32 0, .slice none 0 0], .slice none 0 0, .int .i64 0] 8 rfl (World.shaped_of_RefB (by kernel_rfl) (by kernel_rfl)) (by kernel_rfl) (by kernel_rfl) (by kernel_rfl) (door_met os _)) ?_
  intro W base args ds gs before hval0 hW _ _ hL _
  have hL' : laidMet Tryd.prog [] W ∧ handlesMet Tryd.prog [("errors.errorType", Rows.laid_errors_errorType)] W := hL
  have hval : ∀ (j : Nat) t v, Tryd.f4.params[j]? = some t → args[j]? = some v → Value.okWide Tryd.prog W .any base t v := hval0
  have hW' := hW
  obtain ⟨p, q, hA0, hV, rfl, hfz, hnd⟩ := hW
  have hA : DataW.TrodAll enc Tryd.prog W 0 (fun _ => true) true Tryd.f4.params.toList args.toList ds p := hA0
  rw [Tryd.params4] at hA hval
  obtain ⟨v0, vs0, d0, ds0, p0, q0, hargs, rfl, rfl, h0, r0⟩ := trodAll_cons hA
  obtain ⟨v1, vs1, d1, ds1, p1, q1, rfl, rfl, rfl, h1, r1⟩ := trodAll_cons r0
  obtain ⟨v2, vs2, d2, ds2, p2, q2, rfl, rfl, rfl, h2, r2⟩ := trodAll_cons r1
  obtain ⟨rfl, rfl, rfl⟩ := trodAll_nil r2
  obtain rfl : args = #[v0, v1, v2] := by cases args; simp_all
  obtain ⟨rfl, rfl⟩ := trodVars_none hV
  have k0 := h0
  have lt0 : ∀ x ∈ p0, x.block < W.heap.size := by obtain ⟨m, hm⟩ := k0; exact DataW.trod_lt m _ _ _ hm
  have w0 : FvVal [.one (.num .u32), .rows [.num .i64, .num .i64, .num .u8, .bys]] W v0 := fvval_of Tryd.underlying25 (by kernel_rfl) (by kernel_rfl) rfl (fun i f c hf hc => by
    rcases i with _| _| _
    · simp at hf hc; subst hf hc
      exact Tryd.underlying22
    · simp at hf hc; subst hf hc
      exact ⟨_, _, Tryd.underlying23, Tryd.underlying29, by kernel_rfl, by kernel_rfl, rfl, fun i f c hf hc => by
        rcases i with _| _| _| _| _
        · (simp at hf hc; subst hf hc; exact Tryd.underlying3)
        · (simp at hf hc; subst hf hc; exact Tryd.underlying3)
        · (simp at hf hc; subst hf hc; exact Tryd.underlying5)
        · (simp at hf hc; subst hf hc; exact ⟨_, Tryd.underlying26, Tryd.underlying5, by kernel_rfl⟩)
        · simp at hc⟩
    · simp at hc) (hval 0 25 v0 rfl rfl) h0
  obtain ⟨a1, len1, cap1, rfl⟩ := okWide_slice Tryd.underlying26 (hval 1 26 v1 rfl rfl)
  have k1 := h1
  have lt1 : ∀ x ∈ p1, x.block < W.heap.size := by obtain ⟨m, hm⟩ := k1; exact DataW.trod_lt m _ _ _ hm
  obtain ⟨z1, w1⟩ : ∃ zs, IsRow .u8 W a1 len1 cap1 zs := by
    obtain ⟨fuel, hf⟩ := h1
    rcases open_ints Tryd.underlying26 Tryd.underlying5 (by kernel_rfl) hf with ⟨hcs, _⟩ | ⟨x, l, c, zs, hcs, _, hl, hm, hz, _, hcell, hwz⟩
    · simp [Value.cells] at hcs
      obtain ⟨rfl, rfl, rfl⟩ := hcs
      exact ⟨[], .inl ⟨rfl, rfl, rfl, rfl⟩⟩
    · simp [Value.cells] at hcs
      obtain ⟨rfl, rfl, rfl⟩ := hcs
      exact ⟨zs, .inr ⟨_, rfl, hl, hm, by simpa using hz, hcell, hwz⟩⟩
  obtain ⟨a2, rfl, rfl, rfl, w2⟩ := open_int Tryd.underlying3 (hval 2 3 v2 rfl rfl) h2
  clear hA0 hval0
  refine (walk v0 a1 len1 cap1 z1 a2 W w0 w1 w2 (handle_of_hs hL'.2)).mono fun e W' ⟨he, bel⟩ => ?_
  subst he
  exact ⟨_, rfl, _, _, _, [], _, [], hW', trodAll_mk1 (shut_bool Tryd.underlying4 _), (trodAll_cons_mk (Below.trod laidOut (by kernel_rfl) (of_decide_eq_true (by kernel_rfl)) k0 bel lt0) (trodAll_cons_mk (Below.trod laidOut (by kernel_rfl) (of_decide_eq_true (by kernel_rfl)) k1 bel lt1) (trodAll_cons_mk (shut_int Tryd.underlying3 w2) trodAll_mk0))), rfl, bel.frame _, fun h => by cases h⟩

theorem over : Rows.imageBackRow.holds Tryd.pinned (OpenSpec.ofChange Rows.imageBackSpec) :=
  OpenClaim.holds_of_wide 4 Tryd.f4 rfl rfl rfl rfl rfl rfl rfl ⟨rfl, rfl, rfl, rfl, rfl⟩ rfl rfl rfl rfl rfl (by kernel_rfl) Tryd.func4 (by kernel_rfl)
    (of_decide_eq_true (by kernel_rfl)) (by unfold Func.isWrapper; first | (rw [if_pos (by decide +kernel)]; kernel_rfl) | (rw [if_neg (by decide +kernel)]; exact ⟨rfl, rfl⟩))
    (fun os started H enc _ => lifted os started H enc)

theorem proved : Rows.ImageBackSaid := over
theorem card : Rows.ImageBackCardSaid :=
  Claim7.holds_tied_plain_at .later [] [.handle] true (true, "c673f5b26ecd1a14bde79e3f67d0e7c3043df558c0ec58ae2d7ad4ff549159af") true
    over (fun _ h => by cases h) (by kernel_rfl) (fun _ h => by cases h) imageBack_row_tie rfl ⟨rfl, rfl⟩ (by kernel_rfl) rfl
    (fun f fn hf hfn => by
      obtain rfl : f = 4 := Option.some.inj ((show Tryd.prog.funcNamed "halter/halterlaw21.ImageBack" = some 4 by kernel_rfl).symm.trans hf) |>.symm
      obtain rfl : fn = Tryd.f4 := (Option.some.inj (Tryd.func4.symm.trans hfn)).symm
      exact ⟨by kernel_rfl, fun j t ht => by
        rw [Tryd.params4] at ht
        have hm : t ∈ [25, 26, 3] := by have := Array.mem_of_getElem? ht; simpa using this
        have hall : ([25, 26, 3].all fun u => !Tryd.prog.wantsStandIn u) = true := by kernel_rfl
        exact (show Tryd.prog.wantsStandIn t = false by simpa using List.all_eq_true.1 hall t hm)⟩)
    (by kernel_rfl)
#print axioms card
end Go.Proofs.YtealjgfijlencaaDoor.imageBack
