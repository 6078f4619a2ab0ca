/- What is cut out of regions is as many pages less as were in it, and is not in it any more; laid down again it is as many as there were. -/
import Derived.Test.YtfkjgbenjdmedaaRows
import Derived.Test.YtfkjgbenjdmedaaReJ
import Derived.Test.YtfkjgbenjdmedaaReK
import Derived.Test.YtfkjgbenjdmedaaReL
import Derived.Test.YtfkjgbenjdmedaaFlat
import Derived.Test.YtfkjgbenjdmedaaPost
import Derived.SizedLaws
import Derived.WalkKit
import Derived.ProofKit
import Derived.OpenShut
import Derived.ShutString
import Derived.ChangeOld
import Derived.Below
namespace Go.Proofs.Ytfkjgbenjdmedaa.regionSizes
open Go.ChangeShapes Go.WideShapes Go.ChangeAt Go.RowKit
open Go.ChangeMaps (open_string shut_string)
set_option linter.unusedVariables false

theorem own : ownKnob Try.prog.godebug = none := by kernel_rfl
theorem laidOut : laidOutB Try.prog = true := by kernel_rfl

/-- WHAT THE WALK IS TOLD OF A SLICE OF INTEGERS THAT CAME IN: it is nil; or it leads to a row of 'cap' cells, the numbers 'zs' (the first 'len' are its elements, the rest its spare room), each fitting its kind. -/
def IsRow (k : IntKind) (w : World) (a : Option Addr) (len cap : Nat) (zs : List Int) : Prop :=
  (a = none ∧ len = 0 ∧ cap = 0 ∧ zs = []) ∨
  ∃ x, a = some x ∧ len ≤ cap ∧ cap ≤ maxLen ∧ zs.length = cap ∧ (∀ i, i < zs.length → w.cell? (x.add i) = some (.int k (zs.getD i 0))) ∧ ∀ n ∈ zs, (Lit.int k n).wf = true

open Go.RowKit Go.Deep
theorem kmod (a : Int) (n : Nat) (h1 : 0 < n) (h2 : n ≤ 4096) : ∃ x : Nat, wrap64 ((IntKind.u64.wrap a).tmod (n : Int)) = (x : Int) ∧ x < n := by
  rw [IntKind.wrap_u64, Int.tmod_eq_emod_of_nonneg (by omega)]
  have h := Int.emod_lt_of_pos (a % 18446744073709551616) (show (0 : Int) < n by omega)
  have h' := Int.emod_nonneg (a % 18446744073709551616) (show (n : Int) ≠ 0 by omega)
  refine ⟨(a % 18446744073709551616 % n).toNat, ?_, by omega⟩
  unfold wrap64; omega
/-! ### STEP 1: THE WALK: the Go text returns true, AND WRITES NOTHING THAT WAS THERE: 'Below w.heap.size w w'' (Derived/Below.lean: '.refl', '.alloc', '.drew', '.setCell' at a new block, '.trans'). Open each 'IsRow' by 'rcases' AHEAD of 'go_enter'; part every test ahead of the walk. -/
set_option maxHeartbeats 4000000 in
set_option maxRecDepth 100000 in
theorem walk (a0 : Option Addr) (len0 cap0 : Nat) (v1 : Value) (w : World) (w0 : MixRows [some .i64, some .i64, some .u8] w a0 len0) (w1 : Flat [some .i64, some .i64] v1) (hB : len0 * 24 ≤ 140737488351232) :
    Calls Try.prog 4 #[.slice a0 len0 cap0, v1] w fun e w' => e = .returned (.bool true) ∧ Below w.heap.size w w' := by
  obtain ⟨g0, g1, rfl, ⟨y0, rfl, _⟩, ⟨y1, rfl, _⟩⟩ := flat2 w1
  obtain ⟨L, rfl, _, hL⟩ := regs_of_mix (cap := cap0) w0
  obtain ⟨F, eF, hF⟩ : ∃ x : Nat, wrap64 ((IntKind.u64.wrap y0).tmod 60) = (x : Int) ∧ x < 60 := kmod y0 60 (by omega) (by omega)
  obtain ⟨D, eD, hD⟩ : ∃ x : Nat, wrap64 ((IntKind.u64.wrap y1).tmod 9) = (x : Int) ∧ x < 9 := kmod y1 9 (by omega) (by omega)
  have hsure := fun W => rsure_any W
  have N0 : New w (w.alloc (.cells #[.int .i64 y0, .int .i64 y1] 42)) := (New.refl w).alloc _ _
  have B0 : Box (w.alloc (.cells #[.int .i64 y0, .int .i64 y1] 42)) w.heap.size #[.int .i64 y0, .int .i64 y1] 42 := Box.here w _ _ _ rfl
  have q1 := give_any _ _ L (hL.new N0) hB
  have hlen : L.length ≤ 9223372036854775807 := by omega
  clear w0 w1 hL
  go_enter Try.func4, Try.ntmps4
  go_wp2_with fail
  refine q1.mono ?_
  rintro e w1 ⟨v1, rfl, o1, n1⟩
  have R1 := o1.rgs
  obtain ⟨p1, c1, rfl⟩ := o1.shape
  have N1 := N0.trans n1
  have B1 := B0.new n1
  have qc := check_any _ _ L R1
  clear q1 o1 B0
  by_cases c20 : 20 < L.length
  · have d20 : decide (20 < (L.length : Int)) = true := by simp; omega
    go_wp2_with (go_at_call 10; (with_reducible refine (hsure _).mono ?_); rintro e w2 ⟨rfl, n2⟩)
    go_ret
    exact ⟨rfl, N1.trans n2⟩
  · have d20 : decide (20 < (L.length : Int)) = false := by simp; omega
    by_cases hO : ROk L
    · rw [chv_ok hO, erN_zero] at qc
      have HO := Lib.hid hO
      have HR1 := Lib.hid R1
      clear hO R1
      go_wp2_with fail
      refine qc.mono ?_
      rintro e w2 ⟨rfl, n2⟩
      obtain ⟨b0, b1⟩ := (B1.new n2).two
      have N2 := N1.trans n2
      have HN2 := Lib.hid N2
      have HR2 := Lib.hid (HR1.out.new n2)
      go_upto_if 1 with (fail)
      try simp only [eF, eD]
      have e1 : wrap64 ((F : Int) + 1) = (F : Int) + 1 := by unfold wrap64; omega
      have e2 : wrap64 ((F : Int) + 1 + (D : Int)) = (F : Int) + 1 + (D : Int) := by unfold wrap64; omega
      try simp only [e1, e2]
      clear eF eD e1 e2 b0 b1 qc B1
      obtain ⟨T, hT⟩ : ∃ T : Nat, (F : Int) + 1 + (D : Int) = (T : Int) := ⟨F + 1 + D, by omega⟩
      rw [hT]
      have hFT : F < T := by omega
      have hT70 : T ≤ 70 := by omega
      clear hT
      have RA := Lib.hid (fun W q (k : New w2 W) => rat_any W _ L q (HR2.out.new k))
      go_loopg [8, 9] (T - F) (fun k s i wr => ∃ j : Nat, j + k = T - F ∧ i = .int .i64 ((F + j : Nat) : Int) ∧ s = .int .i64 (cnt (rpg L) F j : Int) ∧ New w2 wr)
      case atStart => exact ⟨0, by omega, rfl, rfl, New.refl _⟩
      case round =>
        obtain ⟨j, hj, rfl, rfl, hn⟩ := hrel
        have HN := Lib.hid hn
        have J := Lib.hid hj
        by_cases c : F + j < T
        · have qa := RA.out wr ((F + j : Nat) : Int) hn
          have hs := atO_some HO.out ((F + j : Nat) : Int)
          have hc := Lib.hid (show cnt (rpg L) F (j + 1) = cnt (rpg L) F j + if (rpg L ((F + j : Nat) : Int)).isSome then 1 else 0 by simp only [cnt]; rw [show ((F + j : Nat) : Int) = (F : Int) + (j : Int) by omega])
          have hle := cnt_le (rpg L) F j
          have hjb : j ≤ 70 := by omega
          generalize hm : F + j = m at *
          have HM := Lib.hid hm
          generalize cnt (rpg L) F j = cc at *
          cases hat : atO L (m : Int) with
          | none =>
            rw [hat] at qa hs
            have hc2 := Lib.hid (show cnt (rpg L) F (j + 1) = cc by rw [hc.out, ← hs]; rfl)
            clear hs hat hc hj hm hn
            go_wp2_with (go_at_call 8; (with_reducible refine qa.mono ?_); rintro e w4 ⟨rfl, n4⟩)
            go_roundg (T - F - (j + 1))
            case measure => have := J.out; have := HM.out; omega
            case rel => exact ⟨j + 1, by have := J.out; have := HM.out; omega, by rw [show F + (j + 1) = m + 1 by have := HM.out; omega]; go_num, by rw [hc2.out], HN.out.trans (n4.alloc _ _)⟩
          | some a =>
            rw [hat] at qa hs
            have hc2 := Lib.hid (show cnt (rpg L) F (j + 1) = cc + 1 by rw [hc.out, ← hs]; rfl)
            clear hs hat hc hj hm hn
            go_wp2_with (go_at_call 8; (with_reducible refine qa.mono ?_); rintro e w4 ⟨rfl, n4⟩)
            go_roundg (T - F - (j + 1))
            case measure => have := J.out; have := HM.out; omega
            case rel => exact ⟨j + 1, by have := J.out; have := HM.out; omega, by rw [show F + (j + 1) = m + 1 by have := HM.out; omega]; go_num, by rw [hc2.out]; go_num, HN.out.trans (n4.alloc _ _)⟩
        · obtain rfl : j = T - F := by omega
          have hm : F + (T - F) = T := by omega
          rw [hm]
          have hpp : okP (F : Int) (T : Int) = true := okP_iff.2 (by omega)
          obtain ⟨ce, cl⟩ := ct_ok HO.out hpp
          have HY : ROk (cutL L F T) := HO.out.cutL (by omega)
          have hr1 : okR ⟨F, T, 1⟩ = true := okR_iff.2 (by simp only; omega)
          have hr5 : okR ⟨F, T, 5⟩ = true := okR_iff.2 (by simp only; omega)
          have hnY : ∀ q, (F : Int) ≤ q → q < (T : Int) → rpg (cutL L F T) q = none := fun q h1 h2 => by rw [rpg_cutL HO.out (by omega), if_pos ⟨h1, h2⟩]
          have sY := rsz_cutL HO.out hpp
          have eTF : ((T : Int) - (F : Int)).toNat = T - F := by omega
          rw [eTF] at sY
          have sZ := rsz_layL HY hr1
          simp only at sZ
          rw [cnt_none (fun q h1 h2 => hnY q h1 (by omega)), sY] at sZ
          have sP := rsz_layL HO.out hr5
          simp only at sP
          rw [eTF] at sP
          have HZ := HY.layL hr1
          have HP := HO.out.layL hr5
          have bL := rsz_bd HO.out.asc
          have bY := rsz_bd HY.asc
          rw [sY] at bY
          have hle := cnt_le (rpg L) F (T - F)
          have qL := fun W v (k : Rgs W v L) => size_any W v L k
          rw [szv_ok HO.out] at qL
          have qY := fun W v (k : Rgs W v (cutL L F T)) => size_any W v _ k
          rw [szv_ok HY, sY] at qY
          have qZ := fun W v (k : Rgs W v (layL (cutL L F T) ⟨F, T, 1⟩)) => size_any W v _ k
          rw [szv_ok HZ, sZ] at qZ
          have qP := fun W v (k : Rgs W v (layL L ⟨F, T, 5⟩)) => size_any W v _ k
          rw [szv_ok HP, sP] at qP
          obtain ⟨ae, al⟩ : adE (cutL L F T) ⟨F, T, 1⟩ = 0 ∧ adL (cutL L F T) ⟨F, T, 1⟩ = layL (cutL L F T) ⟨F, T, 1⟩ := by
            rcases adE_cases HY hr1 with ⟨x1, x2, _⟩ | ⟨_, _, x3⟩
            · exact ⟨x1, x2⟩
            · exact absurd hnY x3
          have hfull := prE_cases HO.out hr5
          have hcf : (∀ q, (F : Int) ≤ q → q < (T : Int) → (rpg L q).isSome = true) ↔ cnt (rpg L) F (T - F) = T - F := by
            constructor
            · intro k; exact cnt_all fun q h1 h2 => k q h1 (by omega)
            · intro k q h1 h2; exact cnt_full k q h1 (by omega)
          have CE := Lib.hid ce
          clear sY sZ sP HZ HP HY hnY hr1 hr5 hpp c hj
          generalize hN : cnt (rpg L) F (T - F) = N at *
          generalize rsz L = S at *
          have e3 : (0 : Nat) = 0 := rfl
          have eZ : S - (N : Int) - ((0 : Nat) : Int) + ((T : Int) - (F : Int)) = S - (N : Int) + (T : Int) - (F : Int) := by omega
          rw [eZ] at qZ
          rcases hfull with ⟨pe, pl, pa⟩ | ⟨pe, pl, pa⟩
          · have hNT : N = T - F := hcf.1 pa
            have d5 : ((N : Int) == (T : Int) - (F : Int)) = true := by simp; omega
            have eP : S - (N : Int) + ((T : Int) - (F : Int)) = S := by omega
            rw [eP] at qP
            clear pa hcf eZ hN hNT
            go_wp2_with fail
            refine (rcut_any _ _ L F T (HR2.out.new hn)).mono ?_
            rintro e w3 ⟨_, rfl, o3, n3⟩
            rw [ce, cl] at *
            have HRY := Lib.hid o3.rgs
            obtain ⟨p3, c3, rfl⟩ := o3.shape
            rw [erN_zero]
            clear o3
            go_wp2_with fail
            refine (radd_any _ _ (cutL L F T) ⟨F, T, 1⟩ HRY.out).mono ?_
            rintro e w4 ⟨_, rfl, o4, n4⟩
            rw [ae, al] at *
            have HRZ := Lib.hid o4.rgs
            obtain ⟨p4, c4, rfl⟩ := o4.shape
            rw [erN_zero]
            clear o4
            have n34 := n3.trans n4
            go_wp2_with fail
            refine (rprot_any _ _ L ⟨F, T, 5⟩ (HR2.out.new (hn.trans n34))).mono ?_
            rintro e w5 ⟨_, rfl, o5, n5⟩
            rw [pe, pl] at *
            have HRP := Lib.hid o5.rgs
            obtain ⟨p5, c5, rfl⟩ := o5.shape
            rw [erN_zero]
            clear o5
            have n35 := n34.trans n5
            go_wp2_with fail
            refine (qY _ _ (HRY.out.new (n4.trans n5))).mono ?_
            rintro e z0 ⟨rfl, m0⟩
            have k0 := m0
            go_wp2_with fail
            refine (qL _ _ (Rgs.new (HR2.out.new (hn.trans n35)) k0)).mono ?_
            rintro e z1 ⟨rfl, m1⟩
            have k1 := k0.trans m1
            go_wp2_with fail
            refine (qZ _ _ (Rgs.new (HRZ.out.new n5) k1)).mono ?_
            rintro e z2 ⟨rfl, m2⟩
            have k2 := k1.trans m2
            go_wp2_with fail
            refine (qY _ _ (Rgs.new (HRY.out.new (n4.trans n5)) k2)).mono ?_
            rintro e z3 ⟨rfl, m3⟩
            have k3 := k2.trans m3
            go_wp2_with fail
            refine (qP _ _ (Rgs.new (HRP.out) k3)).mono ?_
            rintro e z4 ⟨rfl, m4⟩
            have k4 := k3.trans m4
            go_wp2_with fail
            refine (qL _ _ (Rgs.new (HR2.out.new (hn.trans n35)) k4)).mono ?_
            rintro e z5 ⟨rfl, m5⟩
            have k5 := k4.trans m5
            go_wp2_with (go_at_call 10; (with_reducible refine (hsure _).mono ?_); rintro e w9 ⟨rfl, n9⟩)
            go_ret
            exact ⟨rfl, HN2.out.trans (hn.trans (n35.trans (k5.trans n9)))⟩
          · have hNT : N ≠ T - F := fun k => pa (hcf.2 k)
            have d5 : ((N : Int) == (T : Int) - (F : Int)) = false := by simp; omega
            clear pa hcf eZ hN hNT qP
            go_wp2_with fail
            refine (rcut_any _ _ L F T (HR2.out.new hn)).mono ?_
            rintro e w3 ⟨_, rfl, o3, n3⟩
            rw [ce, cl] at *
            have HRY := Lib.hid o3.rgs
            obtain ⟨p3, c3, rfl⟩ := o3.shape
            rw [erN_zero]
            clear o3
            go_wp2_with fail
            refine (radd_any _ _ (cutL L F T) ⟨F, T, 1⟩ HRY.out).mono ?_
            rintro e w4 ⟨_, rfl, o4, n4⟩
            rw [ae, al] at *
            have HRZ := Lib.hid o4.rgs
            obtain ⟨p4, c4, rfl⟩ := o4.shape
            rw [erN_zero]
            clear o4
            have n34 := n3.trans n4
            go_wp2_with fail
            refine (rprot_any _ _ L ⟨F, T, 5⟩ (HR2.out.new (hn.trans n34))).mono ?_
            rintro e w5 ⟨_, rfl, o5, n5⟩
            rw [pe, pl] at *
            have HRP := Lib.hid o5.rgs
            obtain ⟨p5, c5, rfl⟩ := o5.shape
            rw [erN_pos (by decide)]
            clear o5
            have n35 := n34.trans n5
            go_wp2_with fail
            refine (qY _ _ (HRY.out.new (n4.trans n5))).mono ?_
            rintro e z0 ⟨rfl, m0⟩
            have k0 := m0
            go_wp2_with fail
            refine (qL _ _ (Rgs.new (HR2.out.new (hn.trans n35)) k0)).mono ?_
            rintro e z1 ⟨rfl, m1⟩
            have k1 := k0.trans m1
            go_wp2_with fail
            refine (qZ _ _ (Rgs.new (HRZ.out.new n5) k1)).mono ?_
            rintro e z2 ⟨rfl, m2⟩
            have k2 := k1.trans m2
            go_wp2_with fail
            refine (qY _ _ (Rgs.new (HRY.out.new (n4.trans n5)) k2)).mono ?_
            rintro e z3 ⟨rfl, m3⟩
            have k3 := k2.trans m3
            go_wp2_with (go_at_call 10; (with_reducible refine (hsure _).mono ?_); rintro e w9 ⟨rfl, n9⟩)
            go_ret
            exact ⟨rfl, HN2.out.trans (hn.trans (n35.trans (k3.trans n9)))⟩
    · rw [chv_no hO, erN_pos (by decide)] at qc
      clear hO
      go_wp2_with (first
        | (go_at_call 9; (with_reducible refine qc.mono ?_); rintro e w2 ⟨rfl, n2⟩)
        | (go_at_call 10; (with_reducible refine (hsure _).mono ?_); rintro e w3 ⟨rfl, n3⟩))
      go_ret
      exact ⟨rfl, N1.trans (n2.trans n3)⟩

/-! ### THE ROW's STEP: WRITTEN OUT: LEAVE IT -/
set_option maxRecDepth 100000 in
theorem lifted (os : Os) (started : os.Started) (H : Type) (enc : TypeId × Value → H) :
    ReturnsInHanded {} Try.checked os 4 .any (Rows.regionSizesSpec.pre6 enc Try.prog Try.f4 Rows.regionSizesRow.domain false) (Rows.regionSizesSpec.post enc Try.prog Try.f4 false true false false) := by
  refine returnsInHanded_of_change_sized (C := Try.checked) own started (by kernel_rfl) Try.func4
    (ChangeSpec.witness6 (enc := enc) (C := Try.checked) false ⟨#[], #[.slice none 0 0, .agg #[.int .i64 0, .int .i64 0]], []⟩ 8 (by kernel_rfl) (by kernel_rfl) (by kernel_rfl) (by kernel_rfl)) ?_
  intro W base args ds gs before hval0 hW hcnd hsz0 _
  have hval : ∀ (j : Nat) t v, Try.f4.params[j]? = some t → args[j]? = some v → Value.okWide Try.prog W .any base t v := hval0
  have hW' := hW
  obtain ⟨p, q, hA0, hV, rfl, hfz, hnd⟩ := hW
  have hA : DataW.TrodAll enc Try.prog W 0 (fun _ => true) true Try.f4.params.toList args.toList ds p := hA0
  have hsz : (DataW.weightsEach Try.prog (Try.f4.params.toList ++ Rows.regionSizesSpec.plain.varTypes Try.prog) (ds ++ gs)).all (· ≤ reachBytes) = true := hsz0
  rw [Try.params4] at hA hval hsz
  obtain ⟨v0, vs0, d0, ds0, p0, q0, hargs, rfl, rfl, h0, r0⟩ := trodAll_cons hA
  obtain ⟨v1, vs1, d1, ds1, p1, q1, rfl, rfl, rfl, h1, r1⟩ := trodAll_cons r0
  obtain ⟨rfl, rfl, rfl⟩ := trodAll_nil r1
  obtain rfl : args = #[v0, v1] := by cases args; simp_all
  obtain ⟨rfl, rfl⟩ := trodVars_none hV
  obtain ⟨a0, len0, cap0, rfl⟩ := okWide_slice Try.underlying41 (hval 0 41 v0 rfl rfl)
  have k0 := h0
  have lt0 : ∀ x ∈ p0, x.block < W.heap.size := by obtain ⟨m, hm⟩ := k0; exact DataW.trod_lt m _ _ _ hm
  have w0 : MixRows [some .i64, some .i64, some .u8] W a0 len0 := mixrows_of Try.underlying41 (.struct Try.underlying26 (.cons rfl (.int Try.underlying3) (by kernel_rfl) (.cons rfl (.int Try.underlying3) (by kernel_rfl) (.cons rfl (.int Try.underlying5) (by kernel_rfl) .nil)))) (by kernel_rfl) h0
  have k1 := h1
  have lt1 : ∀ x ∈ p1, x.block < W.heap.size := by obtain ⟨m, hm⟩ := k1; exact DataW.trod_lt m _ _ _ hm
  have w1 : Flat [some .i64, some .i64] v1 := flat_of_arr (ks := [some .i64, some .i64]) Try.underlying42 (by
    obtain ⟨ks, hk, e⟩ : ∃ ks, FlatTy Try.prog 42 ks ∧ ks = [some .i64, some .i64] := ⟨_, (.array Try.underlying42 (.int Try.underlying3) (by kernel_rfl)), rfl⟩
    rw [← e]; exact hk) (by kernel_rfl) (hval 1 42 v1 rfl rfl) h1
  have hB : len0 * 24 ≤ 140737488351232 := slice_bytes (j := 0) (e := 26) hsz rfl rfl Try.underlying41 (by kernel_rfl) h0
  clear hA0 hval0
  refine (walk a0 len0 cap0 v1 W w0 w1 hB).mono fun e W' ⟨he, bel⟩ => ?_
  subst he
  exact ⟨_, rfl, _, _, _, [], _, [], hW', trodAll_mk1 (shut_bool Try.underlying4 _), (trodAll_cons_mk (Below.trod laidOut (by kernel_rfl) (of_decide_eq_true (by kernel_rfl)) k0 bel lt0) (trodAll_cons_mk (Below.trod laidOut (by kernel_rfl) (of_decide_eq_true (by kernel_rfl)) k1 bel lt1) trodAll_mk0)), rfl, bel.frame _, fun h => by cases h⟩

theorem over : Rows.regionSizesRow.holds Try.pinned (OpenSpec.ofChange Rows.regionSizesSpec) :=
  OpenClaim.holds_of_wide 4 Try.f4 rfl rfl rfl rfl rfl rfl rfl ⟨rfl, rfl, rfl, rfl, rfl⟩ rfl rfl rfl rfl rfl (by kernel_rfl) Try.func4 (by kernel_rfl)
    (of_decide_eq_true (by kernel_rfl)) (by unfold Func.isWrapper; first | (rw [if_pos (by decide +kernel)]; kernel_rfl) | (rw [if_neg (by decide +kernel)]; exact ⟨rfl, rfl⟩))
    (fun os started H enc _ => lifted os started H enc)

/-- ████ THE STATEMENT ████ -/
theorem proved : Rows.RegionSizesSaid := over
#print axioms proved
end Go.Proofs.Ytfkjgbenjdmedaa.regionSizes
