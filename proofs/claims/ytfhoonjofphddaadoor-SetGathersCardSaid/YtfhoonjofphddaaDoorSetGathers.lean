/- Of whatever numbers are added one by one each signal is in the set once, the least one first, and nothing else; taken away one by one nothing is left; the statement holds for every slice of numbers, where the library's variables that the row lists hold what their own texts lay, which the card ties. -/
import Derived.Test.YtfhoonjofphddaaDoorRows
import Derived.Test.YtfhoonjofphddaaDoorSetG
import Derived.Deep.LoopGhost
import Derived.Test.YtfhoonjofphddaaDoorCards
import Derived.Test.YtfhoonjofphddaaDoorTie
import Derived.LaidMore
import Derived.LaidLaws
import Derived.LaidHandle
import Derived.Test.YtfhoonjofphddaaDoorTab
import Derived.Test.YtfhoonjofphddaaDoorPost
import Derived.WalkKit
import Derived.ProofKit
import Derived.OpenShut
import Derived.ShutString
import Derived.ChangeOld
import Derived.Below
namespace Go.Proofs.YtfhoonjofphddaaDoor.setGathers
open Go.ChangeShapes Go.WideShapes Go.ChangeAt Go.RowKit
open Go.ChangeMaps (open_string shut_string)
set_option linter.unusedVariables false

theorem own : ownKnob Tryd.prog.godebug = none := by kernel_rfl
theorem laidOut : laidOutB Tryd.prog = true := by kernel_rfl

/-- WHAT THE WALK IS TOLD OF A SLICE OF INTEGERS THAT CAME IN: it is nil; or it leads to a row of 'cap' cells, the numbers 'zs' (the first 'len' are its elements, the rest its spare room), each fitting its kind. -/
def IsRow (k : IntKind) (w : World) (a : Option Addr) (len cap : Nat) (zs : List Int) : Prop :=
  (a = none ∧ len = 0 ∧ cap = 0 ∧ zs = []) ∨
  ∃ x, a = some x ∧ len ≤ cap ∧ cap ≤ maxLen ∧ zs.length = cap ∧ (∀ i, i < zs.length → w.cell? (x.add i) = some (.int k (zs.getD i 0))) ∧ ∀ n ∈ zs, (Lit.int k n).wf = true

/-! ### STEP 1: THE WALK: the Go text returns true, AND WRITES NOTHING THAT WAS THERE: 'Below w.heap.size w w'' (Derived/Below.lean: '.refl', '.alloc', '.drew', '.setCell' at a new block, '.trans'). Open each 'IsRow' by 'rcases' AHEAD of 'go_enter'; part every test ahead of the walk. -/
set_option maxHeartbeats 8000000 in
set_option maxRecDepth 100000 in
theorem walk (a0 : Option Addr) (len0 cap0 : Nat) (z0 : List Int) (w : World) (w0 : IsRow .i64 w a0 len0 cap0 z0) (ht : Tab32 w) :
    Calls Tryd.prog 6 #[.slice a0 len0 cap0] w fun e w' => e = .returned (.bool true) ∧ Below w.heap.size w w' := by
  have mk32 : ∀ w : World, (Instr.makeSlice 48 (.int .i64 32) (.int .i64 32)).run Tryd.prog w = .ok (.slice (some ⟨w.heap.size, 0, none⟩) 32 32) (w.alloc (.cells #[.bool false, .bool false, .bool false, .bool false, .bool false, .bool false, .bool false, .bool false, .bool false, .bool false, .bool false, .bool false, .bool false, .bool false, .bool false, .bool false, .bool false, .bool false, .bool false, .bool false, .bool false, .bool false, .bool false, .bool false, .bool false, .bool false, .bool false, .bool false, .bool false, .bool false, .bool false, .bool false] 4)) := fun _ => by kernel_rfl
  obtain ⟨l, hlen, hmx, hrow⟩ := IRow.of w0
  clear w0
  subst hlen
  unfold maxLen at hmx
  by_cases big : (60 : Int) < (l.length : Int)
  · go_enter Tryd.func6, Tryd.ntmps6
    go_wp2_with fail
    refine (sure_any _ ht).mono ?_
    rintro e w2 ⟨rfl, hN⟩
    go_wp2
    go_ret
    exact ⟨rfl, hN⟩
  · have t0 : Marks w.heap.size 0 (w.alloc (.cells #[.bool false, .bool false, .bool false, .bool false, .bool false, .bool false, .bool false, .bool false, .bool false, .bool false, .bool false, .bool false, .bool false, .bool false, .bool false, .bool false, .bool false, .bool false, .bool false, .bool false, .bool false, .bool false, .bool false, .bool false, .bool false, .bool false, .bool false, .bool false, .bool false, .bool false, .bool false, .bool false] 4)) := by
      intro m hm
      rw [World.cell?_alloc_at _ _ _ _ rfl, World.frozen?_alloc_at _ _ _ _ rfl, hasS_zero]
      refine ⟨?_, rfl⟩
      rcases under_32 m hm with rfl | rfl | rfl | rfl | rfl | rfl | rfl | rfl | rfl | rfl | rfl | rfl | rfl | rfl | rfl | rfl | rfl | rfl | rfl | rfl | rfl | rfl | rfl | rfl | rfl | rfl | rfl | rfl | rfl | rfl | rfl | rfl
      all_goals rfl
    have T0 := Lib.hid t0
    have R := Lib.hid hrow
    have f0 := Lib.hid (show firstS 0 = 0 from firstS_none 0 hasS_zero)
    have c0 := Lib.hid (show cnt 0 = 0 from by decide +kernel)
    clear t0 hrow
    go_enter Tryd.func6, Tryd.ntmps6
    go_wp2_with fail
    go_loopg [3, 5, 6, 7] l.length (fun k s m f i wr => ∃ j : Nat, j + k = l.length ∧ i = .int .i64 (j : Int) ∧ s = .int .u32 (adds 0 (l.take j)) ∧ m = .int .i64 (cnt (adds 0 (l.take j))) ∧ f = .int .i64 (firstS (adds 0 (l.take j))) ∧ Marks w.heap.size (adds 0 (l.take j)) wr ∧ New w wr)
    case atStart => exact ⟨0, by simp, rfl, rfl, by rw [show adds 0 (l.take 0) = 0 from rfl, c0.out]; rfl, by rw [show adds 0 (l.take 0) = 0 from rfl, f0.out], T0.out, (New.refl _).alloc _ _⟩
    case round =>
      obtain ⟨j, hj, rfl, rfl, rfl, rfl, hM, hN⟩ := hrel
      by_cases hlt : j < l.length
      · obtain ⟨p, rfl, hcell, t1, t2⟩ := R.out j hlt
        have hpb := cell_lt hcell
        rw [← hN.cell (p := p.add j) hpb] at hcell
        have S := Lib.hid (show adds 0 (l.take (j + 1)) = addS (adds 0 (l.take j)) (l.getD j 0) from by rw [take_snoc_int l j hlt, adds_snoc])
        have yb := adds_bd 0 (by omega) (by omega) (l.take j)
        have HJ := Lib.hid hj
        have hll : l.length ≤ 60 := by omega
        clear hj
        generalize adds 0 (l.take j) = y at *
        generalize l.getD j 0 = t at *
        have cb := cnt_bd y
        by_cases r : 1 ≤ t ∧ t ≤ 31
        · obtain ⟨r1, r2⟩ := r
          have d1 : decide (1 ≤ t) = true := by simpa using r1
          have d2 : decide (t ≤ 31) = true := by simpa using r2
          have mk := hM t.toNat (by omega)
          rw [show ((t.toNat : Nat) : Int) = t from by omega] at mk
          obtain ⟨mk1, mk2⟩ := mk
          rcases Bool.eq_false_or_eq_true (hasS y t) with q | q
          · have A := Lib.hid (add_old y t yb.1 yb.2 (Or.inl q))
            have HM := Lib.hid hM
            clear hM
            rw [q] at mk1
            go_wp2_with (go_at_call 8; (with_reducible refine (add_any _ _ _ (by omega) (by omega) (by omega) (by omega)).mono ?_); rintro e w' ⟨rfl, rfl⟩)
            go_roundg (l.length - (j + 1))
            case measure => have := HJ.out; omega
            case rel => exact ⟨j + 1, by have := HJ.out; omega, by go_num, by rw [S.out], by rw [S.out, A.out], by rw [S.out, A.out], by rw [S.out, A.out]; exact HM.out, hN⟩
          · have A := Lib.hid (add_new y t yb.1 r1 r2 q)
            have F := Lib.hid (first_add y t yb.1 r1 r2)
            have fb := firstS_bd y
            have HM := Lib.hid (hM.set yb.1 r1 r2)
            have hcell' : (wr.setCell ⟨w.heap.size, t.toNat, none⟩ (.bool true)).cell? (p.add j) = some (.int .i64 t) := by
              rw [World.cell?_setCell_other _ _ _ _ (by intro e; rw [← e] at hpb; simp at hpb)]; exact hcell
            clear hM
            rw [q] at mk1
            generalize firstS y = f at *
            by_cases z : f = 0
            · have e0 : (f == 0) = true := by simpa using z
              have FF := Lib.hid (show firstS (addS y t) = t from by rw [F.out, if_pos (Or.inl z)])
              clear z
              go_wp2_with (go_at_call 8; (with_reducible refine (add_any _ _ _ (by omega) (by omega) (by omega) (by omega)).mono ?_); rintro e w' ⟨rfl, rfl⟩)
              go_roundg (l.length - (j + 1))
              case measure => have := HJ.out; omega
              case rel => exact ⟨j + 1, by have := HJ.out; omega, by go_num, by rw [S.out], by rw [S.out, A.out]; go_num, by rw [S.out, FF.out], by rw [S.out]; exact HM.out, hN.setCell (Nat.le_refl _) _⟩
            · have e0 : (f == 0) = false := by simpa using z
              by_cases z2 : t < f
              · have e1 : decide (t < f) = true := by simpa using z2
                have FF := Lib.hid (show firstS (addS y t) = t from by rw [F.out, if_pos (Or.inr z2)])
                clear z
                go_wp2_with (go_at_call 8; (with_reducible refine (add_any _ _ _ (by omega) (by omega) (by omega) (by omega)).mono ?_); rintro e w' ⟨rfl, rfl⟩)
                go_roundg (l.length - (j + 1))
                case measure => have := HJ.out; omega
                case rel => exact ⟨j + 1, by have := HJ.out; omega, by go_num, by rw [S.out], by rw [S.out, A.out]; go_num, by rw [S.out, FF.out], by rw [S.out]; exact HM.out, hN.setCell (Nat.le_refl _) _⟩
              · have e1 : decide (t < f) = false := by simpa using z2
                have FF := Lib.hid (show firstS (addS y t) = f from by rw [F.out, if_neg (by omega)])
                clear z
                go_wp2_with (go_at_call 8; (with_reducible refine (add_any _ _ _ (by omega) (by omega) (by omega) (by omega)).mono ?_); rintro e w' ⟨rfl, rfl⟩)
                go_roundg (l.length - (j + 1))
                case measure => have := HJ.out; omega
                case rel => exact ⟨j + 1, by have := HJ.out; omega, by go_num, by rw [S.out], by rw [S.out, A.out]; go_num, by rw [S.out, FF.out], by rw [S.out]; exact HM.out, hN.setCell (Nat.le_refl _) _⟩
        · have A := Lib.hid (add_old y t yb.1 yb.2 (Or.inr r))
          have HM := Lib.hid hM
          clear hM
          by_cases r1 : 1 ≤ t
          · have d1 : decide (1 ≤ t) = true := by simpa using r1
            have d2 : decide (t ≤ 31) = false := by simp; omega
            clear r
            go_wp2_with (go_at_call 8; (with_reducible refine (add_any _ _ _ (by omega) (by omega) (by omega) (by omega)).mono ?_); rintro e w' ⟨rfl, rfl⟩)
            go_roundg (l.length - (j + 1))
            case measure => have := HJ.out; omega
            case rel => exact ⟨j + 1, by have := HJ.out; omega, by go_num, by rw [S.out], by rw [S.out, A.out], by rw [S.out, A.out], by rw [S.out, A.out]; exact HM.out, hN⟩
          · have d1 : decide (1 ≤ t) = false := by simpa using r1
            clear r
            go_wp2_with (go_at_call 8; (with_reducible refine (add_any _ _ _ (by omega) (by omega) (by omega) (by omega)).mono ?_); rintro e w' ⟨rfl, rfl⟩)
            go_roundg (l.length - (j + 1))
            case measure => have := HJ.out; omega
            case rel => exact ⟨j + 1, by have := HJ.out; omega, by go_num, by rw [S.out], by rw [S.out, A.out], by rw [S.out, A.out], by rw [S.out, A.out]; exact HM.out, hN⟩
      · have hjl : j = l.length := by omega
        subst hjl
        have T := Lib.hid (show l.take l.length = l from List.take_length)
        rw [T.out] at hM
        rw [T.out]
        have D := Lib.hid (dels_adds l)
        have yb := adds_bd 0 (by omega) (by omega) l
        have HM := Lib.hid hM
        clear hj hM
        generalize adds 0 l = y at *
        have cb := cnt_bd y
        go_wp2_with (first | (go_at_call 18; (with_reducible refine (count_any _ _ (by omega) (by omega)).mono ?_); rintro e w' ⟨rfl, n1, rfl⟩))
        refine (first_any _ _ (ht.new (hN.drewN _)) (by omega) (by omega)).mono ?_
        rintro e w2 ⟨rfl, rfl⟩
        go_wp2_with fail
        refine (list_any _ _ (by omega) (by omega)).mono ?_
        rintro e w3 ⟨v, rfl, hown, hN2⟩
        have hN3 := (hN.drewN n1).trans hN2
        have hM3 := Lib.hid (HM.out.new ((New.refl _).drewN n1 |>.trans hN2))
        obtain ⟨q, cap, rfl⟩ := hown.ints.len
        clear hown hN hN2 HM
        go_wp2_with fail
        go_loopg [8] 35 (fun k i wr => ∃ n : Int, n + k = 34 ∧ -1 ≤ n ∧ i = .int .i64 n ∧ w3 = wr)
        case atStart => exact ⟨-1, by omega, by omega, rfl, rfl⟩
        case round =>
          obtain ⟨n, hk, hn, rfl, rfl⟩ := hrel
          by_cases hn2 : n < 34
          · have HJ := Lib.hid hk
            clear hk
            by_cases r : 1 ≤ n ∧ n ≤ 31
            · obtain ⟨r1, r2⟩ := r
              have d1 : decide (1 ≤ n) = true := by simpa using r1
              have d2 : decide (n ≤ 31) = true := by simpa using r2
              have mk := (hM3.out n.toNat (by omega)).1
              rw [show ((n.toNat : Nat) : Int) = n from by omega] at mk
              generalize hQ : hasS y n = q2 at mk
              go_wp2_with (go_at_call 12; (with_reducible refine (has_any _ _ _ (by omega) (by omega) (by omega) (by omega)).mono ?_); rintro e w' ⟨rfl, rfl⟩)
              go_roundg (33 - n).toNat
              case measure => have := HJ.out; omega
              case rel => exact ⟨n + 1, by have := HJ.out; omega, by omega, rfl, rfl⟩
            · have hQ := hasS_out y n r
              by_cases r1 : 1 ≤ n
              · have d1 : decide (1 ≤ n) = true := by simpa using r1
                have d2 : decide (n ≤ 31) = false := by simp; omega
                clear r
                go_wp2_with (go_at_call 12; (with_reducible refine (has_any _ _ _ (by omega) (by omega) (by omega) (by omega)).mono ?_); rintro e w' ⟨rfl, rfl⟩)
                go_roundg (33 - n).toNat
                case measure => have := HJ.out; omega
                case rel => exact ⟨n + 1, by have := HJ.out; omega, by omega, rfl, rfl⟩
              · have d1 : decide (1 ≤ n) = false := by simpa using r1
                clear r
                go_wp2_with (go_at_call 12; (with_reducible refine (has_any _ _ _ (by omega) (by omega) (by omega) (by omega)).mono ?_); rintro e w' ⟨rfl, rfl⟩)
                go_roundg (33 - n).toNat
                case measure => have := HJ.out; omega
                case rel => exact ⟨n + 1, by have := HJ.out; omega, by omega, rfl, rfl⟩
          · obtain rfl : n = 34 := by omega
            clear hk hn hn2
            go_wp2_with fail
            go_loopg [3, 9] l.length (fun k s i wr => ∃ j : Nat, j + k = l.length ∧ i = .int .i64 (j : Int) ∧ s = .int .u32 (dels y (l.take j)) ∧ w3 = wr)
            case atStart => exact ⟨0, by simp, rfl, rfl, rfl⟩
            case round =>
              obtain ⟨j, hj, rfl, rfl, rfl⟩ := hrel
              by_cases hlt : j < l.length
              · obtain ⟨p, rfl, hcell, t1, t2⟩ := R.out j hlt
                rw [← hN3.cell (p := p.add j) (cell_lt hcell)] at hcell
                have S := Lib.hid (show dels y (l.take (j + 1)) = delS (dels y (l.take j)) (l.getD j 0) from by rw [take_snoc_int l j hlt, dels_snoc])
                have db := dels_bd y yb.1 yb.2 (l.take j)
                have HJ := Lib.hid hj
                have hll : l.length ≤ 60 := by omega
                clear hj
                generalize dels y (l.take j) = z at *
                generalize l.getD j 0 = t at *
                go_wp2_with (go_at_call 10; (with_reducible refine (del_any _ _ _ (by omega) (by omega) (by omega) (by omega)).mono ?_); rintro e w' ⟨rfl, rfl⟩)
                go_roundg (l.length - (j + 1))
                case measure => have := HJ.out; omega
                case rel => exact ⟨j + 1, by have := HJ.out; omega, by go_num, by rw [S.out], rfl⟩
              · have hjl : j = l.length := by omega
                subst hjl
                rw [T.out, D.out]
                clear hj hlt
                go_wp2_with fail
                refine (sure_any _ (ht.new hN3)).mono ?_
                rintro e w5 ⟨rfl, hN5⟩
                go_wp2
                go_ret
                exact ⟨rfl, hN3.trans hN5⟩

/-! ### THE ROW's STEP: WRITTEN OUT: LEAVE IT -/
theorem door_met (os : Os) (args : Array Value) : laidMetH Tryd.prog Rows.setGathersRow.laid ((World.doorLaid Tryd.prog 400 os).forCall (fun _ _ => 0) ⟨#[], args, []⟩).memory :=
  laidMetH_of_parts3 (fuel := 8) (laidMet_of_run' 8 (by kernel_rfl) (by kernel_rfl)) (by kernel_rfl) (by kernel_rfl)
set_option maxRecDepth 100000 in
theorem lifted (os : Os) (started : os.Started) (H : Type) (enc : TypeId × Value → H) :
    ReturnsInHanded {} Tryd.checked os 6 .any (fun w args => (Rows.setGathersSpec.pre enc Tryd.prog Tryd.f6 [] false w args ∧ laidMetH Tryd.prog Rows.setGathersRow.laid w) ∧ sizedMet enc Tryd.prog Tryd.f6 (OpenSpec.ofChange Rows.setGathersSpec) false w args) (Rows.setGathersSpec.post enc Tryd.prog Tryd.f6 false true false false) := by
  refine returnsInHanded_of_change_and (C := Tryd.checked) (X := fun w _ => laidMetH Tryd.prog Rows.setGathersRow.laid w) (fun _ _ _ hh h => h.of_heap hh) own started (by kernel_rfl) Tryd.func6
    (ChangeSpec.witness_shaped (enc := enc) (C := Tryd.checked) (os := os) (X := fun w _ => laidMetH Tryd.prog Rows.setGathersRow.laid w) false (World.doorLaid Tryd.prog 400 os) #[.slice none 0 0] 8 rfl (World.shaped_of_RefB (by kernel_rfl) (by kernel_rfl)) (by kernel_rfl) (by kernel_rfl) (by kernel_rfl) (door_met os _)) ?_
  intro W base args ds gs before hval0 hW _ _ hL _
  have hval : ∀ (j : Nat) t v, Tryd.f6.params[j]? = some t → args[j]? = some v → Value.okWide Tryd.prog W .any base t v := hval0
  have hW' := hW
  obtain ⟨p, q, hA0, hV, rfl, hfz, hnd⟩ := hW
  have hA : DataW.TrodAll enc Tryd.prog W 0 (fun _ => true) true Tryd.f6.params.toList args.toList ds p := hA0
  rw [Tryd.params6] at hA hval
  obtain ⟨v0, vs0, d0, ds0, p0, q0, hargs, rfl, rfl, h0, r0⟩ := trodAll_cons hA
  obtain ⟨rfl, rfl, rfl⟩ := trodAll_nil r0
  obtain rfl : args = #[v0] := by cases args; simp_all
  obtain ⟨rfl, rfl⟩ := trodVars_none hV
  obtain ⟨a0, len0, cap0, rfl⟩ := okWide_slice Tryd.underlying24 (hval 0 24 v0 rfl rfl)
  have k0 := h0
  have lt0 : ∀ x ∈ p0, x.block < W.heap.size := by obtain ⟨m, hm⟩ := k0; exact DataW.trod_lt m _ _ _ hm
  obtain ⟨z0, w0⟩ : ∃ zs, IsRow .i64 W a0 len0 cap0 zs := by
    obtain ⟨fuel, hf⟩ := h0
    rcases open_ints Tryd.underlying24 Tryd.underlying3 (by kernel_rfl) hf with ⟨hcs, _⟩ | ⟨x, l, c, zs, hcs, _, hl, hm, hz, _, hcell, hwz⟩
    · simp [Value.cells] at hcs
      obtain ⟨rfl, rfl, rfl⟩ := hcs
      exact ⟨[], .inl ⟨rfl, rfl, rfl, rfl⟩⟩
    · simp [Value.cells] at hcs
      obtain ⟨rfl, rfl, rfl⟩ := hcs
      exact ⟨zs, .inr ⟨_, rfl, hl, hm, by simpa using hz, hcell, hwz⟩⟩
  clear hA0 hval0
  refine (walk a0 len0 cap0 z0 W w0 (tab_of_laid (show laidMet Tryd.prog [("math/bits.deBruijn32tab", Rows.laid_math_bits_deBruijn32tab)] W from hL))).mono fun e W' ⟨he, bel⟩ => ?_
  subst he
  exact ⟨_, rfl, _, _, _, [], _, [], hW', trodAll_mk1 (shut_bool Tryd.underlying4 _), (trodAll_cons_mk (Below.trod laidOut (by kernel_rfl) (of_decide_eq_true (by kernel_rfl)) k0 bel lt0) trodAll_mk0), rfl, bel.frame _, fun h => by cases h⟩

theorem over : Rows.setGathersRow.holds Tryd.pinned (OpenSpec.ofChange Rows.setGathersSpec) :=
  OpenClaim.holds_of_wide 6 Tryd.f6 rfl rfl rfl rfl rfl rfl rfl ⟨rfl, rfl, rfl, rfl, rfl⟩ rfl rfl rfl rfl rfl (by kernel_rfl) Tryd.func6 (by kernel_rfl)
    (of_decide_eq_true (by kernel_rfl)) (by unfold Func.isWrapper; first | (rw [if_pos (by decide +kernel)]; kernel_rfl) | (rw [if_neg (by decide +kernel)]; exact ⟨rfl, rfl⟩))
    (fun os started H enc _ => lifted os started H enc)

theorem proved : Rows.SetGathersSaid := over
theorem card : Rows.SetGathersCardSaid :=
  Claim7.holds_tied_plain_at .later [] [.data] true (true, "d472cfed1dc6f6d31bee33ad8b9720d84f5ea8717b0184ffdaeed6d9bcf1b860") true
    over (fun _ h => by cases h) (by kernel_rfl) (fun _ h => by cases h) setGathers_row_tie rfl ⟨rfl, rfl⟩ (by kernel_rfl) rfl
    (fun f fn hf hfn => by
      obtain rfl : f = 6 := Option.some.inj ((show Tryd.prog.funcNamed "halter/halterlaw03.SetGathers" = some 6 by kernel_rfl).symm.trans hf) |>.symm
      obtain rfl : fn = Tryd.f6 := (Option.some.inj (Tryd.func6.symm.trans hfn)).symm
      exact ⟨by kernel_rfl, fun j t ht => by
        rw [Tryd.params6] at ht
        have hm : t ∈ [24] := by have := Array.mem_of_getElem? ht; simpa using this
        have hall : ([24].all fun u => !Tryd.prog.wantsStandIn u) = true := by kernel_rfl
        exact (show Tryd.prog.wantsStandIn t = false by simpa using List.all_eq_true.1 hall t hm)⟩)
    (by kernel_rfl)
#print axioms card
end Go.Proofs.YtfhoonjofphddaaDoor.setGathers
