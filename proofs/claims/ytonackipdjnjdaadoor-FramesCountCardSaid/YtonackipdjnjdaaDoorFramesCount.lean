/- Whatever is done to so many frames, those that are free and those that are taken are all; what is taken is the least of those that were free; what is given back as often as it was taken is free; the statement holds for every input, where the library's variable errors.errorType holds what its own text lays, which the card ties. -/
import Derived.Test.YtonackipdjnjdaaDoorRows
import Derived.Test.YtonackipdjnjdaaDoorFrI
import Derived.Deep.LoopGhost
import Derived.Test.YtonackipdjnjdaaDoorCards
import Derived.Test.YtonackipdjnjdaaDoorTie
import Derived.LaidMore
import Derived.LaidLaws
import Derived.LaidHandle
import Derived.Test.YtonackipdjnjdaaDoorLay
import Derived.Test.YtonackipdjnjdaaDoorPost
import Derived.WalkKit
import Derived.ProofKit
import Derived.OpenShut
import Derived.ShutString
import Derived.ChangeOld
import Derived.Below
namespace Go.Proofs.YtonackipdjnjdaaDoor.framesCount
open Go.ChangeShapes Go.WideShapes Go.ChangeAt Go.RowKit
open Go.ChangeMaps (open_string shut_string)
set_option linter.unusedVariables false

theorem own : ownKnob Tryd.prog.godebug = none := by kernel_rfl
theorem laidOut : laidOutB Tryd.prog = true := by kernel_rfl

/-- WHAT THE WALK IS TOLD OF A SLICE OF INTEGERS THAT CAME IN: it is nil; or it leads to a row of 'cap' cells, the numbers 'zs' (the first 'len' are its elements, the rest its spare room), each fitting its kind. -/
def IsRow (k : IntKind) (w : World) (a : Option Addr) (len cap : Nat) (zs : List Int) : Prop :=
  (a = none ∧ len = 0 ∧ cap = 0 ∧ zs = []) ∨
  ∃ x, a = some x ∧ len ≤ cap ∧ cap ≤ maxLen ∧ zs.length = cap ∧ (∀ i, i < zs.length → w.cell? (x.add i) = some (.int k (zs.getD i 0))) ∧ ∀ n ∈ zs, (Lit.int k n).wf = true

/-! ### STEP 1: THE WALK: the Go text returns true, AND WRITES NOTHING THAT WAS THERE: 'Below w.heap.size w w'' (Derived/Below.lean: '.refl', '.alloc', '.drew', '.setCell' at a new block, '.trans'). Open each 'IsRow' by 'rcases' AHEAD of 'go_enter'; part every test ahead of the walk. -/
set_option maxHeartbeats 16000000 in
set_option maxRecDepth 100000 in
theorem walk (a0 : Int) (a1 : Option Addr) (len1 cap1 : Nat) (w : World) (w0 : (Lit.int .i64 a0).wf = true) (w1 : IntRows .i64 2 w a1 len1) (hl : Laid w) :
    Calls Tryd.prog 4 #[.int .i64 a0, .slice a1 len1 cap1] w fun e w' => e = .returned (.bool true) ∧ Below w.heap.size w w' := by
  have hlt := hl.lt
  obtain ⟨n, en, hn1, hn2⟩ := mod_in 12 1 a0 (by omega) (by omega) (by omega) (by omega)
  have M := fun W => made_any n W (by omega) (by omega)
  go_enter Tryd.func4, Tryd.ntmps4
  go_wp2_with fail
  refine (M _).mono ?_
  rintro e W1 ⟨rfl, h1, m1⟩
  clear M
  go_wp2_with fail
  clear en
  have HL := Lib.hid w1.2
  have hmx := w1.1
  unfold maxLen at hmx
  clear w1
  have Z0 := Lib.hid (show ∀ m, (List.replicate n (0 : Int)).getD m 0 ≤ ((0 : Nat) : Int) from fun m => by rw [List.getD_eq_getElem?_getD, List.getElem?_replicate]; split <;> simp)
  go_loopg [8, 9] len1 (fun k t i wr => ∃ (j : Nat) (rs : List Int), j + k = len1 ∧ i = .int .i64 (j : Int) ∧ t = .int .i64 (sm rs n) ∧ rs.length = n ∧ j ≤ 60 ∧ (∀ m, rs.getD m 0 ≤ (j : Int)) ∧ sm rs n ≤ (j : Int) ∧ Fr wr (w.heap.size + 1) w.heap.size rs ∧ New w wr)
  case atStart => exact ⟨0, _, by omega, rfl, by rw [sm_zeros n n], List.length_replicate, by omega, Z0.out, by rw [sm_zeros]; simp, h1, m1⟩
  case round =>
    obtain ⟨j, rs, hj, rfl, rfl, hlen, hj60, hle, hsm, hF, hN⟩ := hrel
    have J := Lib.hid hj
    have HLE := Lib.hid hle
    have hsb := (sm_bd hF.1 n).1
    have tl := tk_len rs n
    have hFt := hF.1
    clear hj hle
    by_cases c : j < len1 ∧ j < 60
    · obtain ⟨c3, c4⟩ := c
      have d4 : decide ((j : Int) < 60) = true := by simp; omega
      obtain ⟨x, rfl, hx⟩ := HL.out j c3
      obtain ⟨kd, hk, _⟩ := hx 0 (by omega)
      obtain ⟨nn, hn, wn⟩ := hx 1 (by omega)
      rw [← hN.cell (p := x.add (j * 2 + 0)) (cell_lt hk)] at hk
      rw [← hN.cell (p := x.add (j * 2 + 1)) (cell_lt hn)] at hn
      rw [Nat.add_zero] at hk
      rw [add_field x _ 1 (by omega)] at hn
      clear hx wn
      obtain ⟨q, eq, hq⟩ := mod4 kd
      obtain ⟨aa, ea, ha⟩ := mod_by nn n (by omega) (by omega)
      have eu : IntKind.u64.wrap (n : Int) = (n : Int) := by rw [IntKind.wrap_u64]; omega
      have ez : ((n : Int) == 0) = false := by simp; omega
      have F := free_any wr hF
      rw [hlen] at F
      have HLN := Lib.hid hlen
      clear hlen
      have hn0 := hk
      go_wp2_with fail
      refine F.mono ?_
      rintro e W2 ⟨rfl, m2⟩
      have h2 := hF.new m2
      have N2 := hN.trans m2
      rw [← m2.cell (cell_lt hk)] at hk
      clear hF hN m2 F hn hn0
      rcases (show q = 0 ∨ q = 1 ∨ q = 2 ∨ q = 3 by omega) with rfl | rfl | rfl | rfl
      · go_wp2_with fail
        clear eq ea eu ez hk
        rcases free_or rs rs.length with hfull | ⟨i, hi, hnf, hz⟩
        · have tf : (tk rs n).length = n := tk_full hFt n (by rw [← HLN.out]; exact hfull)
          rw [tf]
          refine (did_alloc_no h2 hfull).mono ?_
          rintro e W3 ⟨rfl, h3, f3⟩
          have N3 := f3.new N2 (Nat.le_refl _)
          clear h2 N2 f3 tf tl
          go_wp2_with fail
          refine wp_loop_rounds 1 ?_
          rw [rounds_succ]
          go_wp2_with fail
          have hlen2 : (rs).length = n := HLN.out
          have hle2 : ∀ u, (rs).getD u 0 ≤ ((j + 1 : Nat) : Int) := fun m => by have := HLE.out m; omega
          have hsm2 : sm (rs) n = sm rs n := by rfl
          have hsl2 : sm (rs) n ≤ ((j + 1 : Nat) : Int) := by rw [hsm2]; omega
          have t2 := tk_len (rs) n
          generalize (rs) = rs2 at *
          have HLN2 := Lib.hid hlen2
          have HLE2 := Lib.hid hle2
          have HSM := Lib.hid hsm2
          have X1 := fun W k => free_any W (h3.new (w' := W) k)
          have X2 := fun W k => taken_len W (h3.new (w' := W) k)
          rw [hlen2] at X1 X2
          generalize (tk rs2 n).length = t2n at *
          have HSL := Lib.hid hsl2
          have hsb2 := fun m => (sm_bd h3.1 m)
          have HSB := Lib.hid hsb2
          clear hlen2 hle2 hsm2 hsb2 hsl2
          go_loopg [18, 19] n (fun k s i wr2 => ∃ m : Nat, m + k = n ∧ i = .int .i64 (m : Int) ∧ s = .int .i64 (sm rs2 m) ∧ W3 = wr2)
          case atStart => exact ⟨0, by omega, rfl, rfl, rfl⟩
          case round =>
            obtain ⟨m, hm, rfl, rfl, rfl⟩ := hrel
            have K := Lib.hid hm
            clear hm
            by_cases cm : m < n
            · have S := Lib.hid (show sm rs2 (m + 1) = sm rs2 m + rs2.getD m 0 from rfl)
              have sb := HSB.out m
              have gb := h3.1.2.2 m
              have R := refs_any m W3 h3
              rw [rfs_in rs2 m (by rw [HLN2.out]; exact cm)] at R
              generalize rs2.getD m 0 = y at *
              generalize sm rs2 m = z at *
              go_wp2_with fail
              refine R.mono ?_
              rintro e W4 ⟨rfl, rfl⟩
              go_wp2_with fail
              go_roundg (n - (m + 1))
              case measure => have := K.out; omega
              case rel => exact ⟨m + 1, by have := K.out; omega, by go_num, by rw [S.out], rfl⟩
            · have hmn : m = n := by have := K.out; omega
              clear K cm
              subst hmn
              rw [HSM.out]
              go_wp2_with fail
              refine (X1 _ (New.refl _)).mono ?_
              rintro e W4 ⟨rfl, m4⟩
              go_wp2_with fail
              refine (X2 _ m4).mono ?_
              rintro e W5 ⟨p, cp, rfl, m5⟩
              have NX := m4.trans m5
              go_wp2_with fail
              go_roundg (len1 - (j + 1))
              case measure => have := J.out; omega
              case rel => exact ⟨j + 1, rs2, by have := J.out; omega, by go_num, by first | rw [HSM.out] | rfl, HLN2.out, by omega, HLE2.out, HSL.out, h3.new NX, N3.trans NX⟩
        · have tt0 := tk_some i n (by rw [← HLN.out]; exact hi) hz
          have T2 : (((tk (rs.set i 1) n).length : Nat) : Int) = ((tk rs n).length : Int) + 1 := by
            rw [tk_len_set rs i 1 n hi, if_pos (by rw [← HLN.out]; exact hi), hz]; simp
          have hin : i < n := by rw [← HLN.out]; exact hi
          refine (did_alloc i h2 hi hnf hz).mono ?_
          rintro e W3 ⟨rfl, h3, f3⟩
          have N3 := f3.new N2 (Nat.le_refl _)
          have R1 := refs_any i W3 h3
          rw [rfs_set rs i 1 i hi, if_pos rfl] at R1
          have R2 := free_any W3 h3
          rw [show (((rs.set i 1).length : Nat) : Int) - ((tk (rs.set i 1) (rs.set i 1).length).length : Int) = (n : Int) - ((tk rs n).length : Int) - 1 from by rw [List.length_set, HLN.out, T2]; omega] at R2
          have S1 := sm_set rs i 1 n hi
          rw [if_pos hin, hz] at S1
          clear h2 N2 f3 tl T2
          generalize (tk rs n).length = tt at *
          generalize sm rs n = tot at *
          go_wp2_with fail
          refine R1.mono ?_
          rintro e W4 ⟨rfl, rfl⟩
          go_wp2_with fail
          refine R2.mono ?_
          rintro e W4 ⟨rfl, m4⟩
          have h4 := h3.new m4
          have N4 := N3.trans m4
          clear h3 N3 m4 R1 R2
          have HNF := Lib.hid hnf
          have HS1 := Lib.hid S1
          clear hnf S1
          go_wp2_with fail
          go_loopg [14] i (fun k a wr2 => ∃ m : Nat, m + k = i ∧ a = .int .i64 (m : Int) ∧ W4 = wr2)
          case atStart => exact ⟨0, by omega, rfl, rfl⟩
          case round =>
            obtain ⟨m, hm, rfl, rfl⟩ := hrel
            have K := Lib.hid hm
            clear hm
            by_cases cm : m < i
            · have R := refs_any m W4 h4
              rw [rfs_set rs i 1 m hi, if_neg (by omega), rfs_in rs m (by omega)] at R
              have d := HNF.out m cm
              have f : (rs.getD m 0 == 0) = false := by simpa using d
              generalize rs.getD m 0 = y at *
              clear d
              go_wp2_with fail
              refine R.mono ?_
              rintro e W5 ⟨rfl, rfl⟩
              go_wp2_with fail
              go_roundg (i - (m + 1))
              case measure => have := K.out; omega
              case rel => exact ⟨m + 1, by have := K.out; omega, by go_num, rfl⟩
            · have hmi : m = i := by have := K.out; omega
              clear K cm
              subst hmi
              go_wp2_with fail
              have hlen2 : (rs.set m 1).length = n := by rw [List.length_set, HLN.out]
              have hle2 : ∀ u, (rs.set m 1).getD u 0 ≤ ((j + 1 : Nat) : Int) := fun u => by have := set_le HLE.out m 1 (by omega) u; omega
              have hsm2 : sm (rs.set m 1) n = tot + 1 := by rw [HS1.out]; omega
              have hsl2 : sm (rs.set m 1) n ≤ ((j + 1 : Nat) : Int) := by rw [hsm2]; omega
              have t2 := tk_len (rs.set m 1) n
              generalize (rs.set m 1) = rs2 at *
              have HLN2 := Lib.hid hlen2
              have HLE2 := Lib.hid hle2
              have HSM := Lib.hid hsm2
              have X1 := fun W k => free_any W (h4.new (w' := W) k)
              have X2 := fun W k => taken_len W (h4.new (w' := W) k)
              rw [hlen2] at X1 X2
              generalize (tk rs2 n).length = t2n at *
              have HSL := Lib.hid hsl2
              have hsb2 := fun m => (sm_bd h4.1 m)
              have HSB := Lib.hid hsb2
              clear hlen2 hle2 hsm2 hsb2 hsl2
              go_loopg [18, 19] n (fun k s i wr2 => ∃ m : Nat, m + k = n ∧ i = .int .i64 (m : Int) ∧ s = .int .i64 (sm rs2 m) ∧ W4 = wr2)
              case atStart => exact ⟨0, by omega, rfl, rfl, rfl⟩
              case round =>
                obtain ⟨m, hm, rfl, rfl, rfl⟩ := hrel
                have K := Lib.hid hm
                clear hm
                by_cases cm : m < n
                · have S := Lib.hid (show sm rs2 (m + 1) = sm rs2 m + rs2.getD m 0 from rfl)
                  have sb := HSB.out m
                  have gb := h4.1.2.2 m
                  have R := refs_any m W4 h4
                  rw [rfs_in rs2 m (by rw [HLN2.out]; exact cm)] at R
                  generalize rs2.getD m 0 = y at *
                  generalize sm rs2 m = z at *
                  go_wp2_with fail
                  refine R.mono ?_
                  rintro e W4 ⟨rfl, rfl⟩
                  go_wp2_with fail
                  go_roundg (n - (m + 1))
                  case measure => have := K.out; omega
                  case rel => exact ⟨m + 1, by have := K.out; omega, by go_num, by rw [S.out], rfl⟩
                · have hmn : m = n := by have := K.out; omega
                  clear K cm
                  subst hmn
                  rw [HSM.out]
                  go_wp2_with fail
                  refine (X1 _ (New.refl _)).mono ?_
                  rintro e W4 ⟨rfl, m4⟩
                  go_wp2_with fail
                  refine (X2 _ m4).mono ?_
                  rintro e W5 ⟨p, cp, rfl, m5⟩
                  have NX := m4.trans m5
                  go_wp2_with fail
                  go_roundg (len1 - (j + 1))
                  case measure => have := J.out; omega
                  case rel => exact ⟨j + 1, rs2, by have := J.out; omega, by go_num, by first | rw [HSM.out] | rfl, HLN2.out, by omega, HLE2.out, HSL.out, h4.new NX, N4.trans NX⟩
      · go_wp2_with fail
        clear eq ea eu ez hk
        rcases free_or rs rs.length with hfull | ⟨i, hi, hnf, hz⟩
        · have tf : (tk rs n).length = n := tk_full hFt n (by rw [← HLN.out]; exact hfull)
          rw [tf]
          refine (did_alloc_no h2 hfull).mono ?_
          rintro e W3 ⟨rfl, h3, f3⟩
          have N3 := f3.new N2 (Nat.le_refl _)
          clear h2 N2 f3 tf tl
          go_wp2_with fail
          refine wp_loop_rounds 1 ?_
          rw [rounds_succ]
          go_wp2_with fail
          have hlen2 : (rs).length = n := HLN.out
          have hle2 : ∀ u, (rs).getD u 0 ≤ ((j + 1 : Nat) : Int) := fun m => by have := HLE.out m; omega
          have hsm2 : sm (rs) n = sm rs n := by rfl
          have hsl2 : sm (rs) n ≤ ((j + 1 : Nat) : Int) := by rw [hsm2]; omega
          have t2 := tk_len (rs) n
          generalize (rs) = rs2 at *
          have HLN2 := Lib.hid hlen2
          have HLE2 := Lib.hid hle2
          have HSM := Lib.hid hsm2
          have X1 := fun W k => free_any W (h3.new (w' := W) k)
          have X2 := fun W k => taken_len W (h3.new (w' := W) k)
          rw [hlen2] at X1 X2
          generalize (tk rs2 n).length = t2n at *
          have HSL := Lib.hid hsl2
          have hsb2 := fun m => (sm_bd h3.1 m)
          have HSB := Lib.hid hsb2
          clear hlen2 hle2 hsm2 hsb2 hsl2
          go_loopg [18, 19] n (fun k s i wr2 => ∃ m : Nat, m + k = n ∧ i = .int .i64 (m : Int) ∧ s = .int .i64 (sm rs2 m) ∧ W3 = wr2)
          case atStart => exact ⟨0, by omega, rfl, rfl, rfl⟩
          case round =>
            obtain ⟨m, hm, rfl, rfl, rfl⟩ := hrel
            have K := Lib.hid hm
            clear hm
            by_cases cm : m < n
            · have S := Lib.hid (show sm rs2 (m + 1) = sm rs2 m + rs2.getD m 0 from rfl)
              have sb := HSB.out m
              have gb := h3.1.2.2 m
              have R := refs_any m W3 h3
              rw [rfs_in rs2 m (by rw [HLN2.out]; exact cm)] at R
              generalize rs2.getD m 0 = y at *
              generalize sm rs2 m = z at *
              go_wp2_with fail
              refine R.mono ?_
              rintro e W4 ⟨rfl, rfl⟩
              go_wp2_with fail
              go_roundg (n - (m + 1))
              case measure => have := K.out; omega
              case rel => exact ⟨m + 1, by have := K.out; omega, by go_num, by rw [S.out], rfl⟩
            · have hmn : m = n := by have := K.out; omega
              clear K cm
              subst hmn
              rw [HSM.out]
              go_wp2_with fail
              refine (X1 _ (New.refl _)).mono ?_
              rintro e W4 ⟨rfl, m4⟩
              go_wp2_with fail
              refine (X2 _ m4).mono ?_
              rintro e W5 ⟨p, cp, rfl, m5⟩
              have NX := m4.trans m5
              go_wp2_with fail
              go_roundg (len1 - (j + 1))
              case measure => have := J.out; omega
              case rel => exact ⟨j + 1, rs2, by have := J.out; omega, by go_num, by first | rw [HSM.out] | rfl, HLN2.out, by omega, HLE2.out, HSL.out, h3.new NX, N3.trans NX⟩
        · have tt0 := tk_some i n (by rw [← HLN.out]; exact hi) hz
          have T2 : (((tk (rs.set i 1) n).length : Nat) : Int) = ((tk rs n).length : Int) + 1 := by
            rw [tk_len_set rs i 1 n hi, if_pos (by rw [← HLN.out]; exact hi), hz]; simp
          have hin : i < n := by rw [← HLN.out]; exact hi
          refine (did_alloc i h2 hi hnf hz).mono ?_
          rintro e W3 ⟨rfl, h3, f3⟩
          have N3 := f3.new N2 (Nat.le_refl _)
          have R1 := refs_any i W3 h3
          rw [rfs_set rs i 1 i hi, if_pos rfl] at R1
          have R2 := free_any W3 h3
          rw [show (((rs.set i 1).length : Nat) : Int) - ((tk (rs.set i 1) (rs.set i 1).length).length : Int) = (n : Int) - ((tk rs n).length : Int) - 1 from by rw [List.length_set, HLN.out, T2]; omega] at R2
          have S1 := sm_set rs i 1 n hi
          rw [if_pos hin, hz] at S1
          clear h2 N2 f3 tl T2
          generalize (tk rs n).length = tt at *
          generalize sm rs n = tot at *
          go_wp2_with fail
          refine R1.mono ?_
          rintro e W4 ⟨rfl, rfl⟩
          go_wp2_with fail
          refine R2.mono ?_
          rintro e W4 ⟨rfl, m4⟩
          have h4 := h3.new m4
          have N4 := N3.trans m4
          clear h3 N3 m4 R1 R2
          have HNF := Lib.hid hnf
          have HS1 := Lib.hid S1
          clear hnf S1
          go_wp2_with fail
          go_loopg [14] i (fun k a wr2 => ∃ m : Nat, m + k = i ∧ a = .int .i64 (m : Int) ∧ W4 = wr2)
          case atStart => exact ⟨0, by omega, rfl, rfl⟩
          case round =>
            obtain ⟨m, hm, rfl, rfl⟩ := hrel
            have K := Lib.hid hm
            clear hm
            by_cases cm : m < i
            · have R := refs_any m W4 h4
              rw [rfs_set rs i 1 m hi, if_neg (by omega), rfs_in rs m (by omega)] at R
              have d := HNF.out m cm
              have f : (rs.getD m 0 == 0) = false := by simpa using d
              generalize rs.getD m 0 = y at *
              clear d
              go_wp2_with fail
              refine R.mono ?_
              rintro e W5 ⟨rfl, rfl⟩
              go_wp2_with fail
              go_roundg (i - (m + 1))
              case measure => have := K.out; omega
              case rel => exact ⟨m + 1, by have := K.out; omega, by go_num, rfl⟩
            · have hmi : m = i := by have := K.out; omega
              clear K cm
              subst hmi
              go_wp2_with fail
              have hlen2 : (rs.set m 1).length = n := by rw [List.length_set, HLN.out]
              have hle2 : ∀ u, (rs.set m 1).getD u 0 ≤ ((j + 1 : Nat) : Int) := fun u => by have := set_le HLE.out m 1 (by omega) u; omega
              have hsm2 : sm (rs.set m 1) n = tot + 1 := by rw [HS1.out]; omega
              have hsl2 : sm (rs.set m 1) n ≤ ((j + 1 : Nat) : Int) := by rw [hsm2]; omega
              have t2 := tk_len (rs.set m 1) n
              generalize (rs.set m 1) = rs2 at *
              have HLN2 := Lib.hid hlen2
              have HLE2 := Lib.hid hle2
              have HSM := Lib.hid hsm2
              have X1 := fun W k => free_any W (h4.new (w' := W) k)
              have X2 := fun W k => taken_len W (h4.new (w' := W) k)
              rw [hlen2] at X1 X2
              generalize (tk rs2 n).length = t2n at *
              have HSL := Lib.hid hsl2
              have hsb2 := fun m => (sm_bd h4.1 m)
              have HSB := Lib.hid hsb2
              clear hlen2 hle2 hsm2 hsb2 hsl2
              go_loopg [18, 19] n (fun k s i wr2 => ∃ m : Nat, m + k = n ∧ i = .int .i64 (m : Int) ∧ s = .int .i64 (sm rs2 m) ∧ W4 = wr2)
              case atStart => exact ⟨0, by omega, rfl, rfl, rfl⟩
              case round =>
                obtain ⟨m, hm, rfl, rfl, rfl⟩ := hrel
                have K := Lib.hid hm
                clear hm
                by_cases cm : m < n
                · have S := Lib.hid (show sm rs2 (m + 1) = sm rs2 m + rs2.getD m 0 from rfl)
                  have sb := HSB.out m
                  have gb := h4.1.2.2 m
                  have R := refs_any m W4 h4
                  rw [rfs_in rs2 m (by rw [HLN2.out]; exact cm)] at R
                  generalize rs2.getD m 0 = y at *
                  generalize sm rs2 m = z at *
                  go_wp2_with fail
                  refine R.mono ?_
                  rintro e W4 ⟨rfl, rfl⟩
                  go_wp2_with fail
                  go_roundg (n - (m + 1))
                  case measure => have := K.out; omega
                  case rel => exact ⟨m + 1, by have := K.out; omega, by go_num, by rw [S.out], rfl⟩
                · have hmn : m = n := by have := K.out; omega
                  clear K cm
                  subst hmn
                  rw [HSM.out]
                  go_wp2_with fail
                  refine (X1 _ (New.refl _)).mono ?_
                  rintro e W4 ⟨rfl, m4⟩
                  go_wp2_with fail
                  refine (X2 _ m4).mono ?_
                  rintro e W5 ⟨p, cp, rfl, m5⟩
                  have NX := m4.trans m5
                  go_wp2_with fail
                  go_roundg (len1 - (j + 1))
                  case measure => have := J.out; omega
                  case rel => exact ⟨j + 1, rs2, by have := J.out; omega, by go_num, by first | rw [HSM.out] | rfl, HLN2.out, by omega, HLE2.out, HSL.out, h4.new NX, N4.trans NX⟩
      · go_wp2_with fail
        clear eq ea eu ez hk
        have hal : aa < rs.length := by rw [HLN.out]; exact ha
        have gb := hFt.2.2 aa
        have gl := HLE.out aa
        have hr : rfs rs (aa : Int) = rs.getD aa 0 := rfs_in rs aa hal
        by_cases z : rs.getD aa 0 = 0
        · have z0 := z
          refine (did_ref_no aa h2 (Or.inl (hr.trans z))).mono ?_
          rintro e W3 ⟨rfl, h3, f3⟩
          have N3 := f3.new N2 (Nat.le_refl _)
          clear h2 N2 f3 tl z z0 gb gl hr
          go_wp2_with fail
          have hlen2 : (rs).length = n := HLN.out
          have hle2 : ∀ u, (rs).getD u 0 ≤ ((j + 1 : Nat) : Int) := fun m => by have := HLE.out m; omega
          have hsm2 : sm (rs) n = sm rs n := by rfl
          have hsl2 : sm (rs) n ≤ ((j + 1 : Nat) : Int) := by rw [hsm2]; omega
          have t2 := tk_len (rs) n
          generalize (rs) = rs2 at *
          have HLN2 := Lib.hid hlen2
          have HLE2 := Lib.hid hle2
          have HSM := Lib.hid hsm2
          have X1 := fun W k => free_any W (h3.new (w' := W) k)
          have X2 := fun W k => taken_len W (h3.new (w' := W) k)
          rw [hlen2] at X1 X2
          generalize (tk rs2 n).length = t2n at *
          have HSL := Lib.hid hsl2
          have hsb2 := fun m => (sm_bd h3.1 m)
          have HSB := Lib.hid hsb2
          clear hlen2 hle2 hsm2 hsb2 hsl2
          go_loopg [18, 19] n (fun k s i wr2 => ∃ m : Nat, m + k = n ∧ i = .int .i64 (m : Int) ∧ s = .int .i64 (sm rs2 m) ∧ W3 = wr2)
          case atStart => exact ⟨0, by omega, rfl, rfl, rfl⟩
          case round =>
            obtain ⟨m, hm, rfl, rfl, rfl⟩ := hrel
            have K := Lib.hid hm
            clear hm
            by_cases cm : m < n
            · have S := Lib.hid (show sm rs2 (m + 1) = sm rs2 m + rs2.getD m 0 from rfl)
              have sb := HSB.out m
              have gb := h3.1.2.2 m
              have R := refs_any m W3 h3
              rw [rfs_in rs2 m (by rw [HLN2.out]; exact cm)] at R
              generalize rs2.getD m 0 = y at *
              generalize sm rs2 m = z at *
              go_wp2_with fail
              refine R.mono ?_
              rintro e W4 ⟨rfl, rfl⟩
              go_wp2_with fail
              go_roundg (n - (m + 1))
              case measure => have := K.out; omega
              case rel => exact ⟨m + 1, by have := K.out; omega, by go_num, by rw [S.out], rfl⟩
            · have hmn : m = n := by have := K.out; omega
              clear K cm
              subst hmn
              rw [HSM.out]
              go_wp2_with fail
              refine (X1 _ (New.refl _)).mono ?_
              rintro e W4 ⟨rfl, m4⟩
              go_wp2_with fail
              refine (X2 _ m4).mono ?_
              rintro e W5 ⟨p, cp, rfl, m5⟩
              have NX := m4.trans m5
              go_wp2_with fail
              go_roundg (len1 - (j + 1))
              case measure => have := J.out; omega
              case rel => exact ⟨j + 1, rs2, by have := J.out; omega, by go_num, by first | rw [HSM.out] | rfl, HLN2.out, by omega, HLE2.out, HSL.out, h3.new NX, N3.trans NX⟩
        · have S1 := sm_set rs aa (rs.getD aa 0 + 1) n hal
          rw [if_pos ha] at S1
          have HS1 := Lib.hid S1
          have GB := Lib.hid gb
          have GL := Lib.hid gl
          clear S1 gb gl hr
          refine (did_ref aa h2 hal (by have := GB.out; omega) (by have := GL.out; omega)).mono ?_
          rintro e W3 ⟨rfl, h3, f3⟩
          have N3 := f3.new N2 (Nat.le_refl _)
          generalize hv : rs.getD aa 0 = v at *
          have HV := Lib.hid hv
          clear hv
          generalize sm rs n = tot at *
          clear h2 N2 f3 tl z
          go_wp2_with fail
          have hlen2 : (rs.set aa (v + 1)).length = n := by rw [List.length_set, HLN.out]
          have hle2 : ∀ u, (rs.set aa (v + 1)).getD u 0 ≤ ((j + 1 : Nat) : Int) := fun u => by have := set_le HLE.out aa (v + 1) (by have := GL.out; omega) u; omega
          have hsm2 : sm (rs.set aa (v + 1)) n = tot + 1 := by rw [HS1.out]; omega
          have hsl2 : sm (rs.set aa (v + 1)) n ≤ ((j + 1 : Nat) : Int) := by rw [hsm2]; omega
          have t2 := tk_len (rs.set aa (v + 1)) n
          generalize (rs.set aa (v + 1)) = rs2 at *
          have HLN2 := Lib.hid hlen2
          have HLE2 := Lib.hid hle2
          have HSM := Lib.hid hsm2
          have X1 := fun W k => free_any W (h3.new (w' := W) k)
          have X2 := fun W k => taken_len W (h3.new (w' := W) k)
          rw [hlen2] at X1 X2
          generalize (tk rs2 n).length = t2n at *
          have HSL := Lib.hid hsl2
          have hsb2 := fun m => (sm_bd h3.1 m)
          have HSB := Lib.hid hsb2
          clear hlen2 hle2 hsm2 hsb2 hsl2
          go_loopg [18, 19] n (fun k s i wr2 => ∃ m : Nat, m + k = n ∧ i = .int .i64 (m : Int) ∧ s = .int .i64 (sm rs2 m) ∧ W3 = wr2)
          case atStart => exact ⟨0, by omega, rfl, rfl, rfl⟩
          case round =>
            obtain ⟨m, hm, rfl, rfl, rfl⟩ := hrel
            have K := Lib.hid hm
            clear hm
            by_cases cm : m < n
            · have S := Lib.hid (show sm rs2 (m + 1) = sm rs2 m + rs2.getD m 0 from rfl)
              have sb := HSB.out m
              have gb := h3.1.2.2 m
              have R := refs_any m W3 h3
              rw [rfs_in rs2 m (by rw [HLN2.out]; exact cm)] at R
              generalize rs2.getD m 0 = y at *
              generalize sm rs2 m = z at *
              go_wp2_with fail
              refine R.mono ?_
              rintro e W4 ⟨rfl, rfl⟩
              go_wp2_with fail
              go_roundg (n - (m + 1))
              case measure => have := K.out; omega
              case rel => exact ⟨m + 1, by have := K.out; omega, by go_num, by rw [S.out], rfl⟩
            · have hmn : m = n := by have := K.out; omega
              clear K cm
              subst hmn
              rw [HSM.out]
              go_wp2_with fail
              refine (X1 _ (New.refl _)).mono ?_
              rintro e W4 ⟨rfl, m4⟩
              go_wp2_with fail
              refine (X2 _ m4).mono ?_
              rintro e W5 ⟨p, cp, rfl, m5⟩
              have NX := m4.trans m5
              go_wp2_with fail
              go_roundg (len1 - (j + 1))
              case measure => have := J.out; omega
              case rel => exact ⟨j + 1, rs2, by have := J.out; omega, by go_num, by first | rw [HSM.out] | rfl, HLN2.out, by omega, HLE2.out, HSL.out, h3.new NX, N3.trans NX⟩
      · go_wp2_with fail
        clear eq ea eu ez hk
        have hal : aa < rs.length := by rw [HLN.out]; exact ha
        have gb := hFt.2.2 aa
        have gl := HLE.out aa
        have hr : rfs rs (aa : Int) = rs.getD aa 0 := rfs_in rs aa hal
        by_cases z : rs.getD aa 0 = 0
        · have R := refs_any aa W2 h2
          rw [hr, z] at R
          refine R.mono ?_
          rintro e W3 ⟨rfl, rfl⟩
          go_wp2_with fail
          refine (did_unref_no aa h2 (hr.trans z)).mono ?_
          rintro e W3 ⟨rfl, h3, f3⟩
          have N3 := f3.new N2 (Nat.le_refl _)
          clear h2 N2 f3 tl z gb gl hr R
          go_wp2_with fail
          have hlen2 : (rs).length = n := HLN.out
          have hle2 : ∀ u, (rs).getD u 0 ≤ ((j + 1 : Nat) : Int) := fun m => by have := HLE.out m; omega
          have hsm2 : sm (rs) n = sm rs n := by rfl
          have hsl2 : sm (rs) n ≤ ((j + 1 : Nat) : Int) := by rw [hsm2]; omega
          have t2 := tk_len (rs) n
          generalize (rs) = rs2 at *
          have HLN2 := Lib.hid hlen2
          have HLE2 := Lib.hid hle2
          have HSM := Lib.hid hsm2
          have X1 := fun W k => free_any W (h3.new (w' := W) k)
          have X2 := fun W k => taken_len W (h3.new (w' := W) k)
          rw [hlen2] at X1 X2
          generalize (tk rs2 n).length = t2n at *
          have HSL := Lib.hid hsl2
          have hsb2 := fun m => (sm_bd h3.1 m)
          have HSB := Lib.hid hsb2
          clear hlen2 hle2 hsm2 hsb2 hsl2
          go_loopg [18, 19] n (fun k s i wr2 => ∃ m : Nat, m + k = n ∧ i = .int .i64 (m : Int) ∧ s = .int .i64 (sm rs2 m) ∧ W3 = wr2)
          case atStart => exact ⟨0, by omega, rfl, rfl, rfl⟩
          case round =>
            obtain ⟨m, hm, rfl, rfl, rfl⟩ := hrel
            have K := Lib.hid hm
            clear hm
            by_cases cm : m < n
            · have S := Lib.hid (show sm rs2 (m + 1) = sm rs2 m + rs2.getD m 0 from rfl)
              have sb := HSB.out m
              have gb := h3.1.2.2 m
              have R := refs_any m W3 h3
              rw [rfs_in rs2 m (by rw [HLN2.out]; exact cm)] at R
              generalize rs2.getD m 0 = y at *
              generalize sm rs2 m = z at *
              go_wp2_with fail
              refine R.mono ?_
              rintro e W4 ⟨rfl, rfl⟩
              go_wp2_with fail
              go_roundg (n - (m + 1))
              case measure => have := K.out; omega
              case rel => exact ⟨m + 1, by have := K.out; omega, by go_num, by rw [S.out], rfl⟩
            · have hmn : m = n := by have := K.out; omega
              clear K cm
              subst hmn
              rw [HSM.out]
              go_wp2_with fail
              refine (X1 _ (New.refl _)).mono ?_
              rintro e W4 ⟨rfl, m4⟩
              go_wp2_with fail
              refine (X2 _ m4).mono ?_
              rintro e W5 ⟨p, cp, rfl, m5⟩
              have NX := m4.trans m5
              go_wp2_with fail
              go_roundg (len1 - (j + 1))
              case measure => have := J.out; omega
              case rel => exact ⟨j + 1, rs2, by have := J.out; omega, by go_num, by first | rw [HSM.out] | rfl, HLN2.out, by omega, HLE2.out, HSL.out, h3.new NX, N3.trans NX⟩
        · have R := refs_any aa W2 h2
          rw [hr] at R
          have T := did_unref aa h2 hal (by omega)
          have S1 := sm_set rs aa (rs.getD aa 0 - 1) n hal
          rw [if_pos ha] at S1
          have HS1 := Lib.hid S1
          have GB := Lib.hid gb
          have GL := Lib.hid gl
          clear S1 gb gl hr
          generalize hv : rs.getD aa 0 = v at *
          have HV := Lib.hid hv
          clear hv
          have vz : decide ((0 : Int) < v) = true := by have := GB.out; simp; omega
          generalize sm rs n = tot at *
          refine R.mono ?_
          rintro e W3 ⟨rfl, rfl⟩
          go_wp2_with fail
          refine T.mono ?_
          rintro e W3 ⟨rfl, h3, f3⟩
          have N3 := f3.new N2 (Nat.le_refl _)
          clear h2 N2 f3 tl R T
          go_wp2_with fail
          have hlen2 : (rs.set aa (v - 1)).length = n := by rw [List.length_set, HLN.out]
          have hle2 : ∀ u, (rs.set aa (v - 1)).getD u 0 ≤ ((j + 1 : Nat) : Int) := fun u => by have := set_le HLE.out aa (v - 1) (by have := GL.out; omega) u; omega
          have hsm2 : sm (rs.set aa (v - 1)) n = tot - 1 := by rw [HS1.out]; omega
          have hsl2 : sm (rs.set aa (v - 1)) n ≤ ((j + 1 : Nat) : Int) := by rw [hsm2]; omega
          have t2 := tk_len (rs.set aa (v - 1)) n
          generalize (rs.set aa (v - 1)) = rs2 at *
          have HLN2 := Lib.hid hlen2
          have HLE2 := Lib.hid hle2
          have HSM := Lib.hid hsm2
          have X1 := fun W k => free_any W (h3.new (w' := W) k)
          have X2 := fun W k => taken_len W (h3.new (w' := W) k)
          rw [hlen2] at X1 X2
          generalize (tk rs2 n).length = t2n at *
          have HSL := Lib.hid hsl2
          have hsb2 := fun m => (sm_bd h3.1 m)
          have HSB := Lib.hid hsb2
          clear hlen2 hle2 hsm2 hsb2 hsl2
          go_loopg [18, 19] n (fun k s i wr2 => ∃ m : Nat, m + k = n ∧ i = .int .i64 (m : Int) ∧ s = .int .i64 (sm rs2 m) ∧ W3 = wr2)
          case atStart => exact ⟨0, by omega, rfl, rfl, rfl⟩
          case round =>
            obtain ⟨m, hm, rfl, rfl, rfl⟩ := hrel
            have K := Lib.hid hm
            clear hm
            by_cases cm : m < n
            · have S := Lib.hid (show sm rs2 (m + 1) = sm rs2 m + rs2.getD m 0 from rfl)
              have sb := HSB.out m
              have gb := h3.1.2.2 m
              have R := refs_any m W3 h3
              rw [rfs_in rs2 m (by rw [HLN2.out]; exact cm)] at R
              generalize rs2.getD m 0 = y at *
              generalize sm rs2 m = z at *
              go_wp2_with fail
              refine R.mono ?_
              rintro e W4 ⟨rfl, rfl⟩
              go_wp2_with fail
              go_roundg (n - (m + 1))
              case measure => have := K.out; omega
              case rel => exact ⟨m + 1, by have := K.out; omega, by go_num, by rw [S.out], rfl⟩
            · have hmn : m = n := by have := K.out; omega
              clear K cm
              subst hmn
              rw [HSM.out]
              go_wp2_with fail
              refine (X1 _ (New.refl _)).mono ?_
              rintro e W4 ⟨rfl, m4⟩
              go_wp2_with fail
              refine (X2 _ m4).mono ?_
              rintro e W5 ⟨p, cp, rfl, m5⟩
              have NX := m4.trans m5
              go_wp2_with fail
              go_roundg (len1 - (j + 1))
              case measure => have := J.out; omega
              case rel => exact ⟨j + 1, rs2, by have := J.out; omega, by go_num, by first | rw [HSM.out] | rfl, HLN2.out, by omega, HLE2.out, HSL.out, h3.new NX, N3.trans NX⟩
    · have go : (decide (j < len1) = false ∧ decide ((j : Int) < (len1 : Int)) = false) ∨ (decide (j < len1) = true ∧ decide ((j : Int) < 60) = false) := by
        by_cases d : j < len1
        · exact .inr ⟨by simp; omega, by simp; omega⟩
        · exact .inl ⟨by simp; omega, by simp; omega⟩
      clear c
      rcases go with ⟨d3, d4⟩ | ⟨d3, d4⟩
      all_goals
        go_wp2_with fail
        refine (sure_any _ (hl.new hN)).mono ?_
        rintro e Wz ⟨rfl, nz⟩
        go_wp2_with fail
        go_ret
        exact ⟨rfl, hN.trans nz⟩

/-! ### THE ROW's STEP: WRITTEN OUT: LEAVE IT -/
theorem door_met (os : Os) (args : Array Value) : laidMetH Tryd.prog Rows.framesCountRow.laid ((World.doorLaid Tryd.prog 400 os).forCall (fun _ _ => 0) ⟨#[], args, []⟩).memory :=
  laidMetH_of_parts3 (fuel := 8) (laidMet_of_run' 8 (by kernel_rfl) (by kernel_rfl)) (by kernel_rfl) (by kernel_rfl)
set_option maxRecDepth 100000 in
theorem lifted (os : Os) (started : os.Started) (H : Type) (enc : TypeId × Value → H) :
    ReturnsInHanded {} Tryd.checked os 4 .any (fun w args => (Rows.framesCountSpec.pre enc Tryd.prog Tryd.f4 [] false w args ∧ laidMetH Tryd.prog Rows.framesCountRow.laid w) ∧ sizedMet enc Tryd.prog Tryd.f4 (OpenSpec.ofChange Rows.framesCountSpec) false w args) (Rows.framesCountSpec.post enc Tryd.prog Tryd.f4 false true false false) := by
  refine returnsInHanded_of_change_and (C := Tryd.checked) (X := fun w _ => laidMetH Tryd.prog Rows.framesCountRow.laid w) (fun _ _ _ hh h => h.of_heap hh) own started (by kernel_rfl) Tryd.func4
    (ChangeSpec.witness_shaped (enc := enc) (C := Tryd.checked) (os := os) (X := fun w _ => laidMetH Tryd.prog Rows.framesCountRow.laid w) false (World.doorLaid Tryd.prog 400 os) #[.int .i64 0, .slice none 0 0] 8 rfl (World.shaped_of_RefB (by kernel_rfl) (by kernel_rfl)) (by kernel_rfl) (by kernel_rfl) (by kernel_rfl) (door_met os _)) ?_
  intro W base args ds gs before hval0 hW _ _ hL _
  have hL' : laidMet Tryd.prog [] W ∧ handlesMet Tryd.prog [("errors.errorType", Rows.laid_errors_errorType)] W := hL
  have hval : ∀ (j : Nat) t v, Tryd.f4.params[j]? = some t → args[j]? = some v → Value.okWide Tryd.prog W .any base t v := hval0
  have hW' := hW
  obtain ⟨p, q, hA0, hV, rfl, hfz, hnd⟩ := hW
  have hA : DataW.TrodAll enc Tryd.prog W 0 (fun _ => true) true Tryd.f4.params.toList args.toList ds p := hA0
  rw [Tryd.params4] at hA hval
  obtain ⟨v0, vs0, d0, ds0, p0, q0, hargs, rfl, rfl, h0, r0⟩ := trodAll_cons hA
  obtain ⟨v1, vs1, d1, ds1, p1, q1, rfl, rfl, rfl, h1, r1⟩ := trodAll_cons r0
  obtain ⟨rfl, rfl, rfl⟩ := trodAll_nil r1
  obtain rfl : args = #[v0, v1] := by cases args; simp_all
  obtain ⟨rfl, rfl⟩ := trodVars_none hV
  obtain ⟨a0, rfl, rfl, rfl, w0⟩ := open_int Tryd.underlying3 (hval 0 3 v0 rfl rfl) h0
  obtain ⟨a1, len1, cap1, rfl⟩ := okWide_slice Tryd.underlying22 (hval 1 22 v1 rfl rfl)
  have k1 := h1
  have lt1 : ∀ x ∈ p1, x.block < W.heap.size := by obtain ⟨m, hm⟩ := k1; exact DataW.trod_lt m _ _ _ hm
  have w1 : IntRows .i64 2 W a1 len1 := introws_of Tryd.underlying22 Tryd.underlying42 (by kernel_rfl) (by kernel_rfl) (fun i f hf => by
    rcases i with _| _| _
    · (simp at hf; subst hf; exact Tryd.underlying3)
    · (simp at hf; subst hf; exact Tryd.underlying3)
    · simp at hf) h1
  clear hA0 hval0
  refine (walk a0 a1 len1 cap1 W w0 w1 (handle_of_hs hL'.2)).mono fun e W' ⟨he, bel⟩ => ?_
  subst he
  exact ⟨_, rfl, _, _, _, [], _, [], hW', trodAll_mk1 (shut_bool Tryd.underlying4 _), (trodAll_cons_mk (shut_int Tryd.underlying3 w0) (trodAll_cons_mk (Below.trod laidOut (by kernel_rfl) (of_decide_eq_true (by kernel_rfl)) k1 bel lt1) trodAll_mk0)), rfl, bel.frame _, fun h => by cases h⟩

theorem over : Rows.framesCountRow.holds Tryd.pinned (OpenSpec.ofChange Rows.framesCountSpec) :=
  OpenClaim.holds_of_wide 4 Tryd.f4 rfl rfl rfl rfl rfl rfl rfl ⟨rfl, rfl, rfl, rfl, rfl⟩ rfl rfl rfl rfl rfl (by kernel_rfl) Tryd.func4 (by kernel_rfl)
    (of_decide_eq_true (by kernel_rfl)) (by unfold Func.isWrapper; first | (rw [if_pos (by decide +kernel)]; kernel_rfl) | (rw [if_neg (by decide +kernel)]; exact ⟨rfl, rfl⟩))
    (fun os started H enc _ => lifted os started H enc)

theorem proved : Rows.FramesCountSaid := over
theorem card : Rows.FramesCountCardSaid :=
  Claim7.holds_tied_plain_at .later [] [.handle] true (true, "100e4c7da3af498487f1a6da07000f463f7c05236fdfe56d7f6fa61c9d6e1efd") true
    over (fun _ h => by cases h) (by kernel_rfl) (fun _ h => by cases h) framesCount_row_tie rfl ⟨rfl, rfl⟩ (by kernel_rfl) rfl
    (fun f fn hf hfn => by
      obtain rfl : f = 4 := Option.some.inj ((show Tryd.prog.funcNamed "halter/halterlaw04.FramesCount" = some 4 by kernel_rfl).symm.trans hf) |>.symm
      obtain rfl : fn = Tryd.f4 := (Option.some.inj (Tryd.func4.symm.trans hfn)).symm
      exact ⟨by kernel_rfl, fun j t ht => by
        rw [Tryd.params4] at ht
        have hm : t ∈ [3, 22] := by have := Array.mem_of_getElem? ht; simpa using this
        have hall : ([3, 22].all fun u => !Tryd.prog.wantsStandIn u) = true := by kernel_rfl
        exact (show Tryd.prog.wantsStandIn t = false by simpa using List.all_eq_true.1 hall t hm)⟩)
    (by kernel_rfl)
#print axioms card
end Go.Proofs.YtonackipdjnjdaaDoor.framesCount
