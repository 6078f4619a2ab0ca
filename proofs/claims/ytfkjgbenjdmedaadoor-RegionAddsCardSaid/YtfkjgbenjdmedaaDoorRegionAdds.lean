/- Of any regions with any one more, the region of any page, any hole, and their size, the package answers as the document says, with the errors; the statement holds for every input, where the library's variable errors.errorType holds what its own text lays, which the card ties. -/
import Derived.Test.YtfkjgbenjdmedaaDoorRows
import Derived.Test.YtfkjgbenjdmedaaDoorReJ
import Derived.Test.YtfkjgbenjdmedaaDoorReR
import Derived.Test.YtfkjgbenjdmedaaDoorNum
import Derived.Test.YtfkjgbenjdmedaaDoorFlat
import Derived.Test.YtfkjgbenjdmedaaDoorCards
import Derived.Test.YtfkjgbenjdmedaaDoorTie
import Derived.LaidMore
import Derived.LaidLaws
import Derived.LaidHandle
import Derived.Test.YtfkjgbenjdmedaaDoorLay
import Derived.Test.YtfkjgbenjdmedaaDoorPost
import Derived.WalkKit
import Derived.ProofKit
import Derived.OpenShut
import Derived.ShutString
import Derived.ChangeOld
import Derived.Below
namespace Go.Proofs.YtfkjgbenjdmedaaDoor.regionAdds
open Go.ChangeShapes Go.WideShapes Go.ChangeAt Go.RowKit
open Go.ChangeMaps (open_string shut_string)
set_option linter.unusedVariables false

theorem own : ownKnob Tryd.prog.godebug = none := by kernel_rfl
theorem laidOut : laidOutB Tryd.prog = true := by kernel_rfl

/-- WHAT THE WALK IS TOLD OF A SLICE OF INTEGERS THAT CAME IN: it is nil; or it leads to a row of 'cap' cells, the numbers 'zs' (the first 'len' are its elements, the rest its spare room), each fitting its kind. -/
def IsRow (k : IntKind) (w : World) (a : Option Addr) (len cap : Nat) (zs : List Int) : Prop :=
  (a = none ∧ len = 0 ∧ cap = 0 ∧ zs = []) ∨
  ∃ x, a = some x ∧ len ≤ cap ∧ cap ≤ maxLen ∧ zs.length = cap ∧ (∀ i, i < zs.length → w.cell? (x.add i) = some (.int k (zs.getD i 0))) ∧ ∀ n ∈ zs, (Lit.int k n).wf = true

open Go.RowKit Go.Deep
/-! ### STEP 1: THE WALK: the Go text returns true, AND WRITES NOTHING THAT WAS THERE: 'Below w.heap.size w w'' (Derived/Below.lean: '.refl', '.alloc', '.drew', '.setCell' at a new block, '.trans'). Open each 'IsRow' by 'rcases' AHEAD of 'go_enter'; part every test ahead of the walk. -/
set_option maxHeartbeats 4000000 in
set_option maxRecDepth 100000 in
theorem walk (a0 : Option Addr) (len0 cap0 : Nat) (v1 : Value) (v2 : Value) (w : World) (w0 : MixRows [some .i64, some .i64, some .u8] w a0 len0) (w1 : Flat [some .i64, some .i64, some .u8] v1) (w2 : Flat [some .i64, some .i64, some .i64] v2) (hl : Laid w) :
    Calls Tryd.prog 3 #[.slice a0 len0 cap0, v1, v2] w fun e w' => e = .returned (.bool true) ∧ Below w.heap.size w w' := by
  obtain ⟨g0, g1, g2, rfl, ⟨x0, rfl, _⟩, ⟨x1, rfl, _⟩, ⟨x2, rfl, hx2⟩⟩ := flat3 w1
  obtain ⟨j0, j1, j2, rfl, ⟨y0, rfl, _⟩, ⟨y1, rfl, _⟩, ⟨y2, rfl, _⟩⟩ := flat3 w2
  have hb2 := u8_bd hx2
  obtain ⟨P, rfl⟩ := Int.eq_ofNat_of_zero_le hb2.1
  obtain ⟨L, rfl, _, hL⟩ := regs_of_mix (cap := cap0) w0
  have hsure := fun W => rsure_any W
  have HL := Lib.hid hl
  have hlen : L.length ≤ 9223372036854775807 := hL.len
  have N0 : New w ((w.alloc (.cells #[.int .i64 x0, .int .i64 x1, .int .u8 (P : Int)] 24)).alloc (.cells #[.int .i64 y0, .int .i64 y1, .int .i64 y2] 25)) := ((New.refl w).alloc _ _).alloc _ _
  have BR : Box ((w.alloc (.cells #[.int .i64 x0, .int .i64 x1, .int .u8 (P : Int)] 24)).alloc (.cells #[.int .i64 y0, .int .i64 y1, .int .i64 y2] 25)) w.heap.size #[.int .i64 x0, .int .i64 x1, .int .u8 (P : Int)] 24 := (Box.here w _ _ _ rfl).alloc _
  have BO : Box ((w.alloc (.cells #[.int .i64 x0, .int .i64 x1, .int .u8 (P : Int)] 24)).alloc (.cells #[.int .i64 y0, .int .i64 y1, .int .i64 y2] 25)) (w.heap.size + 1) #[.int .i64 y0, .int .i64 y1, .int .i64 y2] 25 := Box.here _ _ _ _ (by simp)
  clear w0 w1 w2 hl hx2 hb2
  by_cases c40 : 40 < L.length
  · have d40 : decide (40 < (L.length : Int)) = true := by simp; omega
    clear hL BR BO
    go_enter Tryd.func3, Tryd.ntmps3
    go_wp2_with (go_at_call 6; (with_reducible refine (hsure _).mono ?_); rintro e w2 ⟨rfl, n2⟩)
    go_ret
    exact ⟨rfl, N0.trans n2⟩
  · have d40 : decide (40 < (L.length : Int)) = false := by simp; omega
    have q1 := give_any _ _ L (hL.new N0) (by omega)
    have HA := Lib.hid (hL.new N0)
    clear hL
    go_enter Tryd.func3, Tryd.ntmps3
    go_wp2_with fail
    refine q1.mono ?_
    rintro e w1 ⟨_, rfl, o1, k1⟩
    have HX := Lib.hid o1.rgs
    obtain ⟨p1, c1, rfl⟩ := o1.shape
    clear o1 q1
    obtain ⟨b0, b1, b2⟩ := (BR.new k1).three
    go_wp2_with fail
    refine (radd_any _ _ L ⟨x0, x1, P⟩ HX.out).mono ?_
    rintro e w2 ⟨va, rfl, oa, n2⟩
    have k2 := k1.trans n2
    clear b0 b1 b2
    obtain ⟨b0, b1, b2⟩ := (BR.new k2).three
    have HVA := Lib.hid oa.rgs
    obtain ⟨pa, ca, rfl⟩ := oa.shape
    generalize hc1 : adE L ⟨x0, x1, P⟩ = E1 at *
    go_wp2_with fail
    refine (dadd_any _ _ L ⟨x0, x1, P⟩ (HA.out.new k2)).mono ?_
    rintro e w3 ⟨vb, rfl, ob, n3⟩
    have k3 := k2.trans n3
    clear b0 b1 b2
    have HVB := Lib.hid ob.rgs
    obtain ⟨pb, cb, rfl⟩ := ob.shape
    rw [hc1]
    obtain ⟨b0, b1, b2⟩ := (BO.new k3).three
    go_wp2_with fail
    refine (rat_any _ _ L y0 (HX.out.new (n2.trans n3))).mono ?_
    rintro e w4 ⟨rfl, n4⟩
    have qat := fun W (k : New ((w.alloc (.cells #[.int .i64 x0, .int .i64 x1, .int .u8 (P : Int)] 24)).alloc (.cells #[.int .i64 y0, .int .i64 y1, .int .i64 y2] 25)) W) => dat_any W _ L y0 (HA.out.new k)
    unfold AtN at qat
    generalize (atO L y0).getD ⟨0, 0, 0⟩ = z at *
    generalize (atO L y0).isSome = zb at *
    have n4' : New w4 (w4.alloc (.cells #[.int .i64 z.f, .int .i64 z.t, .int .u8 (z.p : Int)] 33)) := (New.refl w4).alloc _ _
    have BZ : Box (w4.alloc (.cells #[.int .i64 z.f, .int .i64 z.t, .int .u8 (z.p : Int)] 33)) w4.heap.size #[.int .i64 z.f, .int .i64 z.t, .int .u8 (z.p : Int)] 33 := Box.here _ _ _ _ rfl
    have k4 := k3.trans (n4.trans n4')
    clear b0 b1 b2
    obtain ⟨b0, b1, b2⟩ := (BO.new k4).three
    go_wp2_with fail
    refine (qat _ k4).mono ?_
    rintro e w5 ⟨rfl, n5⟩
    have n5' : New w5 (w5.alloc (.cells #[.int .i64 z.f, .int .i64 z.t, .int .u8 (z.p : Int)] 24)) := (New.refl w5).alloc _ _
    have BY : Box (w5.alloc (.cells #[.int .i64 z.f, .int .i64 z.t, .int .u8 (z.p : Int)] 24)) w5.heap.size #[.int .i64 z.f, .int .i64 z.t, .int .u8 (z.p : Int)] 24 := Box.here _ _ _ _ rfl
    have n45 := n4'.trans (n5.trans n5')
    have BZ5 := BZ.new (n5.trans n5')
    have k5 := k3.trans (n4.trans n45)
    have n35 := (n2.trans n3).trans (n4.trans n45)
    clear b0 b1 b2 BZ n4' k4 qat
    obtain ⟨b0, b1, b2⟩ := (BO.new k5).three
    have qho := rhole_any _ _ L y0 y1 y2 (HX.out.new n35)
    go_wp2_with fail
    refine qho.mono ?_
    rintro e w6 ⟨u, c, rfl, hh, n6⟩
    have k6 := k5.trans n6
    have BZ6 := BZ5.new n6
    have BY6 := BY.new n6
    clear b0 b1 b2 qho
    obtain ⟨b0, b1, b2⟩ := (BO.new k6).three
    go_wp2_with fail
    refine (dhole_any _ _ L y0 y1 y2 (HA.out.new k6)).mono ?_
    rintro e w7 ⟨u', c', rfl, hh', n7⟩
    obtain ⟨rfl, rfl⟩ := hh.uniq hh'
    have k7 := k6.trans n7
    have BZ7 := BZ6.new n7
    have BY7 := BY6.new n7
    have RA := Lib.hid (HVA.out.new (n3.trans (n4.trans (n45.trans (n6.trans n7)))))
    have RB := Lib.hid (HVB.out.new (n4.trans (n45.trans (n6.trans n7)))).arg
    have RX := Lib.hid (HX.out.new (n35.trans (n6.trans n7)))
    have RL := Lib.hid (HA.out.new k7)
    have LL := Lib.hid (HL.out.new (N0.trans k7))
    have K7 := Lib.hid (N0.trans k7)
    clear b0 b1 b2 BZ5 BZ6 BY BY6 hh hh' n2 n3 n4 n45 n5 n5' n6 n7 k1 k2 k3 k5 k6 k7 hc1 oa ob BO BR N0 HX HA HVA HVB n35 HL
    generalize w4.heap.size = zz at *
    generalize w5.heap.size = yy at *
    by_cases hO : ROk L
    · have hbo := rokb_iff.2 hO
      have HO := Lib.hid hO
      have qmay := fun W (k : New w7 W) => dMay_any W _ L (RL.out.new k)
      simp only [hbo] at qmay
      clear hO
      go_upto_if 83 with (fail)
      go_loopg [20, 21] L.length (fun k s i wr => ∃ j : Nat, j + k = L.length ∧ i = .int .i64 (j : Int) ∧ s = .int .i64 (rsz (L.take j)) ∧ New w7 wr)
      case atStart => exact ⟨0, by omega, rfl, rfl, New.refl _⟩
      case round =>
        obtain ⟨j, hj, rfl, rfl, hn⟩ := hrel
        have J := Lib.hid hj
        by_cases c : j < L.length
        · have HN := Lib.hid hn
          have qw := qmay _ hn
          obtain ⟨x, rfl, hx⟩ := RL.out.at_ j c
          have hx := hx.new hn
          have hs := rsz_take HO.out.asc j
          have hr := okR_iff.1 (RCh.mem HO.out L[j] (List.getElem_mem c))
          have he := Lib.hid (show rsz (L.take (j + 1)) = rsz (L.take j) + ((L[j]).t - (L[j]).f) by
            rw [List.take_succ_eq_append_getElem c, rsz_append]; simp only [rsz]; omega)
          generalize L[j] = r at *
          generalize rsz (L.take j) = s at *
          have e1 : IntKind.i64.wrap (s + r.t) = s + r.t := IntWalk.i64_in _ (by omega)
          have e2 : IntKind.i64.wrap (s + r.t - r.f) = s + r.t - r.f := IntWalk.i64_in _ (by omega)
          have g1 : decide ((j : Int) < (L.length : Int)) = true := by simp; omega
          clear hn hj hs hr
          go_wp2_with (go_at_call 14; (with_reducible refine qw.mono ?_); rintro e w8 ⟨rfl, n8⟩; obtain ⟨c0, c1, c2⟩ := hx.new n8)
          have N8 := Lib.hid (fun n => HN.out.trans (n8.drewN n))
          go_quiet (fail)
          go_wp2
          go_roundg (L.length - (j + 1))
          case measure => have := J.out; omega
          case rel => exact ⟨j + 1, by have := J.out; omega, by go_num, by rw [he.out, show s + (r.t - r.f) = s + r.t - r.f by omega], N8.out _⟩
        · obtain rfl : j = L.length := by omega
          have g1 : decide ((L.length : Int) < (L.length : Int)) = false := by simp
          rw [List.take_length]
          clear hj J c qmay
          have qA := fun W (k : New wr W) => are_any W _ _ _ (RA.out.new (hn.trans k)) (RB.out.new (hn.trans k))
          have qX := fun W (k : New wr W) => are_any W _ _ _ (RX.out.new (hn.trans k)) (RL.out.new (hn.trans k))
          have qn1 := fun W (k : New wr W) => num_er E1 W (LL.out.new (hn.trans k))
          have qn2 := fun W (k : New wr W) => num_er c W (LL.out.new (hn.trans k))
          have qs := fun W (k : New wr W) => size_any W _ L (RX.out.new (hn.trans k))
          have qc := fun W (k : New wr W) => check_any W _ L (RX.out.new (hn.trans k))
          have qm := fun W (k : New wr W) => dMay_any W _ L (RL.out.new (hn.trans k))
          have hcz := chv_ok HO.out
          simp only [hcz, erN_zero] at qc
          simp only [hbo] at qm
          rw [szv_ok HO.out] at qs
          generalize rsz L = S at *
          obtain ⟨z0, z1, z2⟩ := (BZ7.new hn).three
          obtain ⟨a0', a1', a2'⟩ := (BY7.new hn).three
          have KF := Lib.hid (K7.out.trans hn)
          clear BZ7 BY7 hn
          go_upto_region 15 with fail
          go_region_held3 (fun w' => New wr w' ∧ w'.cell? ⟨zz, 0, none⟩ = some (.int .i64 z.f) ∧ w'.cell? ⟨zz, 1, none⟩ = some (.int .i64 z.t) ∧ w'.cell? ⟨zz, 2, none⟩ = some (.int .u8 (z.p : Int)) ∧
              w'.cell? ⟨yy, 0, none⟩ = some (.int .i64 z.f) ∧ w'.cell? ⟨yy, 1, none⟩ = some (.int .i64 z.t) ∧ w'.cell? ⟨yy, 2, none⟩ = some (.int .u8 (z.p : Int)))
            (first
              | exact ⟨hnx, hnx.keeps z0, hnx.keeps z1, hnx.keeps z2, hnx.keeps a0', hnx.keeps a1', hnx.keeps a2'⟩
              | (have hnx := (New.refl wr).drew; exact ⟨hnx, hnx.keeps z0, hnx.keeps z1, hnx.keeps z2, hnx.keeps a0', hnx.keeps a1', hnx.keeps a2'⟩))
            (first
              | (go_at_call 15; (with_reducible refine (qA _ (by first | exact hnx | exact (New.refl _).drew | exact New.refl _)).mono ?_); rintro e wz ⟨rfl, hny⟩; have hnx : New wr wz := New.trans (by first | exact hnx | exact (New.refl _).drew | exact New.refl _) hny)
              | (go_at_call 15; (with_reducible refine (qX _ (by first | exact hnx | exact (New.refl _).drew | exact New.refl _)).mono ?_); rintro e wz ⟨rfl, hny⟩; have hnx : New wr wz := New.trans (by first | exact hnx | exact (New.refl _).drew | exact New.refl _) hny)
              | (go_at_call 16; (with_reducible refine (qn1 _ (by first | exact hnx | exact (New.refl _).drew | exact New.refl _)).mono ?_); rintro e wz ⟨rfl, hny⟩; have hnx : New wr wz := New.trans (by first | exact hnx | exact (New.refl _).drew | exact New.refl _) hny)
              | (go_at_call 16; (with_reducible refine (qn2 _ (by first | exact hnx | exact (New.refl _).drew | exact New.refl _)).mono ?_); rintro e wz ⟨rfl, hny⟩; have hnx : New wr wz := New.trans (by first | exact hnx | exact (New.refl _).drew | exact New.refl _) hny)
              | (go_at_call 17; (with_reducible refine (qs _ (by first | exact hnx | exact (New.refl _).drew | exact New.refl _)).mono ?_); rintro e wz ⟨rfl, hny⟩; have hnx : New wr wz := New.trans (by first | exact hnx | exact (New.refl _).drew | exact New.refl _) hny)
              | (go_at_call 18; (with_reducible refine (qc _ (by first | exact hnx | exact (New.refl _).drew | exact New.refl _)).mono ?_); rintro e wz ⟨rfl, hny⟩; have hnx : New wr wz := New.trans (by first | exact hnx | exact (New.refl _).drew | exact New.refl _) hny)
              | (go_at_call 14; (with_reducible refine (qm _ (by first | exact hnx | exact (New.refl _).drew | exact New.refl _)).mono ?_); rintro e wz ⟨rfl, hny⟩; have hnx : New wr wz := New.trans (by first | exact hnx | exact (New.refl _).drew | exact New.refl _) hny)
              | (go_at_call 6; (with_reducible refine (hsure _).mono ?_); rintro e wz ⟨rfl, hny⟩; have hnx : New wr wz := New.trans (by first | exact hnx | exact (New.refl _).drew | exact New.refl _) hny))
          go_wp2
          go_ret
          exact ⟨rfl, KF.out.trans hnx⟩
    · have hbo := rokb_not.2 hO
      have hpos : 0 < L.length := by
        rcases Nat.eq_zero_or_pos L.length with h | h
        · have := List.eq_nil_of_length_eq_zero h
          subst this
          exact absurd (show ROk [] from trivial) hO
        · exact h
      have HO := Lib.hid hO
      have qmay := fun W (k : New w7 W) => dMay_any W _ L (RL.out.new k)
      simp only [hbo] at qmay
      clear hO
      go_upto_if 83 with (fail)
      go_loopg [20, 21] 1 (fun k s i wr => k = 1 ∧ i = .int .i64 0 ∧ s = .int .i64 0 ∧ New w7 wr)
      case atStart => exact ⟨rfl, rfl, rfl, New.refl _⟩
      case round =>
        obtain ⟨hk, rfl, rfl, hn0⟩ := hrel
        have qw := qmay _ hn0
        have g1 : decide ((0 : Int) < (L.length : Int)) = true := by simp; omega
        clear hk qmay
        go_wp2_with (go_at_call 14; (with_reducible refine qw.mono ?_); rintro e wr ⟨rfl, n8⟩)
        have hn := hn0.trans n8
        have qA := fun W (k : New wr W) => are_any W _ _ _ (RA.out.new (hn.trans k)) (RB.out.new (hn.trans k))
        have qX := fun W (k : New wr W) => are_any W _ _ _ (RX.out.new (hn.trans k)) (RL.out.new (hn.trans k))
        have qn1 := fun W (k : New wr W) => num_er E1 W (LL.out.new (hn.trans k))
        have qn2 := fun W (k : New wr W) => num_er c W (LL.out.new (hn.trans k))
        have qs := fun W (k : New wr W) => size_any W _ L (RX.out.new (hn.trans k))
        have qc := fun W (k : New wr W) => check_any W _ L (RX.out.new (hn.trans k))
        have qm := fun W (k : New wr W) => dMay_any W _ L (RL.out.new (hn.trans k))
        have hcz := chv_no HO.out
        rw [hcz] at qc
        simp only [erN_pos (show (22 : Int) ≠ 0 by decide)] at qc
        simp only [hbo] at qm
        rw [szv_no HO.out] at qs
        obtain ⟨z0, z1, z2⟩ := (BZ7.new hn).three
        obtain ⟨a0', a1', a2'⟩ := (BY7.new hn).three
        have KF := Lib.hid (K7.out.trans hn)
        clear BZ7 BY7 hn
        go_upto_region 15 with fail
        go_region_held3 (fun w' => New wr w' ∧ w'.cell? ⟨zz, 0, none⟩ = some (.int .i64 z.f) ∧ w'.cell? ⟨zz, 1, none⟩ = some (.int .i64 z.t) ∧ w'.cell? ⟨zz, 2, none⟩ = some (.int .u8 (z.p : Int)) ∧
            w'.cell? ⟨yy, 0, none⟩ = some (.int .i64 z.f) ∧ w'.cell? ⟨yy, 1, none⟩ = some (.int .i64 z.t) ∧ w'.cell? ⟨yy, 2, none⟩ = some (.int .u8 (z.p : Int)))
          (first
            | exact ⟨hnx, hnx.keeps z0, hnx.keeps z1, hnx.keeps z2, hnx.keeps a0', hnx.keeps a1', hnx.keeps a2'⟩
            | (have hnx := (New.refl wr).drew; exact ⟨hnx, hnx.keeps z0, hnx.keeps z1, hnx.keeps z2, hnx.keeps a0', hnx.keeps a1', hnx.keeps a2'⟩))
          (first
            | (go_at_call 15; (with_reducible refine (qA _ (by first | exact hnx | exact (New.refl _).drew | exact New.refl _)).mono ?_); rintro e wz ⟨rfl, hny⟩; have hnx : New wr wz := New.trans (by first | exact hnx | exact (New.refl _).drew | exact New.refl _) hny)
            | (go_at_call 15; (with_reducible refine (qX _ (by first | exact hnx | exact (New.refl _).drew | exact New.refl _)).mono ?_); rintro e wz ⟨rfl, hny⟩; have hnx : New wr wz := New.trans (by first | exact hnx | exact (New.refl _).drew | exact New.refl _) hny)
            | (go_at_call 16; (with_reducible refine (qn1 _ (by first | exact hnx | exact (New.refl _).drew | exact New.refl _)).mono ?_); rintro e wz ⟨rfl, hny⟩; have hnx : New wr wz := New.trans (by first | exact hnx | exact (New.refl _).drew | exact New.refl _) hny)
            | (go_at_call 16; (with_reducible refine (qn2 _ (by first | exact hnx | exact (New.refl _).drew | exact New.refl _)).mono ?_); rintro e wz ⟨rfl, hny⟩; have hnx : New wr wz := New.trans (by first | exact hnx | exact (New.refl _).drew | exact New.refl _) hny)
            | (go_at_call 17; (with_reducible refine (qs _ (by first | exact hnx | exact (New.refl _).drew | exact New.refl _)).mono ?_); rintro e wz ⟨rfl, hny⟩; have hnx : New wr wz := New.trans (by first | exact hnx | exact (New.refl _).drew | exact New.refl _) hny)
            | (go_at_call 18; (with_reducible refine (qc _ (by first | exact hnx | exact (New.refl _).drew | exact New.refl _)).mono ?_); rintro e wz ⟨rfl, hny⟩; have hnx : New wr wz := New.trans (by first | exact hnx | exact (New.refl _).drew | exact New.refl _) hny)
            | (go_at_call 14; (with_reducible refine (qm _ (by first | exact hnx | exact (New.refl _).drew | exact New.refl _)).mono ?_); rintro e wz ⟨rfl, hny⟩; have hnx : New wr wz := New.trans (by first | exact hnx | exact (New.refl _).drew | exact New.refl _) hny)
            | (go_at_call 6; (with_reducible refine (hsure _).mono ?_); rintro e wz ⟨rfl, hny⟩; have hnx : New wr wz := New.trans (by first | exact hnx | exact (New.refl _).drew | exact New.refl _) hny))
        go_wp2
        go_ret
        exact ⟨rfl, KF.out.trans hnx⟩

/-! ### THE ROW's STEP: WRITTEN OUT: LEAVE IT -/
theorem door_met (os : Os) (args : Array Value) : laidMetH Tryd.prog Rows.regionAddsRow.laid ((World.doorLaid Tryd.prog 400 os).forCall (fun _ _ => 0) ⟨#[], args, []⟩).memory :=
  laidMetH_of_parts3 (fuel := 8) (laidMet_of_run' 8 (by kernel_rfl) (by kernel_rfl)) (by kernel_rfl) (by kernel_rfl)
set_option maxRecDepth 100000 in
theorem lifted (os : Os) (started : os.Started) (H : Type) (enc : TypeId × Value → H) :
    ReturnsInHanded {} Tryd.checked os 3 .any (fun w args => (Rows.regionAddsSpec.pre enc Tryd.prog Tryd.f3 [] false w args ∧ laidMetH Tryd.prog Rows.regionAddsRow.laid w) ∧ sizedMet enc Tryd.prog Tryd.f3 (OpenSpec.ofChange Rows.regionAddsSpec) false w args) (Rows.regionAddsSpec.post enc Tryd.prog Tryd.f3 false true false false) := by
  refine returnsInHanded_of_change_and (C := Tryd.checked) (X := fun w _ => laidMetH Tryd.prog Rows.regionAddsRow.laid w) (fun _ _ _ hh h => h.of_heap hh) own started (by kernel_rfl) Tryd.func3
    (ChangeSpec.witness_shaped (enc := enc) (C := Tryd.checked) (os := os) (X := fun w _ => laidMetH Tryd.prog Rows.regionAddsRow.laid w) false (World.doorLaid Tryd.prog 400 os) #[.slice none 0 0, .agg #[.int .i64 0, .int .i64 0, .int .u8 0], .agg #[.int .i64 0, .int .i64 0, .int .i64 0]] 8 rfl (World.shaped_of_RefB (by kernel_rfl) (by kernel_rfl)) (by kernel_rfl) (by kernel_rfl) (by kernel_rfl) (door_met os _)) ?_
  intro W base args ds gs before hval0 hW _ _ hL _
  have hL' : laidMet Tryd.prog [] W ∧ handlesMet Tryd.prog [("errors.errorType", Rows.laid_errors_errorType)] W := hL
  have hval : ∀ (j : Nat) t v, Tryd.f3.params[j]? = some t → args[j]? = some v → Value.okWide Tryd.prog W .any base t v := hval0
  have hW' := hW
  obtain ⟨p, q, hA0, hV, rfl, hfz, hnd⟩ := hW
  have hA : DataW.TrodAll enc Tryd.prog W 0 (fun _ => true) true Tryd.f3.params.toList args.toList ds p := hA0
  rw [Tryd.params3] at hA hval
  obtain ⟨v0, vs0, d0, ds0, p0, q0, hargs, rfl, rfl, h0, r0⟩ := trodAll_cons hA
  obtain ⟨v1, vs1, d1, ds1, p1, q1, rfl, rfl, rfl, h1, r1⟩ := trodAll_cons r0
  obtain ⟨v2, vs2, d2, ds2, p2, q2, rfl, rfl, rfl, h2, r2⟩ := trodAll_cons r1
  obtain ⟨rfl, rfl, rfl⟩ := trodAll_nil r2
  obtain rfl : args = #[v0, v1, v2] := by cases args; simp_all
  obtain ⟨rfl, rfl⟩ := trodVars_none hV
  obtain ⟨a0, len0, cap0, rfl⟩ := okWide_slice Tryd.underlying22 (hval 0 22 v0 rfl rfl)
  have k0 := h0
  have lt0 : ∀ x ∈ p0, x.block < W.heap.size := by obtain ⟨m, hm⟩ := k0; exact DataW.trod_lt m _ _ _ hm
  have w0 : MixRows [some .i64, some .i64, some .u8] W a0 len0 := mixrows_of Tryd.underlying22 (.struct Tryd.underlying24 (.cons rfl (.int Tryd.underlying3) (by kernel_rfl) (.cons rfl (.int Tryd.underlying3) (by kernel_rfl) (.cons rfl (.int Tryd.underlying5) (by kernel_rfl) .nil)))) (by kernel_rfl) h0
  have k1 := h1
  have lt1 : ∀ x ∈ p1, x.block < W.heap.size := by obtain ⟨m, hm⟩ := k1; exact DataW.trod_lt m _ _ _ hm
  have w1 : Flat [some .i64, some .i64, some .u8] v1 := flat_of Tryd.underlying24 (by kernel_rfl) (by kernel_rfl) rfl (fun i k f hi hf => by
    rcases i with _| _| _| _
    · (simp at hi hf; subst hi hf; exact Tryd.underlying3)
    · (simp at hi hf; subst hi hf; exact Tryd.underlying3)
    · (simp at hi hf; subst hi hf; exact Tryd.underlying5)
    · simp at hi) (hval 1 24 v1 rfl rfl) h1
  have k2 := h2
  have lt2 : ∀ x ∈ p2, x.block < W.heap.size := by obtain ⟨m, hm⟩ := k2; exact DataW.trod_lt m _ _ _ hm
  have w2 : Flat [some .i64, some .i64, some .i64] v2 := flat_of_arr (ks := [some .i64, some .i64, some .i64]) Tryd.underlying25 (by
    obtain ⟨ks, hk, e⟩ : ∃ ks, FlatTy Tryd.prog 25 ks ∧ ks = [some .i64, some .i64, some .i64] := ⟨_, (.array Tryd.underlying25 (.int Tryd.underlying3) (by kernel_rfl)), rfl⟩
    rw [← e]; exact hk) (by kernel_rfl) (hval 2 25 v2 rfl rfl) h2
  clear hA0 hval0
  refine (walk a0 len0 cap0 v1 v2 W w0 w1 w2 (handle_of_hs hL'.2)).mono fun e W' ⟨he, bel⟩ => ?_
  subst he
  exact ⟨_, rfl, _, _, _, [], _, [], hW', trodAll_mk1 (shut_bool Tryd.underlying4 _), (trodAll_cons_mk (Below.trod laidOut (by kernel_rfl) (of_decide_eq_true (by kernel_rfl)) k0 bel lt0) (trodAll_cons_mk (Below.trod laidOut (by kernel_rfl) (of_decide_eq_true (by kernel_rfl)) k1 bel lt1) (trodAll_cons_mk (Below.trod laidOut (by kernel_rfl) (of_decide_eq_true (by kernel_rfl)) k2 bel lt2) trodAll_mk0))), rfl, bel.frame _, fun h => by cases h⟩

theorem over : Rows.regionAddsRow.holds Tryd.pinned (OpenSpec.ofChange Rows.regionAddsSpec) :=
  OpenClaim.holds_of_wide 3 Tryd.f3 rfl rfl rfl rfl rfl rfl rfl ⟨rfl, rfl, rfl, rfl, rfl⟩ rfl rfl rfl rfl rfl (by kernel_rfl) Tryd.func3 (by kernel_rfl)
    (of_decide_eq_true (by kernel_rfl)) (by unfold Func.isWrapper; first | (rw [if_pos (by decide +kernel)]; kernel_rfl) | (rw [if_neg (by decide +kernel)]; exact ⟨rfl, rfl⟩))
    (fun os started H enc _ => lifted os started H enc)

theorem proved : Rows.RegionAddsSaid := over
theorem card : Rows.RegionAddsCardSaid :=
  Claim7.holds_tied_plain_at .later [] [.handle] true (true, "e3df8fdff194a53b3cbee48b5b08da0a79fd8825e1a4a6547a17b4aada310e85") true
    over (fun _ h => by cases h) (by kernel_rfl) (fun _ h => by cases h) regionAdds_row_tie rfl ⟨rfl, rfl⟩ (by kernel_rfl) rfl
    (fun f fn hf hfn => by
      obtain rfl : f = 3 := Option.some.inj ((show Tryd.prog.funcNamed "halter/halterlaw13.RegionAdds" = some 3 by kernel_rfl).symm.trans hf) |>.symm
      obtain rfl : fn = Tryd.f3 := (Option.some.inj (Tryd.func3.symm.trans hfn)).symm
      exact ⟨by kernel_rfl, fun j t ht => by
        rw [Tryd.params3] at ht
        have hm : t ∈ [22, 24, 25] := by have := Array.mem_of_getElem? ht; simpa using this
        have hall : ([22, 24, 25].all fun u => !Tryd.prog.wantsStandIn u) = true := by kernel_rfl
        exact (show Tryd.prog.wantsStandIn t = false by simpa using List.all_eq_true.1 hall t hm)⟩)
    (by kernel_rfl)
#print axioms card
end Go.Proofs.YtfkjgbenjdmedaaDoor.regionAdds
