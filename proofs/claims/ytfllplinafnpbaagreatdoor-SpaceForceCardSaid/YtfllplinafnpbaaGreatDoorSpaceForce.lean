/- By force a page is written that may not be, and read; the fork that shares it does not see it; not by force it is refused, and nothing is changed; the statement holds for every input, where the library's variable errors.errorType holds what its own text lays, which the card ties. -/
import Derived.Test.YtfllplinafnpbaaGreatDoorRows
import Derived.Test.YtfllplinafnpbaaGreatDoorSpP
import Derived.Test.YtfllplinafnpbaaGreatDoorFrG
import Derived.Test.YtfllplinafnpbaaGreatDoorCards
import Derived.Test.YtfllplinafnpbaaGreatDoorTie
import Derived.LaidMore
import Derived.LaidLaws
import Derived.LaidHandle
import Derived.Test.YtfllplinafnpbaaGreatDoorLay
import Derived.Test.YtfllplinafnpbaaGreatDoorPost
import Derived.WalkKit
import Derived.ProofKit
import Derived.OpenShut
import Derived.ShutString
import Derived.ChangeOld
import Derived.Below
namespace Go.Proofs.YtfllplinafnpbaaGreatDoor.spaceForce
open Go.ChangeShapes Go.WideShapes Go.ChangeAt Go.RowKit
open Go.ChangeMaps (open_string shut_string)
set_option linter.unusedVariables false

theorem own : ownKnob Tryz.prog.godebug = none := by kernel_rfl
theorem laidOut : laidOutB Tryz.prog = true := by kernel_rfl

/-- WHAT THE WALK IS TOLD OF A SLICE OF INTEGERS THAT CAME IN: it is nil; or it leads to a row of 'cap' cells, the numbers 'zs' (the first 'len' are its elements, the rest its spare room), each fitting its kind. -/
def IsRow (k : IntKind) (w : World) (a : Option Addr) (len cap : Nat) (zs : List Int) : Prop :=
  (a = none ∧ len = 0 ∧ cap = 0 ∧ zs = []) ∨
  ∃ x, a = some x ∧ len ≤ cap ∧ cap ≤ maxLen ∧ zs.length = cap ∧ (∀ i, i < zs.length → w.cell? (x.add i) = some (.int k (zs.getD i 0))) ∧ ∀ n ∈ zs, (Lit.int k n).wf = true

theorem isrow_byts {w : World} {a : Option Addr} {len cap : Nat} {z : List Int} (h : IsRow .u8 w a len cap z) : ∃ l : List Int, l.length = len ∧ Byts w (.slice a len cap) l ∧ Oct l := by
  rcases h with ⟨rfl, rfl, rfl, rfl⟩ | ⟨x, rfl, h1, h2, h3, h4, h5⟩
  · exact ⟨[], rfl, Byts.nil w, Oct.nil⟩
  · have hl : (z.take len).length = len := by rw [List.length_take]; omega
    refine ⟨z.take len, hl, ⟨some x, cap, by rw [hl], by omega, fun i hi => ⟨x, rfl, ?_⟩⟩, fun n hn => ?_⟩
    · rw [hl] at hi
      rw [h4 i (by omega), getD_eq _ _ (by omega), getD_eq _ _ (by omega), List.getElem_take]
    · exact u8_bd (h5 n (List.mem_of_mem_take hn))
theorem perm_uses (P : Nat) (h : P < 8) : usP P 2 = decide (P / 2 % 2 = 1) ∧ usP P 1 = decide (P % 2 = 1) := by
  have : P = 0 ∨ P = 1 ∨ P = 2 ∨ P = 3 ∨ P = 4 ∨ P = 5 ∨ P = 6 ∨ P = 7 := by omega
  rcases this with rfl | rfl | rfl | rfl | rfl | rfl | rfl | rfl <;> exact ⟨rfl, rfl⟩
/-! ### STEP 1: THE WALK: the Go text returns true, AND WRITES NOTHING THAT WAS THERE: 'Below w.heap.size w w'' (Derived/Below.lean: '.refl', '.alloc', '.drew', '.setCell' at a new block, '.trans'). Open each 'IsRow' by 'rcases' AHEAD of 'go_enter'; part every test ahead of the walk. -/
set_option maxHeartbeats 8000000 in
set_option maxRecDepth 100000 in
theorem walk (a0 : Int) (a1 : Int) (a2 : Option Addr) (len2 cap2 : Nat) (z2 : List Int) (w : World) (w0 : (Lit.int .u8 a0).wf = true) (w1 : (Lit.int .u32 a1).wf = true) (w2 : IsRow .u8 w a2 len2 cap2 z2) (hl : Laid w) :
    Calls Tryz.prog 5 #[.int .u8 a0, .int .u32 a1, .slice a2 len2 cap2] w fun e w' => e = .returned (.bool true) ∧ Below w.heap.size w w' := by
  have hlt := hl.lt
  have b0 := u8_bd w0
  have b1 := u32_bd w1
  obtain ⟨A, rfl, bA, oA⟩ := isrow_byts w2
  clear w2
  have mA : A.length ≤ maxLen := by obtain ⟨_, _, _, h, _⟩ := bA; exact h
  unfold maxLen at mA
  have X1 := laid_any w 16 (by omega) (by omega)
  by_cases c1 : 200 < A.length
  · have d1 : decide ((200 : Int) < (A.length : Int)) = true := by simp; omega
    go_enter Tryz.func5, Tryz.ntmps5
    go_wp2_with fail
    refine X1.mono ?_
    rintro e w1 ⟨pb, fb, rb, mb, qb, sl, xl, sb, tb, bs, rfl, N1, LE, Pt, Sl, Xl, G1, P1, Z1⟩
    have l1 := hl.new N1
    clear X1 LE Pt Sl Xl G1 P1 Z1
    go_wp2_with fail
    refine (spsure_any _ l1).mono ?_
    rintro e w2 ⟨rfl, n2⟩
    go_wp2_with fail
    go_ret
    exact ⟨rfl, N1.trans n2⟩
  · have d1 : decide ((200 : Int) < (A.length : Int)) = false := by simp; omega
    go_enter Tryz.func5, Tryz.ntmps5
    go_wp2_with fail
    refine X1.mono ?_
    rintro e w1 ⟨pb, fb, rb, mb, qb, sl, xl, sb, tb, bs, rfl, N1, LE, Pt, Sl, Xl, G1, P1, Z1⟩
    clear X1
    have s0 := Box.one Sl
    obtain ⟨p0, _⟩ : w1.cell? ⟨pb, 2, none⟩ = some (.slice (some ⟨sl, 0, none⟩) 1 1) ∧ True := ⟨Box.cell Pt 2, trivial⟩
    obtain ⟨P, eP, hP, eP2⟩ : ∃ P : Nat, a0.tmod 8 = (P : Int) ∧ P < 8 ∧ a0 % 8 = (P : Int) := by
      rw [Int.tmod_eq_emod_of_nonneg (by omega)]
      exact ⟨(a0 % 8).toNat, by omega, by omega, by omega⟩
    go_wp2_with fail
    obtain ⟨o, eo, ho⟩ : ∃ o : Nat, a1 % (256 - (A.length : Int)) = (o : Int) ∧ o + A.length < 256 := by
      have h1 := Int.emod_lt_of_pos a1 (show (0 : Int) < 256 - (A.length : Int) by omega)
      have h2 := Int.emod_nonneg a1 (show 256 - (A.length : Int) ≠ 0 by omega)
      exact ⟨(a1 % (256 - (A.length : Int))).toNat, by omega, by omega⟩
    simp only [eo]
    have hok : okR ⟨3, 4, P⟩ = true := by
      have : P = 0 ∨ P = 1 ∨ P = 2 ∨ P = 3 ∨ P = 4 ∨ P = 5 ∨ P = 6 ∨ P = 7 := by omega
      rcases this with rfl | rfl | rfl | rfl | rfl | rfl | rfl | rfl <;> rfl
    refine (map_first G1 P1 ⟨3, 4, P⟩ hok).mono ?_
    rintro e w2 ⟨rfl, G2, b2, P2⟩
    have LER : w.heap.size ≤ rb ∧ w.heap.size ≤ qb := ⟨LE.2.2.1, LE.2.2.2.2.1⟩
    have NEW : ∀ a b : World, New w a → But (fun g => g = rb ∨ g = qb) a b → New w b := fun a b m c => m.but c (by rintro i (rfl | rfl) <;> omega)
    have N2 : New w w2 := N1.but b2 (by rintro i rfl; omega)
    have BK : ∀ a : World, New w a → BytsK (fun g => g = rb ∨ g = qb) a (.slice a2 A.length cap2) A := fun a m => byts_keep bA m (by rintro i (rfl | rfl) <;> omega)
    have T1 : (tk ((List.replicate 16 0).set 0 1) 16).length = 1 := by rw [tk_start 16 (by omega)]
    have Y := fo_write0 G2 P2 Z1 T1
    clear G1 P1 Pt Sl Xl LE b2 s0 p0 N1
    go_wp2_with fail
    refine Y.mono ?_
    rintro e w3 ⟨rfl, g, q3, c3, F3, b3⟩
    have N3 := NEW _ _ (N2.alloc #[.int .u8 9, .int .u8 9] 5) b3
    have Y := fo_fork F3
    clear G2 P2 Z1 T1 N2 b3 hok
    go_wp2_with fail
    refine Y.mono ?_
    rintro e w4 ⟨cb, q4, c4, S, rfl, F4, b4⟩
    have N4 := NEW _ _ N3 b4
    have Y := fo_page0 F4
    clear F3 N3 b4
    go_wp2_with fail
    refine Y.mono ?_
    rintro e w5 ⟨x5, rfl, y5, n5⟩
    have F5 := F4.new n5
    have N5 := N4.trans n5
    have C5 : (convert 28 9 (.slice (some ⟨x5, 0, none⟩) 256 256)).run Tryz.prog w5 = .ok (.string (strOfNums (splice (List.replicate 256 0) 0 [9, 9]))) w5 := str_of y5
    clear F4 N4 n5 Y
    have hD : (splice (List.replicate 256 0) 0 [9, 9] : List Int).length = 256 := rfl
    generalize (splice (List.replicate 256 0) 0 [9, 9] : List Int) = D at *
    obtain ⟨U2, U1⟩ := perm_uses P hP
    have k1 : cut (splice D o A) o A.length = A := cut_splice_at _ _ _ (by omega)
    have k2 : cut (splice (splice D o A) o A) o A.length = A := cut_splice_at _ _ _ (by rw [splice_len _ _ _ (by omega)]; omega)
    by_cases cw : P / 2 % 2 = 1
    · have hw : usP P 2 = true := by rw [U2]; simp [cw]
      have ew : (a0 / 2 % 2 == 1) = true := by simp; omega
      have Y := fo_write F5 o a2 cap2 A false (by omega) (by omega) oA (BK _ N5) (.inr hw)
      go_wp2_with fail
      refine Y.mono ?_
      rintro e w6 ⟨rfl, f6, q6, c6, F6, b6⟩
      have N6 := NEW _ _ N5 b6
      clear Y b6 F5 N5 C5
      have Y := fo_write F6 o a2 cap2 A true (by omega) (by omega) oA (BK _ N6) (.inl rfl)
      go_wp2_with fail
      refine Y.mono ?_
      rintro e wa ⟨rfl, fa, qa, ca, Fa, ba⟩
      have Na := NEW _ _ N6 ba
      have RB : rb < wa.heap.size ∧ qb < wa.heap.size := ⟨Box.lt Fa.gm.fr.boxes.2, Box.lt Fa.gm.ph.boxes.2⟩
      have Y := fo_read Fa o A.length (by omega) (by omega)
      rw [k2] at Y
      clear F6 N6 ba
      go_wp2_with fail
      refine Y.mono ?_
      rintro e wb ⟨vb, cb2, rfl, ob, Fb, bb⟩
      have Nb := NEW _ _ Na bb
      clear Y bb Fa Na
      by_cases cr : P % 2 = 1
      · have hr : usP P 1 = true := by rw [U1]; simp [cr]
        have er : (a0 % 2 == 1) = true := by simp; omega
        have Y := fo_reads Fb hr
        go_wp2_with fail
        refine Y.mono ?_
        rintro e wc ⟨vc, cc, rfl, Fc, bc⟩
        have Nc := NEW _ _ Nb bc
        have lc := ob.but bc (by rintro i (rfl | rfl) <;> omega)
        have C1 : (convert 28 9 vb).run Tryz.prog wc = .ok (.string (strOfNums A)) wc := str_of lc.byts
        have C2 : (convert 28 9 (.slice a2 A.length cap2)).run Tryz.prog wc = .ok (.string (strOfNums A)) wc := str_of (BK _ Nc).now
        have Y := fo_page1 Fc
        clear bc ob lc Fb Nb
        go_wp2_with fail
        refine Y.mono ?_
        rintro e wd ⟨xd, rfl, yd, nd⟩
        have Nd := Nc.trans nd
        have ld := hl.new Nd
        have C3 : (convert 28 9 (.slice (some ⟨xd, 0, none⟩) 256 256)).run Tryz.prog wd = .ok (.string (strOfNums D)) wd := str_of yd
        clear C1 C2 Y Fc Nc nd
        go_wp2_with fail
        refine (spsure_any _ ld).mono ?_
        rintro e we ⟨rfl, ne⟩
        go_wp2_with fail
        go_ret
        exact ⟨rfl, Nd.trans ne⟩
      · have hr : usP P 1 = false := by rw [U1]; simp [cr]
        have er : (a0 % 2 == 1) = false := by simp; omega
        have Y := fo_readno Fb hr
        go_wp2_with fail
        refine Y.mono ?_
        rintro e wc ⟨vc, rfl, Fc, bc⟩
        have Nc := NEW _ _ Nb bc
        have lc := ob.but bc (by rintro i (rfl | rfl) <;> omega)
        have C1 : (convert 28 9 vb).run Tryz.prog wc = .ok (.string (strOfNums A)) wc := str_of lc.byts
        have C2 : (convert 28 9 (.slice a2 A.length cap2)).run Tryz.prog wc = .ok (.string (strOfNums A)) wc := str_of (BK _ Nc).now
        have Y := fo_page1 Fc
        clear bc ob lc Fb Nb
        go_wp2_with fail
        refine Y.mono ?_
        rintro e wd ⟨xd, rfl, yd, nd⟩
        have Nd := Nc.trans nd
        have ld := hl.new Nd
        have C3 : (convert 28 9 (.slice (some ⟨xd, 0, none⟩) 256 256)).run Tryz.prog wd = .ok (.string (strOfNums D)) wd := str_of yd
        clear C1 C2 Y Fc Nc nd
        go_wp2_with fail
        refine (spsure_any _ ld).mono ?_
        rintro e we ⟨rfl, ne⟩
        go_wp2_with fail
        go_ret
        exact ⟨rfl, Nd.trans ne⟩
    · have hw : usP P 2 = false := by rw [U2]; simp [cw]
      have ew : (a0 / 2 % 2 == 1) = false := by simp; omega
      have Y := fo_wno F5 o a2 cap2 A (by omega) (by omega) oA (BK _ N5) hw
      go_wp2_with fail
      refine Y.mono ?_
      rintro e w6 ⟨rfl, F6, b6⟩
      have N6 := NEW _ _ N5 b6
      have l6 := hl.new N6
      clear Y b6 F5 N5 C5
      go_wp2_with fail
      refine (num_err 14 _ l6).mono ?_
      rintro e w7 ⟨rfl, n7⟩
      have F7 := F6.new n7
      have N7 := N6.trans n7
      have Y := fo_page0 F7
      clear n7 F6 N6 l6
      go_wp2_with fail
      refine Y.mono ?_
      rintro e w8 ⟨x8, rfl, y8, n8⟩
      have F8 := F7.new n8
      have N8 := N7.trans n8
      have C8 : (convert 28 9 (.slice (some ⟨x8, 0, none⟩) 256 256)).run Tryz.prog w8 = .ok (.string (strOfNums D)) w8 := str_of y8
      clear F7 N7 n8 Y
      have Y := fo_write F8 o a2 cap2 A true (by omega) (by omega) oA (BK _ N8) (.inl rfl)
      go_wp2_with fail
      refine Y.mono ?_
      rintro e wa ⟨rfl, fa, qa, ca, Fa, ba⟩
      have Na := NEW _ _ N8 ba
      have RB : rb < wa.heap.size ∧ qb < wa.heap.size := ⟨Box.lt Fa.gm.fr.boxes.2, Box.lt Fa.gm.ph.boxes.2⟩
      have Y := fo_read Fa o A.length (by omega) (by omega)
      rw [k1] at Y
      clear F8 N8 ba
      go_wp2_with fail
      refine Y.mono ?_
      rintro e wb ⟨vb, cb2, rfl, ob, Fb, bb⟩
      have Nb := NEW _ _ Na bb
      clear Y bb Fa Na
      by_cases cr : P % 2 = 1
      · have hr : usP P 1 = true := by rw [U1]; simp [cr]
        have er : (a0 % 2 == 1) = true := by simp; omega
        have Y := fo_reads Fb hr
        go_wp2_with fail
        refine Y.mono ?_
        rintro e wc ⟨vc, cc, rfl, Fc, bc⟩
        have Nc := NEW _ _ Nb bc
        have lc := ob.but bc (by rintro i (rfl | rfl) <;> omega)
        have C1 : (convert 28 9 vb).run Tryz.prog wc = .ok (.string (strOfNums A)) wc := str_of lc.byts
        have C2 : (convert 28 9 (.slice a2 A.length cap2)).run Tryz.prog wc = .ok (.string (strOfNums A)) wc := str_of (BK _ Nc).now
        have Y := fo_page1 Fc
        clear bc ob lc Fb Nb
        go_wp2_with fail
        refine Y.mono ?_
        rintro e wd ⟨xd, rfl, yd, nd⟩
        have Nd := Nc.trans nd
        have ld := hl.new Nd
        have C3 : (convert 28 9 (.slice (some ⟨xd, 0, none⟩) 256 256)).run Tryz.prog wd = .ok (.string (strOfNums D)) wd := str_of yd
        clear C1 C2 Y Fc Nc nd
        go_wp2_with fail
        refine (spsure_any _ ld).mono ?_
        rintro e we ⟨rfl, ne⟩
        go_wp2_with fail
        go_ret
        exact ⟨rfl, Nd.trans ne⟩
      · have hr : usP P 1 = false := by rw [U1]; simp [cr]
        have er : (a0 % 2 == 1) = false := by simp; omega
        have Y := fo_readno Fb hr
        go_wp2_with fail
        refine Y.mono ?_
        rintro e wc ⟨vc, rfl, Fc, bc⟩
        have Nc := NEW _ _ Nb bc
        have lc := ob.but bc (by rintro i (rfl | rfl) <;> omega)
        have C1 : (convert 28 9 vb).run Tryz.prog wc = .ok (.string (strOfNums A)) wc := str_of lc.byts
        have C2 : (convert 28 9 (.slice a2 A.length cap2)).run Tryz.prog wc = .ok (.string (strOfNums A)) wc := str_of (BK _ Nc).now
        have Y := fo_page1 Fc
        clear bc ob lc Fb Nb
        go_wp2_with fail
        refine Y.mono ?_
        rintro e wd ⟨xd, rfl, yd, nd⟩
        have Nd := Nc.trans nd
        have ld := hl.new Nd
        have C3 : (convert 28 9 (.slice (some ⟨xd, 0, none⟩) 256 256)).run Tryz.prog wd = .ok (.string (strOfNums D)) wd := str_of yd
        clear C1 C2 Y Fc Nc nd
        go_wp2_with fail
        refine (spsure_any _ ld).mono ?_
        rintro e we ⟨rfl, ne⟩
        go_wp2_with fail
        go_ret
        exact ⟨rfl, Nd.trans ne⟩

/-! ### THE ROW's STEP: WRITTEN OUT: LEAVE IT -/
theorem door_met (os : Os) (args : Array Value) : laidMetH Tryz.prog Rows.spaceForceRow.laid ((World.doorLaid Tryz.prog 400 os).forCall (fun _ _ => 0) ⟨#[], args, []⟩).memory :=
  laidMetH_of_parts3 (fuel := 8) (laidMet_of_run' 8 (by kernel_rfl) (by kernel_rfl)) (by kernel_rfl) (by kernel_rfl)
set_option maxRecDepth 100000 in
theorem lifted (os : Os) (started : os.Started) (H : Type) (enc : TypeId × Value → H) :
    ReturnsInHanded {} Tryz.checked os 5 .any (fun w args => (Rows.spaceForceSpec.pre enc Tryz.prog Tryz.f5 [] false w args ∧ laidMetH Tryz.prog Rows.spaceForceRow.laid w) ∧ sizedMet enc Tryz.prog Tryz.f5 (OpenSpec.ofChange Rows.spaceForceSpec) false w args) (Rows.spaceForceSpec.post enc Tryz.prog Tryz.f5 false true false false) := by
  refine returnsInHanded_of_change_and (C := Tryz.checked) (X := fun w _ => laidMetH Tryz.prog Rows.spaceForceRow.laid w) (fun _ _ _ hh h => h.of_heap hh) own started (by kernel_rfl) Tryz.func5
    (ChangeSpec.witness_shaped (enc := enc) (C := Tryz.checked) (os := os) (X := fun w _ => laidMetH Tryz.prog Rows.spaceForceRow.laid w) false (World.doorLaid Tryz.prog 400 os) #[.int .u8 0, .int .u32 0, .slice none 0 0] 8 rfl (World.shaped_of_RefB (by kernel_rfl) (by kernel_rfl)) (by kernel_rfl) (by kernel_rfl) (by kernel_rfl) (door_met os _)) ?_
  intro W base args ds gs before hval0 hW _ _ hL _
  have hL' : laidMet Tryz.prog [] W ∧ handlesMet Tryz.prog [("errors.errorType", Rows.laid_errors_errorType)] W := hL
  have hval : ∀ (j : Nat) t v, Tryz.f5.params[j]? = some t → args[j]? = some v → Value.okWide Tryz.prog W .any base t v := hval0
  have hW' := hW
  obtain ⟨p, q, hA0, hV, rfl, hfz, hnd⟩ := hW
  have hA : DataW.TrodAll enc Tryz.prog W 0 (fun _ => true) true Tryz.f5.params.toList args.toList ds p := hA0
  rw [Tryz.params5] at hA hval
  obtain ⟨v0, vs0, d0, ds0, p0, q0, hargs, rfl, rfl, h0, r0⟩ := trodAll_cons hA
  obtain ⟨v1, vs1, d1, ds1, p1, q1, rfl, rfl, rfl, h1, r1⟩ := trodAll_cons r0
  obtain ⟨v2, vs2, d2, ds2, p2, q2, rfl, rfl, rfl, h2, r2⟩ := trodAll_cons r1
  obtain ⟨rfl, rfl, rfl⟩ := trodAll_nil r2
  obtain rfl : args = #[v0, v1, v2] := by cases args; simp_all
  obtain ⟨rfl, rfl⟩ := trodVars_none hV
  obtain ⟨a0, rfl, rfl, rfl, w0⟩ := open_int Tryz.underlying5 (hval 0 5 v0 rfl rfl) h0
  obtain ⟨a1, rfl, rfl, rfl, w1⟩ := open_int Tryz.underlying31 (hval 1 31 v1 rfl rfl) h1
  obtain ⟨a2, len2, cap2, rfl⟩ := okWide_slice Tryz.underlying28 (hval 2 28 v2 rfl rfl)
  have k2 := h2
  have lt2 : ∀ x ∈ p2, x.block < W.heap.size := by obtain ⟨m, hm⟩ := k2; exact DataW.trod_lt m _ _ _ hm
  obtain ⟨z2, w2⟩ : ∃ zs, IsRow .u8 W a2 len2 cap2 zs := by
    obtain ⟨fuel, hf⟩ := h2
    rcases open_ints Tryz.underlying28 Tryz.underlying5 (by kernel_rfl) hf with ⟨hcs, _⟩ | ⟨x, l, c, zs, hcs, _, hl, hm, hz, _, hcell, hwz⟩
    · simp [Value.cells] at hcs
      obtain ⟨rfl, rfl, rfl⟩ := hcs
      exact ⟨[], .inl ⟨rfl, rfl, rfl, rfl⟩⟩
    · simp [Value.cells] at hcs
      obtain ⟨rfl, rfl, rfl⟩ := hcs
      exact ⟨zs, .inr ⟨_, rfl, hl, hm, by simpa using hz, hcell, hwz⟩⟩
  clear hA0 hval0
  refine (walk a0 a1 a2 len2 cap2 z2 W w0 w1 w2 (handle_of_hs hL'.2)).mono fun e W' ⟨he, bel⟩ => ?_
  subst he
  exact ⟨_, rfl, _, _, _, [], _, [], hW', trodAll_mk1 (shut_bool Tryz.underlying4 _), (trodAll_cons_mk (shut_int Tryz.underlying5 w0) (trodAll_cons_mk (shut_int Tryz.underlying31 w1) (trodAll_cons_mk (Below.trod laidOut (by kernel_rfl) (of_decide_eq_true (by kernel_rfl)) k2 bel lt2) trodAll_mk0))), rfl, bel.frame _, fun h => by cases h⟩

theorem over : Rows.spaceForceRow.holds Tryz.pinned (OpenSpec.ofChange Rows.spaceForceSpec) :=
  OpenClaim.holds_of_wide 5 Tryz.f5 rfl rfl rfl rfl rfl rfl rfl ⟨rfl, rfl, rfl, rfl, rfl⟩ rfl rfl rfl rfl rfl (by kernel_rfl) Tryz.func5 (by kernel_rfl)
    (of_decide_eq_true (by kernel_rfl)) (by unfold Func.isWrapper; first | (rw [if_pos (by decide +kernel)]; kernel_rfl) | (rw [if_neg (by decide +kernel)]; exact ⟨rfl, rfl⟩))
    (fun os started H enc _ => lifted os started H enc)

theorem proved : Rows.SpaceForceSaid := over
theorem card : Rows.SpaceForceCardSaid :=
  Claim7.holds_tied_plain_at .later [] [.handle] true (true, "d7b2cccb578fcab45f7dc77a35ff7a96f6fb62bdddf37a0afc0c56b5fbcbaa16") true
    over (fun _ h => by cases h) (by kernel_rfl) (fun _ h => by cases h) spaceForce_row_tie rfl ⟨rfl, rfl⟩ (by kernel_rfl) rfl
    (fun f fn hf hfn => by
      obtain rfl : f = 5 := Option.some.inj ((show Tryz.prog.funcNamed "halter/halterlaw14.SpaceForce" = some 5 by kernel_rfl).symm.trans hf) |>.symm
      obtain rfl : fn = Tryz.f5 := (Option.some.inj (Tryz.func5.symm.trans hfn)).symm
      exact ⟨by kernel_rfl, fun j t ht => by
        rw [Tryz.params5] at ht
        have hm : t ∈ [5, 31, 28] := by have := Array.mem_of_getElem? ht; simpa using this
        have hall : ([5, 31, 28].all fun u => !Tryz.prog.wantsStandIn u) = true := by kernel_rfl
        exact (show Tryz.prog.wantsStandIn t = false by simpa using List.all_eq_true.1 hall t hm)⟩)
    (by kernel_rfl)
#print axioms card
end Go.Proofs.YtfllplinafnpbaaGreatDoor.spaceForce
