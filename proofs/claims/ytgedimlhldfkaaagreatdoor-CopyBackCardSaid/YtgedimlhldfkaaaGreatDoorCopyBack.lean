/- Bytes that were laid out over pages are read in as they were, and nothing else is changed; a number that was poked is peeked, also where it may not be written, where bytes are refused; the statement holds for every input, where the library's variable errors.errorType holds what its own text lays, which the card ties. -/
import Derived.Test.YtgedimlhldfkaaaGreatDoorRows
import Derived.Test.YtgedimlhldfkaaaGreatDoorCiK
import Derived.Test.YtgedimlhldfkaaaGreatDoorSpP
import Derived.Test.YtgedimlhldfkaaaGreatDoorCards
import Derived.Test.YtgedimlhldfkaaaGreatDoorTie
import Derived.LaidMore
import Derived.LaidLaws
import Derived.LaidHandle
import Derived.Test.YtgedimlhldfkaaaGreatDoorLay
import Derived.Test.YtgedimlhldfkaaaGreatDoorPost
import Derived.WalkKit
import Derived.ProofKit
import Derived.OpenShut
import Derived.ShutString
import Derived.ChangeOld
import Derived.Below
namespace Go.Proofs.YtgedimlhldfkaaaGreatDoor.copyBack
open Go.ChangeShapes Go.WideShapes Go.ChangeAt Go.RowKit
open Go.ChangeMaps (open_string shut_string)
set_option linter.unusedVariables false

theorem own : ownKnob Tryz.prog.godebug = none := by kernel_rfl
theorem laidOut : laidOutB Tryz.prog = true := by kernel_rfl

/-- WHAT THE WALK IS TOLD OF A SLICE OF INTEGERS THAT CAME IN: it is nil; or it leads to a row of 'cap' cells, the numbers 'zs' (the first 'len' are its elements, the rest its spare room), each fitting its kind. -/
def IsRow (k : IntKind) (w : World) (a : Option Addr) (len cap : Nat) (zs : List Int) : Prop :=
  (a = none ∧ len = 0 ∧ cap = 0 ∧ zs = []) ∨
  ∃ x, a = some x ∧ len ≤ cap ∧ cap ≤ maxLen ∧ zs.length = cap ∧ (∀ i, i < zs.length → w.cell? (x.add i) = some (.int k (zs.getD i 0))) ∧ ∀ n ∈ zs, (Lit.int k n).wf = true

theorem isrow_bytc {w : World} {a : Option Addr} {len cap : Nat} {z : List Int} (h : IsRow .u8 w a len cap z) : ∃ l : List Int, l.length = len ∧ Byts w (.slice a len cap) l ∧ Oct l ∧ len ≤ cap ∧ cap ≤ maxLen := by
  rcases h with ⟨rfl, rfl, rfl, rfl⟩ | ⟨x, rfl, h1, h2, h3, h4, h5⟩
  · exact ⟨[], rfl, Byts.nil w, Oct.nil, Nat.le_refl _, Nat.zero_le _⟩
  · have hl : (z.take len).length = len := by rw [List.length_take]; omega
    refine ⟨z.take len, hl, ⟨some x, cap, by rw [hl], by omega, fun i hi => ⟨x, rfl, ?_⟩⟩, fun n hn => ?_, by omega, by omega⟩
    · rw [hl] at hi
      rw [h4 i (by omega), getD_eq _ _ (by omega), getD_eq _ _ (by omega), List.getElem_take]
    · exact u8_bd (h5 n (List.mem_of_mem_take hn))
theorem maps_two (r s : Rg) (h : okR r = true) (h2 : adE [r] s = 0) : mapsL [r, s] = adL [r] s := by
  show (if adE (mapsL [r]) s = 0 then adL (mapsL [r]) s else mapsL [r]) = _
  rw [maps_one r h, if_pos h2]
theorem two_pages : (∀ p : Nat, 2 ≤ p → p < 9 → rpg (mapsL (List.take 8 [⟨2, 9, 3⟩, ⟨9, 10, 1⟩])) (p : Int) = some 3) ∧ rpg (mapsL (List.take 8 [⟨2, 9, 3⟩, ⟨9, 10, 1⟩])) ((9 : Nat) : Int) = some 1 := by
  have e2 : adE [⟨2, 9, 3⟩] ⟨9, 10, 1⟩ = 0 := by
    rcases adE_cases (l := [⟨2, 9, 3⟩]) (r := ⟨9, 10, 1⟩) ⟨by decide, fun s hs => by simp at hs, trivial⟩ (by decide) with ⟨h, _⟩ | ⟨_, _, h⟩
    · exact h
    · refine absurd (fun q h1 h2 => ?_) h
      rw [rpg_one, if_neg]
      rw [inR_iff]; dsimp only at h1 h2 ⊢; omega
  have e := maps_two ⟨2, 9, 3⟩ ⟨9, 10, 1⟩ (by decide) e2
  rw [show List.take 8 [(⟨2, 9, 3⟩ : Rg), ⟨9, 10, 1⟩] = [⟨2, 9, 3⟩, ⟨9, 10, 1⟩] from rfl, e]
  obtain ⟨_, a2, _, _⟩ := adL_ok (l := [⟨2, 9, 3⟩]) (r := ⟨9, 10, 1⟩) ⟨by decide, fun s hs => by simp at hs, trivial⟩ e2
  refine ⟨fun p h1 h2 => ?_, ?_⟩
  · rw [a2, if_neg (by rw [inR_iff]; dsimp only; omega), rpg_one, if_pos (by rw [inR_iff]; dsimp only; omega)]
  · rw [a2, if_pos (by rw [inR_iff]; dsimp only; omega)]
theorem byts_tail {w : World} {g N n c cap : Nat} {L : List Int} (h : Byts w (.slice (some ⟨g, 0, none⟩) N cap) L) (hn : n ≤ N) (hc : N ≤ c) : Byts w (.slice (if c = n then some ⟨g, 0, none⟩ else some ⟨g, n, none⟩) (N - n) (c - n)) (cut L n (N - n)) := by
  have hl : N = L.length := by obtain ⟨_, _, e, _⟩ := h; cases e; rfl
  by_cases z : c = n
  · have e0 : N - n = 0 := by omega
    rw [e0, cut_none]
    exact ⟨_, _, rfl, Nat.zero_le _, fun i hi => absurd hi (Nat.not_lt_zero _)⟩
  · rw [if_neg z]
    have := h.sub n (N - n) (c - n) (by omega)
    rwa [Addr.add_mid, Nat.zero_add] at this
theorem mrd_cut (M : Nat → Int) (a n j m : Nat) (h : j + m ≤ n) : cut (mrd M a n) j m = mrd M (a + j) m :=
  ext_getD (by rw [cut_len _ _ _ (by rw [mrd_len]; exact h), mrd_len]) fun i hi => by
    rw [cut_len _ _ _ (by rw [mrd_len]; exact h)] at hi
    rw [cut_get _ _ _ _ (by rw [mrd_len]; exact h) hi, mrd_get _ _ _ _ (by omega), mrd_get _ _ _ _ hi, Nat.add_assoc]
/-! ### STEP 1: THE WALK: the Go text returns true, AND WRITES NOTHING THAT WAS THERE: 'Below w.heap.size w w'' (Derived/Below.lean: '.refl', '.alloc', '.drew', '.setCell' at a new block, '.trans'). Open each 'IsRow' by 'rcases' AHEAD of 'go_enter'; part every test ahead of the walk. -/
set_option maxHeartbeats 8000000 in
set_option maxRecDepth 100000 in
theorem walk (a0 : Int) (a1 : Option Addr) (len1 cap1 : Nat) (z1 : List Int) (a2 : Int) (w : World) (w0 : (Lit.int .u32 a0).wf = true) (w1 : IsRow .u8 w a1 len1 cap1 z1) (w2 : (Lit.int .u32 a2).wf = true) (hl : Laid w) :
    Calls Tryz.prog 6 #[.int .u32 a0, .slice a1 len1 cap1, .int .u32 a2] w fun e w' => e = .returned (.bool true) ∧ Below w.heap.size w w' := by
  have hlt := hl.lt
  have b0 := u32_bd w0
  obtain ⟨A, rfl, bA, oA, lA, mA⟩ := isrow_bytc w1
  have b2 := u32_bd w2
  clear w1
  have mA2 := mA
  unfold maxLen at mA2
  obtain ⟨RP, RQ⟩ := two_pages
  have X1 := claid_any (w.alloc (.cells #[.int .i64 2, .int .i64 9, .int .u8 3, .int .i64 9, .int .i64 10, .int .u8 1] 50)) (hl.new ((New.refl w).alloc _ _)) 24 (by omega) (by omega) _ _ [⟨2, 9, 3⟩, ⟨9, 10, 1⟩] (rgs_lit2 w ⟨2, 9, 3⟩ ⟨9, 10, 1⟩)
  have n1 := (New.refl w).alloc #[.int .i64 2, .int .i64 9, .int .u8 3, .int .i64 9, .int .i64 10, .int .u8 1] 50
  unfold LaidC at X1
  generalize mapsL (List.take 8 [⟨2, 9, 3⟩, ⟨9, 10, 1⟩]) = RL at *
  go_enter Tryz.func6, Tryz.ntmps6
  go_wp2_with fail
  refine X1.mono ?_
  rintro e w1 ⟨b, cb, fb, rb, mb, qb, sb, tb, bs, rfl, n2, LT, LE, SCN, G1, P1, Z1⟩
  have N1 := n1.trans n2
  have sw : w.heap.size ≤ (w.alloc (.cells #[.int .i64 2, .int .i64 9, .int .u8 3, .int .i64 9, .int .i64 10, .int .u8 1] 50)).heap.size := n1.size
  have LER : w.heap.size ≤ rb ∧ w.heap.size ≤ qb := ⟨by omega, by omega⟩
  have S1 : Sc w1 cb 24 fb rb mb qb sb tb 2 8 RL _ bs (fun _ => 0) := ⟨Cs.start G1 P1 Z1 (by omega) (by omega), by obtain ⟨_, _, _, h, _⟩ := SCN; exact h.cell 1, by omega, by omega⟩
  have NEW : ∀ a b : World, New w a → But (fun g => g = rb ∨ g = qb) a b → New w b := fun a b m c => m.but c (by rintro i (rfl | rfl) <;> omega)
  have BK : ∀ a : World, New w a → BytsK (fun g => g = rb ∨ g = qb) a (.slice a1 A.length cap1) A := fun a m => byts_keep bA m (by rintro i (rfl | rfl) <;> omega)
  clear X1 n1 n2 LE LT SCN G1 P1 Z1
  by_cases c1 : 900 < A.length
  · have d1 : decide ((900 : Int) < (A.length : Int)) = true := by simp; omega
    have l1 := hl.new N1
    clear S1
    go_wp2_with fail
    refine (csure_any _ l1).mono ?_
    rintro e w2 ⟨rfl, n2⟩
    go_wp2_with fail
    go_ret
    exact ⟨rfl, N1.trans n2⟩
  · have d1 : decide ((900 : Int) < (A.length : Int)) = false := by simp; omega
    have q1 := S1.at_
    obtain ⟨f, ef, f1, f2⟩ : ∃ f : Nat, 512 + a0 % 800 = (f : Int) ∧ 512 ≤ f ∧ f < 1312 := ⟨(512 + a0 % 800).toNat, by omega, by omega, by omega⟩
    have Y := S1.cs.in_ 512 1792 (by omega) (by omega) (by omega) (fun p h1 h2 => ⟨3, RP p (by omega) (by omega), rfl⟩)
    go_wp2_with fail
    refine Y.mono ?_
    rintro e w2 ⟨v2, q2, c2, rfl, o2, C2, k2⟩
    have S2 := S1.step C2 k2
    have N2 := NEW _ _ N1 k2
    have q2 := S2.at_
    have l2 := o2.1
    obtain ⟨gv, cv, ev, hcv, hcm⟩ : ∃ g c, v2 = .slice (some ⟨g, 0, none⟩) 1792 c ∧ 1792 ≤ c ∧ c ≤ maxLen := by
      have hl : (mrd (fun _ => 0) 512 1792 : List Int).length = 1792 := mrd_len _ _ _
      rcases o2.2 with ⟨_, h⟩ | ⟨g, cap, cur, rfl, _, _, h1, h2, _⟩
      · rw [hl] at h; cases h
      · exact ⟨g, cap, by rw [hl], by rw [hl] at h1; exact h1, h2⟩
    subst ev
    have BD2 : rb < w1.heap.size ∧ qb < w1.heap.size := ⟨S1.cs.gm.fr.lt.2, S1.cs.gm.ph.lt.2⟩
    have Y := S2.cs.out f a1 cap1 A (by omega) (by omega) (by omega) (fun p h1 h2 => ⟨3, RP p (by omega) (by omega), rfl⟩) oA (BK _ N2) lA mA
    clear q1 S1 C2 k2 N1 l2
    go_wp2_with fail
    refine Y.mono ?_
    rintro e w3 ⟨q3, c3, rfl, C3, k3⟩
    have S3 := S2.step C3 k3
    have N3 := NEW _ _ N2 k3
    have q3 := S3.at_
    have ox : ∀ g, (g = rb ∨ g = qb) → g < w1.heap.size := by rintro g (rfl | rfl) <;> omega
    have o2b := o2.but k3 ox
    have Y := S3.cs.in_ f A.length (by omega) (by omega) (by omega) (fun p h1 h2 => ⟨3, RP p (by omega) (by omega), rfl⟩)
    rw [mrd_mwr] at Y
    clear q2 S2 C3 k3 N2 o2
    go_wp2_with fail
    refine Y.mono ?_
    rintro e w4 ⟨v4, q4, c4, rfl, o4, C4, k4⟩
    have S4 := S3.step C4 k4
    have N4 := NEW _ _ N3 k4
    have q4 := S4.at_
    have BD4 : rb < w3.heap.size ∧ qb < w3.heap.size := ⟨S3.cs.gm.fr.lt.2, S3.cs.gm.ph.lt.2⟩
    have ox4 : ∀ g, (g = rb ∨ g = qb) → g < w3.heap.size := by rintro g (rfl | rfl) <;> omega
    have o2c := o2b.but k4 ox
    have Y := S4.cs.in_ 512 1792 (by omega) (by omega) (by omega) (fun p h1 h2 => ⟨3, RP p (by omega) (by omega), rfl⟩)
    obtain ⟨p4, cp4, rfl⟩ := o4.shape
    clear q3 S3 C4 k4 N3 o2b
    go_wp2_with fail
    refine Y.mono ?_
    rintro e w5 ⟨v5, q5, c5, rfl, o5, C5, k5⟩
    have S5 := S4.step C5 k5
    have N5 := NEW _ _ N4 k5
    have q5 := S5.at_
    have o2d := o2c.but k5 ox
    have o4d := o4.but k5 ox4
    obtain ⟨gw, cw, ev, hcw, hcmw⟩ : ∃ g c, v5 = .slice (some ⟨g, 0, none⟩) 1792 c ∧ 1792 ≤ c ∧ c ≤ maxLen := by
      have hl : (mrd (mwr (fun _ => 0) f A) 512 1792 : List Int).length = 1792 := mrd_len _ _ _
      rcases o5.2 with ⟨_, h⟩ | ⟨g, cap, cur, rfl, _, _, h1, h2, _⟩
      · rw [hl] at h; cases h
      · exact ⟨g, cap, by rw [hl], by rw [hl] at h1; exact h1, h2⟩
    subst ev
    have CV1 : (convert 28 9 (.slice p4 A.length cp4)).run Tryz.prog w5 = .ok (.string (strOfNums A)) w5 := str_of o4d.byts
    have CV2 : (convert 28 9 (.slice a1 A.length cap1)).run Tryz.prog w5 = .ok (.string (strOfNums A)) w5 := str_of (BK _ N5).now
    clear q4 S4 C5 k5 N4 o2c BD2 BD4 ox ox4
    go_wp2_with fail
    have HNIL := S5.cs
    obtain ⟨k, ek, kf⟩ : ∃ k : Nat, (f : Int) - 512 = (k : Int) ∧ 512 + k = f := ⟨f - 512, by omega, by omega⟩
    have B2 := (OwnB.new o2d (New.refl _).drew).byts
    have B5 := (OwnB.new o5 (New.refl _).drew).byts
    have m1 : cut (mrd (mwr (fun _ => 0) f A) 512 1792) 0 k = cut (mrd (fun _ => 0) 512 1792) 0 k := by
      rw [mrd_cut _ _ _ _ _ (by omega), mrd_cut _ _ _ _ _ (by omega)]
      exact mrd_off (.inl (by omega))
    have m2 : cut (mrd (mwr (fun _ => 0) f A) 512 1792) (k + A.length) (1792 - (k + A.length)) = cut (mrd (fun _ => 0) 512 1792) (k + A.length) (1792 - (k + A.length)) := by
      rw [mrd_cut _ _ _ _ _ (by omega), mrd_cut _ _ _ _ _ (by omega)]
      exact mrd_off (.inr (by omega))
    have ll1 : (mrd (mwr (fun _ => 0) f A) 512 1792 : List Int).length = 1792 := mrd_len _ _ _
    have ll2 : (mrd (fun _ => 0) 512 1792 : List Int).length = 1792 := mrd_len _ _ _
    have U1 := (B5.sub 0 k cw (by omega))
    have U2 := (B2.sub 0 k cv (by omega))
    have U3 := byts_tail (n := k + A.length) B5 (by omega) hcw
    have U4 := byts_tail (n := k + A.length) B2 (by omega) hcv
    rw [m1] at U1
    rw [m2] at U3
    obtain ⟨D1, hD1⟩ : ∃ D, D = cut (mrd (fun _ => 0) 512 1792) 0 k := ⟨_, rfl⟩
    obtain ⟨D2, hD2⟩ : ∃ D, D = cut (mrd (fun _ => 0) 512 1792) (k + A.length) (1792 - (k + A.length)) := ⟨_, rfl⟩
    rw [← hD1] at U1 U2
    rw [← hD2] at U3 U4
    have V1 := str_of U1
    have V2 := str_of U2
    have V3 := str_of U3
    have V4 := str_of U4
    simp only [Addr.add_mid, Nat.zero_add] at V1 V2 V3 V4
    simp only [ek]
    have K1 : k ≤ 1792 ∧ k + A.length ≤ 1792 := ⟨by omega, by omega⟩
    clear hD1 hD2 U1 U2 U3 U4 m1 m2 ll1 ll2 B2 B5 CV1 CV2
    have g1 : k ≤ cw := by omega
    have g2 : k ≤ cv := by omega
    have g1i : (k : Int) ≤ (cw : Int) := by omega
    have g2i : (k : Int) ≤ (cv : Int) := by omega
    have g3 : IntKind.i64.wrap ((k : Int) + (A.length : Int)) = (k : Int) + (A.length : Int) := IntWalk.i64_in _ (by omega)
    have g4 : (k : Int) + (A.length : Int) ≤ 1792 := by omega
    have g5 : (0 : Int) ≤ (k : Int) + (A.length : Int) := by omega
    have g6 : ((k : Int) + (A.length : Int)).toNat = k + A.length := by omega
    have g7 : (1792 : Int) ≤ (cw : Int) := by omega
    have g8 : (1792 : Int) ≤ (cv : Int) := by omega
    have g9 : (0 : Int) ≤ (k : Int) := by omega
    go_still rfl
    change Exit.then _ _ _ _ w5.drew
    obtain ⟨w6, hw6⟩ : ∃ w6, w6 = w5.drew := ⟨_, rfl⟩
    have n6 : New w5 w6 := by rw [hw6]; exact (New.refl _).drew
    rw [← hw6]
    have S6 := S5.new n6
    have N6 := N5.trans n6
    have q6 := S6.at_
    obtain ⟨t, et, t1, t2, t3⟩ : ∃ t : Nat, 2304 + a0 % 64 * 4 = (t : Int) ∧ 2304 ≤ t ∧ t + 4 ≤ 2560 ∧ t % 4 = 0 := ⟨(2304 + a0 % 64 * 4).toNat, by omega, by omega, by omega, by omega⟩
    have t9 : t / 256 = 9 := by omega
    have Y := S6.cs.poke (P := 1) t a2 b2.1 b2.2 (by omega) (by omega) t3 (by rw [t9]; exact RQ)
    clear q5 V1 V2 V3 V4 HNIL hw6 n6 S5 N5 o2d o4d o5 g1 g2 g1i g2i g3 g4 g5 g6 g7 g8 g9
    go_wp2_with fail
    refine Y.mono ?_
    rintro e w7 ⟨q7, c7, rfl, C7, k7⟩
    have S7 := S6.step C7 k7
    have N7 := NEW _ _ N6 k7
    have q7 := S7.at_
    have Y := S7.cs.peek (P := 1) t (by omega) (by omega) t3 (by rw [t9]; exact RQ)
    have e4 := mrd_mwr (mwr (fun _ => 0) f A) t (bf4 a2)
    rw [show (bf4 a2).length = 4 from rfl] at e4
    rw [e4, le4_bf4 a2 b2.1 b2.2] at Y
    clear q6 S6 C7 k7 N6 e4
    go_wp2_with fail
    refine Y.mono ?_
    rintro e w8 ⟨q8, c8, rfl, C8, k8⟩
    have S8 := S7.step C8 k8
    have N8 := NEW _ _ N7 k8
    have q8 := S8.at_
    have n8 := (New.refl w8).alloc #[.int .u8 1] 5
    have BD8 : rb < w8.heap.size ∧ qb < w8.heap.size := ⟨S8.cs.gm.fr.lt.2, S8.cs.gm.ph.lt.2⟩
    have Y := (S8.new n8).cs.out_no (P := 1) t (some ⟨w8.heap.size, 0, none⟩) 1 [1] (by simp; omega) (by simp) (by simp) (by rw [t9]; exact RQ) rfl (fun x hx => by simp at hx; omega) (byts_block w8 [1] (by simp) BD8) (Nat.le_refl 1) (by unfold maxLen; omega)
    clear q7 S7 C8 k8 N7
    go_wp2_with fail
    refine Y.mono ?_
    rintro e w9 ⟨rfl, C9, k9⟩
    have N9 := NEW _ _ (N8.trans n8) k9
    have l9 := hl.new N9
    clear q8 S8 C9 k9 N8 n8 BD8
    go_wp2_with fail
    refine (num_err 14 _ l9).mono ?_
    rintro e wa ⟨rfl, na⟩
    have Na := N9.trans na
    have la := hl.new Na
    clear na N9 l9
    go_wp2_with fail
    refine (csure_any _ la).mono ?_
    rintro e wb ⟨rfl, nb⟩
    go_wp2_with fail
    go_ret
    exact ⟨rfl, Na.trans nb⟩

/-! ### THE ROW's STEP: WRITTEN OUT: LEAVE IT -/
theorem door_met (os : Os) (args : Array Value) : laidMetH Tryz.prog Rows.copyBackRow.laid ((World.doorLaid Tryz.prog 400 os).forCall (fun _ _ => 0) ⟨#[], args, []⟩).memory :=
  laidMetH_of_parts3 (fuel := 8) (laidMet_of_run' 8 (by kernel_rfl) (by kernel_rfl)) (by kernel_rfl) (by kernel_rfl)
set_option maxRecDepth 100000 in
theorem lifted (os : Os) (started : os.Started) (H : Type) (enc : TypeId × Value → H) :
    ReturnsInHanded {} Tryz.checked os 6 .any (fun w args => (Rows.copyBackSpec.pre enc Tryz.prog Tryz.f6 [] false w args ∧ laidMetH Tryz.prog Rows.copyBackRow.laid w) ∧ sizedMet enc Tryz.prog Tryz.f6 (OpenSpec.ofChange Rows.copyBackSpec) false w args) (Rows.copyBackSpec.post enc Tryz.prog Tryz.f6 false true false false) := by
  refine returnsInHanded_of_change_and (C := Tryz.checked) (X := fun w _ => laidMetH Tryz.prog Rows.copyBackRow.laid w) (fun _ _ _ hh h => h.of_heap hh) own started (by kernel_rfl) Tryz.func6
    (ChangeSpec.witness_shaped (enc := enc) (C := Tryz.checked) (os := os) (X := fun w _ => laidMetH Tryz.prog Rows.copyBackRow.laid w) false (World.doorLaid Tryz.prog 400 os) #[.int .u32 0, .slice none 0 0, .int .u32 0] 8 rfl (World.shaped_of_RefB (by kernel_rfl) (by kernel_rfl)) (by kernel_rfl) (by kernel_rfl) (by kernel_rfl) (door_met os _)) ?_
  intro W base args ds gs before hval0 hW _ _ hL _
  have hL' : laidMet Tryz.prog [] W ∧ handlesMet Tryz.prog [("errors.errorType", Rows.laid_errors_errorType)] W := hL
  have hval : ∀ (j : Nat) t v, Tryz.f6.params[j]? = some t → args[j]? = some v → Value.okWide Tryz.prog W .any base t v := hval0
  have hW' := hW
  obtain ⟨p, q, hA0, hV, rfl, hfz, hnd⟩ := hW
  have hA : DataW.TrodAll enc Tryz.prog W 0 (fun _ => true) true Tryz.f6.params.toList args.toList ds p := hA0
  rw [Tryz.params6] at hA hval
  obtain ⟨v0, vs0, d0, ds0, p0, q0, hargs, rfl, rfl, h0, r0⟩ := trodAll_cons hA
  obtain ⟨v1, vs1, d1, ds1, p1, q1, rfl, rfl, rfl, h1, r1⟩ := trodAll_cons r0
  obtain ⟨v2, vs2, d2, ds2, p2, q2, rfl, rfl, rfl, h2, r2⟩ := trodAll_cons r1
  obtain ⟨rfl, rfl, rfl⟩ := trodAll_nil r2
  obtain rfl : args = #[v0, v1, v2] := by cases args; simp_all
  obtain ⟨rfl, rfl⟩ := trodVars_none hV
  obtain ⟨a0, rfl, rfl, rfl, w0⟩ := open_int Tryz.underlying31 (hval 0 31 v0 rfl rfl) h0
  obtain ⟨a1, len1, cap1, rfl⟩ := okWide_slice Tryz.underlying28 (hval 1 28 v1 rfl rfl)
  have k1 := h1
  have lt1 : ∀ x ∈ p1, x.block < W.heap.size := by obtain ⟨m, hm⟩ := k1; exact DataW.trod_lt m _ _ _ hm
  obtain ⟨z1, w1⟩ : ∃ zs, IsRow .u8 W a1 len1 cap1 zs := by
    obtain ⟨fuel, hf⟩ := h1
    rcases open_ints Tryz.underlying28 Tryz.underlying5 (by kernel_rfl) hf with ⟨hcs, _⟩ | ⟨x, l, c, zs, hcs, _, hl, hm, hz, _, hcell, hwz⟩
    · simp [Value.cells] at hcs
      obtain ⟨rfl, rfl, rfl⟩ := hcs
      exact ⟨[], .inl ⟨rfl, rfl, rfl, rfl⟩⟩
    · simp [Value.cells] at hcs
      obtain ⟨rfl, rfl, rfl⟩ := hcs
      exact ⟨zs, .inr ⟨_, rfl, hl, hm, by simpa using hz, hcell, hwz⟩⟩
  obtain ⟨a2, rfl, rfl, rfl, w2⟩ := open_int Tryz.underlying31 (hval 2 31 v2 rfl rfl) h2
  clear hA0 hval0
  refine (walk a0 a1 len1 cap1 z1 a2 W w0 w1 w2 (handle_of_hs hL'.2)).mono fun e W' ⟨he, bel⟩ => ?_
  subst he
  exact ⟨_, rfl, _, _, _, [], _, [], hW', trodAll_mk1 (shut_bool Tryz.underlying4 _), (trodAll_cons_mk (shut_int Tryz.underlying31 w0) (trodAll_cons_mk (Below.trod laidOut (by kernel_rfl) (of_decide_eq_true (by kernel_rfl)) k1 bel lt1) (trodAll_cons_mk (shut_int Tryz.underlying31 w2) trodAll_mk0))), rfl, bel.frame _, fun h => by cases h⟩

theorem over : Rows.copyBackRow.holds Tryz.pinned (OpenSpec.ofChange Rows.copyBackSpec) :=
  OpenClaim.holds_of_wide 6 Tryz.f6 rfl rfl rfl rfl rfl rfl rfl ⟨rfl, rfl, rfl, rfl, rfl⟩ rfl rfl rfl rfl rfl (by kernel_rfl) Tryz.func6 (by kernel_rfl)
    (of_decide_eq_true (by kernel_rfl)) (by unfold Func.isWrapper; first | (rw [if_pos (by decide +kernel)]; kernel_rfl) | (rw [if_neg (by decide +kernel)]; exact ⟨rfl, rfl⟩))
    (fun os started H enc _ => lifted os started H enc)

theorem proved : Rows.CopyBackSaid := over
theorem card : Rows.CopyBackCardSaid :=
  Claim7.holds_tied_plain_at .later [] [.handle] true (true, "0b150c20a06a29f2c12879c58b46acbc65d8815d7e0cd33c52fd7996ef247042") true
    over (fun _ h => by cases h) (by kernel_rfl) (fun _ h => by cases h) copyBack_row_tie rfl ⟨rfl, rfl⟩ (by kernel_rfl) rfl
    (fun f fn hf hfn => by
      obtain rfl : f = 6 := Option.some.inj ((show Tryz.prog.funcNamed "halter/halterlaw15.CopyBack" = some 6 by kernel_rfl).symm.trans hf) |>.symm
      obtain rfl : fn = Tryz.f6 := (Option.some.inj (Tryz.func6.symm.trans hfn)).symm
      exact ⟨by kernel_rfl, fun j t ht => by
        rw [Tryz.params6] at ht
        have hm : t ∈ [31, 28, 31] := by have := Array.mem_of_getElem? ht; simpa using this
        have hall : ([31, 28, 31].all fun u => !Tryz.prog.wantsStandIn u) = true := by kernel_rfl
        exact (show Tryz.prog.wantsStandIn t = false by simpa using List.all_eq_true.1 hall t hm)⟩)
    (by kernel_rfl)
#print axioms card
end Go.Proofs.YtgedimlhldfkaaaGreatDoor.copyBack
