/- Two writes of bytes into a frame that do not touch make the same, whichever is first, and the same as one write of both; the statement holds for every input, where the library's variable errors.errorType holds what its own text lays, which the card ties. -/
import Derived.Test.YtnlmjjofpkpkaaaDoorRows
import Derived.Test.YtnlmjjofpkpkaaaDoorPhG
import Derived.StillTailTactics
import Derived.BigQuiet
import Derived.Test.YtnlmjjofpkpkaaaDoorCards
import Derived.Test.YtnlmjjofpkpkaaaDoorTie
import Derived.LaidMore
import Derived.LaidLaws
import Derived.LaidHandle
import Derived.Test.YtnlmjjofpkpkaaaDoorLay
import Derived.Test.YtnlmjjofpkpkaaaDoorPost
import Derived.WalkKit
import Derived.ProofKit
import Derived.OpenShut
import Derived.ShutString
import Derived.ChangeOld
import Derived.Below
namespace Go.Proofs.YtnlmjjofpkpkaaaDoor.physApart
open Go.ChangeShapes Go.WideShapes Go.ChangeAt Go.RowKit
open Go.ChangeMaps (open_string shut_string)
set_option linter.unusedVariables false

theorem own : ownKnob Tryd.prog.godebug = none := by kernel_rfl
theorem laidOut : laidOutB Tryd.prog = true := by kernel_rfl

/-- WHAT THE WALK IS TOLD OF A SLICE OF INTEGERS THAT CAME IN: it is nil; or it leads to a row of 'cap' cells, the numbers 'zs' (the first 'len' are its elements, the rest its spare room), each fitting its kind. -/
def IsRow (k : IntKind) (w : World) (a : Option Addr) (len cap : Nat) (zs : List Int) : Prop :=
  (a = none ∧ len = 0 ∧ cap = 0 ∧ zs = []) ∨
  ∃ x, a = some x ∧ len ≤ cap ∧ cap ≤ maxLen ∧ zs.length = cap ∧ (∀ i, i < zs.length → w.cell? (x.add i) = some (.int k (zs.getD i 0))) ∧ ∀ n ∈ zs, (Lit.int k n).wf = true

theorem isrow_byts {w : World} {a : Option Addr} {len cap : Nat} {z : List Int} (h : IsRow .u8 w a len cap z) : ∃ l : List Int, l.length = len ∧ Byts w (.slice a len cap) l ∧ Oct l := by
  rcases h with ⟨rfl, rfl, rfl, rfl⟩ | ⟨x, rfl, h1, h2, h3, h4, h5⟩
  · exact ⟨[], rfl, Byts.nil w, Oct.nil⟩
  · have hl : (z.take len).length = len := by rw [List.length_take]; omega
    refine ⟨z.take len, hl, ⟨some x, cap, by rw [hl], by omega, fun i hi => ⟨x, rfl, ?_⟩⟩, fun n hn => ?_⟩
    · rw [hl] at hi
      rw [h4 i (by omega), getD_eq _ _ (by omega), getD_eq _ _ (by omega), List.getElem_take]
    · exact u8_bd (h5 n (List.mem_of_mem_take hn))
/-! ### STEP 1: THE WALK: the Go text returns true, AND WRITES NOTHING THAT WAS THERE: 'Below w.heap.size w w'' (Derived/Below.lean: '.refl', '.alloc', '.drew', '.setCell' at a new block, '.trans'). Open each 'IsRow' by 'rcases' AHEAD of 'go_enter'; part every test ahead of the walk. -/
set_option maxHeartbeats 16000000 in
set_option maxRecDepth 100000 in
theorem walk (a0 : Int) (a1 : Option Addr) (len1 cap1 : Nat) (z1 : List Int) (a2 : Option Addr) (len2 cap2 : Nat) (z2 : List Int) (w : World) (w0 : (Lit.int .i64 a0).wf = true) (w1 : IsRow .u8 w a1 len1 cap1 z1) (w2 : IsRow .u8 w a2 len2 cap2 z2) (hl : Laid w) :
    Calls Tryd.prog 5 #[.int .i64 a0, .slice a1 len1 cap1, .slice a2 len2 cap2] w fun e w' => e = .returned (.bool true) ∧ Below w.heap.size w w' := by
  have hlt := hl.lt
  have b0 := i64_bd w0
  obtain ⟨A, rfl, bA, oA⟩ := isrow_byts w1
  obtain ⟨B, rfl, bB, oB⟩ := isrow_byts w2
  clear w1 w2
  have mA : A.length ≤ maxLen := by obtain ⟨_, _, _, h, _⟩ := bA; exact h
  have mB : B.length ≤ maxLen := by obtain ⟨_, _, _, h, _⟩ := bB; exact h
  unfold maxLen at mA mB
  by_cases c1 : 100 < A.length
  · have d1 : decide ((100 : Int) < (A.length : Int)) = true := by simp; omega
    go_enter Tryd.func5, Tryd.ntmps5
    go_wp2_with fail
    refine (psure_any _ hl).mono ?_
    rintro e W1 ⟨rfl, n1⟩
    go_wp2_with fail
    go_ret
    exact ⟨rfl, n1⟩
  · have d1 : decide ((100 : Int) < (A.length : Int)) = false := by simp; omega
    by_cases c2 : 100 < B.length
    · have d2 : decide ((100 : Int) < (B.length : Int)) = true := by simp; omega
      clear c1
      go_enter Tryd.func5, Tryd.ntmps5
      go_wp2_with fail
      refine (psure_any _ hl).mono ?_
      rintro e W1 ⟨rfl, n1⟩
      go_wp2_with fail
      go_ret
      exact ⟨rfl, n1⟩
    · have d2 : decide ((100 : Int) < (B.length : Int)) = false := by simp; omega
      have k1 : A.length ≤ 100 := by omega
      have k2 : B.length ≤ 100 := by omega
      clear c1 c2
      obtain ⟨o, eo, ho⟩ := cut_by a0 56 (by omega) (by omega)
      have eo' : wrap64 ((IntKind.u64.wrap a0).tmod 56) = (o : Int) := eo
      clear eo
      go_enter Tryd.func5, Tryd.ntmps5
      go_wp2_with fail
      simp only [eo']
      clear eo'
      refine (pmade_three _).mono ?_
      rintro e W1 ⟨rfl, h1, n1⟩
      have hZ : ∃ Z, Z = List.replicate (3 * 256) (0 : Int) := ⟨_, rfl⟩
      obtain ⟨Z, hZ⟩ := hZ
      rw [← hZ] at h1
      have hrb := h1.lt.2
      have HZ := Lib.hid hZ
      clear hZ
      have HA := Lib.hid bA
      have HB := Lib.hid bB
      clear bA bB
      go_wp2_with (first
        | ((with_reducible refine at_slot 42 ?_); refine wpList_append_bytes rfl _ _ rfl rfl W1.heap.size _ [] rfl (OwnB.nil _ _) _ A rfl (HA.out.new n1) (by simp; omega) (Nat.le_refl _) ?_))
      intro v2 W2 o2 k2
      have n2 := k2 W1 (Nat.le_refl _) (New.refl W1)
      have O2 := Lib.hid o2
      clear k2 o2
      go_wp2_with (first
        | ((with_reducible refine at_slot 44 ?_); refine wpList_append_bytes rfl _ _ rfl rfl W1.heap.size _ A rfl O2.out _ B rfl (HB.out.new (n1.trans n2)) (by omega) n2.size ?_))
      intro v3 W3 o3 k3
      have n3 := k3 W1 (Nat.le_refl _) n2
      obtain ⟨p3, c3, e3⟩ := o3.shape
      rw [List.length_append] at e3
      subst e3
      have h3 := h1.new n3
      have m3 := n1.trans n3
      have O3 := Lib.hid o3
      have S3 := Lib.hid n3.size
      clear k3 o3 O2 n2 h1 n3
      go_wp2_with fail
      have hsl : w.heap.size < W1.heap.size := hrb
      clear hrb
      refine (write_at 0 0 rfl _ o rfl h3 (HA.out.new m3) oA (by omega) (by omega)).mono ?_
      rintro e W4 ⟨rfl, h4, f4⟩
      have m4 := f4.new m3 (Nat.le_refl _)
      have O4 := Lib.hid (O3.out.far f4 hsl)
      clear h3 m3 O3 S3 f4
      go_wp2_with fail
      refine (write_at 0 0 rfl _ (o + A.length) (by omega) h4 (HB.out.new m4) oB (by omega) (by omega)).mono ?_
      rintro e W5 ⟨rfl, h5, f5⟩
      have m5 := f5.new m4 (Nat.le_refl _)
      have O5 := Lib.hid (O4.out.far f5 hsl)
      clear h4 m4 O4 f5
      go_wp2_with fail
      refine (write_at 1 1 rfl _ (o + A.length) (by omega) h5 (HB.out.new m5) oB (by omega) (by omega)).mono ?_
      rintro e W6 ⟨rfl, h6, f6⟩
      have m6 := f6.new m5 (Nat.le_refl _)
      have O6 := Lib.hid (O5.out.far f6 hsl)
      clear h5 m5 O5 f6
      go_wp2_with fail
      refine (write_at 1 1 rfl _ o rfl h6 (HA.out.new m6) oA (by omega) (by omega)).mono ?_
      rintro e W7 ⟨rfl, h7, f7⟩
      have m7 := f7.new m6 (Nat.le_refl _)
      have O7 := Lib.hid (O6.out.far f7 hsl)
      clear h6 m6 O6 f7
      go_wp2_with fail
      refine (write_at 2 2 rfl _ o rfl h7 O7.out.byts (fun x hx => (List.mem_append.1 hx).elim (oA x) (oB x)) (by omega) (by rw [List.length_append]; omega)).mono ?_
      rintro e W8 ⟨rfl, h8, f8⟩
      have m8 := f8.new m7 (Nat.le_refl _)
      have O8 := Lib.hid (O7.out.far f8 hsl)
      clear h7 m7 O7 f8
      have h8' : Ph W8 (w.heap.size + 1) w.heap.size 3 (apartB Z A B o) := h8
      clear h8
      obtain ⟨q0, q1, q2, q3⟩ := apart_eq Z A B (List.replicate 256 0) o (by rw [HZ.out]; simp) (by omega) (by rw [HZ.out]; exact cut_zeros _ _ _ (by omega)) (by rw [HZ.out]; exact cut_zeros _ _ _ (by omega)) (by rw [HZ.out]; exact cut_zeros _ _ _ (by omega))
      have hF : ∃ F, F = splice (List.replicate 256 (0 : Int)) o (A ++ B) := ⟨_, rfl⟩
      obtain ⟨F, hF⟩ := hF
      rw [← hF] at q1 q2 q3
      have lF : F.length = 256 := by rw [hF, splice_len _ _ _ (by rw [List.length_append, List.length_replicate]; omega)]; simp
      have cF : cut F o (A ++ B).length = A ++ B := by rw [hF]; exact cut_splice_at _ _ _ (by rw [List.length_append, List.length_replicate]; omega)
      have Q1 := Lib.hid q1
      have Q2 := Lib.hid q2
      have Q3 := Lib.hid q3
      have LF := Lib.hid lF
      have CF := Lib.hid cF
      clear hF lF cF q0 q1 q2 q3 HA HB HZ
      go_wp2_with fail
      have R1 := read_frame 0 0 rfl h8' (by omega)
      rw [Q1.out] at R1
      refine R1.mono ?_
      rintro e W9 ⟨v9, g9, n9⟩
      have b9 : Blk8 W9 W8.heap.size F := g9
      have h9 := h8'.new n9
      have m9 := m8.trans n9
      have O9 := Lib.hid (O8.out.new n9)
      rw [LF.out] at v9
      subst v9
      clear R1 g9 n9 h8' m8 O8
      go_wp2_with fail
      have R2 := read_frame 1 1 rfl h9 (by omega)
      rw [Q2.out] at R2
      refine R2.mono ?_
      rintro e W10 ⟨v10, g10, n10⟩
      have c9 := b9.new n10
      have c10 : Blk8 W10 W9.heap.size F := g10
      have h10 := h9.new n10
      have m10 := m9.trans n10
      have O10 := Lib.hid (O9.out.new n10)
      rw [LF.out] at v10
      subst v10
      clear R2 g10 n10 h9 m9 O9 b9
      go_wp2_with fail
      have R3 := read_frame 2 2 rfl h10 (by omega)
      rw [Q3.out] at R3
      refine R3.mono ?_
      rintro e W11 ⟨v11, g11, n11⟩
      have d9 := c9.new n11
      have d10 := c10.new n11
      have d11 : Blk8 W11 W10.heap.size F := g11
      have m11 := m10.trans n11
      have O11 := Lib.hid (O10.out.new n11)
      rw [LF.out] at v11
      subst v11
      clear R3 g11 n11 h10 m10 O10 c9 c10 Q1 Q2 Q3
      go_wp2_with fail
      have hm : maxLen = 9223372036854775807 := rfl
      have ex : ∃ s, s = strOfNums F := ⟨_, rfl⟩
      have ey : ∃ t, t = strOfNums (A ++ B) := ⟨_, rfl⟩
      obtain ⟨s, hs⟩ := ex
      obtain ⟨t, ht⟩ := ey
      have lAB : (A ++ B).length = A.length + B.length := List.length_append
      have s9 := fun c => str_of ((d9.new (New.refl W11).drew).byts (cap := c) (by rw [LF.out]; omega))
      have s10 := fun c => str_of ((d10.new (New.refl W11).drew).byts (cap := c) (by rw [LF.out]; omega))
      have s11 := fun c => str_of ((d11.new (New.refl W11).drew).byts (cap := c) (by rw [LF.out]; omega))
      have sp := fun c => str_of ((d9.new (New.refl W11).drew).part (cap := c) o (A ++ B).length (by rw [LF.out]; omega) (by rw [LF.out]; omega))
      have s3 := str_of (O11.out.new (New.refl W11).drew).byts
      have m12 := m11.drew
      have l12 := hl.new m12
      rw [CF.out] at sp
      rw [← ht] at sp s3
      simp only [LF.out, ← hs] at s9 s10 s11
      rw [lAB] at sp
      have f1 : ¬ 256 = o := by omega
      have f2 : o + (A.length + B.length) ≤ 256 := by omega
      have f3 : (o : Int) + ((A.length : Int) + (B.length : Int)) ≤ 256 := by omega
      have f4 : (0 : Int) ≤ (A.length : Int) + (B.length : Int) := by omega
      have f5 : (0 : Int) ≤ (o : Int) + ((A.length : Int) + (B.length : Int)) := by omega
      have f6 : IntKind.i64.wrap ((o : Int) + ((A.length : Int) + (B.length : Int))) = (o : Int) + ((A.length : Int) + (B.length : Int)) := IntWalk.i64_in _ (by omega)
      have f7 : ((o : Int) + ((A.length : Int) + (B.length : Int))).toNat = o + (A.length + B.length) := by omega
      clear hs ht lAB LF CF O11 d9 d10 d11 hm
      go_still_tail 43, (by kernel_rfl)
      clear f1 f2 f3 f4 f5 f6 f7 sp s3 s9 s10 s11
      change wpList _ _ _ _ _ W11.drew
      generalize W11.drew = W12 at *
      go_wp2_with fail
      refine (psure_any _ l12).mono ?_
      rintro e W13 ⟨rfl, n13⟩
      go_wp2_with fail
      go_ret
      exact ⟨rfl, m12.trans n13⟩

/-! ### THE ROW's STEP: WRITTEN OUT: LEAVE IT -/
theorem door_met (os : Os) (args : Array Value) : laidMetH Tryd.prog Rows.physApartRow.laid ((World.doorLaid Tryd.prog 400 os).forCall (fun _ _ => 0) ⟨#[], args, []⟩).memory :=
  laidMetH_of_parts3 (fuel := 8) (laidMet_of_run' 8 (by kernel_rfl) (by kernel_rfl)) (by kernel_rfl) (by kernel_rfl)
set_option maxRecDepth 100000 in
theorem lifted (os : Os) (started : os.Started) (H : Type) (enc : TypeId × Value → H) :
    ReturnsInHanded {} Tryd.checked os 5 .any (fun w args => (Rows.physApartSpec.pre enc Tryd.prog Tryd.f5 [] false w args ∧ laidMetH Tryd.prog Rows.physApartRow.laid w) ∧ sizedMet enc Tryd.prog Tryd.f5 (OpenSpec.ofChange Rows.physApartSpec) false w args) (Rows.physApartSpec.post enc Tryd.prog Tryd.f5 false true false false) := by
  refine returnsInHanded_of_change_and (C := Tryd.checked) (X := fun w _ => laidMetH Tryd.prog Rows.physApartRow.laid w) (fun _ _ _ hh h => h.of_heap hh) own started (by kernel_rfl) Tryd.func5
    (ChangeSpec.witness_shaped (enc := enc) (C := Tryd.checked) (os := os) (X := fun w _ => laidMetH Tryd.prog Rows.physApartRow.laid w) false (World.doorLaid Tryd.prog 400 os) #[.int .i64 0, .slice none 0 0, .slice none 0 0] 8 rfl (World.shaped_of_RefB (by kernel_rfl) (by kernel_rfl)) (by kernel_rfl) (by kernel_rfl) (by kernel_rfl) (door_met os _)) ?_
  intro W base args ds gs before hval0 hW _ _ hL _
  have hL' : laidMet Tryd.prog [] W ∧ handlesMet Tryd.prog [("errors.errorType", Rows.laid_errors_errorType)] W := hL
  have hval : ∀ (j : Nat) t v, Tryd.f5.params[j]? = some t → args[j]? = some v → Value.okWide Tryd.prog W .any base t v := hval0
  have hW' := hW
  obtain ⟨p, q, hA0, hV, rfl, hfz, hnd⟩ := hW
  have hA : DataW.TrodAll enc Tryd.prog W 0 (fun _ => true) true Tryd.f5.params.toList args.toList ds p := hA0
  rw [Tryd.params5] at hA hval
  obtain ⟨v0, vs0, d0, ds0, p0, q0, hargs, rfl, rfl, h0, r0⟩ := trodAll_cons hA
  obtain ⟨v1, vs1, d1, ds1, p1, q1, rfl, rfl, rfl, h1, r1⟩ := trodAll_cons r0
  obtain ⟨v2, vs2, d2, ds2, p2, q2, rfl, rfl, rfl, h2, r2⟩ := trodAll_cons r1
  obtain ⟨rfl, rfl, rfl⟩ := trodAll_nil r2
  obtain rfl : args = #[v0, v1, v2] := by cases args; simp_all
  obtain ⟨rfl, rfl⟩ := trodVars_none hV
  obtain ⟨a0, rfl, rfl, rfl, w0⟩ := open_int Tryd.underlying3 (hval 0 3 v0 rfl rfl) h0
  obtain ⟨a1, len1, cap1, rfl⟩ := okWide_slice Tryd.underlying24 (hval 1 24 v1 rfl rfl)
  have k1 := h1
  have lt1 : ∀ x ∈ p1, x.block < W.heap.size := by obtain ⟨m, hm⟩ := k1; exact DataW.trod_lt m _ _ _ hm
  obtain ⟨z1, w1⟩ : ∃ zs, IsRow .u8 W a1 len1 cap1 zs := by
    obtain ⟨fuel, hf⟩ := h1
    rcases open_ints Tryd.underlying24 Tryd.underlying5 (by kernel_rfl) hf with ⟨hcs, _⟩ | ⟨x, l, c, zs, hcs, _, hl, hm, hz, _, hcell, hwz⟩
    · simp [Value.cells] at hcs
      obtain ⟨rfl, rfl, rfl⟩ := hcs
      exact ⟨[], .inl ⟨rfl, rfl, rfl, rfl⟩⟩
    · simp [Value.cells] at hcs
      obtain ⟨rfl, rfl, rfl⟩ := hcs
      exact ⟨zs, .inr ⟨_, rfl, hl, hm, by simpa using hz, hcell, hwz⟩⟩
  obtain ⟨a2, len2, cap2, rfl⟩ := okWide_slice Tryd.underlying24 (hval 2 24 v2 rfl rfl)
  have k2 := h2
  have lt2 : ∀ x ∈ p2, x.block < W.heap.size := by obtain ⟨m, hm⟩ := k2; exact DataW.trod_lt m _ _ _ hm
  obtain ⟨z2, w2⟩ : ∃ zs, IsRow .u8 W a2 len2 cap2 zs := by
    obtain ⟨fuel, hf⟩ := h2
    rcases open_ints Tryd.underlying24 Tryd.underlying5 (by kernel_rfl) hf with ⟨hcs, _⟩ | ⟨x, l, c, zs, hcs, _, hl, hm, hz, _, hcell, hwz⟩
    · simp [Value.cells] at hcs
      obtain ⟨rfl, rfl, rfl⟩ := hcs
      exact ⟨[], .inl ⟨rfl, rfl, rfl, rfl⟩⟩
    · simp [Value.cells] at hcs
      obtain ⟨rfl, rfl, rfl⟩ := hcs
      exact ⟨zs, .inr ⟨_, rfl, hl, hm, by simpa using hz, hcell, hwz⟩⟩
  clear hA0 hval0
  refine (walk a0 a1 len1 cap1 z1 a2 len2 cap2 z2 W w0 w1 w2 (handle_of_hs hL'.2)).mono fun e W' ⟨he, bel⟩ => ?_
  subst he
  exact ⟨_, rfl, _, _, _, [], _, [], hW', trodAll_mk1 (shut_bool Tryd.underlying4 _), (trodAll_cons_mk (shut_int Tryd.underlying3 w0) (trodAll_cons_mk (Below.trod laidOut (by kernel_rfl) (of_decide_eq_true (by kernel_rfl)) k1 bel lt1) (trodAll_cons_mk (Below.trod laidOut (by kernel_rfl) (of_decide_eq_true (by kernel_rfl)) k2 bel lt2) trodAll_mk0))), rfl, bel.frame _, fun h => by cases h⟩

theorem over : Rows.physApartRow.holds Tryd.pinned (OpenSpec.ofChange Rows.physApartSpec) :=
  OpenClaim.holds_of_wide 5 Tryd.f5 rfl rfl rfl rfl rfl rfl rfl ⟨rfl, rfl, rfl, rfl, rfl⟩ rfl rfl rfl rfl rfl (by kernel_rfl) Tryd.func5 (by kernel_rfl)
    (of_decide_eq_true (by kernel_rfl)) (by unfold Func.isWrapper; first | (rw [if_pos (by decide +kernel)]; kernel_rfl) | (rw [if_neg (by decide +kernel)]; exact ⟨rfl, rfl⟩))
    (fun os started H enc _ => lifted os started H enc)

theorem proved : Rows.PhysApartSaid := over
theorem card : Rows.PhysApartCardSaid :=
  Claim7.holds_tied_plain_at .later [] [.handle] true (true, "50b6ce0e58cce5bc445f114f7c1e65a65e7b73ef9d31aac836e0e2edf81a856c") true
    over (fun _ h => by cases h) (by kernel_rfl) (fun _ h => by cases h) physApart_row_tie rfl ⟨rfl, rfl⟩ (by kernel_rfl) rfl
    (fun f fn hf hfn => by
      obtain rfl : f = 5 := Option.some.inj ((show Tryd.prog.funcNamed "halter/halterlaw05.PhysApart" = some 5 by kernel_rfl).symm.trans hf) |>.symm
      obtain rfl : fn = Tryd.f5 := (Option.some.inj (Tryd.func5.symm.trans hfn)).symm
      exact ⟨by kernel_rfl, fun j t ht => by
        rw [Tryd.params5] at ht
        have hm : t ∈ [3, 24, 24] := by have := Array.mem_of_getElem? ht; simpa using this
        have hall : ([3, 24, 24].all fun u => !Tryd.prog.wantsStandIn u) = true := by kernel_rfl
        exact (show Tryd.prog.wantsStandIn t = false by simpa using List.all_eq_true.1 hall t hm)⟩)
    (by kernel_rfl)
#print axioms card
end Go.Proofs.YtnlmjjofpkpkaaaDoor.physApart
