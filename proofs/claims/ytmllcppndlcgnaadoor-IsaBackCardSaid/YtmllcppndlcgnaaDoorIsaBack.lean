/- An instruction that may be comes back from its number, and a number that is an instruction's is told by the instruction that it is read as, which may be; any other number is refused with the number 22, and is at least 42 times 2 to the 24th; the statement holds for every input, where the library's variable errors.errorType holds what its own text lays, which the card ties. -/
import Derived.Test.YtmllcppndlcgnaaDoorRows
import Derived.Test.YtmllcppndlcgnaaDoorIsC
import Derived.Test.YtmllcppndlcgnaaDoorFlat
import Derived.Test.YtmllcppndlcgnaaDoorBox
import Derived.Test.YtmllcppndlcgnaaDoorCards
import Derived.Test.YtmllcppndlcgnaaDoorTie
import Derived.LaidMore
import Derived.LaidLaws
import Derived.LaidHandle
import Derived.Test.YtmllcppndlcgnaaDoorLay
import Derived.Test.YtmllcppndlcgnaaDoorPost
import Derived.WalkKit
import Derived.ProofKit
import Derived.OpenShut
import Derived.ShutString
import Derived.ChangeOld
import Derived.Below
namespace Go.Proofs.YtmllcppndlcgnaaDoor.isaBack
open Go.ChangeShapes Go.WideShapes Go.ChangeAt Go.RowKit
open Go.ChangeMaps (open_string shut_string)
set_option linter.unusedVariables false

theorem own : ownKnob Tryd.prog.godebug = none := by kernel_rfl
theorem laidOut : laidOutB Tryd.prog = true := by kernel_rfl

/-- WHAT THE WALK IS TOLD OF A SLICE OF INTEGERS THAT CAME IN: it is nil; or it leads to a row of 'cap' cells, the numbers 'zs' (the first 'len' are its elements, the rest its spare room), each fitting its kind. -/
def IsRow (k : IntKind) (w : World) (a : Option Addr) (len cap : Nat) (zs : List Int) : Prop :=
  (a = none ∧ len = 0 ∧ cap = 0 ∧ zs = []) ∨
  ∃ x, a = some x ∧ len ≤ cap ∧ cap ≤ maxLen ∧ zs.length = cap ∧ (∀ i, i < zs.length → w.cell? (x.add i) = some (.int k (zs.getD i 0))) ∧ ∀ n ∈ zs, (Lit.int k n).wf = true

/-! ### STEP 1: THE WALK: the Go text returns true, AND WRITES NOTHING THAT WAS THERE: 'Below w.heap.size w w'' (Derived/Below.lean: '.refl', '.alloc', '.drew', '.setCell' at a new block, '.trans'). Open each 'IsRow' by 'rcases' AHEAD of 'go_enter'; part every test ahead of the walk. -/
set_option maxHeartbeats 8000000 in
set_option maxRecDepth 100000 in
theorem walk (v0 : Value) (a1 : Int) (w : World) (w0 : Flat [some .i64, some .i64, some .i64, some .i64] v0) (w1 : (Lit.int .u32 a1).wf = true) (hl : Laid w) :
    Calls Tryd.prog 4 #[v0, .int .u32 a1] w fun e w' => e = .returned (.bool true) ∧ Below w.heap.size w w' := by
  obtain ⟨x0, x1, x2, x3, rfl, ⟨o, rfl, _⟩, ⟨a, rfl, _⟩, ⟨b, rfl, _⟩, ⟨m, rfl, _⟩⟩ := flat4 w0
  have b1 := u32_bd w1
  have hlt := hl.lt
  clear w0 w1
  by_cases ok : InOk o a b m
  · have k := innum_is o a b m ok
    have q1 := fun w => iencode_ok o a b m w ok
    have q2 := fun w => idecode_ok (innum o a b m) w k.1 (by omega) (by omega)
    rw [k.2.2.1, k.2.2.2.1, k.2.2.2.2.1, k.2.2.2.2.2] at q2
    obtain ⟨k1, k2, -⟩ := k
    generalize innum o a b m = M at *
    clear ok
    go_enter Tryd.func4, Tryd.ntmps4
    go_wp2_with fail
    refine (q1 _).mono ?_
    rintro e w1 ⟨rfl, n1⟩
    have N1 := (((New.refl w).alloc #[.int .i64 o, .int .i64 a, .int .i64 b, .int .i64 m] 23)).trans n1
    have e1 := (Box.here w _ #[.int .i64 o, .int .i64 a, .int .i64 b, .int .i64 m] 23 rfl).new n1
    clear n1
    go_wp2_with fail
    refine (q2 _).mono ?_
    rintro e w2 ⟨rfl, n2⟩
    have N2 := N1.trans n2
    have e2 := e1.new n2
    clear N1 e1 n2
    obtain ⟨ea, eb, ec, ed⟩ := e2.four
    have z2 := e2.lt
    go_wp2_with fail
    have NT := N2.alloc #[.int .i64 o, .int .i64 a, .int .i64 b, .int .i64 m] 29
    clear ea eb ec ed N2 e2 q1 q2 z2
    by_cases hv : a1 / 16777216 ≤ 41
    · have iok : InOk (a1 / 16777216) (a1 / 1048576 % 16) (a1 / 65536 % 16) (imv a1) := by have := imv_bd a1; unfold InOk; omega
      have qd := fun w => idecode_ok a1 w b1.1 b1.2 hv
      have qe := fun w => iencode_ok _ _ _ _ w iok
      have qc := fun w => icheck_ok _ _ _ _ w iok
      rw [innum_back a1 b1.1 b1.2] at qe
      clear iok hv
      generalize a1 / 16777216 = y0 at *
      generalize a1 / 1048576 % 16 = y1 at *
      generalize a1 / 65536 % 16 = y2 at *
      generalize imv a1 = y3 at *
      refine (qd _).mono ?_
      rintro e w3 ⟨rfl, n3⟩
      have N3 := NT.trans n3
      clear n3
      go_wp2_with fail
      have N3' := N3.alloc #[.int .i64 y0, .int .i64 y1, .int .i64 y2, .int .i64 y3] 29
      have xA := Box.here w3 _ #[.int .i64 y0, .int .i64 y1, .int .i64 y2, .int .i64 y3] 29 rfl
      refine (qe _).mono ?_
      rintro e w4 ⟨rfl, n4⟩
      have N4 := N3'.trans n4
      have x4 := xA.new n4
      clear N3 N3' xA n4
      obtain ⟨xa, xb, xc, xd⟩ := x4.four
      have z4 := x4.lt
      go_wp2_with fail
      refine (qc _).mono ?_
      rintro e w5 ⟨rfl, n5⟩
      have N5 := N4.trans n5
      go_wp2_with fail
      refine (isure_any _).mono ?_
      rintro e w6 ⟨rfl, n6⟩
      go_wp2_with fail
      go_ret
      exact ⟨rfl, N5.trans n6⟩
    · refine (idecode_no a1 _ b1.1 b1.2 (by omega)).mono ?_
      rintro e w3 ⟨rfl, n3⟩
      have N3 := NT.trans n3
      clear n3
      have l3 := hl.new N3
      have g1 : (704643072 : Int) ≤ a1 := by omega
      clear hv
      go_wp2_with fail
      have nA := (New.refl w3).alloc #[.int .i64 0, .int .i64 0, .int .i64 0, .int .i64 0] 29
      have xA := Box.here w3 _ #[.int .i64 0, .int .i64 0, .int .i64 0, .int .i64 0] 29 rfl
      refine (num_err 22 _ (l3.new nA)).mono ?_
      rintro e w4 ⟨rfl, n4⟩
      have N4 := (N3.trans nA).trans n4
      have x4 := xA.new n4
      clear nA xA n4
      obtain ⟨xa, xb, xc, xd⟩ := x4.four
      have z4 := x4.lt
      go_wp2_with fail
      refine (isure_any _).mono ?_
      rintro e w5 ⟨rfl, n5⟩
      go_wp2_with fail
      go_ret
      exact ⟨rfl, N4.trans n5⟩
  · have q1 := fun w => iencode_no o a b m w ok
    clear ok
    go_enter Tryd.func4, Tryd.ntmps4
    go_wp2_with fail
    refine (q1 _).mono ?_
    rintro e w1 ⟨rfl, n1⟩
    have NT := (((New.refl w).alloc #[.int .i64 o, .int .i64 a, .int .i64 b, .int .i64 m] 23)).trans n1
    clear n1 q1
    go_wp2_with fail
    by_cases hv : a1 / 16777216 ≤ 41
    · have iok : InOk (a1 / 16777216) (a1 / 1048576 % 16) (a1 / 65536 % 16) (imv a1) := by have := imv_bd a1; unfold InOk; omega
      have qd := fun w => idecode_ok a1 w b1.1 b1.2 hv
      have qe := fun w => iencode_ok _ _ _ _ w iok
      have qc := fun w => icheck_ok _ _ _ _ w iok
      rw [innum_back a1 b1.1 b1.2] at qe
      clear iok hv
      generalize a1 / 16777216 = y0 at *
      generalize a1 / 1048576 % 16 = y1 at *
      generalize a1 / 65536 % 16 = y2 at *
      generalize imv a1 = y3 at *
      refine (qd _).mono ?_
      rintro e w3 ⟨rfl, n3⟩
      have N3 := NT.trans n3
      clear n3
      go_wp2_with fail
      have N3' := N3.alloc #[.int .i64 y0, .int .i64 y1, .int .i64 y2, .int .i64 y3] 29
      have xA := Box.here w3 _ #[.int .i64 y0, .int .i64 y1, .int .i64 y2, .int .i64 y3] 29 rfl
      refine (qe _).mono ?_
      rintro e w4 ⟨rfl, n4⟩
      have N4 := N3'.trans n4
      have x4 := xA.new n4
      clear N3 N3' xA n4
      obtain ⟨xa, xb, xc, xd⟩ := x4.four
      have z4 := x4.lt
      go_wp2_with fail
      refine (qc _).mono ?_
      rintro e w5 ⟨rfl, n5⟩
      have N5 := N4.trans n5
      go_wp2_with fail
      refine (isure_any _).mono ?_
      rintro e w6 ⟨rfl, n6⟩
      go_wp2_with fail
      go_ret
      exact ⟨rfl, N5.trans n6⟩
    · refine (idecode_no a1 _ b1.1 b1.2 (by omega)).mono ?_
      rintro e w3 ⟨rfl, n3⟩
      have N3 := NT.trans n3
      clear n3
      have l3 := hl.new N3
      have g1 : (704643072 : Int) ≤ a1 := by omega
      clear hv
      go_wp2_with fail
      have nA := (New.refl w3).alloc #[.int .i64 0, .int .i64 0, .int .i64 0, .int .i64 0] 29
      have xA := Box.here w3 _ #[.int .i64 0, .int .i64 0, .int .i64 0, .int .i64 0] 29 rfl
      refine (num_err 22 _ (l3.new nA)).mono ?_
      rintro e w4 ⟨rfl, n4⟩
      have N4 := (N3.trans nA).trans n4
      have x4 := xA.new n4
      clear nA xA n4
      obtain ⟨xa, xb, xc, xd⟩ := x4.four
      have z4 := x4.lt
      go_wp2_with fail
      refine (isure_any _).mono ?_
      rintro e w5 ⟨rfl, n5⟩
      go_wp2_with fail
      go_ret
      exact ⟨rfl, N4.trans n5⟩

/-! ### THE ROW's STEP: WRITTEN OUT: LEAVE IT -/
theorem door_met (os : Os) (args : Array Value) : laidMetH Tryd.prog Rows.isaBackRow.laid ((World.doorLaid Tryd.prog 400 os).forCall (fun _ _ => 0) ⟨#[], args, []⟩).memory :=
  laidMetH_of_parts3 (fuel := 8) (laidMet_of_run' 8 (by kernel_rfl) (by kernel_rfl)) (by kernel_rfl) (by kernel_rfl)
set_option maxRecDepth 100000 in
theorem lifted (os : Os) (started : os.Started) (H : Type) (enc : TypeId × Value → H) :
    ReturnsInHanded {} Tryd.checked os 4 .any (fun w args => (Rows.isaBackSpec.pre enc Tryd.prog Tryd.f4 [] false w args ∧ laidMetH Tryd.prog Rows.isaBackRow.laid w) ∧ sizedMet enc Tryd.prog Tryd.f4 (OpenSpec.ofChange Rows.isaBackSpec) false w args) (Rows.isaBackSpec.post enc Tryd.prog Tryd.f4 false true false false) := by
  refine returnsInHanded_of_change_and (C := Tryd.checked) (X := fun w _ => laidMetH Tryd.prog Rows.isaBackRow.laid w) (fun _ _ _ hh h => h.of_heap hh) own started (by kernel_rfl) Tryd.func4
    (ChangeSpec.witness_shaped (enc := enc) (C := Tryd.checked) (os := os) (X := fun w _ => laidMetH Tryd.prog Rows.isaBackRow.laid w) false (World.doorLaid Tryd.prog 400 os) #[.agg #[.int .i64 0, .int .i64 0, .int .i64 0, .int .i64 0], .int .u32 0] 8 rfl (World.shaped_of_RefB (by kernel_rfl) (by kernel_rfl)) (by kernel_rfl) (by kernel_rfl) (by kernel_rfl) (door_met os _)) ?_
  intro W base args ds gs before hval0 hW _ _ hL _
  have hL' : laidMet Tryd.prog [] W ∧ handlesMet Tryd.prog [("errors.errorType", Rows.laid_errors_errorType)] W := hL
  have hval : ∀ (j : Nat) t v, Tryd.f4.params[j]? = some t → args[j]? = some v → Value.okWide Tryd.prog W .any base t v := hval0
  have hW' := hW
  obtain ⟨p, q, hA0, hV, rfl, hfz, hnd⟩ := hW
  have hA : DataW.TrodAll enc Tryd.prog W 0 (fun _ => true) true Tryd.f4.params.toList args.toList ds p := hA0
  rw [Tryd.params4] at hA hval
  obtain ⟨v0, vs0, d0, ds0, p0, q0, hargs, rfl, rfl, h0, r0⟩ := trodAll_cons hA
  obtain ⟨v1, vs1, d1, ds1, p1, q1, rfl, rfl, rfl, h1, r1⟩ := trodAll_cons r0
  obtain ⟨rfl, rfl, rfl⟩ := trodAll_nil r1
  obtain rfl : args = #[v0, v1] := by cases args; simp_all
  obtain ⟨rfl, rfl⟩ := trodVars_none hV
  have k0 := h0
  have lt0 : ∀ x ∈ p0, x.block < W.heap.size := by obtain ⟨m, hm⟩ := k0; exact DataW.trod_lt m _ _ _ hm
  have w0 : Flat [some .i64, some .i64, some .i64, some .i64] v0 := flat_of Tryd.underlying23 (by kernel_rfl) (by kernel_rfl) rfl (fun i k f hi hf => by
    rcases i with _| _| _| _| _
    · (simp at hi hf; subst hi hf; exact Tryd.underlying3)
    · (simp at hi hf; subst hi hf; exact Tryd.underlying3)
    · (simp at hi hf; subst hi hf; exact Tryd.underlying3)
    · (simp at hi hf; subst hi hf; exact Tryd.underlying3)
    · simp at hi) (hval 0 23 v0 rfl rfl) h0
  obtain ⟨a1, rfl, rfl, rfl, w1⟩ := open_int Tryd.underlying24 (hval 1 24 v1 rfl rfl) h1
  clear hA0 hval0
  refine (walk v0 a1 W w0 w1 (handle_of_hs hL'.2)).mono fun e W' ⟨he, bel⟩ => ?_
  subst he
  exact ⟨_, rfl, _, _, _, [], _, [], hW', trodAll_mk1 (shut_bool Tryd.underlying4 _), (trodAll_cons_mk (Below.trod laidOut (by kernel_rfl) (of_decide_eq_true (by kernel_rfl)) k0 bel lt0) (trodAll_cons_mk (shut_int Tryd.underlying24 w1) trodAll_mk0)), rfl, bel.frame _, fun h => by cases h⟩

theorem over : Rows.isaBackRow.holds Tryd.pinned (OpenSpec.ofChange Rows.isaBackSpec) :=
  OpenClaim.holds_of_wide 4 Tryd.f4 rfl rfl rfl rfl rfl rfl rfl ⟨rfl, rfl, rfl, rfl, rfl⟩ rfl rfl rfl rfl rfl (by kernel_rfl) Tryd.func4 (by kernel_rfl)
    (of_decide_eq_true (by kernel_rfl)) (by unfold Func.isWrapper; first | (rw [if_pos (by decide +kernel)]; kernel_rfl) | (rw [if_neg (by decide +kernel)]; exact ⟨rfl, rfl⟩))
    (fun os started H enc _ => lifted os started H enc)

theorem proved : Rows.IsaBackSaid := over
theorem card : Rows.IsaBackCardSaid :=
  Claim7.holds_tied_plain_at .later [] [.handle] true (true, "a34df0952d84456f2b781c03b908411d5d9cb3e52b1bd21a979c0bd4a12e62fd") true
    over (fun _ h => by cases h) (by kernel_rfl) (fun _ h => by cases h) isaBack_row_tie rfl ⟨rfl, rfl⟩ (by kernel_rfl) rfl
    (fun f fn hf hfn => by
      obtain rfl : f = 4 := Option.some.inj ((show Tryd.prog.funcNamed "halter/halterlaw08.IsaBack" = some 4 by kernel_rfl).symm.trans hf) |>.symm
      obtain rfl : fn = Tryd.f4 := (Option.some.inj (Tryd.func4.symm.trans hfn)).symm
      exact ⟨by kernel_rfl, fun j t ht => by
        rw [Tryd.params4] at ht
        have hm : t ∈ [23, 24] := by have := Array.mem_of_getElem? ht; simpa using this
        have hall : ([23, 24].all fun u => !Tryd.prog.wantsStandIn u) = true := by kernel_rfl
        exact (show Tryd.prog.wantsStandIn t = false by simpa using List.all_eq_true.1 hall t hm)⟩)
    (by kernel_rfl)
#print axioms card
end Go.Proofs.YtmllcppndlcgnaaDoor.isaBack
