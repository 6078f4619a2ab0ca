/- Any instruction as a number, the instruction of any number, and whether an instruction may be, or the errors, are the document's own; the statement holds for every input, where the library's variable errors.errorType holds what its own text lays, which the card ties. -/
import Derived.Test.YtmllcppndlcgnaaDoorRows
import Derived.Test.YtmllcppndlcgnaaDoorIsD
import Derived.Test.YtmllcppndlcgnaaDoorFlat
import Derived.Test.YtmllcppndlcgnaaDoorBox
import Derived.Test.YtmllcppndlcgnaaDoorCards
import Derived.Test.YtmllcppndlcgnaaDoorTie
import Derived.LaidMore
import Derived.LaidLaws
import Derived.LaidHandle
import Derived.Test.YtmllcppndlcgnaaDoorLay
import Derived.Test.YtmllcppndlcgnaaDoorPost
import Derived.WalkKit
import Derived.ProofKit
import Derived.OpenShut
import Derived.ShutString
import Derived.ChangeOld
import Derived.Below
namespace Go.Proofs.YtmllcppndlcgnaaDoor.isaForms
open Go.ChangeShapes Go.WideShapes Go.ChangeAt Go.RowKit
open Go.ChangeMaps (open_string shut_string)
set_option linter.unusedVariables false

theorem own : ownKnob Tryd.prog.godebug = none := by kernel_rfl
theorem laidOut : laidOutB Tryd.prog = true := by kernel_rfl

/-- WHAT THE WALK IS TOLD OF A SLICE OF INTEGERS THAT CAME IN: it is nil; or it leads to a row of 'cap' cells, the numbers 'zs' (the first 'len' are its elements, the rest its spare room), each fitting its kind. -/
def IsRow (k : IntKind) (w : World) (a : Option Addr) (len cap : Nat) (zs : List Int) : Prop :=
  (a = none ∧ len = 0 ∧ cap = 0 ∧ zs = []) ∨
  ∃ x, a = some x ∧ len ≤ cap ∧ cap ≤ maxLen ∧ zs.length = cap ∧ (∀ i, i < zs.length → w.cell? (x.add i) = some (.int k (zs.getD i 0))) ∧ ∀ n ∈ zs, (Lit.int k n).wf = true

/-! ### STEP 1: THE WALK: the Go text returns true, AND WRITES NOTHING THAT WAS THERE: 'Below w.heap.size w w'' (Derived/Below.lean: '.refl', '.alloc', '.drew', '.setCell' at a new block, '.trans'). Open each 'IsRow' by 'rcases' AHEAD of 'go_enter'; part every test ahead of the walk. -/
set_option maxHeartbeats 8000000 in
set_option maxRecDepth 100000 in
theorem walk (v0 : Value) (a1 : Int) (w : World) (w0 : Flat [some .i64, some .i64, some .i64, some .i64] v0) (w1 : (Lit.int .u32 a1).wf = true) (hl : Laid w) :
    Calls Tryd.prog 3 #[v0, .int .u32 a1] w fun e w' => e = .returned (.bool true) ∧ Below w.heap.size w w' := by
  obtain ⟨x0, x1, x2, x3, rfl, ⟨o, rfl, _⟩, ⟨a, rfl, _⟩, ⟨b, rfl, _⟩, ⟨m, rfl, _⟩⟩ := flat4 w0
  have b1 := u32_bd w1
  have hlt := hl.lt
  clear w0 w1
  have q1 := fun w => iencode_any o a b m w
  have q2 := fun w => irencode_any o a b m w
  have q3 := fun w => idecode_any a1 w b1.1 b1.2
  have q4 := fun w => irdecode_any a1 w b1.1 b1.2
  have q5 := fun w => icheck_any o a b m w
  clear b1
  generalize icv o a b m = ev at q1 q2
  generalize ice o a b m = ee at q1 q2 q5
  generalize idn a1 (a1 / 16777216) = y0 at q3 q4
  generalize idn a1 (a1 / 1048576 % 16) = y1 at q3 q4
  generalize idn a1 (a1 / 65536 % 16) = y2 at q3 q4
  generalize idn a1 (imv a1) = y3 at q3 q4
  generalize ide a1 = de at q3 q4
  have nA := (New.refl w).alloc #[.int .i64 o, .int .i64 a, .int .i64 b, .int .i64 m] 23
  have eA : Box (w.alloc (.cells #[.int .i64 o, .int .i64 a, .int .i64 b, .int .i64 m] 23)) w.heap.size #[.int .i64 o, .int .i64 a, .int .i64 b, .int .i64 m] 23 := Box.here w _ _ _ rfl
  go_enter Tryd.func3, Tryd.ntmps3
  go_wp2_with fail
  refine (q1 _).mono ?_
  rintro e w1 ⟨rfl, n1⟩
  have N1 := nA.trans n1
  have e1 := eA.new n1
  clear nA eA n1
  have z1 : w.heap.size < w1.heap.size := e1.lt
  obtain ⟨c0, c1, c2, c3⟩ := e1.four
  go_wp2_with fail
  refine (q2 _).mono ?_
  rintro e w2 ⟨rfl, n2⟩
  have N2 := N1.trans n2
  have e2 := e1.new n2
  clear N1 e1 z1 c0 c1 c2 c3 n2
  go_wp2_with fail
  refine (q3 _).mono ?_
  rintro e w3 ⟨rfl, n3⟩
  have N3 := N2.trans n3
  have e3 := e2.new n3
  clear N2 e2 n3
  go_wp2_with fail
  have NA := N3.alloc #[.int .i64 y0, .int .i64 y1, .int .i64 y2, .int .i64 y3] 29
  have eA := e3.alloc (.cells #[.int .i64 y0, .int .i64 y1, .int .i64 y2, .int .i64 y3] 29)
  have yA := Box.here w3 _ #[.int .i64 y0, .int .i64 y1, .int .i64 y2, .int .i64 y3] 29 rfl
  clear N3 e3
  refine (q4 _).mono ?_
  rintro e w4 ⟨rfl, n4⟩
  have N4 := NA.trans n4
  have e4 := eA.new n4
  have y4 := yA.new n4
  clear NA yA eA n4
  have z4 : w.heap.size < w4.heap.size := e4.lt
  have g4 : w3.heap.size < w4.heap.size := y4.lt
  obtain ⟨c0, c1, c2, c3⟩ := e4.four
  go_wp2_with fail
  clear c0 c1 c2 c3
  have NA := N4.alloc #[.int .i64 y0, .int .i64 y1, .int .i64 y2, .int .i64 y3] 23
  have yA := y4.alloc (.cells #[.int .i64 y0, .int .i64 y1, .int .i64 y2, .int .i64 y3] 23)
  have rA := Box.here w4 _ #[.int .i64 y0, .int .i64 y1, .int .i64 y2, .int .i64 y3] 23 rfl
  clear N4 y4 e4 z4 g4
  refine (q5 _).mono ?_
  rintro e w5 ⟨rfl, n5⟩
  have N5 := NA.trans n5
  have y5 := yA.new n5
  have r5 := rA.new n5
  clear NA yA rA n5
  have l5 : Laid w5 := hl.new N5
  obtain ⟨ya, yb, yc, yd⟩ := y5.four
  obtain ⟨ra, rb, rc, rd⟩ := r5.four
  clear y5 r5
  go_wp2_with fail
  clear q1 q2 q3 q4 q5 hlt hl
  refine (num_er _ _ l5).mono ?_
  rintro e w6 ⟨rfl, n6⟩
  have yA := n6.keeps ya
  have yB := n6.keeps yb
  have yC := n6.keeps yc
  have yD := n6.keeps yd
  have rA := n6.keeps ra
  have rB := n6.keeps rb
  have rC := n6.keeps rc
  have rD := n6.keeps rd
  go_wp2_with fail
  refine (num_er _ _ (l5.new n6)).mono ?_
  rintro e w7 ⟨rfl, n7⟩
  go_wp2_with fail
  refine (num_er _ _ (l5.new (n6.trans n7))).mono ?_
  rintro e w8 ⟨rfl, n8⟩
  go_wp2_with fail
  refine (isure_any _).mono ?_
  rintro e w9 ⟨rfl, n9⟩
  go_wp2_with fail
  go_ret
  exact ⟨rfl, N5.trans (((n6.trans n7).trans n8).trans n9)⟩

/-! ### THE ROW's STEP: WRITTEN OUT: LEAVE IT -/
theorem door_met (os : Os) (args : Array Value) : laidMetH Tryd.prog Rows.isaFormsRow.laid ((World.doorLaid Tryd.prog 400 os).forCall (fun _ _ => 0) ⟨#[], args, []⟩).memory :=
  laidMetH_of_parts3 (fuel := 8) (laidMet_of_run' 8 (by kernel_rfl) (by kernel_rfl)) (by kernel_rfl) (by kernel_rfl)
set_option maxRecDepth 100000 in
theorem lifted (os : Os) (started : os.Started) (H : Type) (enc : TypeId × Value → H) :
    ReturnsInHanded {} Tryd.checked os 3 .any (fun w args => (Rows.isaFormsSpec.pre enc Tryd.prog Tryd.f3 [] false w args ∧ laidMetH Tryd.prog Rows.isaFormsRow.laid w) ∧ sizedMet enc Tryd.prog Tryd.f3 (OpenSpec.ofChange Rows.isaFormsSpec) false w args) (Rows.isaFormsSpec.post enc Tryd.prog Tryd.f3 false true false false) := by
  refine returnsInHanded_of_change_and (C := Tryd.checked) (X := fun w _ => laidMetH Tryd.prog Rows.isaFormsRow.laid w) (fun _ _ _ hh h => h.of_heap hh) own started (by kernel_rfl) Tryd.func3
    (ChangeSpec.witness_shaped (enc := enc) (C := Tryd.checked) (os := os) (X := fun w _ => laidMetH Tryd.prog Rows.isaFormsRow.laid w) false (World.doorLaid Tryd.prog 400 os) #[.agg #[.int .i64 0, .int .i64 0, .int .i64 0, .int .i64 0], .int .u32 0] 8 rfl (World.shaped_of_RefB (by kernel_rfl) (by kernel_rfl)) (by kernel_rfl) (by kernel_rfl) (by kernel_rfl) (door_met os _)) ?_
  intro W base args ds gs before hval0 hW _ _ hL _
  have hL' : laidMet Tryd.prog [] W ∧ handlesMet Tryd.prog [("errors.errorType", Rows.laid_errors_errorType)] W := hL
  have hval : ∀ (j : Nat) t v, Tryd.f3.params[j]? = some t → args[j]? = some v → Value.okWide Tryd.prog W .any base t v := hval0
  have hW' := hW
  obtain ⟨p, q, hA0, hV, rfl, hfz, hnd⟩ := hW
  have hA : DataW.TrodAll enc Tryd.prog W 0 (fun _ => true) true Tryd.f3.params.toList args.toList ds p := hA0
  rw [Tryd.params3] at hA hval
  obtain ⟨v0, vs0, d0, ds0, p0, q0, hargs, rfl, rfl, h0, r0⟩ := trodAll_cons hA
  obtain ⟨v1, vs1, d1, ds1, p1, q1, rfl, rfl, rfl, h1, r1⟩ := trodAll_cons r0
  obtain ⟨rfl, rfl, rfl⟩ := trodAll_nil r1
  obtain rfl : args = #[v0, v1] := by cases args; simp_all
  obtain ⟨rfl, rfl⟩ := trodVars_none hV
  have k0 := h0
  have lt0 : ∀ x ∈ p0, x.block < W.heap.size := by obtain ⟨m, hm⟩ := k0; exact DataW.trod_lt m _ _ _ hm
  have w0 : Flat [some .i64, some .i64, some .i64, some .i64] v0 := flat_of Tryd.underlying23 (by kernel_rfl) (by kernel_rfl) rfl (fun i k f hi hf => by
    rcases i with _| _| _| _| _
    · (simp at hi hf; subst hi hf; exact Tryd.underlying3)
    · (simp at hi hf; subst hi hf; exact Tryd.underlying3)
    · (simp at hi hf; subst hi hf; exact Tryd.underlying3)
    · (simp at hi hf; subst hi hf; exact Tryd.underlying3)
    · simp at hi) (hval 0 23 v0 rfl rfl) h0
  obtain ⟨a1, rfl, rfl, rfl, w1⟩ := open_int Tryd.underlying24 (hval 1 24 v1 rfl rfl) h1
  clear hA0 hval0
  refine (walk v0 a1 W w0 w1 (handle_of_hs hL'.2)).mono fun e W' ⟨he, bel⟩ => ?_
  subst he
  exact ⟨_, rfl, _, _, _, [], _, [], hW', trodAll_mk1 (shut_bool Tryd.underlying4 _), (trodAll_cons_mk (Below.trod laidOut (by kernel_rfl) (of_decide_eq_true (by kernel_rfl)) k0 bel lt0) (trodAll_cons_mk (shut_int Tryd.underlying24 w1) trodAll_mk0)), rfl, bel.frame _, fun h => by cases h⟩

theorem over : Rows.isaFormsRow.holds Tryd.pinned (OpenSpec.ofChange Rows.isaFormsSpec) :=
  OpenClaim.holds_of_wide 3 Tryd.f3 rfl rfl rfl rfl rfl rfl rfl ⟨rfl, rfl, rfl, rfl, rfl⟩ rfl rfl rfl rfl rfl (by kernel_rfl) Tryd.func3 (by kernel_rfl)
    (of_decide_eq_true (by kernel_rfl)) (by unfold Func.isWrapper; first | (rw [if_pos (by decide +kernel)]; kernel_rfl) | (rw [if_neg (by decide +kernel)]; exact ⟨rfl, rfl⟩))
    (fun os started H enc _ => lifted os started H enc)

theorem proved : Rows.IsaFormsSaid := over
theorem card : Rows.IsaFormsCardSaid :=
  Claim7.holds_tied_plain_at .later [] [.handle] true (true, "a34df0952d84456f2b781c03b908411d5d9cb3e52b1bd21a979c0bd4a12e62fd") true
    over (fun _ h => by cases h) (by kernel_rfl) (fun _ h => by cases h) isaForms_row_tie rfl ⟨rfl, rfl⟩ (by kernel_rfl) rfl
    (fun f fn hf hfn => by
      obtain rfl : f = 3 := Option.some.inj ((show Tryd.prog.funcNamed "halter/halterlaw08.IsaForms" = some 3 by kernel_rfl).symm.trans hf) |>.symm
      obtain rfl : fn = Tryd.f3 := (Option.some.inj (Tryd.func3.symm.trans hfn)).symm
      exact ⟨by kernel_rfl, fun j t ht => by
        rw [Tryd.params3] at ht
        have hm : t ∈ [23, 24] := by have := Array.mem_of_getElem? ht; simpa using this
        have hall : ([23, 24].all fun u => !Tryd.prog.wantsStandIn u) = true := by kernel_rfl
        exact (show Tryd.prog.wantsStandIn t = false by simpa using List.all_eq_true.1 hall t hm)⟩)
    (by kernel_rfl)
#print axioms card
end Go.Proofs.YtmllcppndlcgnaaDoor.isaForms
