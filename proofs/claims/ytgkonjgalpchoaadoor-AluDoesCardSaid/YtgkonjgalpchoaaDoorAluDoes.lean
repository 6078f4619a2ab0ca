/- What any operation makes of any two numbers of 32 bits, the flags then, and whether any jump is taken, or the errors, are the document's own; the statement holds for every input, where the library's variable errors.errorType holds what its text lays, which the card ties. -/
import Derived.Test.YtgkonjgalpchoaaDoorRows
import Derived.Test.YtgkonjgalpchoaaDoorAlD
import Derived.Test.YtgkonjgalpchoaaDoorAlF
import Derived.Test.YtgkonjgalpchoaaDoorNum
import Derived.Test.YtgkonjgalpchoaaDoorFlatTy
import Derived.Test.YtgkonjgalpchoaaDoorBox
import Derived.Test.YtgkonjgalpchoaaDoorCards
import Derived.Test.YtgkonjgalpchoaaDoorTie
import Derived.LaidMore
import Derived.LaidLaws
import Derived.LaidHandle
import Derived.Test.YtgkonjgalpchoaaDoorLay
import Derived.Test.YtgkonjgalpchoaaDoorPost
import Derived.WalkKit
import Derived.ProofKit
import Derived.OpenShut
import Derived.ShutString
import Derived.ChangeOld
import Derived.Below
namespace Go.Proofs.YtgkonjgalpchoaaDoor.aluDoes
open Go.ChangeShapes Go.WideShapes Go.ChangeAt Go.RowKit
open Go.ChangeMaps (open_string shut_string)
set_option linter.unusedVariables false

theorem own : ownKnob Tryd.prog.godebug = none := by kernel_rfl
theorem laidOut : laidOutB Tryd.prog = true := by kernel_rfl

/-- WHAT THE WALK IS TOLD OF A SLICE OF INTEGERS THAT CAME IN: it is nil; or it leads to a row of 'cap' cells, the numbers 'zs' (the first 'len' are its elements, the rest its spare room), each fitting its kind. -/
def IsRow (k : IntKind) (w : World) (a : Option Addr) (len cap : Nat) (zs : List Int) : Prop :=
  (a = none ∧ len = 0 ∧ cap = 0 ∧ zs = []) ∨
  ∃ x, a = some x ∧ len ≤ cap ∧ cap ≤ maxLen ∧ zs.length = cap ∧ (∀ i, i < zs.length → w.cell? (x.add i) = some (.int k (zs.getD i 0))) ∧ ∀ n ∈ zs, (Lit.int k n).wf = true

/-! ### STEP 1: THE WALK: the Go text returns true, AND WRITES NOTHING THAT WAS THERE: 'Below w.heap.size w w'' (Derived/Below.lean: '.refl', '.alloc', '.drew', '.setCell' at a new block, '.trans'). Open each 'IsRow' by 'rcases' AHEAD of 'go_enter'; part every test ahead of the walk. -/
theorem walk (a0 : Int) (v1 : Value) (a2 : Int) (w : World) (w0 : (Lit.int .i64 a0).wf = true) (w1 : Flat [some .u32, some .u32, some .u32] v1) (w2 : (Lit.int .i64 a2).wf = true) (hl : Laid w) :
    Calls Tryd.prog 3 #[.int .i64 a0, v1, .int .i64 a2] w fun e w' => e = .returned (.bool true) ∧ Below w.heap.size w w' := by
  obtain ⟨x0, x1, x2, rfl, ⟨a, rfl, ha⟩, ⟨b, rfl, hb⟩, ⟨f, rfl, hf⟩⟩ := flat3 w1
  have ha := u32_bd ha
  have hb := u32_bd hb
  have hf := u32_bd hf
  have q1 := fun w => do_any a0 a b f w ha.1 ha.2 hb.1 hb.2 hf.1 hf.2
  have q2 := fun w => rdo_any a0 a b f w ha.1 ha.2 hb.1 hb.2 hf.1 hf.2
  have q3 := fun w => taken_any a2 f w hf.1 hf.2
  have q4 := fun w => rtaken_any a2 f w hf.1 hf.2
  have q6 := fun c w h => num_er c w h
  clear w0 w1 w2 ha hb hf
  generalize dov a0 a b = V at *
  generalize dof a0 a b f = F at *
  generalize doe a0 b = E at *
  generalize tkv a2 f = T at *
  generalize tke a2 = I at *
  have c0 : (w.alloc (.cells #[.int .u32 a, .int .u32 b, .int .u32 f] 23)).cell? ⟨w.heap.size, 0, none⟩ = some (.int .u32 a) := by simp
  have c1 : (w.alloc (.cells #[.int .u32 a, .int .u32 b, .int .u32 f] 23)).cell? ⟨w.heap.size, 1, none⟩ = some (.int .u32 b) := by simp
  have c2 : (w.alloc (.cells #[.int .u32 a, .int .u32 b, .int .u32 f] 23)).cell? ⟨w.heap.size, 2, none⟩ = some (.int .u32 f) := by simp
  go_enter Tryd.func3, Tryd.ntmps3
  go_wp2_with fail
  refine (q1 _).mono ?_
  rintro e w1 ⟨rfl, n1⟩
  have c0 := New.keeps n1 c0
  have c1 := New.keeps n1 c1
  have c2 := New.keeps n1 c2
  have n1 := New.trans (New.alloc (New.refl w) _ _) n1
  go_wp2_with fail
  refine (q2 _).mono ?_
  rintro e w2 ⟨rfl, n2⟩
  have c2 := New.keeps n2 c2
  clear c0 c1
  go_wp2_with fail
  refine (q3 _).mono ?_
  rintro e w3 ⟨rfl, n3⟩
  have c2 := New.keeps n3 c2
  go_wp2_with fail
  refine (q4 _).mono ?_
  rintro e w4 ⟨rfl, n4⟩
  have h4 := New.trans (New.trans (New.trans n1 n2) n3) n4
  go_wp2_with fail
  refine (q6 _ _ (hl.new h4)).mono ?_
  rintro e w5 ⟨rfl, n5⟩
  have h5 := New.trans h4 n5
  go_wp2_with fail
  refine (q6 _ _ (hl.new h5)).mono ?_
  rintro e w6 ⟨rfl, n6⟩
  go_wp2_with fail
  refine (al_sure_any _).mono ?_
  rintro e w7 ⟨rfl, n7⟩
  go_wp2
  go_ret
  exact ⟨rfl, New.trans (New.trans h5 n6) n7⟩

/-! ### THE ROW's STEP: WRITTEN OUT: LEAVE IT -/
theorem door_met (os : Os) (args : Array Value) : laidMetH Tryd.prog Rows.aluDoesRow.laid ((World.doorLaid Tryd.prog 400 os).forCall (fun _ _ => 0) ⟨#[], args, []⟩).memory :=
  laidMetH_of_parts3 (fuel := 8) (laidMet_of_run' 8 (by kernel_rfl) (by kernel_rfl)) (by kernel_rfl) (by kernel_rfl)
set_option maxRecDepth 100000 in
theorem lifted (os : Os) (started : os.Started) (H : Type) (enc : TypeId × Value → H) :
    ReturnsInHanded {} Tryd.checked os 3 .any (fun w args => (Rows.aluDoesSpec.pre enc Tryd.prog Tryd.f3 [] false w args ∧ laidMetH Tryd.prog Rows.aluDoesRow.laid w) ∧ sizedMet enc Tryd.prog Tryd.f3 (OpenSpec.ofChange Rows.aluDoesSpec) false w args) (Rows.aluDoesSpec.post enc Tryd.prog Tryd.f3 false true false false) := by
  refine returnsInHanded_of_change_and (C := Tryd.checked) (X := fun w _ => laidMetH Tryd.prog Rows.aluDoesRow.laid w) (fun _ _ _ hh h => h.of_heap hh) own started (by kernel_rfl) Tryd.func3
    (ChangeSpec.witness_shaped (enc := enc) (C := Tryd.checked) (os := os) (X := fun w _ => laidMetH Tryd.prog Rows.aluDoesRow.laid w) false (World.doorLaid Tryd.prog 400 os) #[.int .i64 0, .agg #[.int .u32 0, .int .u32 0, .int .u32 0], .int .i64 0] 8 rfl (World.shaped_of_RefB (by kernel_rfl) (by kernel_rfl)) (by kernel_rfl) (by kernel_rfl) (by kernel_rfl) (door_met os _)) ?_
  intro W base args ds gs before hval0 hW _ _ hL _
  have hL' : laidMet Tryd.prog [] W ∧ handlesMet Tryd.prog [("errors.errorType", Rows.laid_errors_errorType)] W := hL
  have hval : ∀ (j : Nat) t v, Tryd.f3.params[j]? = some t → args[j]? = some v → Value.okWide Tryd.prog W .any base t v := hval0
  have hW' := hW
  obtain ⟨p, q, hA0, hV, rfl, hfz, hnd⟩ := hW
  have hA : DataW.TrodAll enc Tryd.prog W 0 (fun _ => true) true Tryd.f3.params.toList args.toList ds p := hA0
  rw [Tryd.params3] at hA hval
  obtain ⟨v0, vs0, d0, ds0, p0, q0, hargs, rfl, rfl, h0, r0⟩ := trodAll_cons hA
  obtain ⟨v1, vs1, d1, ds1, p1, q1, rfl, rfl, rfl, h1, r1⟩ := trodAll_cons r0
  obtain ⟨v2, vs2, d2, ds2, p2, q2, rfl, rfl, rfl, h2, r2⟩ := trodAll_cons r1
  obtain ⟨rfl, rfl, rfl⟩ := trodAll_nil r2
  obtain rfl : args = #[v0, v1, v2] := by cases args; simp_all
  obtain ⟨rfl, rfl⟩ := trodVars_none hV
  obtain ⟨a0, rfl, rfl, rfl, w0⟩ := open_int Tryd.underlying3 (hval 0 3 v0 rfl rfl) h0
  have k1 := h1
  have lt1 : ∀ x ∈ p1, x.block < W.heap.size := by obtain ⟨m, hm⟩ := k1; exact DataW.trod_lt m _ _ _ hm
  have w1 : Flat [some .u32, some .u32, some .u32] v1 := flat_of_arr (ks := [some .u32, some .u32, some .u32]) Tryd.underlying23 (by
    obtain ⟨ks, hk, e⟩ : ∃ ks, FlatTy Tryd.prog 23 ks ∧ ks = [some .u32, some .u32, some .u32] := ⟨_, (.array Tryd.underlying23 (.int Tryd.underlying22) (by kernel_rfl)), rfl⟩
    rw [← e]; exact hk) (by kernel_rfl) (hval 1 23 v1 rfl rfl) h1
  obtain ⟨a2, rfl, rfl, rfl, w2⟩ := open_int Tryd.underlying3 (hval 2 3 v2 rfl rfl) h2
  clear hA0 hval0
  refine (walk a0 v1 a2 W w0 w1 w2 (handle_of_hs hL'.2)).mono fun e W' ⟨he, bel⟩ => ?_
  subst he
  exact ⟨_, rfl, _, _, _, [], _, [], hW', trodAll_mk1 (shut_bool Tryd.underlying4 _), (trodAll_cons_mk (shut_int Tryd.underlying3 w0) (trodAll_cons_mk (Below.trod laidOut (by kernel_rfl) (of_decide_eq_true (by kernel_rfl)) k1 bel lt1) (trodAll_cons_mk (shut_int Tryd.underlying3 w2) trodAll_mk0))), rfl, bel.frame _, fun h => by cases h⟩

theorem over : Rows.aluDoesRow.holds Tryd.pinned (OpenSpec.ofChange Rows.aluDoesSpec) :=
  OpenClaim.holds_of_wide 3 Tryd.f3 rfl rfl rfl rfl rfl rfl rfl ⟨rfl, rfl, rfl, rfl, rfl⟩ rfl rfl rfl rfl rfl (by kernel_rfl) Tryd.func3 (by kernel_rfl)
    (of_decide_eq_true (by kernel_rfl)) (by unfold Func.isWrapper; first | (rw [if_pos (by decide +kernel)]; kernel_rfl) | (rw [if_neg (by decide +kernel)]; exact ⟨rfl, rfl⟩))
    (fun os started H enc _ => lifted os started H enc)

theorem proved : Rows.AluDoesSaid := over
theorem card : Rows.AluDoesCardSaid :=
  Claim7.holds_tied_plain_at .later [] [.handle] true (true, "8818b6878aa664a97f982dd432ddfbc24d09b450e8c74292fff1b5b194f77d14") true
    over (fun _ h => by cases h) (by kernel_rfl) (fun _ h => by cases h) aluDoes_row_tie rfl ⟨rfl, rfl⟩ (by kernel_rfl) rfl
    (fun f fn hf hfn => by
      obtain rfl : f = 3 := Option.some.inj ((show Tryd.prog.funcNamed "halter/halterlaw11.AluDoes" = some 3 by kernel_rfl).symm.trans hf) |>.symm
      obtain rfl : fn = Tryd.f3 := (Option.some.inj (Tryd.func3.symm.trans hfn)).symm
      exact ⟨by kernel_rfl, fun j t ht => by
        rw [Tryd.params3] at ht
        have hm : t ∈ [3, 23, 3] := by have := Array.mem_of_getElem? ht; simpa using this
        have hall : ([3, 23, 3].all fun u => !Tryd.prog.wantsStandIn u) = true := by kernel_rfl
        exact (show Tryd.prog.wantsStandIn t = false by simpa using List.all_eq_true.1 hall t hm)⟩)
    (by kernel_rfl)
#print axioms card
end Go.Proofs.YtgkonjgalpchoaaDoor.aluDoes
