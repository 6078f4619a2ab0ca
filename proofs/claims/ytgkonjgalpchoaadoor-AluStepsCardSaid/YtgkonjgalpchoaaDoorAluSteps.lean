/- Whatever is done, the flag Step stays as it was, the answer hangs on no flag, and nothing above Step is ever set; the statement holds for every input, where the library's variable errors.errorType holds what its text lays, which the card ties. -/
import Derived.Test.YtgkonjgalpchoaaDoorRows
import Derived.Test.YtgkonjgalpchoaaDoorAlF
import Derived.Test.YtgkonjgalpchoaaDoorNum
import Derived.Test.YtgkonjgalpchoaaDoorFlatTy
import Derived.Test.YtgkonjgalpchoaaDoorBox
import Derived.Deep.QuietTactic
import Derived.BigQuiet
import Derived.Test.YtgkonjgalpchoaaDoorCards
import Derived.Test.YtgkonjgalpchoaaDoorTie
import Derived.LaidMore
import Derived.LaidLaws
import Derived.LaidHandle
import Derived.Test.YtgkonjgalpchoaaDoorLay
import Derived.Test.YtgkonjgalpchoaaDoorPost
import Derived.WalkKit
import Derived.ProofKit
import Derived.OpenShut
import Derived.ShutString
import Derived.ChangeOld
import Derived.Below
namespace Go.Proofs.YtgkonjgalpchoaaDoor.aluSteps
open Go.ChangeShapes Go.WideShapes Go.ChangeAt Go.RowKit
open Go.ChangeMaps (open_string shut_string)
set_option linter.unusedVariables false

theorem own : ownKnob Tryd.prog.godebug = none := by kernel_rfl
theorem laidOut : laidOutB Tryd.prog = true := by kernel_rfl

/-- WHAT THE WALK IS TOLD OF A SLICE OF INTEGERS THAT CAME IN: it is nil; or it leads to a row of 'cap' cells, the numbers 'zs' (the first 'len' are its elements, the rest its spare room), each fitting its kind. -/
def IsRow (k : IntKind) (w : World) (a : Option Addr) (len cap : Nat) (zs : List Int) : Prop :=
  (a = none ∧ len = 0 ∧ cap = 0 ∧ zs = []) ∨
  ∃ x, a = some x ∧ len ≤ cap ∧ cap ≤ maxLen ∧ zs.length = cap ∧ (∀ i, i < zs.length → w.cell? (x.add i) = some (.int k (zs.getD i 0))) ∧ ∀ n ∈ zs, (Lit.int k n).wf = true

theorem fcv_parts (c old : Int) : 0 ≤ fcv c old ∧ fcv c old ≤ 31 ∧ fcv c old / 16 = old / 16 % 2 := by
  have h1 := flg_bd (c == 0) 1 (by omega)
  have h2 := flg_bd (c == -1) 2 (by omega)
  have h3 := flg_bd (c == 2) 4 (by omega)
  unfold fcv; omega
theorem dof_parts (op a b old : Int) (h : doe op b = 0) : dof op a b old = dof op a b 0 + old / 16 % 2 * 16 ∧ 0 ≤ dof op a b 0 ∧ dof op a b 0 ≤ 15 := by
  unfold dof
  rw [if_pos h, if_pos h]
  have h1 := flg_bd (dod op a b == 0) 1 (by omega)
  have h2 := flg_bd (decide (2147483648 ≤ dod op a b)) 2 (by omega)
  have h3 := flg_bd (doc op a b) 4 (by omega)
  have h4 := flg_bd (doo op a b) 8 (by omega)
  unfold fl; omega
/-! ### STEP 1: THE WALK: the Go text returns true, AND WRITES NOTHING THAT WAS THERE: 'Below w.heap.size w w'' (Derived/Below.lean: '.refl', '.alloc', '.drew', '.setCell' at a new block, '.trans'). Open each 'IsRow' by 'rcases' AHEAD of 'go_enter'; part every test ahead of the walk. -/
set_option maxHeartbeats 8000000 in
set_option maxRecDepth 100000 in
theorem walk (a0 : Int) (v1 : Value) (a2 : Int) (w : World) (w0 : (Lit.int .i64 a0).wf = true) (w1 : Flat [some .u32, some .u32] v1) (w2 : (Lit.int .u32 a2).wf = true) (hl : Laid w) :
    Calls Tryd.prog 6 #[.int .i64 a0, v1, .int .u32 a2] w fun e w' => e = .returned (.bool true) ∧ Below w.heap.size w w' := by
  obtain ⟨x0, x1, rfl, ⟨a, rfl, ha⟩, ⟨b, rfl, hb⟩⟩ := flat2 w1
  obtain ⟨A, rfl, hA⟩ := so_u32_bd ha
  obtain ⟨B, rfl, hB⟩ := so_u32_bd hb
  have hf := u32_bd w2
  have q1 := fun w => do_any a0 A B a2 w (by omega) (by omega) (by omega) (by omega) hf.1 hf.2
  have q2 := fun w => do_any a0 A B 0 w (by omega) (by omega) (by omega) (by omega) (by omega) (by omega)
  have q3 : ∀ w, Calls Tryd.prog 15 #[.int .u64 A, .int .u64 ((B : Int) * 4294967296), .int .u32 a2] w fun e w' => e = .returned (.int .u32 (fcv (cmpv A (B * 4294967296)) a2)) ∧ New w w' := fun w => by
    have h := fcmp_any A (B * 4294967296) a2 w (by unfold U; omega) (by unfold U; omega) hf.1 hf.2
    rw [show ((B * 4294967296 : Nat) : Int) = (B : Int) * 4294967296 from Int.natCast_mul _ _] at h
    exact h
  have q6 := fun c w h => num_er c w h
  have hx := fcv_parts (cmpv A (B * 4294967296)) a2
  have hs := dof_parts a0 A B a2
  clear w0 w1 w2 ha hb
  generalize fcv (cmpv A (B * 4294967296)) a2 = X at *
  generalize dov a0 A B = V at *
  generalize dof a0 A B a2 = F at *
  generalize dof a0 A B 0 = G at *
  generalize doe a0 B = E at *
  obtain ⟨x0, x1, x2⟩ := hx
  obtain ⟨s, hS⟩ : ∃ s, a2 / 16 % 2 = s := ⟨_, rfl⟩
  rw [hS] at x2 hs
  have s0 : 0 ≤ s := by omega
  have s1 : s ≤ 1 := by omega
  have c0 : (w.alloc (.cells #[.int .u32 A, .int .u32 B] 46)).cell? ⟨w.heap.size, 0, none⟩ = some (.int .u32 A) := by simp
  have c1 : (w.alloc (.cells #[.int .u32 A, .int .u32 B] 46)).cell? ⟨w.heap.size, 1, none⟩ = some (.int .u32 B) := by simp
  by_cases c : E = 0
  · subst c
    obtain ⟨eF, hG⟩ := hs rfl
    rw [erN_zero] at q1 q2
    subst eF
    go_enter Tryd.func6, Tryd.ntmps6
    go_wp2_with fail
    go_quiet (fail)
    clear c0 c1
    have n0 := New.drewN (New.alloc (New.refl w) #[.int .u32 A, .int .u32 B] 46) nq
    generalize World.drewN _ nq = W0 at *
    go_wp2_with fail
    refine (q1 _).mono ?_
    rintro e w1 ⟨rfl, n1⟩
    have h1 := New.trans n0 n1
    go_wp2_with fail
    refine (q2 _).mono ?_
    rintro e w2 ⟨rfl, n2⟩
    have h2 := New.trans h1 n2
    go_wp2_with fail
    refine (q3 _).mono ?_
    rintro e w3 ⟨rfl, n3⟩
    have h3 := New.trans h2 n3
    go_wp2_with fail
    refine (num_nil _).mono ?_
    rintro e w4 ⟨rfl, n4⟩
    have h4 := New.trans h3 n4
    go_wp2_with fail
    refine (num_nil _).mono ?_
    rintro e w5 ⟨rfl, n5⟩
    have h5 := New.trans h4 n5
    go_wp2_with fail
    refine (al_sure_any _).mono ?_
    rintro e w6 ⟨rfl, n6⟩
    go_wp2
    go_ret
    exact ⟨rfl, New.trans h5 n6⟩
  · rw [erN_pos c] at q1 q2
    have qE := num_err E
    clear hs
    go_enter Tryd.func6, Tryd.ntmps6
    go_wp2_with fail
    go_quiet (fail)
    clear c0 c1
    have n0 := New.drewN (New.alloc (New.refl w) #[.int .u32 A, .int .u32 B] 46) nq
    generalize World.drewN _ nq = W0 at *
    go_wp2_with fail
    refine (q1 _).mono ?_
    rintro e w1 ⟨rfl, n1⟩
    have h1 := New.trans n0 n1
    go_wp2_with fail
    refine (q2 _).mono ?_
    rintro e w2 ⟨rfl, n2⟩
    have h2 := New.trans h1 n2
    go_wp2_with fail
    refine (q3 _).mono ?_
    rintro e w3 ⟨rfl, n3⟩
    have h3 := New.trans h2 n3
    go_wp2_with fail
    refine (qE _ (hl.new h3)).mono ?_
    rintro e w4 ⟨rfl, n4⟩
    have h4 := New.trans h3 n4
    go_wp2_with fail
    refine (qE _ (hl.new h4)).mono ?_
    rintro e w5 ⟨rfl, n5⟩
    have h5 := New.trans h4 n5
    go_wp2_with fail
    refine (al_sure_any _).mono ?_
    rintro e w6 ⟨rfl, n6⟩
    go_wp2
    go_ret
    exact ⟨rfl, New.trans h5 n6⟩

/-! ### THE ROW's STEP: WRITTEN OUT: LEAVE IT -/
theorem door_met (os : Os) (args : Array Value) : laidMetH Tryd.prog Rows.aluStepsRow.laid ((World.doorLaid Tryd.prog 400 os).forCall (fun _ _ => 0) ⟨#[], args, []⟩).memory :=
  laidMetH_of_parts3 (fuel := 8) (laidMet_of_run' 8 (by kernel_rfl) (by kernel_rfl)) (by kernel_rfl) (by kernel_rfl)
set_option maxRecDepth 100000 in
theorem lifted (os : Os) (started : os.Started) (H : Type) (enc : TypeId × Value → H) :
    ReturnsInHanded {} Tryd.checked os 6 .any (fun w args => (Rows.aluStepsSpec.pre enc Tryd.prog Tryd.f6 [] false w args ∧ laidMetH Tryd.prog Rows.aluStepsRow.laid w) ∧ sizedMet enc Tryd.prog Tryd.f6 (OpenSpec.ofChange Rows.aluStepsSpec) false w args) (Rows.aluStepsSpec.post enc Tryd.prog Tryd.f6 false true false false) := by
  refine returnsInHanded_of_change_and (C := Tryd.checked) (X := fun w _ => laidMetH Tryd.prog Rows.aluStepsRow.laid w) (fun _ _ _ hh h => h.of_heap hh) own started (by kernel_rfl) Tryd.func6
    (ChangeSpec.witness_shaped (enc := enc) (C := Tryd.checked) (os := os) (X := fun w _ => laidMetH Tryd.prog Rows.aluStepsRow.laid w) false (World.doorLaid Tryd.prog 400 os) #[.int .i64 0, .agg #[.int .u32 0, .int .u32 0], .int .u32 0] 8 rfl (World.shaped_of_RefB (by kernel_rfl) (by kernel_rfl)) (by kernel_rfl) (by kernel_rfl) (by kernel_rfl) (door_met os _)) ?_
  intro W base args ds gs before hval0 hW _ _ hL _
  have hL' : laidMet Tryd.prog [] W ∧ handlesMet Tryd.prog [("errors.errorType", Rows.laid_errors_errorType)] W := hL
  have hval : ∀ (j : Nat) t v, Tryd.f6.params[j]? = some t → args[j]? = some v → Value.okWide Tryd.prog W .any base t v := hval0
  have hW' := hW
  obtain ⟨p, q, hA0, hV, rfl, hfz, hnd⟩ := hW
  have hA : DataW.TrodAll enc Tryd.prog W 0 (fun _ => true) true Tryd.f6.params.toList args.toList ds p := hA0
  rw [Tryd.params6] at hA hval
  obtain ⟨v0, vs0, d0, ds0, p0, q0, hargs, rfl, rfl, h0, r0⟩ := trodAll_cons hA
  obtain ⟨v1, vs1, d1, ds1, p1, q1, rfl, rfl, rfl, h1, r1⟩ := trodAll_cons r0
  obtain ⟨v2, vs2, d2, ds2, p2, q2, rfl, rfl, rfl, h2, r2⟩ := trodAll_cons r1
  obtain ⟨rfl, rfl, rfl⟩ := trodAll_nil r2
  obtain rfl : args = #[v0, v1, v2] := by cases args; simp_all
  obtain ⟨rfl, rfl⟩ := trodVars_none hV
  obtain ⟨a0, rfl, rfl, rfl, w0⟩ := open_int Tryd.underlying3 (hval 0 3 v0 rfl rfl) h0
  have k1 := h1
  have lt1 : ∀ x ∈ p1, x.block < W.heap.size := by obtain ⟨m, hm⟩ := k1; exact DataW.trod_lt m _ _ _ hm
  have w1 : Flat [some .u32, some .u32] v1 := flat_of_arr (ks := [some .u32, some .u32]) Tryd.underlying46 (by
    obtain ⟨ks, hk, e⟩ : ∃ ks, FlatTy Tryd.prog 46 ks ∧ ks = [some .u32, some .u32] := ⟨_, (.array Tryd.underlying46 (.int Tryd.underlying22) (by kernel_rfl)), rfl⟩
    rw [← e]; exact hk) (by kernel_rfl) (hval 1 46 v1 rfl rfl) h1
  obtain ⟨a2, rfl, rfl, rfl, w2⟩ := open_int Tryd.underlying22 (hval 2 22 v2 rfl rfl) h2
  clear hA0 hval0
  refine (walk a0 v1 a2 W w0 w1 w2 (handle_of_hs hL'.2)).mono fun e W' ⟨he, bel⟩ => ?_
  subst he
  exact ⟨_, rfl, _, _, _, [], _, [], hW', trodAll_mk1 (shut_bool Tryd.underlying4 _), (trodAll_cons_mk (shut_int Tryd.underlying3 w0) (trodAll_cons_mk (Below.trod laidOut (by kernel_rfl) (of_decide_eq_true (by kernel_rfl)) k1 bel lt1) (trodAll_cons_mk (shut_int Tryd.underlying22 w2) trodAll_mk0))), rfl, bel.frame _, fun h => by cases h⟩

theorem over : Rows.aluStepsRow.holds Tryd.pinned (OpenSpec.ofChange Rows.aluStepsSpec) :=
  OpenClaim.holds_of_wide 6 Tryd.f6 rfl rfl rfl rfl rfl rfl rfl ⟨rfl, rfl, rfl, rfl, rfl⟩ rfl rfl rfl rfl rfl (by kernel_rfl) Tryd.func6 (by kernel_rfl)
    (of_decide_eq_true (by kernel_rfl)) (by unfold Func.isWrapper; first | (rw [if_pos (by decide +kernel)]; kernel_rfl) | (rw [if_neg (by decide +kernel)]; exact ⟨rfl, rfl⟩))
    (fun os started H enc _ => lifted os started H enc)

theorem proved : Rows.AluStepsSaid := over
theorem card : Rows.AluStepsCardSaid :=
  Claim7.holds_tied_plain_at .later [] [.handle] true (true, "8818b6878aa664a97f982dd432ddfbc24d09b450e8c74292fff1b5b194f77d14") true
    over (fun _ h => by cases h) (by kernel_rfl) (fun _ h => by cases h) aluSteps_row_tie rfl ⟨rfl, rfl⟩ (by kernel_rfl) rfl
    (fun f fn hf hfn => by
      obtain rfl : f = 6 := Option.some.inj ((show Tryd.prog.funcNamed "halter/halterlaw11.AluSteps" = some 6 by kernel_rfl).symm.trans hf) |>.symm
      obtain rfl : fn = Tryd.f6 := (Option.some.inj (Tryd.func6.symm.trans hfn)).symm
      exact ⟨by kernel_rfl, fun j t ht => by
        rw [Tryd.params6] at ht
        have hm : t ∈ [3, 46, 22] := by have := Array.mem_of_getElem? ht; simpa using this
        have hall : ([3, 46, 22].all fun u => !Tryd.prog.wantsStandIn u) = true := by kernel_rfl
        exact (show Tryd.prog.wantsStandIn t = false by simpa using List.all_eq_true.1 hall t hm)⟩)
    (by kernel_rfl)
#print axioms card
end Go.Proofs.YtgkonjgalpchoaaDoor.aluSteps
