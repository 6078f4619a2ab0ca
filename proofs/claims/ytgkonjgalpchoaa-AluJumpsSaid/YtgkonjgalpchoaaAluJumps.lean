/- Behind a Cmp of any two numbers of 32 bits Jlt is taken just if the first one is less with signs, Jge if not, Jc just if it is less without signs, Jz just if they are the same, Jnz if not; the flag Step stays as it was; the statement holds for every input, with no condition. -/
import Derived.Test.YtgkonjgalpchoaaRows
import Derived.Test.YtgkonjgalpchoaaAlF
import Derived.Test.YtgkonjgalpchoaaPost
import Derived.WalkKit
import Derived.ProofKit
import Derived.OpenShut
import Derived.ShutString
namespace Go.Proofs.Ytgkonjgalpchoaa.aluJumps
open Go.ChangeShapes Go.WideShapes Go.ChangeAt Go.RowKit
open Go.ChangeMaps (open_string shut_string)
set_option linter.unusedVariables false      -- a walk need not use every 'w<i>' (that an integer argument fits its kind)

theorem own : ownKnob Try.prog.godebug = none := by kernel_rfl

theorem fl_bits (v : Int) (c o : Bool) (old : Int) : (fl v c o old % 2 == 1) = (v == 0) ∧ (fl v c o old / 2 % 2 == 1) = decide (2147483648 ≤ v) ∧ (fl v c o old / 4 % 2 == 1) = c ∧ (fl v c o old / 8 % 2 == 1) = o ∧ fl v c o old / 16 = old / 16 % 2 := by
  obtain ⟨s, hs⟩ : ∃ s, old / 16 % 2 = s := ⟨_, rfl⟩
  have h2 : s = 0 ∨ s = 1 := by omega
  unfold fl; rw [hs]
  generalize (v == 0) = Z
  generalize decide (2147483648 ≤ v) = M
  rcases h2 with rfl | rfl <;> cases Z <;> cases M <;> cases c <;> cases o <;> decide +kernel
theorem less_iff (a b : Int) (h0 : 0 ≤ a) (h1 : a ≤ 4294967295) (g0 : 0 ≤ b) (g1 : b ≤ 4294967295) : (decide (2147483648 ≤ m32 (a - b)) != bey (sg a - sg b)) = decide (sg a < sg b) := by
  have e1 : bey (sg a - sg b) = decide (sg a - sg b < -2147483648 ∨ 2147483647 < sg a - sg b) := by unfold bey; rw [Bool.eq_iff_iff]; simp
  rw [e1]
  have e2 : sg a = if a < 2147483648 then a else a - 4294967296 := rfl
  have e3 : sg b = if b < 2147483648 then b else b - 4294967296 := rfl
  have e4 : m32 (a - b) = (a - b) % 4294967296 := rfl
  by_cases k1 : 2147483648 ≤ m32 (a - b) <;> by_cases k2 : sg a - sg b < -2147483648 ∨ 2147483647 < sg a - sg b <;> by_cases k3 : sg a < sg b
  all_goals
    simp only [k1, k2, k3, decide_true, decide_false, bne_self_eq_false, Bool.bne_true, Bool.bne_false, Bool.not_false]
  all_goals
    exfalso
    rw [e4] at k1
    split at e2 <;> split at e3 <;> omega
/-! ### STEP 1: THE WALK: the Go text returns true. 'Grown w w'': the world has at most new blocks (Derived/RowKit3.lean). Part the cases AHEAD of 'go_enter' where a test parts the walk; take each callee by a contract of your own. -/
set_option maxHeartbeats 8000000 in
set_option maxRecDepth 100000 in
theorem walk (a0 : Int) (a1 : Int) (a2 : Int) (w0 : (Lit.int .u32 a0).wf = true) (w1 : (Lit.int .u32 a1).wf = true) (w2 : (Lit.int .u32 a2).wf = true) (w : World) :
    Calls Try.prog 3 #[.int .u32 a0, .int .u32 a1, .int .u32 a2] w fun e w' => e = .returned (.bool true) ∧ New w w' := by
  have ha := u32_bd w0
  have hb := u32_bd w1
  have hf := u32_bd w2
  have q1 := fun w => do_any 16 a0 a1 a2 w ha.1 ha.2 hb.1 hb.2 hf.1 hf.2
  obtain ⟨b1, b2, b4, b8, b16⟩ := fl_bits (m32 (a0 - a1)) (decide (a0 < a1)) (bey (sg a0 - sg a1)) a2
  have eF : dof 16 a0 a1 a2 = fl (m32 (a0 - a1)) (decide (a0 < a1)) (bey (sg a0 - sg a1)) a2 := rfl
  rw [← eF] at b1 b2 b4 b8 b16
  have hF := fl_bd (m32 (a0 - a1)) (decide (a0 < a1)) (bey (sg a0 - sg a1)) a2
  rw [← eF] at hF
  clear eF
  have ez : (m32 (a0 - a1) == 0) = (a0 == a1) := by unfold m32; rw [Bool.eq_iff_iff]; simp; omega
  have el := less_iff a0 a1 ha.1 ha.2 hb.1 hb.2
  have q2 := fun op w => taken_any op (dof 16 a0 a1 a2) w hF.1 (by omega)
  have t22 : tkv 22 (dof 16 a0 a1 a2) = (a0 == a1) := by rw [← ez, ← b1]; rfl
  have t23 : tkv 23 (dof 16 a0 a1 a2) = (a0 != a1) := by rw [bne, ← ez, ← b1]; rfl
  have t24 : tkv 24 (dof 16 a0 a1 a2) = decide (sg a0 < sg a1) := by rw [← el, ← b2, ← b8]; rfl
  have t25 : tkv 25 (dof 16 a0 a1 a2) = !decide (sg a0 < sg a1) := by
    rw [← el, ← b2, ← b8]
    show ((_ : Bool) == _) = !(_ != _)
    generalize (dof 16 a0 a1 a2 / 2 % 2 == 1) = M
    generalize (dof 16 a0 a1 a2 / 8 % 2 == 1) = O
    cases M <;> cases O <;> rfl
  have t26 : tkv 26 (dof 16 a0 a1 a2) = decide (a0 < a1) := by rw [← b4]; rfl
  have p22 := q2 22
  have p23 := q2 23
  have p24 := q2 24
  have p25 := q2 25
  have p26 := q2 26
  rw [t22, show erN (tke 22) = .nilIface from rfl] at p22
  rw [t23, show erN (tke 23) = .nilIface from rfl] at p23
  rw [t24, show erN (tke 24) = .nilIface from rfl] at p24
  rw [t25, show erN (tke 25) = .nilIface from rfl] at p25
  rw [t26, show erN (tke 26) = .nilIface from rfl] at p26
  rw [dov_16, show erN (doe 16 a1) = .nilIface from rfl] at q1
  have r0 := fun w => rsign_any a0 w ha.1 ha.2
  have r1 := fun w => rsign_any a1 w hb.1 hb.2
  clear w0 w1 w2 b1 b2 b4 b8 ez el q2 t22 t23 t24 t25 t26
  generalize dof 16 a0 a1 a2 = F at *
  go_enter Try.func3, Try.ntmps3
  go_wp2_with fail
  refine (q1 _).mono ?_
  rintro e w1 ⟨rfl, n1⟩
  go_wp2_with fail
  refine (p24 _).mono ?_
  rintro e w2 ⟨rfl, n2⟩
  go_wp2_with fail
  refine (p25 _).mono ?_
  rintro e w3 ⟨rfl, n3⟩
  go_wp2_with fail
  refine (p26 _).mono ?_
  rintro e w4 ⟨rfl, n4⟩
  go_wp2_with fail
  refine (p22 _).mono ?_
  rintro e w5 ⟨rfl, n5⟩
  go_wp2_with fail
  refine (p23 _).mono ?_
  rintro e w6 ⟨rfl, n6⟩
  go_wp2_with (first | (go_at_call 6; (with_reducible refine (r0 _).mono ?_); rintro e w' ⟨rfl, rfl⟩) | (go_at_call 6; (with_reducible refine (r1 _).mono ?_); rintro e w' ⟨rfl, rfl⟩) | (go_at_call 7; (with_reducible refine (al_sure_any _).mono ?_); rintro e w7 ⟨rfl, n7⟩))
  go_ret
  exact ⟨rfl, New.trans (New.trans (New.trans (New.trans (New.trans (New.trans n1 n2) n3) n4) n5) n6) n7⟩

/-! ### THE ROW's STEP: WRITTEN OUT: LEAVE IT -/
set_option maxRecDepth 100000 in
theorem lifted (os : Os) (started : os.Started) (H : Type) (enc : TypeId × Value → H) :
    ReturnsInHanded {} Try.checked os 3 .any (Rows.aluJumpsSpec.pre6 enc Try.prog Try.f3 Rows.aluJumpsRow.domain false) (Rows.aluJumpsSpec.post enc Try.prog Try.f3 false true false false) := by
  refine returnsInHanded_of_change (C := Try.checked) own started (by kernel_rfl) Try.func3
    (ChangeSpec.witness6 (enc := enc) (C := Try.checked) false ⟨#[], #[.int .u32 0, .int .u32 0, .int .u32 0], []⟩ 8 (by kernel_rfl) (by kernel_rfl) (by kernel_rfl) (by kernel_rfl)) ?_
  intro W base args ds gs before hval0 hW hcnd _
  have hval : ∀ (j : Nat) t v, Try.f3.params[j]? = some t → args[j]? = some v → Value.okWide Try.prog W .any base t v := hval0
  have hW' := hW
  obtain ⟨p, q, hA0, hV, rfl, hfz, hnd⟩ := hW
  have hA : DataW.TrodAll enc Try.prog W 0 (fun _ => true) true Try.f3.params.toList args.toList ds p := hA0
  rw [Try.params3] at hA hval
  obtain ⟨v0, vs0, d0, ds0, p0, q0, hargs, rfl, rfl, h0, r0⟩ := trodAll_cons hA
  obtain ⟨v1, vs1, d1, ds1, p1, q1, rfl, rfl, rfl, h1, r1⟩ := trodAll_cons r0
  obtain ⟨v2, vs2, d2, ds2, p2, q2, rfl, rfl, rfl, h2, r2⟩ := trodAll_cons r1
  obtain ⟨rfl, rfl, rfl⟩ := trodAll_nil r2
  obtain rfl : args = #[v0, v1, v2] := by cases args; simp_all
  obtain ⟨rfl, rfl⟩ := trodVars_none hV
  obtain ⟨a0, rfl, rfl, rfl, w0⟩ := open_int Try.underlying22 (hval 0 22 v0 rfl rfl) h0
  obtain ⟨a1, rfl, rfl, rfl, w1⟩ := open_int Try.underlying22 (hval 1 22 v1 rfl rfl) h1
  obtain ⟨a2, rfl, rfl, rfl, w2⟩ := open_int Try.underlying22 (hval 2 22 v2 rfl rfl) h2
  clear hA0 hval0
  simp only [List.append_nil] at hW'
  refine (walk a0 a1 a2 w0 w1 w2 W).mono fun e W' ⟨he, hg⟩ => ?_
  subst he
  exact ⟨_, rfl, post_of_new hW' (fun _ _ _ => (trodAll_cons_mk (shut_bool Try.underlying4 _) trodAll_mk0)) (fun sp => (trodAll_cons_mk (shut_int Try.underlying22 w0) (trodAll_cons_mk (shut_int Try.underlying22 w1) (trodAll_cons_mk (shut_int Try.underlying22 w2) trodAll_mk0)))) (fun _ => rfl) hg (ok_one (by kernel_rfl) rfl (okWide_bool_mk Try.underlying4 _))⟩

theorem over : Rows.aluJumpsRow.holds Try.pinned (OpenSpec.ofChange Rows.aluJumpsSpec) :=
  OpenClaim.holds_of_wide 3 Try.f3 rfl rfl rfl rfl rfl rfl rfl ⟨rfl, rfl, rfl, rfl, rfl⟩ rfl rfl rfl rfl rfl (by kernel_rfl) Try.func3 (by kernel_rfl)
    (of_decide_eq_true (by kernel_rfl)) (by unfold Func.isWrapper; first | (rw [if_pos (by decide +kernel)]; kernel_rfl) | (rw [if_neg (by decide +kernel)]; exact ⟨rfl, rfl⟩))
    (fun os started H enc _ => lifted os started H enc)

/-- ████ THE STATEMENT ████ -/
theorem proved : Rows.AluJumpsSaid :=
  over
#print axioms proved
end Go.Proofs.Ytgkonjgalpchoaa.aluJumps
