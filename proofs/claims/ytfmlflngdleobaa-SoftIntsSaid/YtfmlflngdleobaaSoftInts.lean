/- Whole numbers as binary64 numbers are held against each other as they are, and their sums and differences come back, bounded; the statement holds for every input, with no condition. -/
import Derived.Test.YtfmlflngdleobaaRows
import Derived.Test.YtfmlflngdleobaaSoftO
import Derived.Test.YtfmlflngdleobaaSoftP
import Derived.WalkKit
import Derived.ProofKit
import Derived.OpenShut
import Derived.ShutString
namespace Go.Proofs.Ytfmlflngdleobaa.softInts
open Go.ChangeShapes Go.WideShapes Go.ChangeAt Go.RowKit
open Go.ChangeMaps (open_string shut_string)
set_option linter.unusedVariables false      -- a walk need not use every 'w<i>' (that an integer argument fits its kind)

theorem own : ownKnob Try.prog.godebug = none := by kernel_rfl

theorem sign_any (v : Nat) (w : World) (h : v ≤ 4294967295) : Calls Try.prog 34 #[.int .u32 v] w fun e w' => e = .returned (.int .i64 (sg32 v)) ∧ w = w' := by
  by_cases c : v < 2147483648
  · have k : decide ((2147483648 : Int) ≤ (v : Int)) = false := by simp; omega
    have E := Lib.hid (show sg32 v = v from by unfold sg32; rw [if_pos c])
    go_enter Try.func34, Try.ntmps34
    go_wp2
    go_ret
    exact ⟨ret_int (by rw [E.out]), rfl⟩
  · have k : (2147483648 : Int) ≤ (v : Int) := by omega
    have E := Lib.hid (show sg32 v = (v : Int) - 4294967296 from by unfold sg32; rw [if_neg c])
    clear c
    go_enter Try.func34, Try.ntmps34
    go_wp2
    go_ret
    exact ⟨ret_int (by rw [E.out]), rfl⟩
/-! ### STEP 1: THE WALK: the Go text returns true. 'Grown w w'': the world has at most new blocks (Derived/RowKit3.lean). Part the cases AHEAD of 'go_enter' where a test parts the walk; take each callee by a contract of your own. -/
theorem walk (a0 : Int) (a1 : Int) (w0 : (Lit.int .u32 a0).wf = true) (w1 : (Lit.int .u32 a1).wf = true) (w : World) :
    Calls Try.prog 7 #[.int .u32 a0, .int .u32 a1] w fun e w' => e = .returned (.bool true) ∧ Grown w w' := by
  obtain ⟨v, rfl, hv⟩ := u32_bd w0
  obtain ⟨u, rfl, hu⟩ := u32_bd w1
  obtain ⟨v1, v2⟩ := sg32_bd v hv
  obtain ⟨u1, u2⟩ := sg32_bd u hu
  have ov := ofi_u (sg32 v)
  have ou := ofi_u (sg32 u)
  have SC := Lib.hid (fun W => (cmp_any (ofi (sg32 v)) (ofi (sg32 u)) W ov ou).mono fun e w' h => (⟨by rw [h.1, cmp_ofi _ _ (by omega) (by omega)], h.2⟩ : e = .returned (.int .i64 (icmp (sg32 v) (sg32 u))) ∧ W = w'))
  have SA := Lib.hid (fun W => (add_any (ofi (sg32 v)) (ofi (sg32 u)) W).mono fun e w' h => (⟨by rw [h.1, add_ofi _ _ (by omega) (by omega)], h.2⟩ : e = .returned (.int .u64 (ofi (sg32 v + sg32 u))) ∧ New W w'))
  have SS := Lib.hid (fun W => (sub_any (ofi (sg32 v)) (ofi (sg32 u)) W).mono fun e w' h => (⟨by rw [h.1, sub_ofi _ _ (by omega) (by omega)], h.2⟩ : e = .returned (.int .u64 (ofi (sg32 v - sg32 u))) ∧ New W w'))
  have T1 := Lib.hid (fun W => (toint_any (ofi (sg32 v + sg32 u)) W (ofi_u _)).mono fun e w' h => (⟨by rw [h.1, toi_ofi _ (by omega)], h.2⟩ : e = .returned (.int .u32 (bnd (sg32 v + sg32 u))) ∧ W = w'))
  have T2 := Lib.hid (fun W => (toint_any (ofi (sg32 v - sg32 u)) W (ofi_u _)).mono fun e w' h => (⟨by rw [h.1, toi_ofi _ (by omega)], h.2⟩ : e = .returned (.int .u32 (bnd (sg32 v - sg32 u))) ∧ W = w'))
  have K : (sg32 v < sg32 u ∧ icmp (sg32 v) (sg32 u) = -1) ∨ (sg32 u < sg32 v ∧ icmp (sg32 v) (sg32 u) = 1) ∨ (sg32 v = sg32 u ∧ icmp (sg32 v) (sg32 u) = 0) := by
    unfold icmp
    rcases Int.lt_trichotomy (sg32 v) (sg32 u) with c | c | c
    · left; exact ⟨c, if_pos c⟩
    · right; right; exact ⟨c, by rw [if_neg (by omega), if_neg (by omega)]⟩
    · right; left; exact ⟨c, by rw [if_neg (by omega), if_pos c]⟩
  rcases K with ⟨c, e⟩ | ⟨c, e⟩ | ⟨c, e⟩
  · have k1 : decide (sg32 u < sg32 v) = false := by simp; omega
    go_enter Try.func7, Try.ntmps7
    go_wp2_with (first | (go_at_call 34; (with_reducible refine (sign_any _ _ (by assumption)).mono ?_); rintro e w' ⟨rfl, rfl⟩) | (go_at_call 30; (with_reducible refine (fromint_any _ _ (by assumption)).mono ?_); rintro e w' ⟨rfl, rfl⟩) | (go_at_call 22; (with_reducible refine (SC.out _).mono ?_); rintro e w' ⟨rfl, rfl⟩) | (go_at_call 9; (with_reducible refine (SA.out _).mono ?_); rintro e w1 ⟨rfl, hg1⟩) | (go_at_call 11; (with_reducible refine (SS.out _).mono ?_); rintro e w1 ⟨rfl, hg1⟩) | (go_at_call 32; (with_reducible refine (T1.out _).mono ?_); rintro e w' ⟨rfl, rfl⟩) | (go_at_call 32; (with_reducible refine (T2.out _).mono ?_); rintro e w' ⟨rfl, rfl⟩) | (go_at_call 35; (with_reducible refine (bounded_any _ _ (by omega) (by omega)).mono ?_); rintro e w' ⟨rfl, rfl⟩) | (go_at_call 15; (with_reducible refine (sure_any _).mono ?_); rintro e w1 ⟨rfl, hg1⟩))
    go_ret
    refine ⟨rfl, New.grown ?_⟩
    repeat (first | assumption | refine New.trans ?_ (by assumption))
  · have k1 : decide (sg32 v < sg32 u) = false := by simp; omega
    go_enter Try.func7, Try.ntmps7
    go_wp2_with (first | (go_at_call 34; (with_reducible refine (sign_any _ _ (by assumption)).mono ?_); rintro e w' ⟨rfl, rfl⟩) | (go_at_call 30; (with_reducible refine (fromint_any _ _ (by assumption)).mono ?_); rintro e w' ⟨rfl, rfl⟩) | (go_at_call 22; (with_reducible refine (SC.out _).mono ?_); rintro e w' ⟨rfl, rfl⟩) | (go_at_call 9; (with_reducible refine (SA.out _).mono ?_); rintro e w1 ⟨rfl, hg1⟩) | (go_at_call 11; (with_reducible refine (SS.out _).mono ?_); rintro e w1 ⟨rfl, hg1⟩) | (go_at_call 32; (with_reducible refine (T1.out _).mono ?_); rintro e w' ⟨rfl, rfl⟩) | (go_at_call 32; (with_reducible refine (T2.out _).mono ?_); rintro e w' ⟨rfl, rfl⟩) | (go_at_call 35; (with_reducible refine (bounded_any _ _ (by omega) (by omega)).mono ?_); rintro e w' ⟨rfl, rfl⟩) | (go_at_call 15; (with_reducible refine (sure_any _).mono ?_); rintro e w1 ⟨rfl, hg1⟩))
    go_ret
    refine ⟨rfl, New.grown ?_⟩
    repeat (first | assumption | refine New.trans ?_ (by assumption))
  · have k1 : decide (sg32 v < sg32 u) = false := by simp; omega
    have k2 : decide (sg32 u < sg32 v) = false := by simp; omega
    clear c
    go_enter Try.func7, Try.ntmps7
    go_wp2_with (first | (go_at_call 34; (with_reducible refine (sign_any _ _ (by assumption)).mono ?_); rintro e w' ⟨rfl, rfl⟩) | (go_at_call 30; (with_reducible refine (fromint_any _ _ (by assumption)).mono ?_); rintro e w' ⟨rfl, rfl⟩) | (go_at_call 22; (with_reducible refine (SC.out _).mono ?_); rintro e w' ⟨rfl, rfl⟩) | (go_at_call 9; (with_reducible refine (SA.out _).mono ?_); rintro e w1 ⟨rfl, hg1⟩) | (go_at_call 11; (with_reducible refine (SS.out _).mono ?_); rintro e w1 ⟨rfl, hg1⟩) | (go_at_call 32; (with_reducible refine (T1.out _).mono ?_); rintro e w' ⟨rfl, rfl⟩) | (go_at_call 32; (with_reducible refine (T2.out _).mono ?_); rintro e w' ⟨rfl, rfl⟩) | (go_at_call 35; (with_reducible refine (bounded_any _ _ (by omega) (by omega)).mono ?_); rintro e w' ⟨rfl, rfl⟩) | (go_at_call 15; (with_reducible refine (sure_any _).mono ?_); rintro e w1 ⟨rfl, hg1⟩))
    go_ret
    refine ⟨rfl, New.grown ?_⟩
    repeat (first | assumption | refine New.trans ?_ (by assumption))

/-! ### THE ROW's STEP: WRITTEN OUT: LEAVE IT -/
set_option maxRecDepth 100000 in
theorem lifted (os : Os) (started : os.Started) (H : Type) (enc : TypeId × Value → H) :
    ReturnsInHanded {} Try.checked os 7 .any (Rows.softIntsSpec.pre6 enc Try.prog Try.f7 Rows.softIntsRow.domain false) (Rows.softIntsSpec.post enc Try.prog Try.f7 false true false false) := by
  refine returnsInHanded_of_change (C := Try.checked) own started (by kernel_rfl) Try.func7
    (ChangeSpec.witness6 (enc := enc) (C := Try.checked) false ⟨#[], #[.int .u32 0, .int .u32 0], []⟩ 8 (by kernel_rfl) (by kernel_rfl) (by kernel_rfl) (by kernel_rfl)) ?_
  intro W base args ds gs before hval0 hW hcnd _
  have hval : ∀ (j : Nat) t v, Try.f7.params[j]? = some t → args[j]? = some v → Value.okWide Try.prog W .any base t v := hval0
  have hW' := hW
  obtain ⟨p, q, hA0, hV, rfl, hfz, hnd⟩ := hW
  have hA : DataW.TrodAll enc Try.prog W 0 (fun _ => true) true Try.f7.params.toList args.toList ds p := hA0
  rw [Try.params7] at hA hval
  obtain ⟨v0, vs0, d0, ds0, p0, q0, hargs, rfl, rfl, h0, r0⟩ := trodAll_cons hA
  obtain ⟨v1, vs1, d1, ds1, p1, q1, rfl, rfl, rfl, h1, r1⟩ := trodAll_cons r0
  obtain ⟨rfl, rfl, rfl⟩ := trodAll_nil r1
  obtain rfl : args = #[v0, v1] := by cases args; simp_all
  obtain ⟨rfl, rfl⟩ := trodVars_none hV
  obtain ⟨a0, rfl, rfl, rfl, w0⟩ := open_int Try.underlying28 (hval 0 28 v0 rfl rfl) h0
  obtain ⟨a1, rfl, rfl, rfl, w1⟩ := open_int Try.underlying28 (hval 1 28 v1 rfl rfl) h1
  clear hA0 hval0
  simp only [List.append_nil] at hW'
  refine (walk a0 a1 w0 w1 W).mono fun e W' ⟨he, hg⟩ => ?_
  subst he
  exact ⟨_, rfl, post_of_same (pa := []) (pv := []) hW' (fun _ _ _ => (trodAll_cons_mk (shut_bool Try.underlying4 _) trodAll_mk0)) (fun sp _ => (trodAll_cons_mk (shut_int Try.underlying28 w0) (trodAll_cons_mk (shut_int Try.underlying28 w1) trodAll_mk0))) (fun _ _ => rfl) rfl
    (hg.frame _) hg.2.1 (ok_one (by kernel_rfl) rfl (okWide_bool_mk Try.underlying4 _))⟩

theorem over : Rows.softIntsRow.holds Try.pinned (OpenSpec.ofChange Rows.softIntsSpec) :=
  OpenClaim.holds_of_wide 7 Try.f7 rfl rfl rfl rfl rfl rfl rfl ⟨rfl, rfl, rfl, rfl, rfl⟩ rfl rfl rfl rfl rfl (by kernel_rfl) Try.func7 (by kernel_rfl)
    (of_decide_eq_true (by kernel_rfl)) (by unfold Func.isWrapper; first | (rw [if_pos (by decide +kernel)]; kernel_rfl) | (rw [if_neg (by decide +kernel)]; exact ⟨rfl, rfl⟩))
    (fun os started H enc _ => lifted os started H enc)

/-- ████ THE STATEMENT ████ -/
theorem proved : Rows.SoftIntsSaid :=
  over
#print axioms proved
end Go.Proofs.Ytfmlflngdleobaa.softInts
