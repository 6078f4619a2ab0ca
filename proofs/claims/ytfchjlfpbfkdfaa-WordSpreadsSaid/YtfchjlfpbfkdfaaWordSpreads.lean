/- Spreading a number's lowest bits is moving them up and down again, moving down by n is a quotient by 2^n, turning by n is moving both ways; the statement holds for every number of 32 bits and every n, with no condition. -/
import Derived.Test.YtfchjlfpbfkdfaaRows
import Derived.Test.YtfchjlfpbfkdfaaWordF
import Derived.WalkKit
import Derived.ProofKit
import Derived.OpenShut
namespace Go.Proofs.Ytfchjlfpbfkdfaa.wordSpreads
open Go.ChangeShapes Go.WideShapes Go.ChangeAt Go.RowKit
set_option linter.unusedVariables false      -- a walk need not use every 'w<i>' (that an integer argument fits its kind)

theorem own : ownKnob Try.prog.godebug = none := by kernel_rfl

/-! ### STEP 1: THE WALK: the Go text returns true. 'Grown w w'': the world has at most new blocks (Derived/RowKit3.lean). Part the cases AHEAD of 'go_enter' where a test parts the walk; take each callee by a contract of your own. -/
theorem walk (a0 : Int) (a1 : Int) (w0 : (Lit.int .u32 a0).wf = true) (w1 : (Lit.int .i64 a1).wf = true) (w : World) :
    Calls Try.prog 6 #[.int .u32 a0, .int .i64 a1] w fun e w' => e = .returned (.bool true) ∧ Grown w w' := by
  have b0 : 0 ≤ a0 ∧ a0 ≤ 4294967295 := u32_bd w0
  obtain ⟨h0, h0'⟩ := b0
  obtain ⟨j, hj⟩ := Int.eq_ofNat_of_zero_le (show 0 ≤ a1 % 18446744073709551616 % 31 by omega)
  obtain ⟨k, hk⟩ : ∃ k : Nat, k = j + 1 := ⟨_, rfl⟩
  obtain ⟨l, hl⟩ : ∃ l : Nat, l = 31 - j := ⟨_, rfl⟩
  have k1 : 1 ≤ k := by omega
  have k2 : k < 32 := by omega
  have l1 : 1 ≤ l := by omega
  have l2 : l < 32 := by omega
  have e0 : (IntKind.u64.wrap a1).tmod 31 = (k : Int) - 1 := by
    rw [IntKind.wrap_u64, Int.tmod_eq_emod_of_nonneg (by omega)]; omega
  have e1 : 1 + ((k : Int) - 1) = k := by omega
  have e2 : (k : Int) - 32 = -(l : Int) := by omega
  have e3 : 32 - (k : Int) = l := by omega
  have e4 : (2 : Int) ^ k % 4294967296 = pw k := by
    have := pw_pos k
    have h31 : pw k ≤ 2147483648 := by rw [← pw31]; exact pw_le (by omega)
    unfold pw at *; omega
  have hll : l = 32 - k := by omega
  clear hj hk hl
  have p1 := pw_pos k
  have p2 : pw k ≤ 4294967295 := by
    have h31 : pw k ≤ 2147483648 := by rw [← pw31]; exact pw_le (by omega)
    omega
  have d1 := div_bd a0 k h0
  have d2 := div_bd a0 l h0
  have u1 := up_bd a0 k k2 h0 h0'
  have u2 := up_bd a0 l l2 h0 h0'
  have f1 : (sx a0 k == sar (up a0 l) l) = true := by
    rw [beq_iff_eq, ← sx_eq a0 k k1 k2 h0 h0', ← hll]; rfl
  have f2 : (rot a0 k == m32 (up a0 k + a0 / pw l + cin false)) = true := by
    have hr := rot_bd a0 k k2 h0 h0'
    rw [beq_iff_eq, show up a0 k + a0 / pw l + cin false = rot a0 k from by unfold up rot cin; rw [hll]; simp, m32_of _ hr.1 hr.2]
  have HL := Lib.hid hll
  clear hll
  go_enter Try.func6, Try.ntmps6
  go_wp2_with (first | (go_at_call 27; (with_reducible refine (wdiv_any _ _ _ (by omega) (by omega) (by omega) (by omega)).mono ?_); rintro e w' ⟨rfl, nd, rfl⟩) | (go_at_call 15; (with_reducible refine (shift_up' _ _ _ (by omega) (by omega) (by omega)).mono ?_); rintro e w' ⟨rfl, rfl⟩) | (go_at_call 15; (with_reducible refine (shift_down' _ _ _ (by omega) (by omega) (by omega) (by omega)).mono ?_); rintro e w' ⟨rfl, rfl⟩) | (go_at_call 8; (with_reducible refine (add_any _ _ _ _ (by omega) (by omega) (by omega) (by omega)).mono ?_); rintro e w' ⟨rfl, rfl⟩) | (go_at_call 21; (with_reducible refine (sext' _ _ _ (by omega) (by omega) (by omega) (by omega)).mono ?_); rintro e w' ⟨rfl, rfl⟩) | (go_at_call 17; (with_reducible refine (sar' _ _ _ (by omega) (by omega) (by omega)).mono ?_); rintro e w' ⟨rfl, rfl⟩) | (go_at_call 19; (with_reducible refine (turn' _ _ _ (by omega) (by omega) (by omega)).mono ?_); rintro e w' ⟨rfl, rfl⟩) | (go_at_call 14; (with_reducible refine (sure_any _).mono ?_); rintro e w' ⟨rfl, hg⟩))
  go_ret
  exact ⟨rfl, grown_trans (grown_drewN (Grown.refl _) _) (by assumption)⟩

/-! ### THE ROW's STEP: WRITTEN OUT: LEAVE IT -/
set_option maxRecDepth 100000 in
theorem lifted (os : Os) (started : os.Started) (H : Type) (enc : TypeId × Value → H) :
    ReturnsInHanded {} Try.checked os 6 .any (Rows.wordSpreadsSpec.pre6 enc Try.prog Try.f6 Rows.wordSpreadsRow.domain false) (Rows.wordSpreadsSpec.post enc Try.prog Try.f6 false true false false) := by
  refine returnsInHanded_of_change (C := Try.checked) own started (by kernel_rfl) Try.func6
    (ChangeSpec.witness6 (enc := enc) (C := Try.checked) false ⟨#[], #[.int .u32 0, .int .i64 0], []⟩ 8 (by kernel_rfl) (by kernel_rfl) (by kernel_rfl) (by kernel_rfl)) ?_
  intro W base args ds gs before hval0 hW hcnd _
  have hval : ∀ (j : Nat) t v, Try.f6.params[j]? = some t → args[j]? = some v → Value.okWide Try.prog W .any base t v := hval0
  have hW' := hW
  obtain ⟨p, q, hA0, hV, rfl, hfz, hnd⟩ := hW
  have hA : DataW.TrodAll enc Try.prog W 0 (fun _ => true) true Try.f6.params.toList args.toList ds p := hA0
  rw [Try.params6] at hA hval
  obtain ⟨v0, vs0, d0, ds0, p0, q0, hargs, rfl, rfl, h0, r0⟩ := trodAll_cons hA
  obtain ⟨v1, vs1, d1, ds1, p1, q1, rfl, rfl, rfl, h1, r1⟩ := trodAll_cons r0
  obtain ⟨rfl, rfl, rfl⟩ := trodAll_nil r1
  obtain rfl : args = #[v0, v1] := by cases args; simp_all
  obtain ⟨rfl, rfl⟩ := trodVars_none hV
  obtain ⟨a0, rfl, rfl, rfl, w0⟩ := open_int Try.underlying22 (hval 0 22 v0 rfl rfl) h0
  obtain ⟨a1, rfl, rfl, rfl, w1⟩ := open_int Try.underlying3 (hval 1 3 v1 rfl rfl) h1
  clear hA0 hval0
  simp only [List.append_nil] at hW'
  refine (walk a0 a1 w0 w1 W).mono fun e W' ⟨he, hg⟩ => ?_
  subst he
  exact ⟨_, rfl, post_of_same (pa := []) (pv := []) hW' (fun _ _ _ => (trodAll_cons_mk (shut_bool Try.underlying4 _) trodAll_mk0)) (fun sp _ => (trodAll_cons_mk (shut_int Try.underlying22 w0) (trodAll_cons_mk (shut_int Try.underlying3 w1) trodAll_mk0))) (fun _ _ => rfl) rfl
    (hg.frame _) hg.2.1 (ok_one (by kernel_rfl) rfl (okWide_bool_mk Try.underlying4 _))⟩

theorem over : Rows.wordSpreadsRow.holds Try.pinned (OpenSpec.ofChange Rows.wordSpreadsSpec) :=
  OpenClaim.holds_of_wide 6 Try.f6 rfl rfl rfl rfl rfl rfl rfl ⟨rfl, rfl, rfl, rfl, rfl⟩ rfl rfl rfl rfl rfl (by kernel_rfl) Try.func6 (by kernel_rfl)
    (of_decide_eq_true (by kernel_rfl)) (by unfold Func.isWrapper; first | (rw [if_pos (by decide +kernel)]; kernel_rfl) | (rw [if_neg (by decide +kernel)]; exact ⟨rfl, rfl⟩))
    (fun os started H enc _ => lifted os started H enc)

/-- ████ THE STATEMENT ████ -/
theorem proved : Rows.WordSpreadsSaid :=
  over
#print axioms proved
end Go.Proofs.Ytfchjlfpbfkdfaa.wordSpreads
