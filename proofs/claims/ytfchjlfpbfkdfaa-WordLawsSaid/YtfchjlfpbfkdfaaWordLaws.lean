/- A sum less a part is the other part, a quotient times the divisor and what is left is the number again, bits turned all the way are as they were, and bytes are read as they were told; the statement holds for all numbers of 32 bits and every number of steps, with no condition. -/
import Derived.Test.YtfchjlfpbfkdfaaRows
import Derived.Test.YtfchjlfpbfkdfaaWordF
import Derived.Test.YtfchjlfpbfkdfaaWordG
import Derived.WalkKit
import Derived.ProofKit
import Derived.OpenShut
namespace Go.Proofs.Ytfchjlfpbfkdfaa.wordLaws
open Go.ChangeShapes Go.WideShapes Go.ChangeAt Go.RowKit
set_option linter.unusedVariables false      -- a walk need not use every 'w<i>' (that an integer argument fits its kind)

theorem own : ownKnob Try.prog.godebug = none := by kernel_rfl

/-! ### STEP 1: THE WALK: the Go text returns true. 'Grown w w'': the world has at most new blocks (Derived/RowKit3.lean). Part the cases AHEAD of 'go_enter' where a test parts the walk; take each callee by a contract of your own. -/
set_option maxRecDepth 100000 in
set_option maxHeartbeats 1000000 in
theorem walk (a0 : Int) (a1 : Int) (a2 : Int) (w0 : (Lit.int .u32 a0).wf = true) (w1 : (Lit.int .u32 a1).wf = true) (w2 : (Lit.int .i64 a2).wf = true) (w : World) :
    Calls Try.prog 5 #[.int .u32 a0, .int .u32 a1, .int .i64 a2] w fun e w' => e = .returned (.bool true) ∧ Grown w w' := by
  have b0 : 0 ≤ a0 ∧ a0 ≤ 4294967295 := u32_bd w0
  have b1 : 0 ≤ a1 ∧ a1 ≤ 4294967295 := u32_bd w1
  obtain ⟨h0, h0'⟩ := b0
  obtain ⟨h1, h1'⟩ := b1
  have s1 := sum_back a0 a1 h0 h0' h1 h1'
  have s2 := bytes_back a0 h0 h0'
  obtain ⟨s3, s4⟩ := s1
  have m0 := m32_bd (a0 + a1 + cin false)
  have z0 := bitLen_bd a0 h0 h0'
  have z1 : 0 ≤ zs a0 ∧ zs a0 ≤ 32 := by unfold zs; omega
  obtain ⟨k, hk⟩ := Int.eq_ofNat_of_zero_le (show 0 ≤ a2 % 18446744073709551616 % 32 by omega)
  have hk32 : k < 32 := by omega
  have e0 : (IntKind.u64.wrap a2).tmod 32 = (k : Int) := by
    rw [IntKind.wrap_u64, Int.tmod_eq_emod_of_nonneg (by omega)]; omega
  clear hk
  by_cases c : a1 = 0
  · have c1 : (a1 == 0) = true := by simpa using c
    clear c
    by_cases ck : k = 0
    · subst ck
      go_enter Try.func5, Try.ntmps5
      go_wp2_with (first | (go_at_call 8; (with_reducible refine (add_any _ _ _ _ (by omega) (by omega) (by omega) (by omega)).mono ?_); rintro e w' ⟨rfl, rfl⟩) | (go_at_call 10; (with_reducible refine (sub_any _ _ _ (by omega) (by omega) (by omega) (by omega)).mono ?_); rintro e w' ⟨rfl, rfl⟩) | (go_at_call 12; (with_reducible refine (mul_any _ _ _ (by omega) (by omega) (by omega) (by omega)).mono ?_); rintro e w' ⟨rfl, rfl⟩) | (go_at_call 25; (with_reducible refine (store4 _ _ (by omega) (by omega)).mono ?_); rintro e w' ⟨rfl, rfl⟩) | (go_at_call 26; (with_reducible refine (load4 (a0 % 256) (a0 / 256 % 256) (a0 / 65536 % 256) (a0 / 16777216) ⟨w.heap.size, 0, none⟩ _ (by omega) (by omega) (by omega) (by omega) (by omega) (by omega) (by omega) (by omega) (by simp) (by simp) (by simp) (by simp)).mono ?_); rintro e w' ⟨rfl, rfl⟩) | (go_at_call 27; (with_reducible refine (wdiv_any _ _ _ (by omega) (by omega) (by omega) (by omega)).mono ?_); rintro e w' ⟨rfl, nd, rfl⟩) | (go_at_call 28; (with_reducible refine (wsigned_any _ _ _ (by omega) (by omega) (by omega) (by omega)).mono ?_); rintro e w' ⟨rfl, ns, rfl⟩) | (go_at_call 19; (with_reducible refine (turn0 _ _ (by omega) (by omega)).mono ?_); rintro e w' ⟨rfl, rfl⟩) | (go_at_call 19; (with_reducible refine (turn32 _ _ (by omega) (by omega)).mono ?_); rintro e w' ⟨rfl, rfl⟩) | (go_at_call 21; (with_reducible refine (sext_out _ 0 _ (by omega) (by omega) (by omega)).mono ?_); rintro e w' ⟨rfl, rfl⟩) | (go_at_call 21; (with_reducible refine (sext_out _ 0 _ (by omega) (by omega) (by omega)).mono ?_); rintro e w' ⟨rfl, rfl⟩) | (go_at_call 23; (with_reducible refine (zeros_any _ _ (by omega) (by omega)).mono ?_); rintro e w' ⟨rfl, rfl⟩) | (go_at_call 14; (with_reducible refine (sure_any _).mono ?_); rintro e w' ⟨rfl, hg⟩))
      go_ret
      refine ⟨rfl, grown_trans ?_ (by assumption)⟩
      repeat (first | with_reducible exact Grown.refl _ | with_reducible refine grown_drewN ?_ _ | with_reducible refine Grown.alloc ?_ _ _)
    · obtain ⟨l, hl⟩ : ∃ l : Nat, l = 32 - k := ⟨_, rfl⟩
      have e3 : 32 - (k : Int) = l := by omega
      have k1 : 1 ≤ k := by omega
      have l1 : 1 ≤ l := by omega
      have l2 : l < 32 := by omega
      have r1 := rot_rot a0 k k1 hk32 h0 h0'
      have r2 := sx_sx a0 k k1 hk32 h0 h0'
      have r3 := rot_bd a0 k hk32 h0 h0'
      have r4 := sx_bd a0 k
      rw [← hl] at r1
      clear hl ck
      go_enter Try.func5, Try.ntmps5
      go_wp2_with (first | (go_at_call 8; (with_reducible refine (add_any _ _ _ _ (by omega) (by omega) (by omega) (by omega)).mono ?_); rintro e w' ⟨rfl, rfl⟩) | (go_at_call 10; (with_reducible refine (sub_any _ _ _ (by omega) (by omega) (by omega) (by omega)).mono ?_); rintro e w' ⟨rfl, rfl⟩) | (go_at_call 12; (with_reducible refine (mul_any _ _ _ (by omega) (by omega) (by omega) (by omega)).mono ?_); rintro e w' ⟨rfl, rfl⟩) | (go_at_call 25; (with_reducible refine (store4 _ _ (by omega) (by omega)).mono ?_); rintro e w' ⟨rfl, rfl⟩) | (go_at_call 26; (with_reducible refine (load4 (a0 % 256) (a0 / 256 % 256) (a0 / 65536 % 256) (a0 / 16777216) ⟨w.heap.size, 0, none⟩ _ (by omega) (by omega) (by omega) (by omega) (by omega) (by omega) (by omega) (by omega) (by simp) (by simp) (by simp) (by simp)).mono ?_); rintro e w' ⟨rfl, rfl⟩) | (go_at_call 27; (with_reducible refine (wdiv_any _ _ _ (by omega) (by omega) (by omega) (by omega)).mono ?_); rintro e w' ⟨rfl, nd, rfl⟩) | (go_at_call 28; (with_reducible refine (wsigned_any _ _ _ (by omega) (by omega) (by omega) (by omega)).mono ?_); rintro e w' ⟨rfl, ns, rfl⟩) | (go_at_call 19; (with_reducible refine (turn' _ k _ (by omega) (by omega) (by omega)).mono ?_); rintro e w' ⟨rfl, rfl⟩) | (go_at_call 19; (with_reducible refine (turn' _ l _ (by omega) (by omega) (by omega)).mono ?_); rintro e w' ⟨rfl, rfl⟩) | (go_at_call 21; (with_reducible refine (sext' _ k _ (by omega) (by omega) (by omega) (by omega)).mono ?_); rintro e w' ⟨rfl, rfl⟩) | (go_at_call 23; (with_reducible refine (zeros_any _ _ (by omega) (by omega)).mono ?_); rintro e w' ⟨rfl, rfl⟩) | (go_at_call 14; (with_reducible refine (sure_any _).mono ?_); rintro e w' ⟨rfl, hg⟩))
      go_ret
      refine ⟨rfl, grown_trans ?_ (by assumption)⟩
      repeat (first | with_reducible exact Grown.refl _ | with_reducible refine grown_drewN ?_ _ | with_reducible refine Grown.alloc ?_ _ _)
  · have c1 : (a1 == 0) = false := by simpa using c
    have c2 : 1 ≤ a1 := by omega
    clear c
    obtain ⟨q1, q2, q3, q4, q5, q6⟩ := quo_back a0 a1 h0 h0' c2 h1'
    have q7 := signed_back a0 a1 h0 h0' c2 h1'
    have q8 := m32_bd ((sg a0).tdiv (sg a1))
    have q9 := m32_bd ((sg a0).tmod (sg a1))
    have q10 := m32_bd (a0 / a1 * a1)
    have q11 := m32_bd (m32 ((sg a0).tdiv (sg a1)) * a1)
    by_cases ck : k = 0
    · subst ck
      go_enter Try.func5, Try.ntmps5
      go_wp2_with (first | (go_at_call 8; (with_reducible refine (add_any _ _ _ _ (by omega) (by omega) (by omega) (by omega)).mono ?_); rintro e w' ⟨rfl, rfl⟩) | (go_at_call 10; (with_reducible refine (sub_any _ _ _ (by omega) (by omega) (by omega) (by omega)).mono ?_); rintro e w' ⟨rfl, rfl⟩) | (go_at_call 12; (with_reducible refine (mul_any _ _ _ (by omega) (by omega) (by omega) (by omega)).mono ?_); rintro e w' ⟨rfl, rfl⟩) | (go_at_call 25; (with_reducible refine (store4 _ _ (by omega) (by omega)).mono ?_); rintro e w' ⟨rfl, rfl⟩) | (go_at_call 26; (with_reducible refine (load4 (a0 % 256) (a0 / 256 % 256) (a0 / 65536 % 256) (a0 / 16777216) ⟨w.heap.size, 0, none⟩ _ (by omega) (by omega) (by omega) (by omega) (by omega) (by omega) (by omega) (by omega) (by simp) (by simp) (by simp) (by simp)).mono ?_); rintro e w' ⟨rfl, rfl⟩) | (go_at_call 27; (with_reducible refine (wdiv_any _ _ _ (by omega) (by omega) (by omega) (by omega)).mono ?_); rintro e w' ⟨rfl, nd, rfl⟩) | (go_at_call 28; (with_reducible refine (wsigned_any _ _ _ (by omega) (by omega) (by omega) (by omega)).mono ?_); rintro e w' ⟨rfl, ns, rfl⟩) | (go_at_call 19; (with_reducible refine (turn0 _ _ (by omega) (by omega)).mono ?_); rintro e w' ⟨rfl, rfl⟩) | (go_at_call 19; (with_reducible refine (turn32 _ _ (by omega) (by omega)).mono ?_); rintro e w' ⟨rfl, rfl⟩) | (go_at_call 21; (with_reducible refine (sext_out _ 0 _ (by omega) (by omega) (by omega)).mono ?_); rintro e w' ⟨rfl, rfl⟩) | (go_at_call 21; (with_reducible refine (sext_out _ 0 _ (by omega) (by omega) (by omega)).mono ?_); rintro e w' ⟨rfl, rfl⟩) | (go_at_call 23; (with_reducible refine (zeros_any _ _ (by omega) (by omega)).mono ?_); rintro e w' ⟨rfl, rfl⟩) | (go_at_call 14; (with_reducible refine (sure_any _).mono ?_); rintro e w' ⟨rfl, hg⟩))
      go_ret
      refine ⟨rfl, grown_trans ?_ (by assumption)⟩
      repeat (first | with_reducible exact Grown.refl _ | with_reducible refine grown_drewN ?_ _ | with_reducible refine Grown.alloc ?_ _ _)
    · obtain ⟨l, hl⟩ : ∃ l : Nat, l = 32 - k := ⟨_, rfl⟩
      have e3 : 32 - (k : Int) = l := by omega
      have k1 : 1 ≤ k := by omega
      have l1 : 1 ≤ l := by omega
      have l2 : l < 32 := by omega
      have r1 := rot_rot a0 k k1 hk32 h0 h0'
      have r2 := sx_sx a0 k k1 hk32 h0 h0'
      have r3 := rot_bd a0 k hk32 h0 h0'
      have r4 := sx_bd a0 k
      rw [← hl] at r1
      clear hl ck
      go_enter Try.func5, Try.ntmps5
      go_wp2_with (first | (go_at_call 8; (with_reducible refine (add_any _ _ _ _ (by omega) (by omega) (by omega) (by omega)).mono ?_); rintro e w' ⟨rfl, rfl⟩) | (go_at_call 10; (with_reducible refine (sub_any _ _ _ (by omega) (by omega) (by omega) (by omega)).mono ?_); rintro e w' ⟨rfl, rfl⟩) | (go_at_call 12; (with_reducible refine (mul_any _ _ _ (by omega) (by omega) (by omega) (by omega)).mono ?_); rintro e w' ⟨rfl, rfl⟩) | (go_at_call 25; (with_reducible refine (store4 _ _ (by omega) (by omega)).mono ?_); rintro e w' ⟨rfl, rfl⟩) | (go_at_call 26; (with_reducible refine (load4 (a0 % 256) (a0 / 256 % 256) (a0 / 65536 % 256) (a0 / 16777216) ⟨w.heap.size, 0, none⟩ _ (by omega) (by omega) (by omega) (by omega) (by omega) (by omega) (by omega) (by omega) (by simp) (by simp) (by simp) (by simp)).mono ?_); rintro e w' ⟨rfl, rfl⟩) | (go_at_call 27; (with_reducible refine (wdiv_any _ _ _ (by omega) (by omega) (by omega) (by omega)).mono ?_); rintro e w' ⟨rfl, nd, rfl⟩) | (go_at_call 28; (with_reducible refine (wsigned_any _ _ _ (by omega) (by omega) (by omega) (by omega)).mono ?_); rintro e w' ⟨rfl, ns, rfl⟩) | (go_at_call 19; (with_reducible refine (turn' _ k _ (by omega) (by omega) (by omega)).mono ?_); rintro e w' ⟨rfl, rfl⟩) | (go_at_call 19; (with_reducible refine (turn' _ l _ (by omega) (by omega) (by omega)).mono ?_); rintro e w' ⟨rfl, rfl⟩) | (go_at_call 21; (with_reducible refine (sext' _ k _ (by omega) (by omega) (by omega) (by omega)).mono ?_); rintro e w' ⟨rfl, rfl⟩) | (go_at_call 23; (with_reducible refine (zeros_any _ _ (by omega) (by omega)).mono ?_); rintro e w' ⟨rfl, rfl⟩) | (go_at_call 14; (with_reducible refine (sure_any _).mono ?_); rintro e w' ⟨rfl, hg⟩))
      go_ret
      refine ⟨rfl, grown_trans ?_ (by assumption)⟩
      repeat (first | with_reducible exact Grown.refl _ | with_reducible refine grown_drewN ?_ _ | with_reducible refine Grown.alloc ?_ _ _)

/-! ### THE ROW's STEP: WRITTEN OUT: LEAVE IT -/
set_option maxRecDepth 100000 in
theorem lifted (os : Os) (started : os.Started) (H : Type) (enc : TypeId × Value → H) :
    ReturnsInHanded {} Try.checked os 5 .any (Rows.wordLawsSpec.pre6 enc Try.prog Try.f5 Rows.wordLawsRow.domain false) (Rows.wordLawsSpec.post enc Try.prog Try.f5 false true false false) := by
  refine returnsInHanded_of_change (C := Try.checked) own started (by kernel_rfl) Try.func5
    (ChangeSpec.witness6 (enc := enc) (C := Try.checked) false ⟨#[], #[.int .u32 0, .int .u32 0, .int .i64 0], []⟩ 8 (by kernel_rfl) (by kernel_rfl) (by kernel_rfl) (by kernel_rfl)) ?_
  intro W base args ds gs before hval0 hW hcnd _
  have hval : ∀ (j : Nat) t v, Try.f5.params[j]? = some t → args[j]? = some v → Value.okWide Try.prog W .any base t v := hval0
  have hW' := hW
  obtain ⟨p, q, hA0, hV, rfl, hfz, hnd⟩ := hW
  have hA : DataW.TrodAll enc Try.prog W 0 (fun _ => true) true Try.f5.params.toList args.toList ds p := hA0
  rw [Try.params5] at hA hval
  obtain ⟨v0, vs0, d0, ds0, p0, q0, hargs, rfl, rfl, h0, r0⟩ := trodAll_cons hA
  obtain ⟨v1, vs1, d1, ds1, p1, q1, rfl, rfl, rfl, h1, r1⟩ := trodAll_cons r0
  obtain ⟨v2, vs2, d2, ds2, p2, q2, rfl, rfl, rfl, h2, r2⟩ := trodAll_cons r1
  obtain ⟨rfl, rfl, rfl⟩ := trodAll_nil r2
  obtain rfl : args = #[v0, v1, v2] := by cases args; simp_all
  obtain ⟨rfl, rfl⟩ := trodVars_none hV
  obtain ⟨a0, rfl, rfl, rfl, w0⟩ := open_int Try.underlying22 (hval 0 22 v0 rfl rfl) h0
  obtain ⟨a1, rfl, rfl, rfl, w1⟩ := open_int Try.underlying22 (hval 1 22 v1 rfl rfl) h1
  obtain ⟨a2, rfl, rfl, rfl, w2⟩ := open_int Try.underlying3 (hval 2 3 v2 rfl rfl) h2
  clear hA0 hval0
  simp only [List.append_nil] at hW'
  refine (walk a0 a1 a2 w0 w1 w2 W).mono fun e W' ⟨he, hg⟩ => ?_
  subst he
  exact ⟨_, rfl, post_of_same (pa := []) (pv := []) hW' (fun _ _ _ => (trodAll_cons_mk (shut_bool Try.underlying4 _) trodAll_mk0)) (fun sp _ => (trodAll_cons_mk (shut_int Try.underlying22 w0) (trodAll_cons_mk (shut_int Try.underlying22 w1) (trodAll_cons_mk (shut_int Try.underlying3 w2) trodAll_mk0)))) (fun _ _ => rfl) rfl
    (hg.frame _) hg.2.1 (ok_one (by kernel_rfl) rfl (okWide_bool_mk Try.underlying4 _))⟩

theorem over : Rows.wordLawsRow.holds Try.pinned (OpenSpec.ofChange Rows.wordLawsSpec) :=
  OpenClaim.holds_of_wide 5 Try.f5 rfl rfl rfl rfl rfl rfl rfl ⟨rfl, rfl, rfl, rfl, rfl⟩ rfl rfl rfl rfl rfl (by kernel_rfl) Try.func5 (by kernel_rfl)
    (of_decide_eq_true (by kernel_rfl)) (by unfold Func.isWrapper; first | (rw [if_pos (by decide +kernel)]; kernel_rfl) | (rw [if_neg (by decide +kernel)]; exact ⟨rfl, rfl⟩))
    (fun os started H enc _ => lifted os started H enc)

/-- ████ THE STATEMENT ████ -/
theorem proved : Rows.WordLawsSaid :=
  over
#print axioms proved
end Go.Proofs.Ytfchjlfpbfkdfaa.wordLaws
