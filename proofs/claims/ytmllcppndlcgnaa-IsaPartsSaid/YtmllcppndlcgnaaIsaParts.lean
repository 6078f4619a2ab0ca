/- Each part of an instruction that may be stands at its own place of its number: another number in it changes nothing but the lowest 16 bits; one that may not be has no number; the statement holds for every instruction and every number. -/
import Derived.Test.YtmllcppndlcgnaaRows
import Derived.Test.YtmllcppndlcgnaaIsC
import Derived.Test.YtmllcppndlcgnaaFlat
import Derived.Test.YtmllcppndlcgnaaBox
import Derived.Test.YtmllcppndlcgnaaPost
import Derived.WalkKit
import Derived.ProofKit
import Derived.OpenShut
import Derived.ShutString
import Derived.ChangeOld
import Derived.Below
namespace Go.Proofs.Ytmllcppndlcgnaa.isaParts
open Go.ChangeShapes Go.WideShapes Go.ChangeAt Go.RowKit
open Go.ChangeMaps (open_string shut_string)
set_option linter.unusedVariables false

theorem own : ownKnob Try.prog.godebug = none := by kernel_rfl
theorem laidOut : laidOutB Try.prog = true := by kernel_rfl

/-- WHAT THE WALK IS TOLD OF A SLICE OF INTEGERS THAT CAME IN: it is nil; or it leads to a row of 'cap' cells, the numbers 'zs' (the first 'len' are its elements, the rest its spare room), each fitting its kind. -/
def IsRow (k : IntKind) (w : World) (a : Option Addr) (len cap : Nat) (zs : List Int) : Prop :=
  (a = none ∧ len = 0 ∧ cap = 0 ∧ zs = []) ∨
  ∃ x, a = some x ∧ len ≤ cap ∧ cap ≤ maxLen ∧ zs.length = cap ∧ (∀ i, i < zs.length → w.cell? (x.add i) = some (.int k (zs.getD i 0))) ∧ ∀ n ∈ zs, (Lit.int k n).wf = true

/-! ### STEP 1: THE WALK: the Go text returns true, AND WRITES NOTHING THAT WAS THERE: 'Below w.heap.size w w'' (Derived/Below.lean: '.refl', '.alloc', '.drew', '.setCell' at a new block, '.trans'). Open each 'IsRow' by 'rcases' AHEAD of 'go_enter'; part every test ahead of the walk. -/
set_option maxHeartbeats 8000000 in
set_option maxRecDepth 100000 in
theorem walk (v0 : Value) (a1 : Int) (w : World) (w0 : Flat [some .i64, some .i64, some .i64, some .i64] v0) (w1 : (Lit.int .i64 a1).wf = true) :
    Calls Try.prog 3 #[v0, .int .i64 a1] w fun e w' => e = .returned (.bool true) ∧ Below w.heap.size w w' := by
  obtain ⟨x0, x1, x2, x3, rfl, ⟨o, rfl, _⟩, ⟨a, rfl, _⟩, ⟨b, rfl, _⟩, ⟨m, rfl, _⟩⟩ := flat4 w0
  clear w0
  obtain ⟨m', hm'⟩ : ∃ m', m' = a1 % 65536 - 32768 := ⟨_, rfl⟩
  have hw := half_wr a1
  rw [← hm'] at hw
  by_cases ok : InOk o a b m
  · have ok' : InOk o a b m' := by unfold InOk at ok ⊢; omega
    have k1 := innum_is o a b m ok
    have k2 := innum_is o a b m' ok'
    have q1 := fun w => iencode_ok o a b m w ok
    have q2 := fun w => iencode_ok o a b m' w ok'
    have q3 := fun w => idecode_ok (innum o a b m') w k2.1 (by omega) (by omega)
    rw [k2.2.2.1, k2.2.2.2.1, k2.2.2.2.2.1, k2.2.2.2.2.2] at q3
    have e1 : innum o a b m / 65536 = innum o a b m' / 65536 := by unfold innum; omega
    have e2 : (innum o a b m = innum o a b m') ↔ (m = m') := by
      constructor
      · intro h
        rw [← k1.2.2.2.2.2, ← k2.2.2.2.2.2, h]
      · intro h; rw [h]
    obtain ⟨k3, k4, k5, -⟩ := k1
    obtain ⟨k6, k7, k8, -⟩ := k2
    clear ok ok'
    generalize innum o a b m = V at *
    generalize innum o a b m' = W at *
    have E1 := Lib.hid e1
    have E2 := Lib.hid e2
    have K5 := Lib.hid k5
    have K8 := Lib.hid k8
    clear e1 e2 k5 k8 hm'
    go_enter Try.func3, Try.ntmps3
    go_wp2_with fail
    refine (q1 _).mono ?_
    rintro e w1 ⟨rfl, n1⟩
    have N1 := ((New.refl w).alloc #[.int .i64 o, .int .i64 a, .int .i64 b, .int .i64 m] 23).trans n1
    have I1 := (Box.here w _ #[.int .i64 o, .int .i64 a, .int .i64 b, .int .i64 m] 23 rfl).new n1
    clear n1
    obtain ⟨i0, i1, i2, i3⟩ := I1.four
    go_wp2_with fail
    simp only [hw]
    have N2 := N1.alloc #[.int .i64 o, .int .i64 a, .int .i64 b, .int .i64 m'] 29
    have I2 := I1.alloc (.cells #[.int .i64 o, .int .i64 a, .int .i64 b, .int .i64 m'] 29)
    have O2 := Box.here w1 _ #[.int .i64 o, .int .i64 a, .int .i64 b, .int .i64 m'] 29 rfl
    have hz : w.heap.size < w1.heap.size := I1.lt
    clear N1 I1 i0 i1 i2 i3
    refine (q2 _).mono ?_
    rintro e w2 ⟨rfl, n2⟩
    have N3 := N2.trans n2
    have I3 := I2.new n2
    have O3 := O2.new n2
    clear N2 I2 O2 n2
    go_wp2_with fail
    refine (q3 _).mono ?_
    rintro e w3 ⟨rfl, n3⟩
    have N4 := N3.trans n3
    have I4 := I3.new n3
    have O4 := O3.new n3
    clear N3 I3 O3 n3
    obtain ⟨i0, i1, i2, i3⟩ := I4.four
    obtain ⟨o0, o1, o2, o3⟩ := O4.four
    have z4 := I4.lt
    have z5 := O4.lt
    clear hw q1 q2 q3
    have d3 : (V / 65536 == W / 65536) = true := by simpa using E1.out
    have d4 : (V / 16777216 == o) = true := by simpa using K5.out
    by_cases c : m = m'
    · have d1 : (m == m') = true := by simpa using c
      have d2 : (V == W) = true := by simpa using E2.out.2 c
      clear c
      go_wp2_with fail
      refine (isure_any _).mono ?_
      rintro e w5 ⟨rfl, n5⟩
      go_wp2_with fail
      go_ret
      exact ⟨rfl, (N4.alloc _ _).trans n5⟩
    · have d1 : (m == m') = false := by simpa using c
      have d2 : (V == W) = false := by simpa using (fun h => c (E2.out.1 h))
      clear c
      go_wp2_with fail
      refine (isure_any _).mono ?_
      rintro e w5 ⟨rfl, n5⟩
      go_wp2_with fail
      go_ret
      exact ⟨rfl, (N4.alloc _ _).trans n5⟩
  · have q1 := fun w => iencode_no o a b m w ok
    have q2 := fun w => iencode_any o a b m' w
    generalize icv o a b m' = W at *
    generalize ice o a b m' = er at *
    clear ok hm'
    go_enter Try.func3, Try.ntmps3
    go_wp2_with fail
    refine (q1 _).mono ?_
    rintro e w1 ⟨rfl, n1⟩
    have N1 := ((New.refl w).alloc #[.int .i64 o, .int .i64 a, .int .i64 b, .int .i64 m] 23).trans n1
    have I1 := (Box.here w _ #[.int .i64 o, .int .i64 a, .int .i64 b, .int .i64 m] 23 rfl).new n1
    clear n1
    obtain ⟨i0, i1, i2, i3⟩ := I1.four
    go_wp2_with fail
    simp only [hw]
    have N2 := N1.alloc #[.int .i64 o, .int .i64 a, .int .i64 b, .int .i64 m'] 29
    clear N1 I1 i0 i1 i2 i3 hw
    refine (q2 _).mono ?_
    rintro e w2 ⟨rfl, n2⟩
    have N3 := N2.trans n2
    clear N2 n2 q1 q2
    go_wp2_with fail
    refine (isure_any _).mono ?_
    rintro e w5 ⟨rfl, n5⟩
    go_wp2_with fail
    go_ret
    exact ⟨rfl, N3.trans n5⟩

/-! ### THE ROW's STEP: WRITTEN OUT: LEAVE IT -/
set_option maxRecDepth 100000 in
theorem lifted (os : Os) (started : os.Started) (H : Type) (enc : TypeId × Value → H) :
    ReturnsInHanded {} Try.checked os 3 .any (Rows.isaPartsSpec.pre6 enc Try.prog Try.f3 Rows.isaPartsRow.domain false) (Rows.isaPartsSpec.post enc Try.prog Try.f3 false true false false) := by
  refine returnsInHanded_of_change (C := Try.checked) own started (by kernel_rfl) Try.func3
    (ChangeSpec.witness6 (enc := enc) (C := Try.checked) false ⟨#[], #[.agg #[.int .i64 0, .int .i64 0, .int .i64 0, .int .i64 0], .int .i64 0], []⟩ 8 (by kernel_rfl) (by kernel_rfl) (by kernel_rfl) (by kernel_rfl)) ?_
  intro W base args ds gs before hval0 hW hcnd _
  have hval : ∀ (j : Nat) t v, Try.f3.params[j]? = some t → args[j]? = some v → Value.okWide Try.prog W .any base t v := hval0
  have hW' := hW
  obtain ⟨p, q, hA0, hV, rfl, hfz, hnd⟩ := hW
  have hA : DataW.TrodAll enc Try.prog W 0 (fun _ => true) true Try.f3.params.toList args.toList ds p := hA0
  rw [Try.params3] at hA hval
  obtain ⟨v0, vs0, d0, ds0, p0, q0, hargs, rfl, rfl, h0, r0⟩ := trodAll_cons hA
  obtain ⟨v1, vs1, d1, ds1, p1, q1, rfl, rfl, rfl, h1, r1⟩ := trodAll_cons r0
  obtain ⟨rfl, rfl, rfl⟩ := trodAll_nil r1
  obtain rfl : args = #[v0, v1] := by cases args; simp_all
  obtain ⟨rfl, rfl⟩ := trodVars_none hV
  have k0 := h0
  have lt0 : ∀ x ∈ p0, x.block < W.heap.size := by obtain ⟨m, hm⟩ := k0; exact DataW.trod_lt m _ _ _ hm
  have w0 : Flat [some .i64, some .i64, some .i64, some .i64] v0 := flat_of Try.underlying23 (by kernel_rfl) (by kernel_rfl) rfl (fun i k f hi hf => by
    rcases i with _| _| _| _| _
    · (simp at hi hf; subst hi hf; exact Try.underlying3)
    · (simp at hi hf; subst hi hf; exact Try.underlying3)
    · (simp at hi hf; subst hi hf; exact Try.underlying3)
    · (simp at hi hf; subst hi hf; exact Try.underlying3)
    · simp at hi) (hval 0 23 v0 rfl rfl) h0
  obtain ⟨a1, rfl, rfl, rfl, w1⟩ := open_int Try.underlying3 (hval 1 3 v1 rfl rfl) h1
  clear hA0 hval0
  refine (walk v0 a1 W w0 w1).mono fun e W' ⟨he, bel⟩ => ?_
  subst he
  exact ⟨_, rfl, _, _, _, [], _, [], hW', trodAll_mk1 (shut_bool Try.underlying4 _), (trodAll_cons_mk (Below.trod laidOut (by kernel_rfl) (of_decide_eq_true (by kernel_rfl)) k0 bel lt0) (trodAll_cons_mk (shut_int Try.underlying3 w1) trodAll_mk0)), rfl, bel.frame _, fun h => by cases h⟩

theorem over : Rows.isaPartsRow.holds Try.pinned (OpenSpec.ofChange Rows.isaPartsSpec) :=
  OpenClaim.holds_of_wide 3 Try.f3 rfl rfl rfl rfl rfl rfl rfl ⟨rfl, rfl, rfl, rfl, rfl⟩ rfl rfl rfl rfl rfl (by kernel_rfl) Try.func3 (by kernel_rfl)
    (of_decide_eq_true (by kernel_rfl)) (by unfold Func.isWrapper; first | (rw [if_pos (by decide +kernel)]; kernel_rfl) | (rw [if_neg (by decide +kernel)]; exact ⟨rfl, rfl⟩))
    (fun os started H enc _ => lifted os started H enc)

/-- ████ THE STATEMENT ████ -/
theorem proved : Rows.IsaPartsSaid := over
#print axioms proved
end Go.Proofs.Ytmllcppndlcgnaa.isaParts
