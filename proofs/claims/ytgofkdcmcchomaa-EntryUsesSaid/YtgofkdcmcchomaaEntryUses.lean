/- An entry that may be may be used just as its uses say, shared or not and in whatever frame, and one that may not be may not be used; the statement holds for every entry and every use. -/
import Derived.Test.YtgofkdcmcchomaaRows
import Derived.Test.YtgofkdcmcchomaaEnD
import Derived.Test.YtgofkdcmcchomaaFlat
import Derived.Test.YtgofkdcmcchomaaBox
import Derived.Test.YtgofkdcmcchomaaPost
import Derived.WalkKit
import Derived.ProofKit
import Derived.OpenShut
import Derived.ShutString
import Derived.ChangeOld
import Derived.Below
namespace Go.Proofs.Ytgofkdcmcchomaa.entryUses
open Go.ChangeShapes Go.WideShapes Go.ChangeAt Go.RowKit
open Go.ChangeMaps (open_string shut_string)
set_option linter.unusedVariables false

theorem own : ownKnob Try.prog.godebug = none := by kernel_rfl
theorem laidOut : laidOutB Try.prog = true := by kernel_rfl

/-- WHAT THE WALK IS TOLD OF A SLICE OF INTEGERS THAT CAME IN: it is nil; or it leads to a row of 'cap' cells, the numbers 'zs' (the first 'len' are its elements, the rest its spare room), each fitting its kind. -/
def IsRow (k : IntKind) (w : World) (a : Option Addr) (len cap : Nat) (zs : List Int) : Prop :=
  (a = none ∧ len = 0 ∧ cap = 0 ∧ zs = []) ∨
  ∃ x, a = some x ∧ len ≤ cap ∧ cap ≤ maxLen ∧ zs.length = cap ∧ (∀ i, i < zs.length → w.cell? (x.add i) = some (.int k (zs.getD i 0))) ∧ ∀ n ∈ zs, (Lit.int k n).wf = true

/-! ### STEP 1: THE WALK: the Go text returns true, AND WRITES NOTHING THAT WAS THERE: 'Below w.heap.size w w'' (Derived/Below.lean: '.refl', '.alloc', '.drew', '.setCell' at a new block, '.trans'). Open each 'IsRow' by 'rcases' AHEAD of 'go_enter'; part every test ahead of the walk. -/
set_option maxHeartbeats 8000000 in
set_option maxRecDepth 100000 in
theorem walk (v0 : Value) (a1 : Int) (w : World) (w0 : Flat [some .i64, some .u8, none] v0) (w1 : (Lit.int .u8 a1).wf = true) :
    Calls Try.prog 3 #[v0, .int .u8 a1] w fun e w' => e = .returned (.bool true) ∧ Below w.heap.size w w' := by
  obtain ⟨x0, x1, x2, rfl, ⟨f, rfl, hf0⟩, ⟨p, rfl, hp0⟩, ⟨c, rfl⟩⟩ := flat3 w0
  have b1 := u8_bd w1
  have b3 := u8_bd hp0
  clear w0 w1 hf0 hp0
  by_cases ok : 0 ≤ f ∧ f < 1024 ∧ p ≤ 7
  · have q1 := fun w => echeck_ok f p c w ok.1 ok.2.1 b3.1 ok.2.2
    by_cases hu : a1 = 1 ∨ a1 = 2 ∨ a1 = 4
    · have q2 := fun w => may_ok f p c w a1 ok.1 ok.2.1 b3.1 ok.2.2 hu
      have q3 := fun w => may_ok 7 p (!c) w a1 (by omega) (by omega) b3.1 ok.2.2 hu
      have hb := and_use p a1 b3.1 b3.2 hu
      clear ok
      generalize usb p a1 = ub at q2 q3 hb
      rcases hu with rfl | rfl | rfl <;> rcases ub with _ | _
      all_goals
        simp only [if_true, Bool.false_eq_true, if_false] at hb
        have nA : New w (((w.alloc (.cells #[.int .i64 f, .int .u8 p, .bool c] 23)).alloc (.cells #[.int .i64 f, .int .u8 p, .bool c] 24)).alloc (.cells #[.int .i64 7, .int .u8 p, .bool !c] 24)) := (((New.refl w).alloc #[.int .i64 f, .int .u8 p, .bool c] 23).alloc #[.int .i64 f, .int .u8 p, .bool c] 24).alloc #[.int .i64 7, .int .u8 p, .bool !c] 24
        have xA : Box (((w.alloc (.cells #[.int .i64 f, .int .u8 p, .bool c] 23)).alloc (.cells #[.int .i64 f, .int .u8 p, .bool c] 24)).alloc (.cells #[.int .i64 7, .int .u8 p, .bool !c] 24)) (w.heap.size + 1) #[.int .i64 f, .int .u8 p, .bool c] 24 := (Box.here _ _ #[.int .i64 f, .int .u8 p, .bool c] 24 (by simp)).alloc _
        have yA : Box (((w.alloc (.cells #[.int .i64 f, .int .u8 p, .bool c] 23)).alloc (.cells #[.int .i64 f, .int .u8 p, .bool c] 24)).alloc (.cells #[.int .i64 7, .int .u8 p, .bool !c] 24)) (w.heap.size + 1 + 1) #[.int .i64 7, .int .u8 p, .bool !c] 24 := Box.here _ _ #[.int .i64 7, .int .u8 p, .bool !c] 24 (by simp)
        generalize hW : ((w.alloc (.cells #[.int .i64 f, .int .u8 p, .bool c] 23)).alloc (.cells #[.int .i64 f, .int .u8 p, .bool c] 24)).alloc (.cells #[.int .i64 7, .int .u8 p, .bool !c] 24) = WA at nA xA yA
        have HW := Lib.hid hW
        clear hW
        go_enter Try.func3, Try.ntmps3
        go_wp2_with fail
        rw [HW.out]
        clear HW
        refine (q2 _).mono ?_
        rintro e w1 ⟨rfl, n1⟩
        have N1 := nA.trans n1
        have x1 := xA.new n1
        have y1 := yA.new n1
        clear nA xA yA n1 q2
        obtain ⟨xa, xb, xc⟩ := x1.three
        go_wp2_with fail
        refine (q1 _).mono ?_
        rintro e w2 ⟨rfl, n2⟩
        have N2 := N1.trans n2
        have x2 := x1.new n2
        have y2 := y1.new n2
        clear N1 x1 y1 n2 q1 xa xb xc
        obtain ⟨xa, xb, xc⟩ := x2.three
        obtain ⟨ya, yb, yc⟩ := y2.three
        go_wp2_with fail
        clear xa xb xc ya yb yc
        refine (q3 _).mono ?_
        rintro e w4 ⟨rfl, n4⟩
        have N4 := N2.trans n4
        clear N2 n4 q3
        go_wp2_with fail
        refine (ensure_any _).mono ?_
        rintro e w5 ⟨rfl, n5⟩
        go_wp2_with fail
        go_ret
        exact ⟨rfl, N4.trans n5⟩
    · have q2 := fun w => may_not f p c w a1 ok.1 ok.2.1 b3.1 ok.2.2 hu
      have q3 := fun w => may_not 7 p (!c) w a1 (by omega) (by omega) b3.1 ok.2.2 hu
      have d1 : (a1 == 1) = false := by simp; omega
      have d2 : (a1 == 2) = false := by simp; omega
      have d3 : (a1 == 4) = false := by simp; omega
      clear ok hu
      have nA : New w (((w.alloc (.cells #[.int .i64 f, .int .u8 p, .bool c] 23)).alloc (.cells #[.int .i64 f, .int .u8 p, .bool c] 24)).alloc (.cells #[.int .i64 7, .int .u8 p, .bool !c] 24)) := (((New.refl w).alloc #[.int .i64 f, .int .u8 p, .bool c] 23).alloc #[.int .i64 f, .int .u8 p, .bool c] 24).alloc #[.int .i64 7, .int .u8 p, .bool !c] 24
      have xA : Box (((w.alloc (.cells #[.int .i64 f, .int .u8 p, .bool c] 23)).alloc (.cells #[.int .i64 f, .int .u8 p, .bool c] 24)).alloc (.cells #[.int .i64 7, .int .u8 p, .bool !c] 24)) (w.heap.size + 1) #[.int .i64 f, .int .u8 p, .bool c] 24 := (Box.here _ _ #[.int .i64 f, .int .u8 p, .bool c] 24 (by simp)).alloc _
      have yA : Box (((w.alloc (.cells #[.int .i64 f, .int .u8 p, .bool c] 23)).alloc (.cells #[.int .i64 f, .int .u8 p, .bool c] 24)).alloc (.cells #[.int .i64 7, .int .u8 p, .bool !c] 24)) (w.heap.size + 1 + 1) #[.int .i64 7, .int .u8 p, .bool !c] 24 := Box.here _ _ #[.int .i64 7, .int .u8 p, .bool !c] 24 (by simp)
      generalize hW : ((w.alloc (.cells #[.int .i64 f, .int .u8 p, .bool c] 23)).alloc (.cells #[.int .i64 f, .int .u8 p, .bool c] 24)).alloc (.cells #[.int .i64 7, .int .u8 p, .bool !c] 24) = WA at nA xA yA
      have HW := Lib.hid hW
      clear hW
      go_enter Try.func3, Try.ntmps3
      go_wp2_with fail
      rw [HW.out]
      clear HW
      refine (q2 _).mono ?_
      rintro e w1 ⟨rfl, n1⟩
      have N1 := nA.trans n1
      have x1 := xA.new n1
      have y1 := yA.new n1
      clear nA xA yA n1 q2
      obtain ⟨xa, xb, xc⟩ := x1.three
      go_wp2_with fail
      refine (q1 _).mono ?_
      rintro e w2 ⟨rfl, n2⟩
      have N2 := N1.trans n2
      have x2 := x1.new n2
      have y2 := y1.new n2
      clear N1 x1 y1 n2 q1 xa xb xc
      obtain ⟨xa, xb, xc⟩ := x2.three
      obtain ⟨ya, yb, yc⟩ := y2.three
      go_wp2_with fail
      clear xa xb xc ya yb yc
      refine (q3 _).mono ?_
      rintro e w4 ⟨rfl, n4⟩
      have N4 := N2.trans n4
      clear N2 n4 q3
      go_wp2_with fail
      refine (ensure_any _).mono ?_
      rintro e w5 ⟨rfl, n5⟩
      go_wp2_with fail
      go_ret
      exact ⟨rfl, N4.trans n5⟩
  · have q2 := fun w => may_no f p c w a1 b3.1 ok
    have q1 := fun w => echeck_no f p c w b3.1 ok
    clear ok
    have nA : New w (((w.alloc (.cells #[.int .i64 f, .int .u8 p, .bool c] 23)).alloc (.cells #[.int .i64 f, .int .u8 p, .bool c] 24)).alloc (.cells #[.int .i64 7, .int .u8 p, .bool !c] 24)) := (((New.refl w).alloc #[.int .i64 f, .int .u8 p, .bool c] 23).alloc #[.int .i64 f, .int .u8 p, .bool c] 24).alloc #[.int .i64 7, .int .u8 p, .bool !c] 24
    have xA : Box (((w.alloc (.cells #[.int .i64 f, .int .u8 p, .bool c] 23)).alloc (.cells #[.int .i64 f, .int .u8 p, .bool c] 24)).alloc (.cells #[.int .i64 7, .int .u8 p, .bool !c] 24)) (w.heap.size + 1) #[.int .i64 f, .int .u8 p, .bool c] 24 := (Box.here _ _ #[.int .i64 f, .int .u8 p, .bool c] 24 (by simp)).alloc _
    have yA : Box (((w.alloc (.cells #[.int .i64 f, .int .u8 p, .bool c] 23)).alloc (.cells #[.int .i64 f, .int .u8 p, .bool c] 24)).alloc (.cells #[.int .i64 7, .int .u8 p, .bool !c] 24)) (w.heap.size + 1 + 1) #[.int .i64 7, .int .u8 p, .bool !c] 24 := Box.here _ _ #[.int .i64 7, .int .u8 p, .bool !c] 24 (by simp)
    generalize hW : ((w.alloc (.cells #[.int .i64 f, .int .u8 p, .bool c] 23)).alloc (.cells #[.int .i64 f, .int .u8 p, .bool c] 24)).alloc (.cells #[.int .i64 7, .int .u8 p, .bool !c] 24) = WA at nA xA yA
    have HW := Lib.hid hW
    clear hW
    go_enter Try.func3, Try.ntmps3
    go_wp2_with fail
    rw [HW.out]
    clear HW
    refine (q2 _).mono ?_
    rintro e w1 ⟨rfl, n1⟩
    have N1 := nA.trans n1
    have x1 := xA.new n1
    have y1 := yA.new n1
    clear nA xA yA n1 q2
    obtain ⟨xa, xb, xc⟩ := x1.three
    go_wp2_with fail
    refine (q1 _).mono ?_
    rintro e w2 ⟨rfl, n2⟩
    have N2 := N1.trans n2
    have x2 := x1.new n2
    have y2 := y1.new n2
    clear N1 x1 y1 n2 q1 xa xb xc
    go_wp2_with fail
    refine (ensure_any _).mono ?_
    rintro e w5 ⟨rfl, n5⟩
    go_wp2_with fail
    go_ret
    exact ⟨rfl, N2.trans n5⟩

/-! ### THE ROW's STEP: WRITTEN OUT: LEAVE IT -/
set_option maxRecDepth 100000 in
theorem lifted (os : Os) (started : os.Started) (H : Type) (enc : TypeId × Value → H) :
    ReturnsInHanded {} Try.checked os 3 .any (Rows.entryUsesSpec.pre6 enc Try.prog Try.f3 Rows.entryUsesRow.domain false) (Rows.entryUsesSpec.post enc Try.prog Try.f3 false true false false) := by
  refine returnsInHanded_of_change (C := Try.checked) own started (by kernel_rfl) Try.func3
    (ChangeSpec.witness6 (enc := enc) (C := Try.checked) false ⟨#[], #[.agg #[.int .i64 0, .int .u8 0, .bool false], .int .u8 0], []⟩ 8 (by kernel_rfl) (by kernel_rfl) (by kernel_rfl) (by kernel_rfl)) ?_
  intro W base args ds gs before hval0 hW hcnd _
  have hval : ∀ (j : Nat) t v, Try.f3.params[j]? = some t → args[j]? = some v → Value.okWide Try.prog W .any base t v := hval0
  have hW' := hW
  obtain ⟨p, q, hA0, hV, rfl, hfz, hnd⟩ := hW
  have hA : DataW.TrodAll enc Try.prog W 0 (fun _ => true) true Try.f3.params.toList args.toList ds p := hA0
  rw [Try.params3] at hA hval
  obtain ⟨v0, vs0, d0, ds0, p0, q0, hargs, rfl, rfl, h0, r0⟩ := trodAll_cons hA
  obtain ⟨v1, vs1, d1, ds1, p1, q1, rfl, rfl, rfl, h1, r1⟩ := trodAll_cons r0
  obtain ⟨rfl, rfl, rfl⟩ := trodAll_nil r1
  obtain rfl : args = #[v0, v1] := by cases args; simp_all
  obtain ⟨rfl, rfl⟩ := trodVars_none hV
  have k0 := h0
  have lt0 : ∀ x ∈ p0, x.block < W.heap.size := by obtain ⟨m, hm⟩ := k0; exact DataW.trod_lt m _ _ _ hm
  have w0 : Flat [some .i64, some .u8, none] v0 := flat_of Try.underlying23 (by kernel_rfl) (by kernel_rfl) rfl (fun i k f hi hf => by
    rcases i with _| _| _| _
    · (simp at hi hf; subst hi hf; exact Try.underlying3)
    · (simp at hi hf; subst hi hf; exact Try.underlying5)
    · (simp at hi hf; subst hi hf; exact Try.underlying4)
    · simp at hi) (hval 0 23 v0 rfl rfl) h0
  obtain ⟨a1, rfl, rfl, rfl, w1⟩ := open_int Try.underlying5 (hval 1 5 v1 rfl rfl) h1
  clear hA0 hval0
  refine (walk v0 a1 W w0 w1).mono fun e W' ⟨he, bel⟩ => ?_
  subst he
  exact ⟨_, rfl, _, _, _, [], _, [], hW', trodAll_mk1 (shut_bool Try.underlying4 _), (trodAll_cons_mk (Below.trod laidOut (by kernel_rfl) (of_decide_eq_true (by kernel_rfl)) k0 bel lt0) (trodAll_cons_mk (shut_int Try.underlying5 w1) trodAll_mk0)), rfl, bel.frame _, fun h => by cases h⟩

theorem over : Rows.entryUsesRow.holds Try.pinned (OpenSpec.ofChange Rows.entryUsesSpec) :=
  OpenClaim.holds_of_wide 3 Try.f3 rfl rfl rfl rfl rfl rfl rfl ⟨rfl, rfl, rfl, rfl, rfl⟩ rfl rfl rfl rfl rfl (by kernel_rfl) Try.func3 (by kernel_rfl)
    (of_decide_eq_true (by kernel_rfl)) (by unfold Func.isWrapper; first | (rw [if_pos (by decide +kernel)]; kernel_rfl) | (rw [if_neg (by decide +kernel)]; exact ⟨rfl, rfl⟩))
    (fun os started H enc _ => lifted os started H enc)

/-- ████ THE STATEMENT ████ -/
theorem proved : Rows.EntryUsesSaid := over
#print axioms proved
end Go.Proofs.Ytgofkdcmcchomaa.entryUses
