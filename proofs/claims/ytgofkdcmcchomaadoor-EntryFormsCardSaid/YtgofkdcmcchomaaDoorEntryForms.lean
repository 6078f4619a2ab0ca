/- Any entry as a number, the entry of any number, whether an entry may be, and what it may be used for, or the errors, are the document's own; the statement holds for every input, where the library's variable errors.errorType holds what its own text lays, which the card ties. -/
import Derived.Test.YtgofkdcmcchomaaDoorRows
import Derived.Test.YtgofkdcmcchomaaDoorEnE
import Derived.Test.YtgofkdcmcchomaaDoorEnD
import Derived.Test.YtgofkdcmcchomaaDoorFlat
import Derived.Test.YtgofkdcmcchomaaDoorBox
import Derived.Deep.RegionHeld3
import Derived.Test.YtgofkdcmcchomaaDoorCards
import Derived.Test.YtgofkdcmcchomaaDoorTie
import Derived.LaidMore
import Derived.LaidLaws
import Derived.LaidHandle
import Derived.Test.YtgofkdcmcchomaaDoorLay
import Derived.Test.YtgofkdcmcchomaaDoorPost
import Derived.WalkKit
import Derived.ProofKit
import Derived.OpenShut
import Derived.ShutString
import Derived.ChangeOld
import Derived.Below
namespace Go.Proofs.YtgofkdcmcchomaaDoor.entryForms
open Go.ChangeShapes Go.WideShapes Go.ChangeAt Go.RowKit
open Go.ChangeMaps (open_string shut_string)
set_option linter.unusedVariables false

theorem own : ownKnob Tryd.prog.godebug = none := by kernel_rfl
theorem laidOut : laidOutB Tryd.prog = true := by kernel_rfl

/-- WHAT THE WALK IS TOLD OF A SLICE OF INTEGERS THAT CAME IN: it is nil; or it leads to a row of 'cap' cells, the numbers 'zs' (the first 'len' are its elements, the rest its spare room), each fitting its kind. -/
def IsRow (k : IntKind) (w : World) (a : Option Addr) (len cap : Nat) (zs : List Int) : Prop :=
  (a = none ∧ len = 0 ∧ cap = 0 ∧ zs = []) ∨
  ∃ x, a = some x ∧ len ≤ cap ∧ cap ≤ maxLen ∧ zs.length = cap ∧ (∀ i, i < zs.length → w.cell? (x.add i) = some (.int k (zs.getD i 0))) ∧ ∀ n ∈ zs, (Lit.int k n).wf = true

/-! ### STEP 1: THE WALK: the Go text returns true, AND WRITES NOTHING THAT WAS THERE: 'Below w.heap.size w w'' (Derived/Below.lean: '.refl', '.alloc', '.drew', '.setCell' at a new block, '.trans'). Open each 'IsRow' by 'rcases' AHEAD of 'go_enter'; part every test ahead of the walk. -/
set_option maxHeartbeats 8000000 in
set_option maxRecDepth 100000 in
theorem walk (v0 : Value) (a1 : Int) (a2 : Int) (w : World) (w0 : Flat [some .i64, some .u8, none] v0) (w1 : (Lit.int .u32 a1).wf = true) (w2 : (Lit.int .u8 a2).wf = true) (hl : Laid w) :
    Calls Tryd.prog 3 #[v0, .int .u32 a1, .int .u8 a2] w fun e w' => e = .returned (.bool true) ∧ Below w.heap.size w w' := by
  obtain ⟨x0, x1, x2, rfl, ⟨f, rfl, hf0⟩, ⟨p, rfl, hp0⟩, ⟨c, rfl⟩⟩ := flat3 w0
  have b1 := u32_bd w1
  have b2 := u8_bd w2
  have b3 := u8_bd hp0
  have hlt := hl.lt
  clear w0 w1 w2 hf0 hp0
  have q1 := fun w => encode_any f p c w b3.1
  have q2 := fun w => rencode_any f p c w b3.1
  have q3 := fun w => decode_any a1 w b1.1 b1.2
  have q4 := fun w => rdecode_any a1 w b1.1 b1.2
  have q5 := fun w => echeck_any f p c w b3.1
  have q6 := fun w => may_any f p c a2 w b3.1
  have q7 := fun w => rused_any f p c a2 w b3.1
  clear b1 b2 b3
  generalize ecv f p c = ev at q1 q2
  generalize ece f p = ee at q1 q2 q5
  generalize usd f p a2 = us at q6 q7
  generalize dcf a1 = df at q3 q4
  generalize dcp a1 = dp at q3 q4
  generalize dcc a1 = dc at q3 q4
  generalize dcb a1 = db at q3 q4
  generalize dce a1 = de at q3 q4
  have nA := ((New.refl w).alloc #[.int .i64 f, .int .u8 p, .bool c] 23).alloc #[.int .i64 f, .int .u8 p, .bool c] 25
  have eA : Box ((w.alloc (.cells #[.int .i64 f, .int .u8 p, .bool c] 23)).alloc (.cells #[.int .i64 f, .int .u8 p, .bool c] 25)) w.heap.size #[.int .i64 f, .int .u8 p, .bool c] 23 := (Box.here w _ _ _ rfl).alloc _
  have xA : Box ((w.alloc (.cells #[.int .i64 f, .int .u8 p, .bool c] 23)).alloc (.cells #[.int .i64 f, .int .u8 p, .bool c] 25)) (w.heap.size + 1) #[.int .i64 f, .int .u8 p, .bool c] 25 := Box.here _ _ _ _ (by simp)
  go_enter Tryd.func3, Tryd.ntmps3
  go_wp2_with fail
  refine (q1 _).mono ?_
  rintro e w1 ⟨rfl, n1⟩
  have N1 := nA.trans n1
  have e1 := eA.new n1
  have x1 := xA.new n1
  clear nA eA xA n1
  have z1 : w.heap.size + 1 < w1.heap.size := x1.lt
  obtain ⟨c0, c1, c2⟩ := e1.three
  go_wp2_with fail
  refine (q2 _).mono ?_
  rintro e w2 ⟨rfl, n2⟩
  have N2 := N1.trans n2
  have x2 := x1.new n2
  have e2 := e1.new n2
  clear N1 x1 e1 z1 c0 c1 c2 n2
  go_wp2_with fail
  refine (q3 _).mono ?_
  rintro e w3 ⟨rfl, n3⟩
  have N3 := N2.trans n3
  have x3 := x2.new n3
  have e3 := e2.new n3
  clear N2 x2 e2 n3
  go_wp2_with fail
  have NA := N3.alloc #[.int .i64 df, .int .u8 dp, .bool dc] 25
  have xA := x3.alloc (.cells #[.int .i64 df, .int .u8 dp, .bool dc] 25)
  have eA := e3.alloc (.cells #[.int .i64 df, .int .u8 dp, .bool dc] 25)
  have yA := Box.here w3 _ #[.int .i64 df, .int .u8 dp, .bool dc] 25 rfl
  clear N3 x3 e3
  refine (q4 _).mono ?_
  rintro e w4 ⟨rfl, n4⟩
  have N4 := NA.trans n4
  have x4 := xA.new n4
  have e4 := eA.new n4
  have y4 := yA.new n4
  clear NA xA yA eA n4
  have z4 : w.heap.size + 1 < w4.heap.size := x4.lt
  have g4 : w3.heap.size < w4.heap.size := y4.lt
  obtain ⟨c0, c1, c2⟩ := x4.three
  go_wp2_with fail
  clear c0 c1 c2
  have NA := N4.alloc #[.int .i64 df, .int .u8 dp, .bool dc] 23
  have xA := x4.alloc (.cells #[.int .i64 df, .int .u8 dp, .bool dc] 23)
  have yA := y4.alloc (.cells #[.int .i64 df, .int .u8 dp, .bool dc] 23)
  have eA := e4.alloc (.cells #[.int .i64 df, .int .u8 dp, .bool dc] 23)
  have rA := Box.here w4 _ #[.int .i64 df, .int .u8 dp, .bool dc] 23 rfl
  clear N4 x4 y4 e4 z4 g4
  refine (q5 _).mono ?_
  rintro e w5 ⟨rfl, n5⟩
  have N5 := NA.trans n5
  have x5 := xA.new n5
  have y5 := yA.new n5
  have e5 := eA.new n5
  have r5 := rA.new n5
  clear NA xA yA rA eA n5
  have l5 : Laid w5 := hl.new N5
  obtain ⟨xa, xb, xc⟩ := x5.three
  obtain ⟨ea, eb, ec⟩ := e5.three
  obtain ⟨ya, yb, yc⟩ := y5.three
  obtain ⟨ra, rb, rc⟩ := r5.three
  clear x5 e5 y5 r5
  go_wp2_with fail
  clear q1 q2 q3 q4 q5 hlt hl
  go_region_held3 (fun w' => New w w' ∧ Laid w' ∧ w'.cell? ⟨w.heap.size + 1, 0, none⟩ = some (.int .i64 f) ∧ w'.cell? ⟨w.heap.size + 1, 1, none⟩ = some (.int .u8 p) ∧ w'.cell? ⟨w.heap.size + 1, 2, none⟩ = some (.bool c) ∧
      w'.cell? ⟨w.heap.size, 0, none⟩ = some (.int .i64 f) ∧ w'.cell? ⟨w.heap.size, 1, none⟩ = some (.int .u8 p) ∧ w'.cell? ⟨w.heap.size, 2, none⟩ = some (.bool c) ∧
      w'.cell? ⟨w3.heap.size, 0, none⟩ = some (.int .i64 df) ∧ w'.cell? ⟨w3.heap.size, 1, none⟩ = some (.int .u8 dp) ∧ w'.cell? ⟨w3.heap.size, 2, none⟩ = some (.bool dc) ∧
      w'.cell? ⟨w4.heap.size, 0, none⟩ = some (.int .i64 df) ∧ w'.cell? ⟨w4.heap.size, 1, none⟩ = some (.int .u8 dp) ∧ w'.cell? ⟨w4.heap.size, 2, none⟩ = some (.bool dc))
    (first
      | exact ⟨N5.trans hnx, l5.new hnx, hnx.keeps xa, hnx.keeps xb, hnx.keeps xc, hnx.keeps ea, hnx.keeps eb, hnx.keeps ec, hnx.keeps ya, hnx.keeps yb, hnx.keeps yc, hnx.keeps ra, hnx.keeps rb, hnx.keeps rc⟩
      | (have hnx := (New.refl w5).drew; exact ⟨N5.trans hnx, l5.new hnx, hnx.keeps xa, hnx.keeps xb, hnx.keeps xc, hnx.keeps ea, hnx.keeps eb, hnx.keeps ec, hnx.keeps ya, hnx.keeps yb, hnx.keeps yc, hnx.keeps ra, hnx.keeps rb, hnx.keeps rc⟩))
    (first
      | (go_at_call 10; (with_reducible refine (num_er _ _ (l5.new (by first | exact hnx | exact (New.refl _).drew | exact New.refl _))).mono ?_); rintro e wz ⟨rfl, hny⟩; have hnx : New w5 wz := New.trans (by first | exact hnx | exact (New.refl _).drew | exact New.refl _) hny)
      | (go_at_call 11; (with_reducible refine (q6 _).mono ?_); rintro e wz ⟨rfl, hny⟩; have hnx : New w5 wz := New.trans (by first | exact hnx | exact (New.refl _).drew | exact New.refl _) hny)
      | (go_at_call 12; (with_reducible refine (q7 _).mono ?_); rintro e wz ⟨rfl, hny⟩; have hnx : New w5 wz := New.trans (by first | exact hnx | exact (New.refl _).drew | exact New.refl _) hny)
      | (go_at_call 13; (with_reducible refine (ensure_any _).mono ?_); rintro e wz ⟨rfl, hny⟩; have hnx : New w5 wz := New.trans (by first | exact hnx | exact (New.refl _).drew | exact New.refl _) hny))
  go_wp2_with fail
  go_ret
  exact ⟨rfl, N5.trans hnx⟩

/-! ### THE ROW's STEP: WRITTEN OUT: LEAVE IT -/
theorem door_met (os : Os) (args : Array Value) : laidMetH Tryd.prog Rows.entryFormsRow.laid ((World.doorLaid Tryd.prog 400 os).forCall (fun _ _ => 0) ⟨#[], args, []⟩).memory :=
  laidMetH_of_parts3 (fuel := 8) (laidMet_of_run' 8 (by kernel_rfl) (by kernel_rfl)) (by kernel_rfl) (by kernel_rfl)
set_option maxRecDepth 100000 in
theorem lifted (os : Os) (started : os.Started) (H : Type) (enc : TypeId × Value → H) :
    ReturnsInHanded {} Tryd.checked os 3 .any (fun w args => (Rows.entryFormsSpec.pre enc Tryd.prog Tryd.f3 [] false w args ∧ laidMetH Tryd.prog Rows.entryFormsRow.laid w) ∧ sizedMet enc Tryd.prog Tryd.f3 (OpenSpec.ofChange Rows.entryFormsSpec) false w args) (Rows.entryFormsSpec.post enc Tryd.prog Tryd.f3 false true false false) := by
  refine returnsInHanded_of_change_and (C := Tryd.checked) (X := fun w _ => laidMetH Tryd.prog Rows.entryFormsRow.laid w) (fun _ _ _ hh h => h.of_heap hh) own started (by kernel_rfl) Tryd.func3
    (ChangeSpec.witness_shaped (enc := enc) (C := Tryd.checked) (os := os) (X := fun w _ => laidMetH Tryd.prog Rows.entryFormsRow.laid w) false (World.doorLaid Tryd.prog 400 os) #[.agg #[.int .i64 0, .int .u8 0, .bool false], .int .u32 0, .int .u8 0] 8 rfl (World.shaped_of_RefB (by kernel_rfl) (by kernel_rfl)) (by kernel_rfl) (by kernel_rfl) (by kernel_rfl) (door_met os _)) ?_
  intro W base args ds gs before hval0 hW _ _ hL _
  have hL' : laidMet Tryd.prog [] W ∧ handlesMet Tryd.prog [("errors.errorType", Rows.laid_errors_errorType)] W := hL
  have hval : ∀ (j : Nat) t v, Tryd.f3.params[j]? = some t → args[j]? = some v → Value.okWide Tryd.prog W .any base t v := hval0
  have hW' := hW
  obtain ⟨p, q, hA0, hV, rfl, hfz, hnd⟩ := hW
  have hA : DataW.TrodAll enc Tryd.prog W 0 (fun _ => true) true Tryd.f3.params.toList args.toList ds p := hA0
  rw [Tryd.params3] at hA hval
  obtain ⟨v0, vs0, d0, ds0, p0, q0, hargs, rfl, rfl, h0, r0⟩ := trodAll_cons hA
  obtain ⟨v1, vs1, d1, ds1, p1, q1, rfl, rfl, rfl, h1, r1⟩ := trodAll_cons r0
  obtain ⟨v2, vs2, d2, ds2, p2, q2, rfl, rfl, rfl, h2, r2⟩ := trodAll_cons r1
  obtain ⟨rfl, rfl, rfl⟩ := trodAll_nil r2
  obtain rfl : args = #[v0, v1, v2] := by cases args; simp_all
  obtain ⟨rfl, rfl⟩ := trodVars_none hV
  have k0 := h0
  have lt0 : ∀ x ∈ p0, x.block < W.heap.size := by obtain ⟨m, hm⟩ := k0; exact DataW.trod_lt m _ _ _ hm
  have w0 : Flat [some .i64, some .u8, none] v0 := flat_of Tryd.underlying23 (by kernel_rfl) (by kernel_rfl) rfl (fun i k f hi hf => by
    rcases i with _| _| _| _
    · (simp at hi hf; subst hi hf; exact Tryd.underlying3)
    · (simp at hi hf; subst hi hf; exact Tryd.underlying5)
    · (simp at hi hf; subst hi hf; exact Tryd.underlying4)
    · simp at hi) (hval 0 23 v0 rfl rfl) h0
  obtain ⟨a1, rfl, rfl, rfl, w1⟩ := open_int Tryd.underlying24 (hval 1 24 v1 rfl rfl) h1
  obtain ⟨a2, rfl, rfl, rfl, w2⟩ := open_int Tryd.underlying5 (hval 2 5 v2 rfl rfl) h2
  clear hA0 hval0
  refine (walk v0 a1 a2 W w0 w1 w2 (handle_of_hs hL'.2)).mono fun e W' ⟨he, bel⟩ => ?_
  subst he
  exact ⟨_, rfl, _, _, _, [], _, [], hW', trodAll_mk1 (shut_bool Tryd.underlying4 _), (trodAll_cons_mk (Below.trod laidOut (by kernel_rfl) (of_decide_eq_true (by kernel_rfl)) k0 bel lt0) (trodAll_cons_mk (shut_int Tryd.underlying24 w1) (trodAll_cons_mk (shut_int Tryd.underlying5 w2) trodAll_mk0))), rfl, bel.frame _, fun h => by cases h⟩

theorem over : Rows.entryFormsRow.holds Tryd.pinned (OpenSpec.ofChange Rows.entryFormsSpec) :=
  OpenClaim.holds_of_wide 3 Tryd.f3 rfl rfl rfl rfl rfl rfl rfl ⟨rfl, rfl, rfl, rfl, rfl⟩ rfl rfl rfl rfl rfl (by kernel_rfl) Tryd.func3 (by kernel_rfl)
    (of_decide_eq_true (by kernel_rfl)) (by unfold Func.isWrapper; first | (rw [if_pos (by decide +kernel)]; kernel_rfl) | (rw [if_neg (by decide +kernel)]; exact ⟨rfl, rfl⟩))
    (fun os started H enc _ => lifted os started H enc)

theorem proved : Rows.EntryFormsSaid := over
theorem card : Rows.EntryFormsCardSaid :=
  Claim7.holds_tied_plain_at .later [] [.handle] true (true, "6ddf061af7745e78546a7e12b1d3bf31f0e1132140b5715a3e710f175ae87483") true
    over (fun _ h => by cases h) (by kernel_rfl) (fun _ h => by cases h) entryForms_row_tie rfl ⟨rfl, rfl⟩ (by kernel_rfl) rfl
    (fun f fn hf hfn => by
      obtain rfl : f = 3 := Option.some.inj ((show Tryd.prog.funcNamed "halter/halterlaw06.EntryForms" = some 3 by kernel_rfl).symm.trans hf) |>.symm
      obtain rfl : fn = Tryd.f3 := (Option.some.inj (Tryd.func3.symm.trans hfn)).symm
      exact ⟨by kernel_rfl, fun j t ht => by
        rw [Tryd.params3] at ht
        have hm : t ∈ [23, 24, 5] := by have := Array.mem_of_getElem? ht; simpa using this
        have hall : ([23, 24, 5].all fun u => !Tryd.prog.wantsStandIn u) = true := by kernel_rfl
        exact (show Tryd.prog.wantsStandIn t = false by simpa using List.all_eq_true.1 hall t hm)⟩)
    (by kernel_rfl)
#print axioms card
end Go.Proofs.YtgofkdcmcchomaaDoor.entryForms
