/- Any registers with any word of them set, or the error, are the document's own; the statement holds for every registers, every number of a word and every number of 32 bits, where the library's one variable holds what its own text lays, which the card ties. -/
import Derived.Test.YtbjpflomibcenaaDoorRows
import Derived.Test.YtbjpflomibcenaaDoorRgH
import Derived.Test.YtbjpflomibcenaaDoorRgV
import Derived.Test.YtbjpflomibcenaaDoorRgF
import Derived.Test.YtbjpflomibcenaaDoorFlatTy
import Derived.Deep.Cut
import Derived.Test.YtbjpflomibcenaaDoorCards
import Derived.Test.YtbjpflomibcenaaDoorTie
import Derived.LaidMore
import Derived.LaidLaws
import Derived.LaidHandle
import Derived.Test.YtbjpflomibcenaaDoorLay
import Derived.Test.YtbjpflomibcenaaDoorPost
import Derived.WalkKit
import Derived.ProofKit
import Derived.OpenShut
import Derived.ShutString
import Derived.ChangeOld
import Derived.Below
namespace Go.Proofs.YtbjpflomibcenaaDoor.regsSets
open Go.ChangeShapes Go.WideShapes Go.ChangeAt Go.RowKit
open Go.ChangeMaps (open_string shut_string)
set_option linter.unusedVariables false

theorem own : ownKnob Tryd.prog.godebug = none := by kernel_rfl
theorem laidOut : laidOutB Tryd.prog = true := by kernel_rfl

/-- WHAT THE WALK IS TOLD OF A SLICE OF INTEGERS THAT CAME IN: it is nil; or it leads to a row of 'cap' cells, the numbers 'zs' (the first 'len' are its elements, the rest its spare room), each fitting its kind. -/
def IsRow (k : IntKind) (w : World) (a : Option Addr) (len cap : Nat) (zs : List Int) : Prop :=
  (a = none ∧ len = 0 ∧ cap = 0 ∧ zs = []) ∨
  ∃ x, a = some x ∧ len ≤ cap ∧ cap ≤ maxLen ∧ zs.length = cap ∧ (∀ i, i < zs.length → w.cell? (x.add i) = some (.int k (zs.getD i 0))) ∧ ∀ n ∈ zs, (Lit.int k n).wf = true

/-! ### STEP 1: THE WALK: the Go text returns true, AND WRITES NOTHING THAT WAS THERE: 'Below w.heap.size w w'' (Derived/Below.lean: '.refl', '.alloc', '.drew', '.setCell' at a new block, '.trans'). Open each 'IsRow' by 'rcases' AHEAD of 'go_enter'; part every test ahead of the walk. -/
set_option maxHeartbeats 8000000 in
set_option maxRecDepth 100000 in
theorem walk (v0 : Value) (a1 : Int) (a2 : Int) (w : World) (w0 : Flat [some .u32, some .u32, some .u32, some .u32, some .u32, some .u32, some .u32, some .u32, some .u32, some .u32, some .u32, some .u32, some .u32, some .u32, some .u32, some .u32, some .u32, some .u32, some .u64, some .u64, some .u64, some .u64] v0) (w1 : (Lit.int .i64 a1).wf = true) (w2 : (Lit.int .u32 a2).wf = true) (hl : Laid w) :
    Calls Tryd.prog 4 #[v0, .int .i64 a1, .int .u32 a2] w fun e w' => e = .returned (.bool true) ∧ Below w.heap.size w w' := by
  obtain ⟨x, f, rfl, hx, hf⟩ := flat_rc w0
  have b2 := u32_bd w2
  clear w0 w1 w2
  have q1 := fun w => set_any x f hx hf a1 a2 b2 w
  have q2 := fun w => rset_any x f hx hf a1 a2 b2 w
  obtain ⟨Y, F, e⟩ : ∃ Y F, sv x f a1 a2 = rc Y F := by unfold sv; split <;> exact ⟨_, _, rfl⟩
  rw [e] at q1 q2
  generalize se x a1 a2 = E at *
  have hq := fun w => rc_equal Y F w
  clear e b2 hx hf
  have B1 : Box (w.alloc (.cells (rc x f).toArray 27)) w.heap.size (rc x f).toArray 27 := Box.here w _ _ _ rfl
  have n1 : New w (w.alloc (.cells (rc x f).toArray 27)) := (New.refl w).alloc _ _
  go_enter Tryd.func4, Tryd.ntmps4
  go_upto_region 1 with fail
  generalize w.alloc (.cells (rc x f).toArray 27) = W1 at *
  go_wp2_with ((with_reducible refine at_load 27 ?_); refine wpList_load_box rfl 27 _ rfl (w.heap.size) rfl (rc x f) 27 _ (B1) Tryd.underlying27 rfl (by rw [rc_len]; exact rr_info) ?_)
  refine (q1 _).mono ?_
  rintro e W2 ⟨rfl, n2⟩
  go_wp2_with ((with_reducible refine at_store 29 ?_); refine wpList_store_box rfl 29 _ _ rfl (W2.heap.size) (rc Y F) (rc (fun _ => 0) (fun _ => 0)) 29 rfl rfl (Box.here _ _ _ _ rfl) (by rw [rc_len, rc_len]) (by rw [rc_len]; exact ar_info) (rc_one _ _) ?_)
  intro W3 C3 f3
  have B3 := ((B1.new n2).alloc (.cells (rc (fun _ => 0) fun _ => 0).toArray 29)).far f3 (by have := (B1.new n2).lt; omega)
  have n3 : New w W3 := f3.new ((n1.trans n2).alloc _ _) (n1.trans n2).size
  generalize W2.heap.size = c1 at *
  clear B1 n1 n2 f3 q1
  go_wp2_with ((with_reducible refine at_load 27 ?_); refine wpList_load_box rfl 27 _ rfl (w.heap.size) rfl (rc x f) 27 _ (B3) Tryd.underlying27 rfl (by rw [rc_len]; exact rr_info) ?_)
  refine (q2 _).mono ?_
  rintro e W4 ⟨rfl, n4⟩
  go_wp2_with ((with_reducible refine at_store 27 ?_); refine wpList_store_box rfl 27 _ _ rfl (W4.heap.size) (rc Y F) (rc (fun _ => 0) (fun _ => 0)) 27 rfl rfl (Box.here _ _ _ _ rfl) (by rw [rc_len, rc_len]) (by rw [rc_len]; exact rr_info) (rc_one _ _) ?_)
  intro W5 D5 f5
  have C5 := ((C3.new n4).alloc (.cells (rc (fun _ => 0) fun _ => 0).toArray 27)).far f5 (by have := (C3.new n4).lt; omega)
  have n5 : New w W5 := f5.new ((n3.trans n4).alloc _ _) (n3.trans n4).size
  generalize W4.heap.size = c2 at *
  clear B3 C3 n3 n4 f5 q2
  have hl5 := hl.new n5
  go_wp2_with (first | ((with_reducible refine at_load 29 ?_); refine wpList_load_box rfl 29 _ rfl (c1) rfl (rc Y F) 29 _ (C5) Tryd.underlying29 rfl (by rw [rc_len]; exact ar_info) ?_) | ((with_reducible refine at_load 27 ?_); refine wpList_load_box rfl 27 _ rfl (c2) rfl (rc Y F) 27 _ (D5) Tryd.underlying27 rfl (by rw [rc_len]; exact rr_info) ?_))
  refine (num_er E _ hl5).mono ?_
  rintro e W6 ⟨rfl, n6⟩
  clear C5 D5
  go_wp2_with fail
  refine (rsure_any _).mono ?_
  rintro e W7 ⟨rfl, n7⟩
  go_wp2
  go_ret
  exact ⟨rfl, (n5.trans n6).trans n7⟩

/-! ### THE ROW's STEP: WRITTEN OUT: LEAVE IT -/
theorem door_met (os : Os) (args : Array Value) : laidMetH Tryd.prog Rows.regsSetsRow.laid ((World.doorLaid Tryd.prog 400 os).forCall (fun _ _ => 0) ⟨#[], args, []⟩).memory :=
  laidMetH_of_parts3 (fuel := 8) (laidMet_of_run' 8 (by kernel_rfl) (by kernel_rfl)) (by kernel_rfl) (by kernel_rfl)
set_option maxRecDepth 100000 in
theorem lifted (os : Os) (started : os.Started) (H : Type) (enc : TypeId × Value → H) :
    ReturnsInHanded {} Tryd.checked os 4 .any (fun w args => (Rows.regsSetsSpec.pre enc Tryd.prog Tryd.f4 [] false w args ∧ laidMetH Tryd.prog Rows.regsSetsRow.laid w) ∧ sizedMet enc Tryd.prog Tryd.f4 (OpenSpec.ofChange Rows.regsSetsSpec) false w args) (Rows.regsSetsSpec.post enc Tryd.prog Tryd.f4 false true false false) := by
  refine returnsInHanded_of_change_and (C := Tryd.checked) (X := fun w _ => laidMetH Tryd.prog Rows.regsSetsRow.laid w) (fun _ _ _ hh h => h.of_heap hh) own started (by kernel_rfl) Tryd.func4
    (ChangeSpec.witness_shaped (enc := enc) (C := Tryd.checked) (os := os) (X := fun w _ => laidMetH Tryd.prog Rows.regsSetsRow.laid w) false (World.doorLaid Tryd.prog 400 os) #[.agg #[.int .u32 0, .int .u32 0, .int .u32 0, .int .u32 0, .int .u32 0, .int .u32 0, .int .u32 0, .int .u32 0, .int .u32 0, .int .u32 0, .int .u32 0, .int .u32 0, .int .u32 0, .int .u32 0, .int .u32 0, .int .u32 0, .int .u32 0, .int .u32 0, .int .u64 0, .int .u64 0, .int .u64 0, .int .u64 0], .int .i64 0, .int .u32 0] 8 rfl (World.shaped_of_RefB (by kernel_rfl) (by kernel_rfl)) (by kernel_rfl) (by kernel_rfl) (by kernel_rfl) (door_met os _)) ?_
  intro W base args ds gs before hval0 hW _ _ hL _
  have hL' : laidMet Tryd.prog [] W ∧ handlesMet Tryd.prog [("errors.errorType", Rows.laid_errors_errorType)] W := hL
  have hval : ∀ (j : Nat) t v, Tryd.f4.params[j]? = some t → args[j]? = some v → Value.okWide Tryd.prog W .any base t v := hval0
  have hW' := hW
  obtain ⟨p, q, hA0, hV, rfl, hfz, hnd⟩ := hW
  have hA : DataW.TrodAll enc Tryd.prog W 0 (fun _ => true) true Tryd.f4.params.toList args.toList ds p := hA0
  rw [Tryd.params4] at hA hval
  obtain ⟨v0, vs0, d0, ds0, p0, q0, hargs, rfl, rfl, h0, r0⟩ := trodAll_cons hA
  obtain ⟨v1, vs1, d1, ds1, p1, q1, rfl, rfl, rfl, h1, r1⟩ := trodAll_cons r0
  obtain ⟨v2, vs2, d2, ds2, p2, q2, rfl, rfl, rfl, h2, r2⟩ := trodAll_cons r1
  obtain ⟨rfl, rfl, rfl⟩ := trodAll_nil r2
  obtain rfl : args = #[v0, v1, v2] := by cases args; simp_all
  obtain ⟨rfl, rfl⟩ := trodVars_none hV
  have k0 := h0
  have lt0 : ∀ x ∈ p0, x.block < W.heap.size := by obtain ⟨m, hm⟩ := k0; exact DataW.trod_lt m _ _ _ hm
  have w0 : Flat [some .u32, some .u32, some .u32, some .u32, some .u32, some .u32, some .u32, some .u32, some .u32, some .u32, some .u32, some .u32, some .u32, some .u32, some .u32, some .u32, some .u32, some .u32, some .u64, some .u64, some .u64, some .u64] v0 := flat_of_ty (ks := [some .u32, some .u32, some .u32, some .u32, some .u32, some .u32, some .u32, some .u32, some .u32, some .u32, some .u32, some .u32, some .u32, some .u32, some .u32, some .u32, some .u32, some .u32, some .u64, some .u64, some .u64, some .u64]) Tryd.underlying27 (by
    obtain ⟨ks, hk, e⟩ : ∃ ks, FlatTy Tryd.prog 27 ks ∧ ks = [some .u32, some .u32, some .u32, some .u32, some .u32, some .u32, some .u32, some .u32, some .u32, some .u32, some .u32, some .u32, some .u32, some .u32, some .u32, some .u32, some .u32, some .u32, some .u64, some .u64, some .u64, some .u64] := ⟨_, (.struct Tryd.underlying27 (.cons rfl (.array Tryd.underlying23 (.int Tryd.underlying22) (by kernel_rfl)) (by kernel_rfl) (.cons rfl (.int Tryd.underlying22) (by kernel_rfl) (.cons rfl (.int Tryd.underlying22) (by kernel_rfl) (.cons rfl (.array Tryd.underlying25 (.int Tryd.underlying24) (by kernel_rfl)) (by kernel_rfl) .nil))))), rfl⟩
    rw [← e]; exact hk) (by kernel_rfl) (hval 0 27 v0 rfl rfl) h0
  obtain ⟨a1, rfl, rfl, rfl, w1⟩ := open_int Tryd.underlying3 (hval 1 3 v1 rfl rfl) h1
  obtain ⟨a2, rfl, rfl, rfl, w2⟩ := open_int Tryd.underlying22 (hval 2 22 v2 rfl rfl) h2
  clear hA0 hval0
  refine (walk v0 a1 a2 W w0 w1 w2 (handle_of_hs hL'.2)).mono fun e W' ⟨he, bel⟩ => ?_
  subst he
  exact ⟨_, rfl, _, _, _, [], _, [], hW', trodAll_mk1 (shut_bool Tryd.underlying4 _), (trodAll_cons_mk (Below.trod laidOut (by kernel_rfl) (of_decide_eq_true (by kernel_rfl)) k0 bel lt0) (trodAll_cons_mk (shut_int Tryd.underlying3 w1) (trodAll_cons_mk (shut_int Tryd.underlying22 w2) trodAll_mk0))), rfl, bel.frame _, fun h => by cases h⟩

theorem over : Rows.regsSetsRow.holds Tryd.pinned (OpenSpec.ofChange Rows.regsSetsSpec) :=
  OpenClaim.holds_of_wide 4 Tryd.f4 rfl rfl rfl rfl rfl rfl rfl ⟨rfl, rfl, rfl, rfl, rfl⟩ rfl rfl rfl rfl rfl (by kernel_rfl) Tryd.func4 (by kernel_rfl)
    (of_decide_eq_true (by kernel_rfl)) (by unfold Func.isWrapper; first | (rw [if_pos (by decide +kernel)]; kernel_rfl) | (rw [if_neg (by decide +kernel)]; exact ⟨rfl, rfl⟩))
    (fun os started H enc _ => lifted os started H enc)

theorem proved : Rows.RegsSetsSaid := over
theorem card : Rows.RegsSetsCardSaid :=
  Claim7.holds_tied_plain_at .later [] [.handle] true (true, "b84bb25fee77fca413e60526f86825a40f48ccc0955e0bf72313f5aea59f9997") true
    over (fun _ h => by cases h) (by kernel_rfl) (fun _ h => by cases h) regsSets_row_tie rfl ⟨rfl, rfl⟩ (by kernel_rfl) rfl
    (fun f fn hf hfn => by
      obtain rfl : f = 4 := Option.some.inj ((show Tryd.prog.funcNamed "halter/halterlaw10.RegsSets" = some 4 by kernel_rfl).symm.trans hf) |>.symm
      obtain rfl : fn = Tryd.f4 := (Option.some.inj (Tryd.func4.symm.trans hfn)).symm
      exact ⟨by kernel_rfl, fun j t ht => by
        rw [Tryd.params4] at ht
        have hm : t ∈ [27, 3, 22] := by have := Array.mem_of_getElem? ht; simpa using this
        have hall : ([27, 3, 22].all fun u => !Tryd.prog.wantsStandIn u) = true := by kernel_rfl
        exact (show Tryd.prog.wantsStandIn t = false by simpa using List.all_eq_true.1 hall t hm)⟩)
    (by kernel_rfl)
#print axioms card
end Go.Proofs.YtbjpflomibcenaaDoor.regsSets
