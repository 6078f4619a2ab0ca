/- The path of any names, or the error, is the document's own; it is split as they were, from the root, and so it is with slashes ahead of it and behind it; the statement holds for every input, where the listed variables hold what the library's own text lays, which the card ties. -/
import Derived.Test.YtmaocaddoohfmaaDoorRows
import Derived.Test.YtmaocaddoohfmaaDoorPaI
import Derived.Test.YtmaocaddoohfmaaDoorCards
import Derived.Test.YtmaocaddoohfmaaDoorTie
import Derived.LaidMore
import Derived.LaidLaws
import Derived.LaidHandle
import Derived.Test.YtmaocaddoohfmaaDoorPaLay
import Derived.Test.YtmaocaddoohfmaaDoorShape
import Derived.Lay
import Derived.Test.YtmaocaddoohfmaaDoorLay
import Derived.Test.YtmaocaddoohfmaaDoorPost
import Derived.WalkKit
import Derived.ProofKit
import Derived.OpenShut
import Derived.ShutString
import Derived.ChangeOld
import Derived.Below
namespace Go.Proofs.YtmaocaddoohfmaaDoor.pathBack
open Go.ChangeShapes Go.WideShapes Go.ChangeAt Go.RowKit
open Go.ChangeMaps (open_string shut_string)
set_option linter.unusedVariables false

theorem own : ownKnob Tryd.prog.godebug = none := by kernel_rfl
theorem laidOut : laidOutB Tryd.prog = true := by kernel_rfl

/-- WHAT THE WALK IS TOLD OF A SLICE OF INTEGERS THAT CAME IN: it is nil; or it leads to a row of 'cap' cells, the numbers 'zs' (the first 'len' are its elements, the rest its spare room), each fitting its kind. -/
def IsRow (k : IntKind) (w : World) (a : Option Addr) (len cap : Nat) (zs : List Int) : Prop :=
  (a = none ∧ len = 0 ∧ cap = 0 ∧ zs = []) ∨
  ∃ x, a = some x ∧ len ≤ cap ∧ cap ≤ maxLen ∧ zs.length = cap ∧ (∀ i, i < zs.length → w.cell? (x.add i) = some (.int k (zs.getD i 0))) ∧ ∀ n ∈ zs, (Lit.int k n).wf = true

/-! ### STEP 1: THE WALK: the Go text returns true, AND WRITES NOTHING THAT WAS THERE: 'Below w.heap.size w w'' (Derived/Below.lean: '.refl', '.alloc', '.drew', '.setCell' at a new block, '.trans'). Open each 'IsRow' by 'rcases' AHEAD of 'go_enter'; part every test ahead of the walk. -/
set_option maxHeartbeats 8000000 in
set_option maxRecDepth 100000 in
theorem walk (a0 : Option Addr) (len0 cap0 : Nat) (w : World) (w0 : StrRows w a0 len0 cap0) (hl : Laid w) (hm : Mx w) :
    Calls Tryd.prog 4 #[.slice a0 len0 cap0] w fun e w' => e = .returned (.bool true) ∧ Below w.heap.size w w' := by
  obtain ⟨ls, rfl, t0, hx0⟩ := w0
  have cS := fun W (k : Laid W) (m : Mx W) => psure_any W k m
  have T0 := Lib.hid t0
  obtain ⟨p, cap, hpc, hc1, hc0, hc⟩ := t0
  have hsl : (Value.slice a0 ls.length cap0) = .slice p ls.length cap := hpc
  obtain ⟨rfl, rfl⟩ : a0 = p ∧ cap0 = cap := by simpa using hsl
  clear hpc hsl
  go_enter Tryd.func4, Tryd.ntmps4
  go_wp2_with fail
  go_loopg [3, 4] ls.length (fun k s3 s4 wr => ∃ j N : Nat, j + k = ls.length ∧ s4 = .int .i64 (j : Int) ∧ s3 = .int .i64 (N : Int) ∧ N ≤ 500 ∧ (j = 0 ∨ ls.length ≤ 60) ∧ wr = w)
  case atStart => exact ⟨0, 0, by omega, rfl, rfl, by omega, .inl rfl, rfl⟩
  case round =>
    obtain ⟨j, N, hj, rfl, rfl, hN, h60, rfl⟩ := hrel
    have HJ := Lib.hid hj
    by_cases hlt : j < ls.length
    · obtain ⟨x, hx⟩ : ∃ x, ls[j]? = some x := ⟨_, List.getElem?_eq_getElem hlt⟩
      obtain ⟨a, rfl, cx⟩ := hc j x hx
      have hxl := hx0 x (List.mem_of_getElem? hx)
      have sx := ba_size x
      have hlt' : (j : Int) < (ls.length : Int) := by omega
      have hj9 : (j : Int) ≤ 9223372036854775806 := by unfold maxLen at hc0; omega
      unfold maxLen at hxl
      clear hx hc hj
      by_cases hm6 : (x.length : Int) ≤ 600
      · by_cases h6 : 60 < ls.length
        · have h6' : (60 : Int) < (ls.length : Int) := by omega
          go_wp2_with fail
          refine (cS _ hl hm).mono ?_
          rintro e w1 ⟨rfl, n1⟩
          go_wp2
          go_ret
          exact ⟨rfl, n1⟩
        · have h6' : ¬ (60 : Int) < (ls.length : Int) := by omega
          by_cases h5 : 500 < N + x.length
          · have h5' : (500 : Int) < (N : Int) + (x.length : Int) := by omega
            go_wp2_with fail
            refine (cS _ hl hm).mono ?_
            rintro e w1 ⟨rfl, n1⟩
            go_wp2
            go_ret
            exact ⟨rfl, n1⟩
          · have h5' : ¬ (500 : Int) < (N : Int) + (x.length : Int) := by omega
            go_wp2_with fail
            go_roundg (ls.length - (j + 1))
            case measure => have := HJ.out; omega
            case rel => exact ⟨j + 1, N + x.length, by have := HJ.out; omega, rfl, by first | rfl | (rw [Int.natCast_add, Int.min_eq_left hm6]), by omega, .inr (by omega), rfl⟩
      · by_cases h6 : 60 < ls.length
        · have h6' : (60 : Int) < (ls.length : Int) := by omega
          go_wp2_with fail
          refine (cS _ hl hm).mono ?_
          rintro e w1 ⟨rfl, n1⟩
          go_wp2
          go_ret
          exact ⟨rfl, n1⟩
        · have h6' : ¬ (60 : Int) < (ls.length : Int) := by omega
          have h5' : (500 : Int) < (N : Int) + 600 := by omega
          go_wp2_with fail
          refine (cS _ hl hm).mono ?_
          rintro e w1 ⟨rfl, n1⟩
          go_wp2
          go_ret
          exact ⟨rfl, n1⟩
    · have hge : ¬ (j : Int) < (ls.length : Int) := by omega
      have c1 := fun W (k : TxR W (.slice a0 ls.length cap0) ls) => pjoin_any ls _ W k hx0
      have c2 := fun W (k : TxR W (.slice a0 ls.length cap0) ls) => rjoin_any ls _ W k hx0
      have c6 := fun c W (k : Laid W) => num_er c W k
      have t0 := T0.out
      have g1 : ((ba (jnV ls)).toList == (ba (jnV ls)).toList) = true := ba_eq rfl
      have g1n : ((ba (jnV ls)).toList != (ba (jnV ls)).toList) = false := by simp
      clear hc hj h60 hN
      by_cases hk : ckA ls = 0
      · have e1 : jnV ls = jn ls := by unfold jnV; rw [if_pos hk]
        have hseg := segs_jn hk
        have hsz := ckA_size hk
        have hJ : jn ls = 47 :: Lib.join ls [47] := rfl
        have hne : jn ls ≠ [] := by rw [hJ]; simp
        have hs1 : spE (jn ls) = 0 ∧ spB (jn ls) = true ∧ spL (jn ls) = ls := by
          have h1 : spE (jn ls) = 0 := by unfold spE; rw [if_neg hne, hseg, hk]
          exact ⟨h1, by unfold spB; rw [h1, if_pos rfl, hJ]; rfl, by unfold spL; rw [h1, if_pos rfl, hseg]⟩
        have hJ2 : segs (47 :: (jn ls ++ [47, 47])) = ls := by
          rw [segs_slash, show ([47, 47] : List UInt8) = List.replicate 2 47 from rfl, segs_ends, hseg]
        have hs2 : spE (47 :: (jn ls ++ [47, 47])) = 0 ∧ spB (47 :: (jn ls ++ [47, 47])) = true ∧ spL (47 :: (jn ls ++ [47, 47])) = ls := by
          have h1 : spE (47 :: (jn ls ++ [47, 47])) = 0 := by unfold spE; rw [if_neg (by simp), hJ2, hk]
          exact ⟨h1, by unfold spB; rw [h1, if_pos rfl]; rfl, by unfold spL; rw [h1, if_pos rfl, hJ2]⟩
        have hjl : (jn ls).length ≤ 201 := by rw [hJ, List.length_cons]; omega
        have c3 := fun W (k : Mx W) => psplit_any (jn ls) W (by omega) k
        have c4 := fun W (k : Mx W) => psplit_any (47 :: (jn ls ++ [47, 47])) W (by simp; omega) k
        unfold SpA at c3 c4
        rw [hs1.1, hs1.2.1, hs1.2.2] at c3
        rw [hs2.1, hs2.2.1, hs2.2.2] at c4
        have c5 := fun va vb W (ka : TxR W va ls) (kb : TxR W vb ls) => texts_any ls ls va vb W ka kb
        rw [e1, hk] at c1 c2
        rw [e1] at g1 g1n
        have sj := ba_size (jn ls)
        have q1 : ¬ 9223372036854775807 < 1 + (ba (jn ls)).size := by omega
        have q2 : (⟨#[47]⟩ : ByteArray) ++ ba (jn ls) = ba (47 :: jn ls) := (ba_app [47] _).symm
        have sj2 := ba_size (47 :: jn ls)
        have q3 : ¬ 9223372036854775807 < (ba (47 :: jn ls)).size + 2 := by rw [sj2, List.length_cons]; omega
        have q4 : ba (47 :: jn ls) ++ (⟨#[47, 47]⟩ : ByteArray) = ba (47 :: (jn ls ++ [47, 47])) := (ba_app (47 :: jn ls) [47, 47]).symm
        simp only [erV_int, er0, decide_true] at c1 c2 c3 c4 c5
        clear e1 hseg hsz hs1 hs2 hJ2 hk
        generalize 47 :: (jn ls ++ [47, 47]) = Y at *
        generalize 47 :: jn ls = X at *
        generalize jn ls = J at *
        clear hne hJ
        go_wp2_with fail
        refine (c1 _ t0).mono ?_
        rintro e w1 ⟨rfl, n1⟩
        have t1 := t0.new n1
        clear c1 t0
        go_wp2_with fail
        refine (c2 _ t1).mono ?_
        rintro e w2 ⟨rfl, n2⟩
        have t1 := t1.new n2
        have n1 := n1.trans n2
        clear c2 n2
        go_wp2_with fail
        refine (c6 0 _ (hl.new n1)).mono ?_
        rintro e w3 ⟨rfl, n2⟩
        have t1 := t1.new n2
        have n1 := n1.trans n2
        clear c6 n2
        go_wp2_with fail
        refine (c3 _ (hm.new n1)).mono ?_
        rintro e w4 ⟨v, rfl, o1, n2⟩
        have t2 := o1.txr
        obtain ⟨v0, v1, rfl, -⟩ := o1.txr
        have t1 := t1.new n2
        have n1 := n1.trans n2
        clear c3 o1 n2
        go_wp2_with fail
        refine (c4 _ (hm.new n1)).mono ?_
        rintro e w5 ⟨u, rfl, o1, n2⟩
        have t3 := o1.txr
        obtain ⟨u0, u1, rfl, -⟩ := o1.txr
        have t1 := t1.new n2
        have t2 := t2.new n2
        have n1 := n1.trans n2
        clear c4 o1 n2
        go_wp2_with fail
        refine (c5 _ _ _ t2 t1).mono ?_
        rintro e w6 ⟨rfl, n2⟩
        have t1 := t1.new n2
        have t3 := t3.new n2
        have n1 := n1.trans n2
        clear n2 t2
        go_wp2_with fail
        refine (c5 _ _ _ t3 t1).mono ?_
        rintro e w7 ⟨rfl, n2⟩
        have n1 := n1.trans n2
        clear n2 t3 t1
        go_wp2_with fail
        refine (cS _ (hl.new n1) (hm.new n1)).mono ?_
        rintro e w8 ⟨rfl, n2⟩
        have n1 := n1.trans n2
        clear n2
        go_wp2
        go_ret
        exact ⟨rfl, n1⟩
      · have q0 : (ckA ls != ckA ls) = false := by simp
        rw [erN_pos hk] at c1
        have c6 := c6 (ckA ls)
        rw [erN_pos hk] at c6
        generalize ckA ls = c at *
        go_wp2_with fail
        refine (c1 _ t0).mono ?_
        rintro e w1 ⟨rfl, n1⟩
        have t1 := t0.new n1
        clear c1 t0
        go_wp2_with fail
        refine (c2 _ t1).mono ?_
        rintro e w2 ⟨rfl, n2⟩
        have n1 := n1.trans n2
        clear c2 n2
        go_wp2_with fail
        refine (c6 _ (hl.new n1)).mono ?_
        rintro e w3 ⟨rfl, n2⟩
        have n1 := n1.trans n2
        clear c6 n2
        go_wp2_with fail
        refine (cS _ (hl.new n1) (hm.new n1)).mono ?_
        rintro e w8 ⟨rfl, n2⟩
        have n1 := n1.trans n2
        clear n2
        go_wp2
        go_ret
        exact ⟨rfl, n1⟩

/-! ### THE ROW's STEP: WRITTEN OUT: LEAVE IT -/
theorem door_met (os : Os) (args : Array Value) : laidMetH Tryd.prog Rows.pathBackRow.laid (((World.doorLaid Tryd.prog 400 os).layVars Tryd.prog (Rows.pathBackRow.laid.filter fun x => x.2.handleName?.isNone)).forCall (fun _ _ => 0) ⟨#[], args, []⟩).memory :=
  laidMetH_of_parts3 (fuel := 8) (met_layAll _ (by kernel_rfl) (by kernel_rfl)) (by kernel_rfl) (by kernel_rfl)
set_option maxRecDepth 100000 in
theorem lifted (os : Os) (started : os.Started) (H : Type) (enc : TypeId × Value → H) :
    ReturnsInHanded {} Tryd.checked os 4 .any (fun w args => (Rows.pathBackSpec.pre enc Tryd.prog Tryd.f4 [] false w args ∧ laidMetH Tryd.prog Rows.pathBackRow.laid w) ∧ sizedMet enc Tryd.prog Tryd.f4 (OpenSpec.ofChange Rows.pathBackSpec) false w args) (Rows.pathBackSpec.post enc Tryd.prog Tryd.f4 false true false false) := by
  refine handed_shaped (C := Tryd.checked) (X := fun w _ => laidMetH Tryd.prog Rows.pathBackRow.laid w) (fun _ _ _ hh h => h.of_heap hh) own started (by kernel_rfl) Tryd.func4
    (ChangeSpec.witness_shaped (enc := enc) (C := Tryd.checked) (os := os) (X := fun w _ => laidMetH Tryd.prog Rows.pathBackRow.laid w) false ((World.doorLaid Tryd.prog 400 os).layVars Tryd.prog (Rows.pathBackRow.laid.filter fun x => x.2.handleName?.isNone)) #[.slice none 0 0] 8 ((World.layVars_os _ _ _).trans rfl) (World.shaped_of_ZipB (by kernel_rfl) (by kernel_rfl)) (by kernel_rfl) (by kernel_rfl) (by kernel_rfl) (door_met os _)) ?_
  intro W base args ds gs before hval0 hW hL hsh
  have hF1 : (Rows.pathBackRow.laid.filter fun x => x.2.handleName?.isSome) = [("errors.errorType", Rows.laid_errors_errorType)] := by kernel_rfl
  have hF2 : (Rows.pathBackRow.laid.filter fun x => x.2.handleName?.isNone) = [("unicode/utf8.acceptRanges", Rows.laid_unicode_utf8_acceptRanges), ("unicode/utf8.first", Rows.laid_unicode_utf8_first)] := by kernel_rfl
  have hL' : laidMet Tryd.prog [("unicode/utf8.acceptRanges", Rows.laid_unicode_utf8_acceptRanges), ("unicode/utf8.first", Rows.laid_unicode_utf8_first)] W ∧ handlesMet Tryd.prog [("errors.errorType", Rows.laid_errors_errorType)] W := by
    unfold laidMetH at hL
    rw [hF1] at hL
    simp only [hF2] at hL
    exact hL
  have hval : ∀ (j : Nat) t v, Tryd.f4.params[j]? = some t → args[j]? = some v → Value.okWide Tryd.prog W .any base t v := hval0
  have hW' := hW
  obtain ⟨p, q, hA0, hV, rfl, hfz, hnd⟩ := hW
  have hA : DataW.TrodAll enc Tryd.prog W 0 (fun _ => true) true Tryd.f4.params.toList args.toList ds p := hA0
  rw [Tryd.params4] at hA hval
  obtain ⟨v0, vs0, d0, ds0, p0, q0, hargs, rfl, rfl, h0, r0⟩ := trodAll_cons hA
  obtain ⟨rfl, rfl, rfl⟩ := trodAll_nil r0
  obtain rfl : args = #[v0] := by cases args; simp_all
  obtain ⟨rfl, rfl⟩ := trodVars_none hV
  obtain ⟨a0, len0, cap0, rfl⟩ := okWide_slice Tryd.underlying23 (hval 0 23 v0 rfl rfl)
  have k0 := h0
  have lt0 : ∀ x ∈ p0, x.block < W.heap.size := by obtain ⟨m, hm⟩ := k0; exact DataW.trod_lt m _ _ _ hm
  have w0 : StrRows W a0 len0 cap0 := strrows_of Tryd.underlying23 Tryd.underlying9 (by kernel_rfl) h0
  clear hA0 hval0
  refine (walk a0 len0 cap0 W w0 (handle_of_hs hL'.2) (mx_of hsh)).mono fun e W' ⟨he, bel⟩ => ?_
  subst he
  exact ⟨_, rfl, _, _, _, [], _, [], hW', trodAll_mk1 (shut_bool Tryd.underlying4 _), (trodAll_cons_mk (Below.trod laidOut (by kernel_rfl) (of_decide_eq_true (by kernel_rfl)) k0 bel lt0) trodAll_mk0), rfl, bel.frame _, fun h => by cases h⟩

theorem over : Rows.pathBackRow.holds Tryd.pinned (OpenSpec.ofChange Rows.pathBackSpec) :=
  OpenClaim.holds_of_wide 4 Tryd.f4 rfl rfl rfl rfl rfl rfl rfl ⟨rfl, rfl, rfl, rfl, rfl⟩ rfl rfl rfl rfl rfl (by kernel_rfl) Tryd.func4 (by kernel_rfl)
    (of_decide_eq_true (by kernel_rfl)) (by unfold Func.isWrapper; first | (rw [if_pos (by decide +kernel)]; kernel_rfl) | (rw [if_neg (by decide +kernel)]; exact ⟨rfl, rfl⟩))
    (fun os started H enc _ => lifted os started H enc)

theorem proved : Rows.PathBackSaid := over
theorem card : Rows.PathBackCardSaid :=
  Claim7.holds_tied_plain_at .later [] [.data, .handle, .pinned] true (true, "c3b5d924254ec8fb1b88ac88a1f46e281da0fec48156f710e7dcf72e5cd9c417") true
    over (fun _ h => by cases h) (by kernel_rfl) (fun _ h => by cases h) pathBack_row_tie rfl ⟨rfl, rfl⟩ (by kernel_rfl) rfl
    (fun f fn hf hfn => by
      obtain rfl : f = 4 := Option.some.inj ((show Tryd.prog.funcNamed "halter/halterlaw16.PathBack" = some 4 by kernel_rfl).symm.trans hf) |>.symm
      obtain rfl : fn = Tryd.f4 := (Option.some.inj (Tryd.func4.symm.trans hfn)).symm
      exact ⟨by kernel_rfl, fun j t ht => by
        rw [Tryd.params4] at ht
        have hm : t ∈ [23] := by have := Array.mem_of_getElem? ht; simpa using this
        have hall : ([23].all fun u => !Tryd.prog.wantsStandIn u) = true := by kernel_rfl
        exact (show Tryd.prog.wantsStandIn t = false by simpa using List.all_eq_true.1 hall t hm)⟩)
    (by kernel_rfl)
#print axioms card
end Go.Proofs.YtmaocaddoohfmaaDoor.pathBack
