/- The last name of a joined path is the last one, and what stands ahead of it is split as the others; with a slash behind it is the same; the statement holds for every input, where the listed variables hold what the library's own text lays, which the card ties. -/
import Derived.Test.YtmaocaddoohfmaaDoorRows
import Derived.Test.YtmaocaddoohfmaaDoorPaI
import Derived.Test.YtmaocaddoohfmaaDoorCards
import Derived.Test.YtmaocaddoohfmaaDoorTie
import Derived.LaidMore
import Derived.LaidLaws
import Derived.LaidHandle
import Derived.Test.YtmaocaddoohfmaaDoorPaLay
import Derived.Test.YtmaocaddoohfmaaDoorShape
import Derived.Lay
import Derived.Test.YtmaocaddoohfmaaDoorLay
import Derived.Test.YtmaocaddoohfmaaDoorPost
import Derived.WalkKit
import Derived.ProofKit
import Derived.OpenShut
import Derived.ShutString
import Derived.ChangeOld
import Derived.Below
namespace Go.Proofs.YtmaocaddoohfmaaDoor.pathLasts
open Go.ChangeShapes Go.WideShapes Go.ChangeAt Go.RowKit
open Go.ChangeMaps (open_string shut_string)
set_option linter.unusedVariables false

theorem own : ownKnob Tryd.prog.godebug = none := by kernel_rfl
theorem laidOut : laidOutB Tryd.prog = true := by kernel_rfl

/-- WHAT THE WALK IS TOLD OF A SLICE OF INTEGERS THAT CAME IN: it is nil; or it leads to a row of 'cap' cells, the numbers 'zs' (the first 'len' are its elements, the rest its spare room), each fitting its kind. -/
def IsRow (k : IntKind) (w : World) (a : Option Addr) (len cap : Nat) (zs : List Int) : Prop :=
  (a = none ∧ len = 0 ∧ cap = 0 ∧ zs = []) ∨
  ∃ x, a = some x ∧ len ≤ cap ∧ cap ≤ maxLen ∧ zs.length = cap ∧ (∀ i, i < zs.length → w.cell? (x.add i) = some (.int k (zs.getD i 0))) ∧ ∀ n ∈ zs, (Lit.int k n).wf = true

/-! ### STEP 1: THE WALK: the Go text returns true, AND WRITES NOTHING THAT WAS THERE: 'Below w.heap.size w w'' (Derived/Below.lean: '.refl', '.alloc', '.drew', '.setCell' at a new block, '.trans'). Open each 'IsRow' by 'rcases' AHEAD of 'go_enter'; part every test ahead of the walk. -/
set_option maxHeartbeats 8000000 in
set_option maxRecDepth 100000 in
theorem walk (a0 : Option Addr) (len0 cap0 : Nat) (w : World) (w0 : StrRows w a0 len0 cap0) (hl : Laid w) (hm : Mx w) :
    Calls Tryd.prog 5 #[.slice a0 len0 cap0] w fun e w' => e = .returned (.bool true) ∧ Below w.heap.size w w' := by
  obtain ⟨ls, rfl, t0, hx0⟩ := w0
  have cS := fun W (k : Laid W) (m : Mx W) => psure_any W k m
  have T0 := Lib.hid t0
  obtain ⟨p, cap, hpc, hc1, hc0, hc⟩ := t0
  have hsl : (Value.slice a0 ls.length cap0) = .slice p ls.length cap := hpc
  obtain ⟨rfl, rfl⟩ : a0 = p ∧ cap0 = cap := by simpa using hsl
  clear hpc hsl
  by_cases h20 : 20 < ls.length
  · have h20' : (20 : Int) < (ls.length : Int) := by omega
    go_enter Tryd.func5, Tryd.ntmps5
    go_wp2_with fail
    refine (cS _ hl hm).mono ?_
    rintro e w1 ⟨rfl, n1⟩
    go_wp2
    go_ret
    exact ⟨rfl, n1⟩
  · have h20' : ¬ (20 : Int) < (ls.length : Int) := by omega
    go_enter Tryd.func5, Tryd.ntmps5
    go_wp2_with fail
    go_loopg [3] ls.length (fun k s3 wr => ∃ j : Nat, j + k = ls.length ∧ s3 = .int .i64 (j : Int) ∧ wr = w)
    case atStart => exact ⟨0, by omega, rfl, rfl⟩
    case round =>
      obtain ⟨j, hj, rfl, rfl⟩ := hrel
      have HJ := Lib.hid hj
      by_cases hlt : j < ls.length
      · obtain ⟨x, hx⟩ : ∃ x, ls[j]? = some x := ⟨_, List.getElem?_eq_getElem hlt⟩
        obtain ⟨a, rfl, cx⟩ := hc j x hx
        have hxl := hx0 x (List.mem_of_getElem? hx)
        have sx := ba_size x
        have hlt' : (j : Int) < (ls.length : Int) := by omega
        have hj9 : (j : Int) ≤ 20 := by omega
        unfold maxLen at hxl
        clear hx hc hj
        by_cases h40 : 40 < x.length
        · have h40' : (40 : Int) < (x.length : Int) := by omega
          go_wp2_with fail
          refine (cS _ hl hm).mono ?_
          rintro e w1 ⟨rfl, n1⟩
          go_wp2
          go_ret
          exact ⟨rfl, n1⟩
        · have h40' : ¬ (40 : Int) < (x.length : Int) := by omega
          go_wp2_with fail
          go_roundg (ls.length - (j + 1))
          case measure => have := HJ.out; omega
          case rel => exact ⟨j + 1, by have := HJ.out; omega, rfl, rfl⟩
      · have hge : ¬ (j : Int) < (ls.length : Int) := by omega
        have c1 := fun W (k : TxR W (.slice a0 ls.length cap0) ls) => pjoin_any ls _ W k hx0
        have t0 := T0.out
        clear hj
        by_cases hk : ckA ls = 0
        · have e1 : jnV ls = jn ls := by unfold jnV; rw [if_pos hk]
          rw [e1, hk] at c1
          by_cases hn : ls = []
          · subst hn
            have c1 : ∀ W, TxR W (.slice a0 0 cap0) [] → _ := c1
            simp only [List.length_nil] at *
            clear hc
            go_wp2_with fail
            refine (c1 _ t0).mono ?_
            rintro e w1 ⟨rfl, n1⟩
            simp only [er0]
            go_wp2_with fail
            refine (cS _ (hl.new n1) (hm.new n1)).mono ?_
            rintro e w8 ⟨rfl, n2⟩
            have n1 := n1.trans n2
            go_wp2
            go_ret
            exact ⟨rfl, n1⟩
          · obtain ⟨L, x, hLx⟩ : ∃ L x, ls = L ++ [x] := ⟨_, _, (List.dropLast_concat_getLast hn).symm⟩
            have hkx : ckA (L ++ [x]) = 0 := by rw [← hLx]; exact hk
            have hjl := jn_last hkx
            have hsz := ckA_size hk
            have hseg := segs_jn hk
            have hJ : jn ls = 47 :: Lib.join ls [47] := rfl
            have hne : jn ls ≠ [] := by rw [hJ]; simp
            have hjl2 : (jn ls).length ≤ 201 := by rw [hJ, List.length_cons]; omega
            have hup : jn ls = (if L = [] then [47] else jn L ++ [47]) ++ x ++ List.replicate 0 47 := by rw [hLx, jn_snoc]; simp
            have hup2 : jn ls ++ [47] = (if L = [] then [47] else jn L ++ [47]) ++ x ++ List.replicate 1 47 := by rw [hup]; simp
            have hs1 : spE (jn ls) = 0 := by unfold spE; rw [if_neg hne, hseg, hk]
            have hs2 : spE (jn ls ++ [47]) = 0 := by unfold spE; rw [if_neg (by simp), segs_end, hseg, hk]
            have c2 := fun W (k : Mx W) => plast_any (jn ls) W (by omega) k
            have c3 := fun W (k : Mx W) => plast_any (jn ls ++ [47]) W (by simp; omega) k
            unfold LaA at c2 c3
            have hlast : ls[L.length]? = some x := by rw [hLx]; simp
            have hlen : ls.length = L.length + 1 := by rw [hLx]; simp
            obtain ⟨a, rfl, cx⟩ := hc _ _ hlast
            have sj := ba_size (jn ls)
            have q1 : ¬ 9223372036854775807 < (ba (jn ls)).size + 1 := by omega
            have q2 : ba (jn ls) ++ (⟨#[47]⟩ : ByteArray) = ba (jn ls ++ [47]) := (ba_app (jn ls) [47]).symm
            have hL0 : ¬ ((L.length : Int) + 1 = 0) := by omega
            have hL1 : (((L.length : Int) + 1) == 0) = false := by simp; omega
            have hL9 : (L.length : Int) ≤ 20 := by omega
            have c6 := fun c W (k : Laid W) => num_er c W k
            by_cases hd : x = [46] ∨ x = [46, 46]
            · have hd2 : ((ba x).toList == [46]) = true ∨ (((ba x).toList == [46]) = false ∧ ((ba x).toList == [46, 46]) = true) := by
                rw [ba_list]
                rcases hd with rfl | rfl
                · exact .inl rfl
                · exact .inr ⟨rfl, rfl⟩
              rw [laN_dot hs1 (hseg.trans hLx) hd] at c2
              rw [laN_dot hs2 ((segs_end _).trans (hseg.trans hLx)) hd] at c3
              simp only [erV_int, er0] at c1 c2 c3
              rw [erN_pos (show (22 : Int) ≠ 0 by decide)] at c2 c3
              have c6 := c6 22
              rw [erN_pos (show (22 : Int) ≠ 0 by decide)] at c6
              rw [hlen] at c1 t0 hc1 ⊢
              have T1 := Lib.hid t0
              clear hup hup2 hseg hLx hkx hjl hs1 hs2 hn hk e1 hJ hne hd hlast hsz
              generalize jn ls ++ [47] = Y at *
              generalize jn ls = J at *
              rcases hd2 with hd2 | ⟨hd2, hd3⟩
              all_goals
                go_wp2_with fail
                refine (c1 _ t0).mono ?_
                rintro e w1 ⟨rfl, n1⟩
                have cx := n1.cellv cx
                clear c1 t0
                go_wp2_with fail
                refine (c2 _ (hm.new n1)).mono ?_
                rintro e w2 ⟨rfl, n2⟩
                have cx := n2.cellv cx
                have n1 := n1.trans n2
                clear c2 n2
                go_wp2_with fail
                refine (c3 _ (hm.new n1)).mono ?_
                rintro e w3 ⟨rfl, n2⟩
                have cx := n2.cellv cx
                have n1 := n1.trans n2
                clear c3 n2
                go_wp2_with fail
                refine (c6 _ (hl.new n1)).mono ?_
                rintro e w4 ⟨rfl, n2⟩
                have n1 := n1.trans n2
                clear n2
                go_wp2_with fail
                refine (c6 _ (hl.new n1)).mono ?_
                rintro e w5 ⟨rfl, n2⟩
                have n1 := n1.trans n2
                clear n2
                go_wp2_with fail
                refine (cS _ (hl.new n1) (hm.new n1)).mono ?_
                rintro e w8 ⟨rfl, n2⟩
                have n1 := n1.trans n2
                go_wp2
                go_ret
                exact ⟨rfl, n1⟩
            · have hd1 : x ≠ [46] := fun e => hd (.inl e)
              have hd2 : x ≠ [46, 46] := fun e => hd (.inr e)
              rw [laN_ok hs1 (hseg.trans hLx) hd1 hd2 hup] at c2
              rw [laN_ok hs2 ((segs_end _).trans (hseg.trans hLx)) hd1 hd2 hup2] at c3
              have hul : (if L = [] then [47] else jn L ++ [47]).length ≤ 201 := by have := congrArg List.length hup; simp at this; omega
              have hune : (if L = [] then [47] else jn L ++ [47]) ≠ [] := by split <;> simp
              have hur : rootB (if L = [] then [47] else jn L ++ [47]) = true := by split <;> rfl
              have g1 : ((ba x).toList == [46]) = false := by rw [ba_list]; exact beq_eq_false_iff_ne.2 hd1
              have g2 : ((ba x).toList == [46, 46]) = false := by rw [ba_list]; exact beq_eq_false_iff_ne.2 hd2
              generalize (if L = [] then [47] else jn L ++ [47]) = U at *
              have hsu : spE U = 0 := by unfold spE; rw [if_neg hune, hjl.1, hjl.2]
              have c4 := fun W (k : Mx W) => psplit_any U W (by omega) k
              unfold SpA at c4
              rw [show spB U = true by unfold spB; rw [hsu, if_pos rfl, hur], show spL U = L by unfold spL; rw [hsu, if_pos rfl, hjl.1], hsu] at c4
              have c5 := fun va vb W (ka : TxR W va L) (kb : TxR W vb L) => texts_any L L va vb W ka kb
              have hcut : ∀ W, TxR W (.slice (some a) ls.length cap0) ls → TxR W (.slice (some a) L.length cap0) L := by
                intro W k
                obtain ⟨pk, ck, ek, k1, k0, k2⟩ := k
                obtain ⟨rfl, rfl⟩ : some a = pk ∧ cap0 = ck := by simpa using ek
                refine ⟨_, _, rfl, by omega, k0, fun j z hz => k2 j z ?_⟩
                rw [hLx, List.getElem?_append_left (List.getElem?_eq_some_iff.1 hz).1]; exact hz
              have e2 : ((ba x).toList == (ba x).toList) = true := ba_eq rfl
              have e3 : ((ba U).toList == (ba U).toList) = true := ba_eq rfl
              simp only [erV_int, er0, decide_true] at c1 c2 c3 c4 c5
              rw [hlen] at c1 t0 hc1 hcut ⊢
              have hLc : (L.length : Int) ≤ (cap0 : Int) := by omega
              clear hup hup2 hseg hLx hkx hjl hs1 hs2 hn hk e1 hJ hne hd hlast hsz hd1 hd2 hsu hur hune hul
              generalize jn ls ++ [47] = Y at *
              generalize jn ls = J at *
              go_wp2_with fail
              refine (c1 _ t0).mono ?_
              rintro e w1 ⟨rfl, n1⟩
              have cx := n1.cellv cx
              have t1 := t0.new n1
              clear c1 t0
              go_wp2_with fail
              refine (c2 _ (hm.new n1)).mono ?_
              rintro e w2 ⟨rfl, n2⟩
              have cx := n2.cellv cx
              have t1 := t1.new n2
              have n1 := n1.trans n2
              clear c2 n2
              go_wp2_with fail
              refine (c3 _ (hm.new n1)).mono ?_
              rintro e w3 ⟨rfl, n2⟩
              have cx := n2.cellv cx
              have t1 := t1.new n2
              have n1 := n1.trans n2
              clear c3 n2
              go_wp2_with fail
              refine (c4 _ (hm.new n1)).mono ?_
              rintro e w4 ⟨v, rfl, o1, n2⟩
              have t2 := o1.txr
              obtain ⟨v0, v1, rfl, -⟩ := o1.txr
              have cx := n2.cellv cx
              have t1 := t1.new n2
              have n1 := n1.trans n2
              clear c4 o1 n2
              go_wp2_with fail
              refine (c5 _ _ _ t2 (hcut _ t1)).mono ?_
              rintro e w5 ⟨rfl, n2⟩
              have n1 := n1.trans n2
              clear n2 t1 t2
              go_wp2_with fail
              refine (cS _ (hl.new n1) (hm.new n1)).mono ?_
              rintro e w8 ⟨rfl, n2⟩
              have n1 := n1.trans n2
              go_wp2
              go_ret
              exact ⟨rfl, n1⟩
        · rw [erN_pos hk] at c1
          generalize ckA ls = c at *
          go_wp2_with fail
          refine (c1 _ t0).mono ?_
          rintro e w1 ⟨rfl, n1⟩
          clear c1 t0
          go_wp2_with fail
          refine (cS _ (hl.new n1) (hm.new n1)).mono ?_
          rintro e w8 ⟨rfl, n2⟩
          have n1 := n1.trans n2
          go_wp2
          go_ret
          exact ⟨rfl, n1⟩

/-! ### THE ROW's STEP: WRITTEN OUT: LEAVE IT -/
theorem door_met (os : Os) (args : Array Value) : laidMetH Tryd.prog Rows.pathLastsRow.laid (((World.doorLaid Tryd.prog 400 os).layVars Tryd.prog (Rows.pathLastsRow.laid.filter fun x => x.2.handleName?.isNone)).forCall (fun _ _ => 0) ⟨#[], args, []⟩).memory :=
  laidMetH_of_parts3 (fuel := 8) (met_layAll _ (by kernel_rfl) (by kernel_rfl)) (by kernel_rfl) (by kernel_rfl)
set_option maxRecDepth 100000 in
theorem lifted (os : Os) (started : os.Started) (H : Type) (enc : TypeId × Value → H) :
    ReturnsInHanded {} Tryd.checked os 5 .any (fun w args => (Rows.pathLastsSpec.pre enc Tryd.prog Tryd.f5 [] false w args ∧ laidMetH Tryd.prog Rows.pathLastsRow.laid w) ∧ sizedMet enc Tryd.prog Tryd.f5 (OpenSpec.ofChange Rows.pathLastsSpec) false w args) (Rows.pathLastsSpec.post enc Tryd.prog Tryd.f5 false true false false) := by
  refine handed_shaped (C := Tryd.checked) (X := fun w _ => laidMetH Tryd.prog Rows.pathLastsRow.laid w) (fun _ _ _ hh h => h.of_heap hh) own started (by kernel_rfl) Tryd.func5
    (ChangeSpec.witness_shaped (enc := enc) (C := Tryd.checked) (os := os) (X := fun w _ => laidMetH Tryd.prog Rows.pathLastsRow.laid w) false ((World.doorLaid Tryd.prog 400 os).layVars Tryd.prog (Rows.pathLastsRow.laid.filter fun x => x.2.handleName?.isNone)) #[.slice none 0 0] 8 ((World.layVars_os _ _ _).trans rfl) (World.shaped_of_ZipB (by kernel_rfl) (by kernel_rfl)) (by kernel_rfl) (by kernel_rfl) (by kernel_rfl) (door_met os _)) ?_
  intro W base args ds gs before hval0 hW hL hsh
  have hF1 : (Rows.pathLastsRow.laid.filter fun x => x.2.handleName?.isSome) = [("errors.errorType", Rows.laid_errors_errorType)] := by kernel_rfl
  have hF2 : (Rows.pathLastsRow.laid.filter fun x => x.2.handleName?.isNone) = [("unicode/utf8.acceptRanges", Rows.laid_unicode_utf8_acceptRanges), ("unicode/utf8.first", Rows.laid_unicode_utf8_first)] := by kernel_rfl
  have hL' : laidMet Tryd.prog [("unicode/utf8.acceptRanges", Rows.laid_unicode_utf8_acceptRanges), ("unicode/utf8.first", Rows.laid_unicode_utf8_first)] W ∧ handlesMet Tryd.prog [("errors.errorType", Rows.laid_errors_errorType)] W := by
    unfold laidMetH at hL
    rw [hF1] at hL
    simp only [hF2] at hL
    exact hL
  have hval : ∀ (j : Nat) t v, Tryd.f5.params[j]? = some t → args[j]? = some v → Value.okWide Tryd.prog W .any base t v := hval0
  have hW' := hW
  obtain ⟨p, q, hA0, hV, rfl, hfz, hnd⟩ := hW
  have hA : DataW.TrodAll enc Tryd.prog W 0 (fun _ => true) true Tryd.f5.params.toList args.toList ds p := hA0
  rw [Tryd.params5] at hA hval
  obtain ⟨v0, vs0, d0, ds0, p0, q0, hargs, rfl, rfl, h0, r0⟩ := trodAll_cons hA
  obtain ⟨rfl, rfl, rfl⟩ := trodAll_nil r0
  obtain rfl : args = #[v0] := by cases args; simp_all
  obtain ⟨rfl, rfl⟩ := trodVars_none hV
  obtain ⟨a0, len0, cap0, rfl⟩ := okWide_slice Tryd.underlying23 (hval 0 23 v0 rfl rfl)
  have k0 := h0
  have lt0 : ∀ x ∈ p0, x.block < W.heap.size := by obtain ⟨m, hm⟩ := k0; exact DataW.trod_lt m _ _ _ hm
  have w0 : StrRows W a0 len0 cap0 := strrows_of Tryd.underlying23 Tryd.underlying9 (by kernel_rfl) h0
  clear hA0 hval0
  refine (walk a0 len0 cap0 W w0 (handle_of_hs hL'.2) (mx_of hsh)).mono fun e W' ⟨he, bel⟩ => ?_
  subst he
  exact ⟨_, rfl, _, _, _, [], _, [], hW', trodAll_mk1 (shut_bool Tryd.underlying4 _), (trodAll_cons_mk (Below.trod laidOut (by kernel_rfl) (of_decide_eq_true (by kernel_rfl)) k0 bel lt0) trodAll_mk0), rfl, bel.frame _, fun h => by cases h⟩

theorem over : Rows.pathLastsRow.holds Tryd.pinned (OpenSpec.ofChange Rows.pathLastsSpec) :=
  OpenClaim.holds_of_wide 5 Tryd.f5 rfl rfl rfl rfl rfl rfl rfl ⟨rfl, rfl, rfl, rfl, rfl⟩ rfl rfl rfl rfl rfl (by kernel_rfl) Tryd.func5 (by kernel_rfl)
    (of_decide_eq_true (by kernel_rfl)) (by unfold Func.isWrapper; first | (rw [if_pos (by decide +kernel)]; kernel_rfl) | (rw [if_neg (by decide +kernel)]; exact ⟨rfl, rfl⟩))
    (fun os started H enc _ => lifted os started H enc)

theorem proved : Rows.PathLastsSaid := over
theorem card : Rows.PathLastsCardSaid :=
  Claim7.holds_tied_plain_at .later [] [.data, .handle, .pinned] true (true, "c3b5d924254ec8fb1b88ac88a1f46e281da0fec48156f710e7dcf72e5cd9c417") true
    over (fun _ h => by cases h) (by kernel_rfl) (fun _ h => by cases h) pathLasts_row_tie rfl ⟨rfl, rfl⟩ (by kernel_rfl) rfl
    (fun f fn hf hfn => by
      obtain rfl : f = 5 := Option.some.inj ((show Tryd.prog.funcNamed "halter/halterlaw16.PathLasts" = some 5 by kernel_rfl).symm.trans hf) |>.symm
      obtain rfl : fn = Tryd.f5 := (Option.some.inj (Tryd.func5.symm.trans hfn)).symm
      exact ⟨by kernel_rfl, fun j t ht => by
        rw [Tryd.params5] at ht
        have hm : t ∈ [23] := by have := Array.mem_of_getElem? ht; simpa using this
        have hall : ([23].all fun u => !Tryd.prog.wantsStandIn u) = true := by kernel_rfl
        exact (show Tryd.prog.wantsStandIn t = false by simpa using List.all_eq_true.1 hall t hm)⟩)
    (by kernel_rfl)
#print axioms card
end Go.Proofs.YtmaocaddoohfmaaDoor.pathLasts
