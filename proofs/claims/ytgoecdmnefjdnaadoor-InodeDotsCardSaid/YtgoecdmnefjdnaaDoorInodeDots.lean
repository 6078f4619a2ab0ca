/- However deep folders lie in each other, so many steps up lead back and not beyond the root, and a folder that has something in it can't be taken away; the statement holds for every input, where the listed variable holds what the library's own text lays, which the card ties. -/
import Derived.Test.YtgoecdmnefjdnaaDoorRows
import Derived.Test.YtgoecdmnefjdnaaDoorInH
import Derived.Test.YtgoecdmnefjdnaaDoorLay
import Derived.Deep.LoopGhost
import Derived.Test.YtgoecdmnefjdnaaDoorCards
import Derived.Test.YtgoecdmnefjdnaaDoorTie
import Derived.LaidMore
import Derived.LaidLaws
import Derived.LaidHandle
import Derived.Test.YtgoecdmnefjdnaaDoorLay
import Derived.Test.YtgoecdmnefjdnaaDoorPost
import Derived.WalkKit
import Derived.ProofKit
import Derived.OpenShut
import Derived.ShutString
namespace Go.Proofs.YtgoecdmnefjdnaaDoor.inodeDots
open Go.ChangeShapes Go.WideShapes Go.ChangeAt Go.RowKit
open Go.ChangeMaps (open_string shut_string)
set_option linter.unusedVariables false      -- a walk need not use every 'w<i>' (that an integer argument fits its kind)

theorem own : ownKnob Tryd.prog.godebug = none := by kernel_rfl

/-! ### STEP 1: THE WALK: the Go text returns true. 'Grown w w'': the world has at most new blocks (Derived/RowKit3.lean). Part the cases AHEAD of 'go_enter' where a test parts the walk; take each callee by a contract of your own. -/
set_option maxHeartbeats 8000000 in
set_option maxRecDepth 100000 in
theorem walk (a0 : Int) (w0 : (Lit.int .i64 a0).wf = true) (w : World) (hl : Laid w) :
    Calls Tryd.prog 5 #[.int .i64 a0] w fun e w' => e = .returned (.bool true) ∧ New w w' := by
  obtain ⟨n, en, hn1, hn2⟩ := imod_in 7 1 a0 (by omega) (by omega) (by omega) (by omega)
  have c := new_any 20 w (by omega)
  go_enter Tryd.func5, Tryd.ntmps5
  go_wp2_with fail
  refine c.mono ?_
  rintro e w1 ⟨tb, rfl, T0, n1⟩
  have D0 : Dq w w1 tb (dotL 0) (fun g => g < w.heap.size) (.slice none 0 0) (.slice none 0 0) [] [] := ⟨T0 _ (fun g h => h), fun g h => h, OwnS.nil _ _, OwnS.nil _ _, (fun g h => by cases h), (fun g h => by cases h), (fun g h => by cases h), n1⟩
  clear c T0 n1
  go_wp2_with fail
  clear en
  go_loopg [6, 7, 8, 9] n (fun gk s6 s7 s8 s9 wr => ∃ (j : Nat) (X : Nat → Prop), j + gk = n ∧ s8 = .int .i64 ((j : Int) + 1) ∧ s9 = .int .i64 (j : Int) ∧ Dq w wr tb (dotL j) X s6 s7 (List.replicate j [100]) (List.replicate j [46, 46]) ∧ (∀ g, s6.ownBlock = some g → w.heap.size ≤ g) ∧ (∀ g, s7.ownBlock = some g → w.heap.size ≤ g))
  case atStart => exact ⟨0, _, by omega, rfl, rfl, D0, (fun g h => by cases h), (fun g h => by cases h)⟩
  case round =>
    obtain ⟨j, X, hj, rfl, rfl, D, bd, bu⟩ := hrel
    have HJ := Lib.hid hj
    by_cases hlt : j < n
    · have hlt' : (j : Int) < (n : Int) := by omega
      obtain ⟨f1, f2, f3⟩ := dot_mk ⟨j, by omega⟩
      dsimp only at f1 f2 f3
      have c := make_any (s := [100]) (k := 1) D.t (ok64 (by omega)) (by decide) f3
      have hj9 : (j : Int) ≤ 6 := by omega
      clear hj
      by_cases h0 : j = 0
      · have hj0 : ¬ (0 : Int) < (j : Int) := by omega
        clear h0
        go_wp2_with fail
        refine c.mono ?_
        rintro e w3 ⟨E, T, k⟩
        rw [f1, f2, er0] at E
        subst E
        change Tr X w3 tb 20 (dotL (j + 1)) at T
        have D3 := D.tree T k
        clear D T k c f1 f2 f3
        have szw := D3.n.size
        have nnd : New w3 (w3.alloc (.cells #[.string ⟨#[100]⟩] 9)) := (New.refl w3).alloc _ _
        go_wp2_with (at_builtin; refine wpList_app_s rfl _ _ rfl u6 (List.replicate j [100]) rfl (D3.new nnd).d ⟨w3.heap.size, 0, none⟩ 1 1 [[100]] rfl rfl ?d1 ?d2 ?_)
        case d1 =>
          intro i u hu
          rcases i with _ | i <;> simp at hu
          subst hu; exact (World.cell?_alloc_at _ _ _ _ rfl).trans rfl
        case d2 => first | (simp; omega) | (rw [List.length_replicate]; omega)
        intro v1 w4 o4 o4p k4 l4
        have D4 := (D3.new nnd).pushD bd k4 o4 (fun g hg => (l4 g hg).imp id fun e => by rw [World.size_alloc]; exact e)
        have sz4 : w.heap.size ≤ w4.heap.size := D4.n.size
        have bd4 : ∀ g, v1.ownBlock = some g → w.heap.size ≤ g := fun g hg => by
          rcases l4 g hg with e | e
          · exact bd g e
          · have := nnd.size; rw [World.size_alloc] at this; omega
        clear D3 nnd k4 o4 o4p l4 bd
        have nnu : New w4 (w4.alloc (.cells #[.string ⟨#[46, 46]⟩] 9)) := (New.refl w4).alloc _ _
        go_wp2_with (at_builtin; refine wpList_app_s rfl _ _ rfl u7 (List.replicate j [46, 46]) rfl (D4.new nnu).u ⟨w4.heap.size, 0, none⟩ 1 1 [[46, 46]] rfl rfl ?u1 ?u2 ?_)
        case u1 =>
          intro i u hu
          rcases i with _ | i <;> simp at hu
          subst hu; exact (World.cell?_alloc_at _ _ _ _ rfl).trans rfl
        case u2 => first | (simp; omega) | (rw [List.length_replicate]; omega)
        intro v2 w5 o5 o5p k5 l5
        have D5 := (D4.new nnu).pushU bu k5 o5 (fun g hg => (l5 g hg).imp id fun e => by rw [World.size_alloc]; exact e)
        have bu5 : ∀ g, v2.ownBlock = some g → w.heap.size ≤ g := fun g hg => by
          rcases l5 g hg with e | e
          · exact bu g e
          · have := nnu.size; rw [World.size_alloc] at this; omega
        rw [← List.replicate_succ', ← List.replicate_succ'] at D5
        clear D4 nnu k5 o5 o5p l5 bu
        go_wp2_with fail
        go_roundg (n - (j + 1))
        case measure => have := HJ.out; omega
        case rel => exact ⟨j + 1, _, by have := HJ.out; omega, by first | rfl | (congr 1; omega), rfl, D5, bd4, bu5⟩
      · have hj0 : (0 : Int) < (j : Int) := by omega
        obtain ⟨g1, g2⟩ : unE (dotL (j + 1)) 1 [100] = 39 ∧ (nget (dotL (j + 1)) (fnV (dotL (j + 1)) 1 [100])).isSome = true := by
          obtain ⟨m, rfl⟩ : ∃ m, j = m + 1 := ⟨j - 1, by omega⟩
          exact dot_un ⟨m, by omega⟩
        have g3 : unR (dotL (j + 1)) 1 [100] = dotL (j + 1) := by unfold unR; rw [g1, if_neg (by decide)]
        go_wp2_with fail
        refine c.mono ?_
        rintro e w2 ⟨E, T, k⟩
        rw [f1, f2, er0] at E
        subst E
        change Tr X w2 tb 20 (dotL (j + 1)) at T
        have D2 := D.tree T k
        have c := unlink_any (s := [100]) D2.t (ok64 (i := 1) (by omega)) (by decide) (fun _ => g2)
        clear D T k f1 f2 f3
        go_wp2_with fail
        refine c.mono ?_
        rintro e w3 ⟨E, T, k⟩
        rw [g1] at E
        rw [g3] at T
        subst E
        have D3' := D2.tree T k
        have c := num_er 39 w3 (hl.new D3'.n)
        clear D2 T k g1 g2 g3
        go_wp2_with fail
        refine c.mono ?_
        rintro e w3 ⟨rfl, nn⟩
        have D3 := D3'.new nn
        clear D3' nn c
        have szw := D3.n.size
        have nnd : New w3 (w3.alloc (.cells #[.string ⟨#[100]⟩] 9)) := (New.refl w3).alloc _ _
        go_wp2_with (at_builtin; refine wpList_app_s rfl _ _ rfl u6 (List.replicate j [100]) rfl (D3.new nnd).d ⟨w3.heap.size, 0, none⟩ 1 1 [[100]] rfl rfl ?d1 ?d2 ?_)
        case d1 =>
          intro i u hu
          rcases i with _ | i <;> simp at hu
          subst hu; exact (World.cell?_alloc_at _ _ _ _ rfl).trans rfl
        case d2 => first | (simp; omega) | (rw [List.length_replicate]; omega)
        intro v1 w4 o4 o4p k4 l4
        have D4 := (D3.new nnd).pushD bd k4 o4 (fun g hg => (l4 g hg).imp id fun e => by rw [World.size_alloc]; exact e)
        have sz4 : w.heap.size ≤ w4.heap.size := D4.n.size
        have bd4 : ∀ g, v1.ownBlock = some g → w.heap.size ≤ g := fun g hg => by
          rcases l4 g hg with e | e
          · exact bd g e
          · have := nnd.size; rw [World.size_alloc] at this; omega
        clear D3 nnd k4 o4 o4p l4 bd
        have nnu : New w4 (w4.alloc (.cells #[.string ⟨#[46, 46]⟩] 9)) := (New.refl w4).alloc _ _
        go_wp2_with (at_builtin; refine wpList_app_s rfl _ _ rfl u7 (List.replicate j [46, 46]) rfl (D4.new nnu).u ⟨w4.heap.size, 0, none⟩ 1 1 [[46, 46]] rfl rfl ?u1 ?u2 ?_)
        case u1 =>
          intro i u hu
          rcases i with _ | i <;> simp at hu
          subst hu; exact (World.cell?_alloc_at _ _ _ _ rfl).trans rfl
        case u2 => first | (simp; omega) | (rw [List.length_replicate]; omega)
        intro v2 w5 o5 o5p k5 l5
        have D5 := (D4.new nnu).pushU bu k5 o5 (fun g hg => (l5 g hg).imp id fun e => by rw [World.size_alloc]; exact e)
        have bu5 : ∀ g, v2.ownBlock = some g → w.heap.size ≤ g := fun g hg => by
          rcases l5 g hg with e | e
          · exact bu g e
          · have := nnu.size; rw [World.size_alloc] at this; omega
        rw [← List.replicate_succ', ← List.replicate_succ'] at D5
        clear D4 nnu k5 o5 o5p l5 bu
        go_wp2_with fail
        go_roundg (n - (j + 1))
        case measure => have := HJ.out; omega
        case rel => exact ⟨j + 1, _, by have := HJ.out; omega, by first | rfl | (congr 1; omega), rfl, D5, bd4, bu5⟩
    · have hge : ¬ (j : Int) < (n : Int) := by omega
      obtain rfl : j = n := by omega
      obtain ⟨k, rfl⟩ : ∃ k, j = k + 1 := ⟨j - 1, by omega⟩
      obtain ⟨⟨a1, a2⟩, ⟨b1, b2⟩, ⟨c1, c2⟩, d1⟩ := dot_wa ⟨k, by omega⟩
      dsimp only at a1 a2 b1 b2 c1 c2 d1
      have hk6 : k ≤ 6 := by omega
      have hat : (((k + 1 : Nat) : Int) + 1) = (k : Int) + 2 := by omega
      have q1 : ∀ (m : Nat) (x : List UInt8), x.length ≤ maxLen → ∀ y ∈ List.replicate m x, y.length ≤ maxLen := fun m x hx y hy => by rw [List.eq_of_mem_replicate hy]; exact hx
      have W1 := walk_any (i := 1) D.t (ok64 (by omega)) D.d.txr (q1 _ _ (by decide)) (by rw [List.length_replicate]; omega)
      have W2 := walk_any (i := (k : Int) + 2) D.t (ok64 (by omega)) D.u.txr (q1 _ _ (by decide)) (by rw [List.length_replicate]; omega)
      rw [a1, a2, er0] at W1
      rw [b1, b2, er0] at W2
      clear a1 a2 b1 b2 hj
      rw [hat]
      go_wp2_with fail
      refine W1.mono ?_
      rintro e w2 ⟨rfl, rfl⟩
      go_wp2_with fail
      refine W2.mono ?_
      rintro e w3 ⟨rfl, rfl⟩
      clear W1 W2
      have nnu : New w3 (w3.alloc (.cells #[.string ⟨#[46, 46]⟩, .string ⟨#[46]⟩] 9)) := (New.refl w3).alloc _ _
      go_wp2_with (at_builtin; refine wpList_app_s rfl _ _ rfl u7 (List.replicate (k + 1) [46, 46]) rfl (D.new nnu).u ⟨w3.heap.size, 0, none⟩ 2 2 [[46, 46], [46]] rfl rfl ?u1 ?u2 ?_)
      case u1 =>
        intro i u hu
        rcases i with _ | _ | i <;> simp at hu
        all_goals (subst hu; first | exact (World.cell?_alloc_at _ _ _ _ rfl).trans rfl | (simp [Addr.add, World.cell?]))
      case u2 => first | (simp; omega) | (rw [List.length_replicate]; omega)
      intro v3 w4 o4 p4 k4 l4
      have D4 := (D.new nnu).mid bu k4 p4
      have W3 := walk_any (i := (k : Int) + 2) D4.t (ok64 (by omega)) o4.txr (fun y hy => by
        rcases List.mem_append.1 hy with h | h
        · exact q1 _ [46, 46] (by decide) y h
        · have : y.length ≤ 2 := by simp at h; rcases h with rfl | rfl <;> decide
          unfold maxLen; omega) (by rw [List.length_append, List.length_replicate]; simp; omega)
      rw [c1, c2, er0] at W3
      clear c1 c2 D nnu k4 p4 o4 l4
      go_wp2_with fail
      refine W3.mono ?_
      rintro e w5 ⟨rfl, rfl⟩
      clear W3
      have nnux : New w5 (w5.alloc (.cells #[.string ⟨#[120]⟩] 9)) := (New.refl w5).alloc _ _
      go_wp2_with (at_builtin; refine wpList_app_s rfl _ _ rfl u7 (List.replicate (k + 1) [46, 46]) rfl (D4.new nnux).u ⟨w5.heap.size, 0, none⟩ 1 1 [[120]] rfl rfl ?ux1 ?ux2 ?_)
      case ux1 =>
        intro i u hu
        rcases i with _ | i <;> simp at hu
        subst hu; exact (World.cell?_alloc_at _ _ _ _ rfl).trans rfl
      case ux2 => first | (simp; omega) | (rw [List.length_replicate]; omega)
      intro v5 w6 o6 p6 k6 l6
      have D6 := (D4.new nnux).mid bu k6 p6
      have W4 := walk_any (i := (k : Int) + 2) D6.t (ok64 (by omega)) o6.txr (fun y hy => by
        rcases List.mem_append.1 hy with h | h
        · exact q1 _ [46, 46] (by decide) y h
        · have : y.length ≤ 2 := by simp at h; rw [h]; decide
          unfold maxLen; omega) (by rw [List.length_append, List.length_replicate]; simp; omega)
      rw [d1] at W4
      clear d1 D4 nnux k6 p6 o6 l6
      go_wp2_with fail
      refine W4.mono ?_
      rintro e w7 ⟨rfl, rfl⟩
      have n7 := D6.n
      clear W4 D6
      have cN := num_er 2 w7 (hl.new n7)
      go_wp2_with fail
      refine cN.mono ?_
      rintro e w8 ⟨rfl, n8⟩
      have n9 := n7.trans n8
      have cS := isure_any w8 (hl.new n9)
      go_wp2_with fail
      refine cS.mono ?_
      rintro e w9 ⟨rfl, n10⟩
      go_wp2
      go_ret
      exact ⟨rfl, n9.trans n10⟩

/-! ### THE ROW's STEP: WRITTEN OUT: LEAVE IT -/
theorem door_met (os : Os) (args : Array Value) : laidMetH Tryd.prog Rows.inodeDotsRow.laid ((World.doorLaid Tryd.prog 400 os).forCall (fun _ _ => 0) ⟨#[], args, []⟩).memory :=
  laidMetH_of_parts3 (fuel := 8) (laidMet_of_run' 8 (by kernel_rfl) (by kernel_rfl)) (by kernel_rfl) (by kernel_rfl)
set_option maxRecDepth 100000 in
theorem lifted (os : Os) (started : os.Started) (H : Type) (enc : TypeId × Value → H) :
    ReturnsInHanded {} Tryd.checked os 5 .any (fun w args => (Rows.inodeDotsSpec.pre enc Tryd.prog Tryd.f5 [] false w args ∧ laidMetH Tryd.prog Rows.inodeDotsRow.laid w) ∧ sizedMet enc Tryd.prog Tryd.f5 (OpenSpec.ofChange Rows.inodeDotsSpec) false w args) (Rows.inodeDotsSpec.post enc Tryd.prog Tryd.f5 false true false false) := by
  refine returnsInHanded_of_change_and (C := Tryd.checked) (X := fun w _ => laidMetH Tryd.prog Rows.inodeDotsRow.laid w) (fun _ _ _ hh h => h.of_heap hh) own started (by kernel_rfl) Tryd.func5
    (ChangeSpec.witness_shaped (enc := enc) (C := Tryd.checked) (os := os) (X := fun w _ => laidMetH Tryd.prog Rows.inodeDotsRow.laid w) false (World.doorLaid Tryd.prog 400 os) #[.int .i64 0] 8 rfl (World.shaped_of_RefB (by kernel_rfl) (by kernel_rfl)) (by kernel_rfl) (by kernel_rfl) (by kernel_rfl) (door_met os _)) ?_
  intro W base args ds gs before hval0 hW _ _ hL _
  have hL' : laidMet Tryd.prog [] W ∧ handlesMet Tryd.prog [("errors.errorType", Rows.laid_errors_errorType)] W := hL
  have hval : ∀ (j : Nat) t v, Tryd.f5.params[j]? = some t → args[j]? = some v → Value.okWide Tryd.prog W .any base t v := hval0
  have hW' := hW
  obtain ⟨p, q, hA0, hV, rfl, hfz, hnd⟩ := hW
  have hA : DataW.TrodAll enc Tryd.prog W 0 (fun _ => true) true Tryd.f5.params.toList args.toList ds p := hA0
  rw [Tryd.params5] at hA hval
  obtain ⟨v0, vs0, d0, ds0, p0, q0, hargs, rfl, rfl, h0, r0⟩ := trodAll_cons hA
  obtain ⟨rfl, rfl, rfl⟩ := trodAll_nil r0
  obtain rfl : args = #[v0] := by cases args; simp_all
  obtain ⟨rfl, rfl⟩ := trodVars_none hV
  obtain ⟨a0, rfl, rfl, rfl, w0⟩ := open_int Tryd.underlying3 (hval 0 3 v0 rfl rfl) h0
  clear hA0 hval0
  simp only [List.append_nil] at hW'
  refine (walk a0 w0 W (handle_of_hs hL'.2)).mono fun e W' ⟨he, hg⟩ => ?_
  subst he
  exact ⟨_, rfl, post_of_new hW' (fun _ _ _ => (trodAll_cons_mk (shut_bool Tryd.underlying4 _) trodAll_mk0)) (fun sp => (trodAll_cons_mk (shut_int Tryd.underlying3 w0) trodAll_mk0)) (fun _ => rfl) hg (ok_one (by kernel_rfl) rfl (okWide_bool_mk Tryd.underlying4 _))⟩

theorem over : Rows.inodeDotsRow.holds Tryd.pinned (OpenSpec.ofChange Rows.inodeDotsSpec) :=
  OpenClaim.holds_of_wide 5 Tryd.f5 rfl rfl rfl rfl rfl rfl rfl ⟨rfl, rfl, rfl, rfl, rfl⟩ rfl rfl rfl rfl rfl (by kernel_rfl) Tryd.func5 (by kernel_rfl)
    (of_decide_eq_true (by kernel_rfl)) (by unfold Func.isWrapper; first | (rw [if_pos (by decide +kernel)]; kernel_rfl) | (rw [if_neg (by decide +kernel)]; exact ⟨rfl, rfl⟩))
    (fun os started H enc _ => lifted os started H enc)

theorem proved : Rows.InodeDotsSaid := over
theorem card : Rows.InodeDotsCardSaid :=
  Claim7.holds_tied_plain_at .later [] [.handle] true (true, "4c681425a615979ab14c02aa115893ea6e32c4c0f9140b92fbbb3054b1627978") true
    over (fun _ h => by cases h) (by kernel_rfl) (fun _ h => by cases h) inodeDots_row_tie rfl ⟨rfl, rfl⟩ (by kernel_rfl) rfl
    (fun f fn hf hfn => by
      obtain rfl : f = 5 := Option.some.inj ((show Tryd.prog.funcNamed "halter/halterlaw17.InodeDots" = some 5 by kernel_rfl).symm.trans hf) |>.symm
      obtain rfl : fn = Tryd.f5 := (Option.some.inj (Tryd.func5.symm.trans hfn)).symm
      exact ⟨by kernel_rfl, fun j t ht => by
        rw [Tryd.params5] at ht
        have hm : t ∈ [3] := by have := Array.mem_of_getElem? ht; simpa using this
        have hall : ([3].all fun u => !Tryd.prog.wantsStandIn u) = true := by kernel_rfl
        exact (show Tryd.prog.wantsStandIn t = false by simpa using List.all_eq_true.1 hall t hm)⟩)
    (by kernel_rfl)
#print axioms card
end Go.Proofs.YtgoecdmnefjdnaaDoor.inodeDots
