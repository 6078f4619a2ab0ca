/- There is room for just as many as there may be; then nothing is made any more, till a name is taken away; the statement holds for every input, where the listed variable holds what the library's own text lays, which the card ties. -/
import Derived.Test.YtgoecdmnefjdnaaDoorRows
import Derived.Test.YtgoecdmnefjdnaaDoorInL
import Derived.Test.YtgoecdmnefjdnaaDoorInR
import Derived.Test.YtgoecdmnefjdnaaDoorInH
import Derived.Test.YtgoecdmnefjdnaaDoorLay
import Derived.Deep.LoopGhost
import Derived.Test.YtgoecdmnefjdnaaDoorCards
import Derived.Test.YtgoecdmnefjdnaaDoorTie
import Derived.LaidMore
import Derived.LaidLaws
import Derived.LaidHandle
import Derived.Test.YtgoecdmnefjdnaaDoorLay
import Derived.Test.YtgoecdmnefjdnaaDoorPost
import Derived.WalkKit
import Derived.ProofKit
import Derived.OpenShut
import Derived.ShutString
namespace Go.Proofs.YtgoecdmnefjdnaaDoor.inodeRoom
open Go.ChangeShapes Go.WideShapes Go.ChangeAt Go.RowKit
open Go.ChangeMaps (open_string shut_string)
set_option linter.unusedVariables false      -- a walk need not use every 'w<i>' (that an integer argument fits its kind)

theorem own : ownKnob Tryd.prog.godebug = none := by kernel_rfl

/-! ### STEP 1: THE WALK: the Go text returns true. 'Grown w w'': the world has at most new blocks (Derived/RowKit3.lean). Part the cases AHEAD of 'go_enter' where a test parts the walk; take each callee by a contract of your own. -/
set_option maxHeartbeats 8000000 in
set_option maxRecDepth 100000 in
theorem walk (a0 : Int) (a1 : Bool) (w0 : (Lit.int .i64 a0).wf = true) (w : World) (hl : Laid w) :
    Calls Tryd.prog 4 #[.int .i64 a0, .bool a1] w fun e w' => e = .returned (.bool true) ∧ New w w' := by
  obtain ⟨n, en, hn1, hn2⟩ := imod_in 20 2 a0 (by omega) (by omega) (by omega) (by omega)
  have c := new_any n w (by omega)
  cases a1 with
  | false =>
    go_enter Tryd.func4, Tryd.ntmps4
    go_wp2_with fail
    refine c.mono ?_
    rintro e w1 ⟨tb, rfl, T0, n1⟩
    have T1 : Tr (fun g => g < w.heap.size) w1 tb n (roomL (rmK false) 0) := T0 _ (fun g h => h)
    clear c T0
    go_wp2_with fail
    clear en
    go_loopg [10] n (fun gk s10 wr => ∃ j : Nat, j + gk = n ∧ j + 1 ≤ n ∧ s10 = .int .i64 (j : Int) ∧ Tr (fun g => g < w.heap.size) wr tb n (roomL (rmK false) j) ∧ New w wr)
    case atStart => exact ⟨0, by omega, by omega, rfl, T1, n1⟩
    case round =>
      obtain ⟨j, hj, hj1, rfl, T, hn⟩ := hrel
      have J := Lib.hid hj
      clear hj T1 n1
      by_cases c : j + 1 < n
      · obtain ⟨f1, f2, f3, f4, f5, f6, f7⟩ := rm_make false ⟨j, by omega⟩
        dsimp only at f1 f2 f3 f4 f5 f6 f7
        have hab := rm_ab ⟨j, by omega⟩
        dsimp only at hab
        have m1 : mkE n (roomL (rmK false) j) 1 [abN j] 0 = 0 := mk_ok f1 f2 f3 (by omega) f4 (by rw [f5]; omega)
        have m2 : mkV n (roomL (rmK false) j) 1 [abN j] 0 = (j : Int) + 2 := by unfold mkV; rw [m1, if_pos rfl, f6]
        have m3 : mkR n (roomL (rmK false) j) 1 [abN j] 0 = roomL (rmK false) (j + 1) := by unfold mkR; rw [m1, if_pos rfl]; rfl
        have cM := make_any (s := [abN j]) (k := 0) T (ok64 (i := 1) (by omega)) (by show (1 : Nat) ≤ maxLen; decide) f7
        have bs := fun W => byte_slice abc j (abN j) hab W
        have d1 : (j : Int) < (n : Int) - 1 := by omega
        have e1 : (abc : List UInt8) = [97, 98, 99, 100, 101, 102, 103, 104, 105, 106, 107, 108, 109, 110, 111, 112, 113, 114, 115, 116, 117, 118, 119, 120, 121, 122] := rfl
        have hj25 : (j : Int) ≤ 25 := by omega
        have bs' : ∀ W, (Instr.slice 9 (.string ⟨#[97, 98, 99, 100, 101, 102, 103, 104, 105, 106, 107, 108, 109, 110, 111, 112, 113, 114, 115, 116, 117, 118, 119, 120, 121, 122]⟩) (some (.int .i64 (j : Int))) (some (.int .i64 ((j : Int) + 1))) none).run Tryd.prog W = .ok (.string (ba [abN j])) W := bs
        generalize abN j = lt at *
        clear f1 f2 f3 f4 f5 f6 f7 hab bs e1 T
        go_wp2_with fail
        refine cM.mono ?_
        rintro e w2 ⟨E, T2, k2⟩
        rw [m1, m2, er0] at E
        rw [m3] at T2
        subst E
        have n2 : New w w2 := ((But.of_new (fun g => ¬ g < w.heap.size) hn).trans k2).new (fun i h c => c h)
        have T3 := Lib.hid T2
        clear cM bs' m1 m2 m3 T2 k2 hn
        go_wp2_with fail
        go_roundg (n - (j + 1))
        case measure => have := J.out; omega
        case rel => exact ⟨j + 1, by have := J.out; omega, by omega, rfl, T3.out, n2⟩
      · have d1 : ¬ (j : Int) < (n : Int) - 1 := by omega
        obtain ⟨k, rfl⟩ : ∃ k, j = k + 1 := ⟨j - 1, by omega⟩
        obtain rfl : n = k + 2 := by omega
        obtain ⟨f1, f2, f3, f4, f5, f6, f7, f8⟩ := rm_full false ⟨k, by omega⟩
        obtain ⟨g1, g2, g3, g4, g5, g6⟩ := rm_again false ⟨k, by omega⟩
        obtain ⟨h1, h2, h3⟩ := rm_end false ⟨k, by omega⟩
        dsimp only at f1 f2 f3 f4 f5 f6 f7 f8 g1 g2 g3 g4 g5 g6 h1 h2 h3
        have a1 : mkE ((k + 2 : Nat) : Int) (roomL (rmK false) (k + 1)) 1 zzN 0 = 28 := mk_sp f1 rm_zz.1 f2 (by omega) f3 (by rw [f4]; omega)
        have a2 : mkR ((k + 2 : Nat) : Int) (roomL (rmK false) (k + 1)) 1 zzN 0 = roomL (rmK false) (k + 1) := by unfold mkR; rw [a1, if_neg (by decide)]
        have b1 : mkE ((k + 2 : Nat) : Int) (roomL (rmK false) (k + 1)) 1 [97] 0 = 17 := mk_ex f1 rm_zz.2 f6
        have b2 : mkR ((k + 2 : Nat) : Int) (roomL (rmK false) (k + 1)) 1 [97] 0 = roomL (rmK false) (k + 1) := by unfold mkR; rw [b1, if_neg (by decide)]
        have u1 : unR (roomL (rmK false) (k + 1)) 1 [97] = unL (roomL (rmK false) (k + 1)) 1 [97] := by unfold unR; rw [f7, if_pos rfl]
        have v1 : mkE ((k + 2 : Nat) : Int) (unL (roomL (rmK false) (k + 1)) 1 [97]) 1 zzN 0 = 0 := mk_ok g1 rm_zz.1 g2 (by omega) g3 (by rw [g4]; omega)
        have v2 : mkV ((k + 2 : Nat) : Int) (unL (roomL (rmK false) (k + 1)) 1 [97]) 1 zzN 0 = 2 := by unfold mkV; rw [v1, if_pos rfl, g5]
        have v3 : mkR ((k + 2 : Nat) : Int) (unL (roomL (rmK false) (k + 1)) 1 [97]) 1 zzN 0 = mkL (unL (roomL (rmK false) (k + 1)) 1 [97]) 1 zzN (rmK false) := by unfold mkR; rw [v1, if_pos rfl]; rfl
        have x1 : mkV ((k + 2 : Nat) : Int) (roomL (rmK false) (k + 1)) 1 zzN 0 = 0 := by unfold mkV; rw [a1, if_neg (by decide)]
        have x2 : mkV ((k + 2 : Nat) : Int) (roomL (rmK false) (k + 1)) 1 [97] 0 = 0 := by unfold mkV; rw [b1, if_neg (by decide)]
        have C1 := make_any (s := zzN) (k := 0) T (ok64 (i := 1) (by omega)) (by decide) f5
        generalize hA : roomL (rmK false) (k + 1) = A at *
        generalize hB : unL A 1 [97] = B at *
        generalize hC : mkL B 1 zzN (rmK false) = C at *
        have hsC : ∀ x ∈ (nat C 1).nms, x.1.length ≤ 1000000 := by
          have := rm_names false ⟨k, by omega⟩
          dsimp only at this
          rw [hA, hB, hC] at this
          intro x hx
          have := this x hx
          omega
        clear hA hB hC c f1 f2 f3 f4 g1 g2 g3 g4 g5
        go_wp2_with fail
        refine C1.mono ?_
        rintro e w2 ⟨E, T2, k2⟩
        rw [a1, x1] at E
        rw [a2] at T2
        subst E
        have n2 : New w w2 := ((But.of_new (fun g => ¬ g < w.heap.size) hn).trans k2).new (fun i h c => c h)
        have C2 := make_any (s := [97]) (k := 0) T2 (ok64 (i := 1) (by omega)) (by decide) f5
        clear C1 T k2 hn a1 a2 x1
        go_wp2_with fail
        refine C2.mono ?_
        rintro e w3 ⟨E, T3, k3⟩
        rw [b1, x2] at E
        rw [b2] at T3
        subst E
        have n3 : New w w3 := ((But.of_new (fun g => ¬ g < w.heap.size) n2).trans k3).new (fun i h c => c h)
        have C3 := unlink_any (s := [97]) T3 (ok64 (i := 1) (by omega)) (by decide) (fun _ => f8)
        clear C2 T2 k3 n2 b1 b2 x2
        go_wp2_with fail
        refine C3.mono ?_
        rintro e w4 ⟨E, T4, k4⟩
        rw [f7, er0] at E
        rw [u1] at T4
        subst E
        have n4 : New w w4 := ((But.of_new (fun g => ¬ g < w.heap.size) n3).trans k4).new (fun i h c => c h)
        have C4 := make_any (s := zzN) (k := 0) T4 (ok64 (i := 1) (by omega)) (by decide) g6
        clear C3 T3 k4 n3 f7 u1
        go_wp2_with fail
        refine C4.mono ?_
        rintro e w5 ⟨E, T5, k5⟩
        rw [v1, v2, er0] at E
        rw [v3] at T5
        subst E
        have n5 : New w w5 := ((But.of_new (fun g => ¬ g < w.heap.size) n4).trans k5).new (fun i h c => c h)
        have C5 := list_any T5 (ok64 (i := 1) (by omega)) h1 (by rw [h2]; omega) hsC
        rw [h2] at C5
        clear C4 T4 k5 n4 v1 v2 v3 hsC
        go_wp2_with fail
        refine C5.mono ?_
        rintro e w6 ⟨p, cap, rfl, n6⟩
        have n7 := n5.trans n6
        have C6 := num_er 28 w6 (hl.new n7)
        clear C5
        go_wp2_with fail
        refine C6.mono ?_
        rintro e w7 ⟨rfl, n8⟩
        have n9 := n7.trans n8
        have C7 := num_er 17 w7 (hl.new n9)
        have T7 := (T5.new n6).new n8
        clear C6 T5
        go_wp2_with fail
        refine C7.mono ?_
        rintro e w8 ⟨rfl, n10⟩
        have n11 := n9.trans n10
        have C8 := many_any (T7.new n10)
        rw [h3] at C8
        have hk1 : ((k + 2 : Nat) : Int) - 1 = ((k + 1 : Nat) : Int) := by omega
        clear C7 T7
        go_wp2_with fail
        refine C8.mono ?_
        rintro e w9 ⟨rfl, rfl⟩
        go_wp2_with fail
        refine (isure_any _ (hl.new n11)).mono ?_
        rintro e w10 ⟨rfl, n12⟩
        go_wp2
        go_ret
        exact ⟨rfl, n11.trans n12⟩
  | true =>
    go_enter Tryd.func4, Tryd.ntmps4
    go_wp2_with fail
    refine c.mono ?_
    rintro e w1 ⟨tb, rfl, T0, n1⟩
    have T1 : Tr (fun g => g < w.heap.size) w1 tb n (roomL (rmK true) 0) := T0 _ (fun g h => h)
    clear c T0
    go_wp2_with fail
    clear en
    go_loopg [10] n (fun gk s10 wr => ∃ j : Nat, j + gk = n ∧ j + 1 ≤ n ∧ s10 = .int .i64 (j : Int) ∧ Tr (fun g => g < w.heap.size) wr tb n (roomL (rmK true) j) ∧ New w wr)
    case atStart => exact ⟨0, by omega, by omega, rfl, T1, n1⟩
    case round =>
      obtain ⟨j, hj, hj1, rfl, T, hn⟩ := hrel
      have J := Lib.hid hj
      clear hj T1 n1
      by_cases c : j + 1 < n
      · obtain ⟨f1, f2, f3, f4, f5, f6, f7⟩ := rm_make true ⟨j, by omega⟩
        dsimp only at f1 f2 f3 f4 f5 f6 f7
        have hab := rm_ab ⟨j, by omega⟩
        dsimp only at hab
        have m1 : mkE n (roomL (rmK true) j) 1 [abN j] 1 = 0 := mk_ok f1 f2 f3 (by omega) f4 (by rw [f5]; omega)
        have m2 : mkV n (roomL (rmK true) j) 1 [abN j] 1 = (j : Int) + 2 := by unfold mkV; rw [m1, if_pos rfl, f6]
        have m3 : mkR n (roomL (rmK true) j) 1 [abN j] 1 = roomL (rmK true) (j + 1) := by unfold mkR; rw [m1, if_pos rfl]; rfl
        have cM := make_any (s := [abN j]) (k := 1) T (ok64 (i := 1) (by omega)) (by show (1 : Nat) ≤ maxLen; decide) f7
        have bs := fun W => byte_slice abc j (abN j) hab W
        have d1 : (j : Int) < (n : Int) - 1 := by omega
        have e1 : (abc : List UInt8) = [97, 98, 99, 100, 101, 102, 103, 104, 105, 106, 107, 108, 109, 110, 111, 112, 113, 114, 115, 116, 117, 118, 119, 120, 121, 122] := rfl
        have hj25 : (j : Int) ≤ 25 := by omega
        have bs' : ∀ W, (Instr.slice 9 (.string ⟨#[97, 98, 99, 100, 101, 102, 103, 104, 105, 106, 107, 108, 109, 110, 111, 112, 113, 114, 115, 116, 117, 118, 119, 120, 121, 122]⟩) (some (.int .i64 (j : Int))) (some (.int .i64 ((j : Int) + 1))) none).run Tryd.prog W = .ok (.string (ba [abN j])) W := bs
        generalize abN j = lt at *
        clear f1 f2 f3 f4 f5 f6 f7 hab bs e1 T
        go_wp2_with fail
        refine cM.mono ?_
        rintro e w2 ⟨E, T2, k2⟩
        rw [m1, m2, er0] at E
        rw [m3] at T2
        subst E
        have n2 : New w w2 := ((But.of_new (fun g => ¬ g < w.heap.size) hn).trans k2).new (fun i h c => c h)
        have T3 := Lib.hid T2
        clear cM bs' m1 m2 m3 T2 k2 hn
        go_wp2_with fail
        go_roundg (n - (j + 1))
        case measure => have := J.out; omega
        case rel => exact ⟨j + 1, by have := J.out; omega, by omega, rfl, T3.out, n2⟩
      · have d1 : ¬ (j : Int) < (n : Int) - 1 := by omega
        obtain ⟨k, rfl⟩ : ∃ k, j = k + 1 := ⟨j - 1, by omega⟩
        obtain rfl : n = k + 2 := by omega
        obtain ⟨f1, f2, f3, f4, f5, f6, f7, f8⟩ := rm_full true ⟨k, by omega⟩
        obtain ⟨g1, g2, g3, g4, g5, g6⟩ := rm_again true ⟨k, by omega⟩
        obtain ⟨h1, h2, h3⟩ := rm_end true ⟨k, by omega⟩
        dsimp only at f1 f2 f3 f4 f5 f6 f7 f8 g1 g2 g3 g4 g5 g6 h1 h2 h3
        have a1 : mkE ((k + 2 : Nat) : Int) (roomL (rmK true) (k + 1)) 1 zzN 1 = 28 := mk_sp f1 rm_zz.1 f2 (by omega) f3 (by rw [f4]; omega)
        have a2 : mkR ((k + 2 : Nat) : Int) (roomL (rmK true) (k + 1)) 1 zzN 1 = roomL (rmK true) (k + 1) := by unfold mkR; rw [a1, if_neg (by decide)]
        have b1 : mkE ((k + 2 : Nat) : Int) (roomL (rmK true) (k + 1)) 1 [97] 1 = 17 := mk_ex f1 rm_zz.2 f6
        have b2 : mkR ((k + 2 : Nat) : Int) (roomL (rmK true) (k + 1)) 1 [97] 1 = roomL (rmK true) (k + 1) := by unfold mkR; rw [b1, if_neg (by decide)]
        have u1 : unR (roomL (rmK true) (k + 1)) 1 [97] = unL (roomL (rmK true) (k + 1)) 1 [97] := by unfold unR; rw [f7, if_pos rfl]
        have v1 : mkE ((k + 2 : Nat) : Int) (unL (roomL (rmK true) (k + 1)) 1 [97]) 1 zzN 1 = 0 := mk_ok g1 rm_zz.1 g2 (by omega) g3 (by rw [g4]; omega)
        have v2 : mkV ((k + 2 : Nat) : Int) (unL (roomL (rmK true) (k + 1)) 1 [97]) 1 zzN 1 = 2 := by unfold mkV; rw [v1, if_pos rfl, g5]
        have v3 : mkR ((k + 2 : Nat) : Int) (unL (roomL (rmK true) (k + 1)) 1 [97]) 1 zzN 1 = mkL (unL (roomL (rmK true) (k + 1)) 1 [97]) 1 zzN (rmK true) := by unfold mkR; rw [v1, if_pos rfl]; rfl
        have x1 : mkV ((k + 2 : Nat) : Int) (roomL (rmK true) (k + 1)) 1 zzN 1 = 0 := by unfold mkV; rw [a1, if_neg (by decide)]
        have x2 : mkV ((k + 2 : Nat) : Int) (roomL (rmK true) (k + 1)) 1 [97] 1 = 0 := by unfold mkV; rw [b1, if_neg (by decide)]
        have C1 := make_any (s := zzN) (k := 1) T (ok64 (i := 1) (by omega)) (by decide) f5
        generalize hA : roomL (rmK true) (k + 1) = A at *
        generalize hB : unL A 1 [97] = B at *
        generalize hC : mkL B 1 zzN (rmK true) = C at *
        have hsC : ∀ x ∈ (nat C 1).nms, x.1.length ≤ 1000000 := by
          have := rm_names true ⟨k, by omega⟩
          dsimp only at this
          rw [hA, hB, hC] at this
          intro x hx
          have := this x hx
          omega
        clear hA hB hC c f1 f2 f3 f4 g1 g2 g3 g4 g5
        go_wp2_with fail
        refine C1.mono ?_
        rintro e w2 ⟨E, T2, k2⟩
        rw [a1, x1] at E
        rw [a2] at T2
        subst E
        have n2 : New w w2 := ((But.of_new (fun g => ¬ g < w.heap.size) hn).trans k2).new (fun i h c => c h)
        have C2 := make_any (s := [97]) (k := 1) T2 (ok64 (i := 1) (by omega)) (by decide) f5
        clear C1 T k2 hn a1 a2 x1
        go_wp2_with fail
        refine C2.mono ?_
        rintro e w3 ⟨E, T3, k3⟩
        rw [b1, x2] at E
        rw [b2] at T3
        subst E
        have n3 : New w w3 := ((But.of_new (fun g => ¬ g < w.heap.size) n2).trans k3).new (fun i h c => c h)
        have C3 := unlink_any (s := [97]) T3 (ok64 (i := 1) (by omega)) (by decide) (fun _ => f8)
        clear C2 T2 k3 n2 b1 b2 x2
        go_wp2_with fail
        refine C3.mono ?_
        rintro e w4 ⟨E, T4, k4⟩
        rw [f7, er0] at E
        rw [u1] at T4
        subst E
        have n4 : New w w4 := ((But.of_new (fun g => ¬ g < w.heap.size) n3).trans k4).new (fun i h c => c h)
        have C4 := make_any (s := zzN) (k := 1) T4 (ok64 (i := 1) (by omega)) (by decide) g6
        clear C3 T3 k4 n3 f7 u1
        go_wp2_with fail
        refine C4.mono ?_
        rintro e w5 ⟨E, T5, k5⟩
        rw [v1, v2, er0] at E
        rw [v3] at T5
        subst E
        have n5 : New w w5 := ((But.of_new (fun g => ¬ g < w.heap.size) n4).trans k5).new (fun i h c => c h)
        have C5 := list_any T5 (ok64 (i := 1) (by omega)) h1 (by rw [h2]; omega) hsC
        rw [h2] at C5
        clear C4 T4 k5 n4 v1 v2 v3 hsC
        go_wp2_with fail
        refine C5.mono ?_
        rintro e w6 ⟨p, cap, rfl, n6⟩
        have n7 := n5.trans n6
        have C6 := num_er 28 w6 (hl.new n7)
        clear C5
        go_wp2_with fail
        refine C6.mono ?_
        rintro e w7 ⟨rfl, n8⟩
        have n9 := n7.trans n8
        have C7 := num_er 17 w7 (hl.new n9)
        have T7 := (T5.new n6).new n8
        clear C6 T5
        go_wp2_with fail
        refine C7.mono ?_
        rintro e w8 ⟨rfl, n10⟩
        have n11 := n9.trans n10
        have C8 := many_any (T7.new n10)
        rw [h3] at C8
        have hk1 : ((k + 2 : Nat) : Int) - 1 = ((k + 1 : Nat) : Int) := by omega
        clear C7 T7
        go_wp2_with fail
        refine C8.mono ?_
        rintro e w9 ⟨rfl, rfl⟩
        go_wp2_with fail
        refine (isure_any _ (hl.new n11)).mono ?_
        rintro e w10 ⟨rfl, n12⟩
        go_wp2
        go_ret
        exact ⟨rfl, n11.trans n12⟩

/-! ### THE ROW's STEP: WRITTEN OUT: LEAVE IT -/
theorem door_met (os : Os) (args : Array Value) : laidMetH Tryd.prog Rows.inodeRoomRow.laid ((World.doorLaid Tryd.prog 400 os).forCall (fun _ _ => 0) ⟨#[], args, []⟩).memory :=
  laidMetH_of_parts3 (fuel := 8) (laidMet_of_run' 8 (by kernel_rfl) (by kernel_rfl)) (by kernel_rfl) (by kernel_rfl)
set_option maxRecDepth 100000 in
theorem lifted (os : Os) (started : os.Started) (H : Type) (enc : TypeId × Value → H) :
    ReturnsInHanded {} Tryd.checked os 4 .any (fun w args => (Rows.inodeRoomSpec.pre enc Tryd.prog Tryd.f4 [] false w args ∧ laidMetH Tryd.prog Rows.inodeRoomRow.laid w) ∧ sizedMet enc Tryd.prog Tryd.f4 (OpenSpec.ofChange Rows.inodeRoomSpec) false w args) (Rows.inodeRoomSpec.post enc Tryd.prog Tryd.f4 false true false false) := by
  refine returnsInHanded_of_change_and (C := Tryd.checked) (X := fun w _ => laidMetH Tryd.prog Rows.inodeRoomRow.laid w) (fun _ _ _ hh h => h.of_heap hh) own started (by kernel_rfl) Tryd.func4
    (ChangeSpec.witness_shaped (enc := enc) (C := Tryd.checked) (os := os) (X := fun w _ => laidMetH Tryd.prog Rows.inodeRoomRow.laid w) false (World.doorLaid Tryd.prog 400 os) #[.int .i64 0, .bool false] 8 rfl (World.shaped_of_RefB (by kernel_rfl) (by kernel_rfl)) (by kernel_rfl) (by kernel_rfl) (by kernel_rfl) (door_met os _)) ?_
  intro W base args ds gs before hval0 hW _ _ hL _
  have hL' : laidMet Tryd.prog [] W ∧ handlesMet Tryd.prog [("errors.errorType", Rows.laid_errors_errorType)] W := hL
  have hval : ∀ (j : Nat) t v, Tryd.f4.params[j]? = some t → args[j]? = some v → Value.okWide Tryd.prog W .any base t v := hval0
  have hW' := hW
  obtain ⟨p, q, hA0, hV, rfl, hfz, hnd⟩ := hW
  have hA : DataW.TrodAll enc Tryd.prog W 0 (fun _ => true) true Tryd.f4.params.toList args.toList ds p := hA0
  rw [Tryd.params4] at hA hval
  obtain ⟨v0, vs0, d0, ds0, p0, q0, hargs, rfl, rfl, h0, r0⟩ := trodAll_cons hA
  obtain ⟨v1, vs1, d1, ds1, p1, q1, rfl, rfl, rfl, h1, r1⟩ := trodAll_cons r0
  obtain ⟨rfl, rfl, rfl⟩ := trodAll_nil r1
  obtain rfl : args = #[v0, v1] := by cases args; simp_all
  obtain ⟨rfl, rfl⟩ := trodVars_none hV
  obtain ⟨a0, rfl, rfl, rfl, w0⟩ := open_int Tryd.underlying3 (hval 0 3 v0 rfl rfl) h0
  obtain ⟨a1, rfl, rfl, rfl⟩ := open_bool Tryd.underlying4 (hval 1 4 v1 rfl rfl) h1
  clear hA0 hval0
  simp only [List.append_nil] at hW'
  refine (walk a0 a1 w0 W (handle_of_hs hL'.2)).mono fun e W' ⟨he, hg⟩ => ?_
  subst he
  exact ⟨_, rfl, post_of_new hW' (fun _ _ _ => (trodAll_cons_mk (shut_bool Tryd.underlying4 _) trodAll_mk0)) (fun sp => (trodAll_cons_mk (shut_int Tryd.underlying3 w0) (trodAll_cons_mk (shut_bool Tryd.underlying4 _) trodAll_mk0))) (fun _ => rfl) hg (ok_one (by kernel_rfl) rfl (okWide_bool_mk Tryd.underlying4 _))⟩

theorem over : Rows.inodeRoomRow.holds Tryd.pinned (OpenSpec.ofChange Rows.inodeRoomSpec) :=
  OpenClaim.holds_of_wide 4 Tryd.f4 rfl rfl rfl rfl rfl rfl rfl ⟨rfl, rfl, rfl, rfl, rfl⟩ rfl rfl rfl rfl rfl (by kernel_rfl) Tryd.func4 (by kernel_rfl)
    (of_decide_eq_true (by kernel_rfl)) (by unfold Func.isWrapper; first | (rw [if_pos (by decide +kernel)]; kernel_rfl) | (rw [if_neg (by decide +kernel)]; exact ⟨rfl, rfl⟩))
    (fun os started H enc _ => lifted os started H enc)

theorem proved : Rows.InodeRoomSaid := over
theorem card : Rows.InodeRoomCardSaid :=
  Claim7.holds_tied_plain_at .later [] [.handle] true (true, "4c681425a615979ab14c02aa115893ea6e32c4c0f9140b92fbbb3054b1627978") true
    over (fun _ h => by cases h) (by kernel_rfl) (fun _ h => by cases h) inodeRoom_row_tie rfl ⟨rfl, rfl⟩ (by kernel_rfl) rfl
    (fun f fn hf hfn => by
      obtain rfl : f = 4 := Option.some.inj ((show Tryd.prog.funcNamed "halter/halterlaw17.InodeRoom" = some 4 by kernel_rfl).symm.trans hf) |>.symm
      obtain rfl : fn = Tryd.f4 := (Option.some.inj (Tryd.func4.symm.trans hfn)).symm
      exact ⟨by kernel_rfl, fun j t ht => by
        rw [Tryd.params4] at ht
        have hm : t ∈ [3, 4] := by have := Array.mem_of_getElem? ht; simpa using this
        have hall : ([3, 4].all fun u => !Tryd.prog.wantsStandIn u) = true := by kernel_rfl
        exact (show Tryd.prog.wantsStandIn t = false by simpa using List.all_eq_true.1 hall t hm)⟩)
    (by kernel_rfl)
#print axioms card
end Go.Proofs.YtgoecdmnefjdnaaDoor.inodeRoom
