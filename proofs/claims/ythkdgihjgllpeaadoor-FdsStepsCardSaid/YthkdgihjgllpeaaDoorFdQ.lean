/- Numbers of files: the package's At. -/
import Derived.Test.YthkdgihjgllpeaaDoorFdP
namespace Go.Proofs.YthkdgihjgllpeaaDoor
open Go.RowKit Go.Joins
set_option linter.unusedVariables false
set_option maxRecDepth 100000
set_option maxHeartbeats 2000000 in
theorem pat8 (l : List Int) (h8 : l.length = 8) (f : Int) (w : World) : Calls Tryd.prog 8 #[.agg (i8 l).toArray, .int .i64 f] w fun en w' => en = .returned (.tuple #[.int .i64 (faN l f), erN (faE l f)]) ∧ New w w' := by
  have BA : Box (w.alloc (.cells (i8 l).toArray 24)) w.heap.size (i8 l).toArray 24 := Box.here w _ _ _ rfl
  have nw : New w (w.alloc (.cells (i8 l).toArray 24)) := (New.refl w).alloc _ _
  have X := fun W => pcheck8 l h8 W
  cases hm : fdOk l with
  | false =>
    rw [hm, if_neg (by simp), erN_pos (show (22 : Int) ≠ 0 by omega)] at X
    have e1 : faE l f = 22 := faE_bad hm f
    have e2 : faN l f = 0 := by unfold faN; rw [e1]; rfl
    rw [e1, e2, erN_pos (show (22 : Int) ≠ 0 by omega)]
    clear e1 e2 hm
    go_enter Tryd.func8, Tryd.ntmps8
    go_upto_region 1 with fail
    generalize w.alloc (.cells (i8 l).toArray 24) = W at *
    have HB := Lib.hid BA
    clear BA
    go_wp2_with (first
      | ((with_reducible refine at_load 24 ?_); refine wpList_load_box rfl 24 _ rfl w.heap.size rfl (i8 l) 24 _ HB.out Tryd.underlying24 rfl (by rw [i8_len, h8]; exact tb_info) ?_))
    refine (X _).mono ?_
    rintro e w1 ⟨rfl, n1⟩
    go_wp2
    go_ret2
    exact ⟨rfl, nw.trans n1⟩
  | true =>
    rw [hm, if_pos rfl, fe00] at X
    obtain ⟨an, han⟩ : ∃ x, x = faN l f := ⟨_, rfl⟩
    obtain ⟨ae, hae⟩ : ∃ x, x = faE l f := ⟨_, rfl⟩
    rw [← han, ← hae]
    have HM := Lib.hid hm
    have HAN := Lib.hid han
    have HAE := Lib.hid hae
    have NW := Lib.hid nw
    have HB := Lib.hid BA
    clear hm han hae nw BA
    by_cases d1 : f < 0
    · have e1 : ae = 9 := by rw [HAE.out]; exact faE_out HM.out f (by omega)
      have e2 : an = 0 := by rw [HAN.out]; unfold faN; rw [← HAE.out, e1]; rfl
      subst e1 e2
      clear HAN HAE HM
      go_enter Tryd.func8, Tryd.ntmps8
      go_upto_region 1 with fail
      generalize w.alloc (.cells (i8 l).toArray 24) = W at *
      go_wp2_with (first
        | ((with_reducible refine at_load 24 ?_); refine wpList_load_box rfl 24 _ rfl w.heap.size rfl (i8 l) 24 _ HB.out Tryd.underlying24 rfl (by rw [i8_len, h8]; exact tb_info) ?_))
      refine (X _).mono ?_
      rintro e w1 ⟨rfl, n1⟩
      go_wp2
      go_ret2
      exact ⟨rfl, NW.out.trans n1⟩
    · obtain ⟨j, rfl⟩ : ∃ j : Nat, f = (j : Int) := ⟨f.toNat, by omega⟩
      clear d1
      by_cases d2 : 8 ≤ j
      · have e1 : ae = 9 := by rw [HAE.out]; exact faE_out HM.out _ (by omega)
        have e2 : an = 0 := by rw [HAN.out]; unfold faN; rw [← HAE.out, e1]; rfl
        subst e1 e2
        have d3 : 8 ≤ (j : Int) := by omega
        have d4 : decide ((j : Int) < 0) = false := decide_eq_false (by omega)
        clear HAN HAE HM
        go_enter Tryd.func8, Tryd.ntmps8
        go_upto_region 1 with fail
        generalize w.alloc (.cells (i8 l).toArray 24) = W at *
        go_wp2_with (first
          | ((with_reducible refine at_load 24 ?_); refine wpList_load_box rfl 24 _ rfl w.heap.size rfl (i8 l) 24 _ HB.out Tryd.underlying24 rfl (by rw [i8_len, h8]; exact tb_info) ?_))
        refine (X _).mono ?_
        rintro e w1 ⟨rfl, n1⟩
        go_wp2
        go_ret2
        exact ⟨rfl, NW.out.trans n1⟩
      · have d3 : j < 8 := by omega
        have d5 : decide (8 ≤ j) = false := decide_eq_false d2
        have d4 : decide ((j : Int) < 0) = false := decide_eq_false (by omega)
        clear d2
        obtain ⟨x, hx⟩ : ∃ x, x = l.getD j 0 := ⟨_, rfl⟩
        have hxb := fdOk_get HM.out j
        rw [← hx] at hxb
        have HXE := Lib.hid hx
        clear hx
        by_cases d6 : x = 0
        · subst d6
          have e1 : ae = 9 := by rw [HAE.out]; exact faE_free HM.out j HXE.out.symm
          have e2 : an = 0 := by rw [HAN.out]; unfold faN; rw [← HAE.out, e1]; rfl
          subst e1 e2
          clear HAN HAE HM hxb
          go_enter Tryd.func8, Tryd.ntmps8
          go_upto_region 1 with fail
          generalize w.alloc (.cells (i8 l).toArray 24) = W at *
          go_wp2_with (first
            | ((with_reducible refine at_load 24 ?_); refine wpList_load_box rfl 24 _ rfl w.heap.size rfl (i8 l) 24 _ HB.out Tryd.underlying24 rfl (by rw [i8_len, h8]; exact tb_info) ?_))
          refine (X _).mono ?_
          rintro e w1 ⟨rfl, n1⟩
          have hc := (HB.out.new n1).c8 j (by omega)
          rw [← HXE.out] at hc
          go_wp2
          go_ret2
          exact ⟨rfl, NW.out.trans n1⟩
        · have e1 : ae = 0 := by rw [HAE.out]; exact faE_ok HM.out j d3 (by rw [← HXE.out]; exact d6)
          have e2 : an = x - 1 := by rw [HAN.out]; unfold faN; rw [← HAE.out, e1, if_pos rfl, Int.toNat_natCast, HXE.out]
          subst e1 e2
          have d7 : (x == (0 : Int)) = false := by simpa using d6
          clear HAN HAE HM d6
          go_enter Tryd.func8, Tryd.ntmps8
          go_upto_region 1 with fail
          generalize w.alloc (.cells (i8 l).toArray 24) = W at *
          go_wp2_with (first
            | ((with_reducible refine at_load 24 ?_); refine wpList_load_box rfl 24 _ rfl w.heap.size rfl (i8 l) 24 _ HB.out Tryd.underlying24 rfl (by rw [i8_len, h8]; exact tb_info) ?_))
          refine (X _).mono ?_
          rintro e w1 ⟨rfl, n1⟩
          have hc := (HB.out.new n1).c8 j (by omega)
          rw [← HXE.out] at hc
          go_wp2
          go_ret2
          exact ⟨rfl, NW.out.trans n1⟩
end Go.Proofs.YthkdgihjgllpeaaDoor
