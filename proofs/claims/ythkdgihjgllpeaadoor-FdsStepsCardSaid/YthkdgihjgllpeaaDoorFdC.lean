/- Numbers of files, the document's: Files. -/
import Derived.Test.YthkdgihjgllpeaaDoorFdB
import Derived.Test.YthkdgihjgllpeaaDoorNums
namespace Go.Proofs.YthkdgihjgllpeaaDoor
open Go.RowKit Go.Joins
set_option linter.unusedVariables false
set_option maxRecDepth 100000
set_option maxHeartbeats 4000000 in
theorem rfiles8_any (l : List Int) (h8 : l.length = 8) (w : World) : Calls Tryd.prog 15 #[.agg (i8 l).toArray] w fun en w' => ∃ v, en = .returned v ∧ OwnW RNum w.heap.size w' v ((fiO l).map nmC) ∧ New w w' := by
  have BA : Box (w.alloc (.cells (i8 l).toArray 22)) w.heap.size (i8 l).toArray 22 := Box.here w _ _ _ rfl
  have nw : New w (w.alloc (.cells (i8 l).toArray 22)) := (New.refl w).alloc _ _
  have X := fun W => rmay8 l h8 W
  cases hm : fdOk l with
  | false =>
    rw [hm] at X
    have HF := Lib.hid (show fiO l = [] by unfold fiO; rw [hm]; rfl)
    clear hm
    go_enter Tryd.func15, Tryd.ntmps15
    go_upto_region 1 with fail
    generalize w.alloc (.cells (i8 l).toArray 22) = W at *
    have HB := Lib.hid BA
    have NW := Lib.hid nw
    clear BA nw
    go_wp2_with fail
    go_loopg [3, 4] 0 (fun k o i wr => o = .slice none 0 0 ∧ i = .int .i64 0 ∧ wr = W)
    case atStart => exact ⟨rfl, rfl, rfl⟩
    case round =>
      obtain ⟨rfl, rfl, rfl⟩ := hrel
      go_wp2_with (first
        | ((with_reducible refine at_load 22 ?_); refine wpList_load_wbox rfl 22 _ rfl w.heap.size rfl (i8 l) 22 _ HB.out Tryd.underlying22 rfl (by rw [i8_len, h8]; exact a8_info) ?_))
      refine (X _).mono ?_
      rintro e w1 ⟨rfl, n1⟩
      go_wp2
      go_ret
      exact ⟨_, rfl, by rw [HF.out]; exact OwnW.nil, NW.out.trans n1⟩
  | true =>
    rw [hm] at X
    have HF := Lib.hid (show fiO l = fiS l by unfold fiO; rw [hm]; rfl)
    have HM := Lib.hid hm
    clear hm
    go_enter Tryd.func15, Tryd.ntmps15
    go_upto_region 1 with fail
    generalize w.alloc (.cells (i8 l).toArray 22) = W at *
    have HB := Lib.hid BA
    have NW := Lib.hid nw
    clear BA nw
    go_wp2_with fail
    go_loopg [3, 4] 8 (fun k o i wr => ∃ j : Nat, j + k = 8 ∧ i = .int .i64 (j : Int) ∧ OwnW RNum W.heap.size wr o ((fiS (l.take j)).map nmC) ∧ New W wr)
    case atStart => exact ⟨0, by omega, rfl, OwnW.nil, New.refl _⟩
    case round =>
      obtain ⟨j, hj, rfl, hown, hnx⟩ := hrel
      have J := Lib.hid hj
      have HN := Lib.hid hnx
      obtain ⟨p1, k1, rfl, -, -⟩ := hown.shape
      simp only [List.length_map] at hown
      simp only [List.length_map]
      have HO := Lib.hid hown
      by_cases c : j < 8
      · have P := fiS_take l j (by omega)
        obtain ⟨x, hx⟩ : ∃ x, x = l.getD j 0 := ⟨_, rfl⟩
        have hxb := fdOk_get HM.out j
        have hlen : (fiS (l.take j)).length ≤ 8 := Nat.le_trans (fiS_len _) (by rw [List.length_take]; omega)
        rw [← hx] at P hxb
        have HLEN := Lib.hid hlen
        have hB := HB.out.new hnx
        have HXE := Lib.hid hx
        have cj : j < 8 := c
        have t4 : decide ((j : Int) < 8) = true := decide_eq_true (by omega)
        have t5 : decide (j < 8) = true := decide_eq_true c
        clear hj hnx hown hx hlen
        go_wp2_with (first
          | ((with_reducible refine at_load 22 ?_); refine wpList_load_wbox rfl 22 _ rfl w.heap.size rfl (i8 l) 22 _ hB Tryd.underlying22 rfl (by rw [i8_len, h8]; exact a8_info) ?_))
        refine (X _).mono ?_
        rintro e w1 ⟨rfl, n1⟩
        have hc := (hB.new n1).c8 j (by omega)
        rw [← HXE.out] at hc
        have HN1 := Lib.hid (HN.out.trans n1)
        have HO1 := Lib.hid (HO.out.new n1)
        clear hB n1 HN HO
        by_cases d : x = 0
        · have HP := Lib.hid (show fiS (l.take (j + 1)) = fiS (l.take j) by rw [P, if_pos d, List.append_nil])
          subst d
          clear P hxb
          go_wp2
          go_roundg (8 - (j + 1))
          case measure => have := J.out; omega
          case rel => exact ⟨j + 1, by have := J.out; omega, by go_num, by rw [HP.out]; exact HO1.out, HN1.out⟩
        · have HP := Lib.hid (show fiS (l.take (j + 1)) = fiS (l.take j) ++ [x - 1] by rw [P, if_neg d])
          have d2 : 0 < x := by omega
          have HO2 := Lib.hid (HO1.out.new ((New.refl w1).alloc #[.int .i64 (x - 1)] 3))
          have HS1 := Lib.hid (nm_laid w1 (x - 1))
          have N2 := Lib.hid (HN1.out.trans ((New.refl w1).alloc #[.int .i64 (x - 1)] 3))
          have hb1 : W.heap.size ≤ (w1.alloc (.cells #[.int .i64 (x - 1)] 3)).heap.size := N2.out.size
          clear P d
          go_wp2_with (first
            | ((with_reducible refine at_slot 23 ?_); refine wpList_app_w (R := RNum) rfl _ _ rfl rfl rfl HO2.out rfl HS1.out (by rw [List.length_map, List.length_singleton]; have := HLEN.out; omega) hb1 ?_))
          intro v3 w3 o3 k3 x3 n3
          have O3 := Lib.hid o3
          have N3 := Lib.hid (n3 W (Nat.le_refl _) N2.out)
          obtain ⟨p3, k4, rfl, -, -⟩ := o3.shape
          clear o3 k3 x3 n3
          go_wp2
          go_roundg (8 - (j + 1))
          case measure => have := J.out; omega
          case rel => exact ⟨j + 1, by have := J.out; omega, by go_num, by rw [HP.out, List.map_append]; exact O3.out, N3.out⟩
      · obtain rfl : j = 8 := by omega
        clear hj hnx hown
        go_wp2
        go_ret
        exact ⟨_, rfl, by rw [HF.out, show fiS l = fiS (l.take 8) by rw [List.take_of_length_le (by omega)]]; exact HO.out.more NW.out.size, NW.out.trans HN.out⟩
end Go.Proofs.YthkdgihjgllpeaaDoor
