/- Numbers of files: the package's Files, Free. -/
import Derived.Test.YthkdgihjgllpeaaDoorFdR
namespace Go.Proofs.YthkdgihjgllpeaaDoor
open Go.RowKit Go.Joins
set_option linter.unusedVariables false
set_option maxRecDepth 100000
set_option maxHeartbeats 4000000 in
theorem pfiles8 (l : List Int) (h8 : l.length = 8) (w : World) : Calls Tryd.prog 18 #[.agg (i8 l).toArray] w fun en w' => ∃ v, en = .returned v ∧ OwnW RNum w.heap.size w' v ((fiO l).map nmC) ∧ New w w' := by
  have BA : Box (w.alloc (.cells (i8 l).toArray 24)) w.heap.size (i8 l).toArray 24 := Box.here w _ _ _ rfl
  have nw : New w (w.alloc (.cells (i8 l).toArray 24)) := (New.refl w).alloc _ _
  have X := fun W => pcheck8 l h8 W
  have IX := Lib.hid (fun (W : World) => run_index_i8 W l h8)
  cases hm : fdOk l with
  | false =>
    rw [hm, if_neg (by simp), erN_pos (show (22 : Int) ≠ 0 by omega)] at X
    have HF := Lib.hid (show fiO l = [] by unfold fiO; rw [hm]; rfl)
    clear hm
    go_enter Tryd.func18, Tryd.ntmps18
    go_upto_region 1 with fail
    generalize w.alloc (.cells (i8 l).toArray 24) = W at *
    have HB := Lib.hid BA
    have NW := Lib.hid nw
    clear BA nw
    go_wp2_with (first
      | ((with_reducible refine at_load 24 ?_); refine wpList_load_box rfl 24 _ rfl w.heap.size rfl (i8 l) 24 _ HB.out Tryd.underlying24 rfl (by rw [i8_len, h8]; exact tb_info) ?_))
    refine (X _).mono ?_
    rintro e w1 ⟨rfl, n1⟩
    go_wp2
    go_ret
    exact ⟨_, rfl, by rw [HF.out]; exact OwnW.nil, NW.out.trans n1⟩
  | true =>
    rw [hm, if_pos rfl, fe00] at X
    have HF := Lib.hid (show fiO l = fiS l by unfold fiO; rw [hm]; rfl)
    have HM := Lib.hid hm
    clear hm
    go_enter Tryd.func18, Tryd.ntmps18
    go_upto_region 1 with fail
    generalize w.alloc (.cells (i8 l).toArray 24) = W at *
    have HB := Lib.hid BA
    have NW := Lib.hid nw
    clear BA nw
    go_wp2_with (first
      | ((with_reducible refine at_load 24 ?_); refine wpList_load_box rfl 24 _ rfl w.heap.size rfl (i8 l) 24 _ HB.out Tryd.underlying24 rfl (by rw [i8_len, h8]; exact tb_info) ?_))
    refine (X _).mono ?_
    rintro e w1 ⟨rfl, n1⟩
    have HB1 := Lib.hid (HB.out.new n1)
    have NW1 := Lib.hid (NW.out.trans n1)
    clear X n1 HB NW
    go_wp2_with (first
      | ((with_reducible refine at_load 22 ?_); refine wpList_load_box rfl 22 _ rfl w.heap.size rfl (i8 l) 24 _ HB1.out Tryd.underlying22 rfl (by rw [i8_len, h8]; exact a8_info) ?_))
    go_loopg [3, 11] 8 (fun k o i wr => ∃ j : Nat, j + k = 8 ∧ i = .int .i64 (j : Int) ∧ OwnW RNum w1.heap.size wr o ((fiS (l.take j)).map nmC) ∧ New w1 wr)
    case atStart => exact ⟨0, by omega, rfl, OwnW.nil, New.refl _⟩
    case round =>
      obtain ⟨j, hj, rfl, hown, hnx⟩ := hrel
      have J := Lib.hid hj
      have HN := Lib.hid hnx
      obtain ⟨p1, k1, rfl, -, -⟩ := hown.shape
      simp only [List.length_map] at hown
      simp only [List.length_map]
      have HO := Lib.hid hown
      by_cases c : j < 8
      · have i0 := fun W => IX.out W j c
        have P := fiS_take l j (by omega)
        obtain ⟨x, hx⟩ : ∃ x, x = l.getD j 0 := ⟨_, rfl⟩
        have hxb := fdOk_get HM.out j
        have hlen : (fiS (l.take j)).length ≤ 8 := Nat.le_trans (fiS_len _) (by rw [List.length_take]; omega)
        rw [← hx] at P hxb i0
        have HLEN := Lib.hid hlen
        clear hj hnx hown hx hlen
        by_cases d : x = 0
        · have HP := Lib.hid (show fiS (l.take (j + 1)) = fiS (l.take j) by rw [P, if_pos d, List.append_nil])
          subst d
          clear P hxb
          go_wp2
          go_roundg (8 - (j + 1))
          case measure => have := J.out; omega
          case rel => exact ⟨j + 1, by have := J.out; omega, by go_num, by rw [HP.out]; exact HO.out, HN.out⟩
        · have HP := Lib.hid (show fiS (l.take (j + 1)) = fiS (l.take j) ++ [x - 1] by rw [P, if_neg d])
          have d2 : (x != (0 : Int)) = true := by simpa using d
          have HO2 := Lib.hid (HO.out.new ((New.refl wr).alloc #[.int .i64 (x - 1)] 3))
          have HS1 := Lib.hid (nm_laid wr (x - 1))
          have N2 := Lib.hid (HN.out.trans ((New.refl wr).alloc #[.int .i64 (x - 1)] 3))
          have hb1 : w1.heap.size ≤ (wr.alloc (.cells #[.int .i64 (x - 1)] 3)).heap.size := N2.out.size
          clear P d
          go_wp2_with (first
            | ((with_reducible refine at_slot 20 ?_); refine wpList_app_w (R := RNum) rfl _ _ rfl rfl rfl HO2.out rfl HS1.out (by rw [List.length_map, List.length_singleton]; have := HLEN.out; omega) hb1 ?_))
          intro v3 w3 o3 k3 x3 n3
          have O3 := Lib.hid o3
          have N3 := Lib.hid (n3 w1 (Nat.le_refl _) N2.out)
          obtain ⟨p3, k4, rfl, -, -⟩ := o3.shape
          clear o3 k3 x3 n3
          go_wp2
          go_roundg (8 - (j + 1))
          case measure => have := J.out; omega
          case rel => exact ⟨j + 1, by have := J.out; omega, by go_num, by rw [HP.out, List.map_append]; exact O3.out, N3.out⟩
      · obtain rfl : j = 8 := by omega
        clear hj hnx hown
        go_wp2
        go_ret
        exact ⟨_, rfl, by rw [HF.out, show fiS l = fiS (l.take 8) by rw [List.take_of_length_le (by omega)]]; exact HO.out.more NW1.out.size, NW1.out.trans HN.out⟩
set_option maxHeartbeats 4000000 in
theorem pfree8 (l : List Int) (h8 : l.length = 8) (w : World) : Calls Tryd.prog 19 #[.agg (i8 l).toArray] w fun en w' => en = .returned (.int .i64 (frN l)) ∧ New w w' := by
  have BA : Box (w.alloc (.cells (i8 l).toArray 24)) w.heap.size (i8 l).toArray 24 := Box.here w _ _ _ rfl
  have nw : New w (w.alloc (.cells (i8 l).toArray 24)) := (New.refl w).alloc _ _
  have X := fun W => pcheck8 l h8 W
  have Y := fun W => pfiles8 l h8 W
  cases hm : fdOk l with
  | false =>
    rw [hm, if_neg (by simp), erN_pos (show (22 : Int) ≠ 0 by omega)] at X
    have HF := Lib.hid (show frN l = 0 by unfold frN; rw [hm]; rfl)
    clear hm Y
    go_enter Tryd.func19, Tryd.ntmps19
    go_upto_region 1 with fail
    generalize w.alloc (.cells (i8 l).toArray 24) = W at *
    have HB := Lib.hid BA
    have NW := Lib.hid nw
    clear BA nw
    go_wp2_with (first
      | ((with_reducible refine at_load 24 ?_); refine wpList_load_box rfl 24 _ rfl w.heap.size rfl (i8 l) 24 _ HB.out Tryd.underlying24 rfl (by rw [i8_len, h8]; exact tb_info) ?_))
    refine (X _).mono ?_
    rintro e w1 ⟨rfl, n1⟩
    go_wp2
    go_ret
    exact ⟨by rw [HF.out]; rfl, NW.out.trans n1⟩
  | true =>
    rw [hm, if_pos rfl, fe00] at X
    have HF := Lib.hid (show frN l = 8 - ((fiO l).length : Int) by unfold frN fiO; rw [hm]; rfl)
    have hlen : (fiO l).length ≤ 8 := by rw [show fiO l = fiS l by unfold fiO; rw [hm]; rfl]; exact h8 ▸ fiS_len l
    clear hm
    generalize frN l = fr at *
    go_enter Tryd.func19, Tryd.ntmps19
    go_upto_region 1 with fail
    generalize w.alloc (.cells (i8 l).toArray 24) = W at *
    have HB := Lib.hid BA
    have NW := Lib.hid nw
    clear BA nw
    go_wp2_with (first
      | ((with_reducible refine at_load 24 ?_); refine wpList_load_box rfl 24 _ rfl w.heap.size rfl (i8 l) 24 _ HB.out Tryd.underlying24 rfl (by rw [i8_len, h8]; exact tb_info) ?_))
    refine (X _).mono ?_
    rintro e w1 ⟨rfl, n1⟩
    have HB1 := Lib.hid (HB.out.new n1)
    have NW1 := Lib.hid (NW.out.trans n1)
    clear X n1 HB NW
    go_wp2_with (first
      | ((with_reducible refine at_load 24 ?_); refine wpList_load_box rfl 24 _ rfl w.heap.size rfl (i8 l) 24 _ HB1.out Tryd.underlying24 rfl (by rw [i8_len, h8]; exact tb_info) ?_))
    refine (Y _).mono ?_
    rintro e w2 ⟨v, rfl, o2, n2⟩
    obtain ⟨p1, k1, rfl, -, -⟩ := o2.shape
    simp only [List.length_map] at o2
    simp only [List.length_map]
    generalize (fiO l).length = q at *
    go_wp2
    go_ret
    exact ⟨by rw [HF.out]; rfl, NW1.out.trans n2⟩
end Go.Proofs.YthkdgihjgllpeaaDoor
