/- Numbers of files: the package's Check, and what its other functions begin with. -/
import Derived.Test.YthkdgihjgllpeaaDoorFdC
import Derived.Test.YthkdgihjgllpeaaDoorNum
namespace Go.Proofs.YthkdgihjgllpeaaDoor
open Go.RowKit Go.Joins
set_option linter.unusedVariables false
set_option maxRecDepth 100000
theorem tb_info : (Tryd.prog.info? 24).map (·.size) = some 8 := by kernel_rfl
theorem fe00 : erN 0 = .nilIface := rfl
/-- an element of eight numbers by value -/
theorem run_index_i8 (w : World) (l : List Int) (h8 : l.length = 8) (i : Nat) (hi : i < 8) : (Instr.index 22 (.agg (i8 l).toArray) (.int .i64 (i : Int))).run Tryd.prog w = .ok (.int .i64 (l.getD i 0)) w := by
  have hv : (i8 l).toArray[i]? = some (.int .i64 (l.getD i 0)) := by rw [List.getElem?_toArray]; exact i8_at l i (by omega)
  have hs : (Tryd.prog.info? 3).map (·.size) = some 1 := by kernel_rfl
  cases hq : Tryd.prog.info? 3 with
  | none => simp [hq] at hs
  | some j =>
    have hj : j.size = 1 := by simpa [hq] using hs
    have hg : (isAgg 3).run Tryd.prog w = .ok false w := by
      unfold isAgg
      rw [Sem.run_bind, run_underlying Tryd.underlying3 w]
      rfl
    have hp : (part 3 (i8 l).toArray i).run Tryd.prog w = .ok (.int .i64 (l.getD i 0)) w := by
      unfold part
      rw [Sem.run_bind, hg]
      simp only [Result.andThen_ok, Bool.false_eq_true, if_false, hv, Sem.run_pure]
    simp [Instr.index, Sem.run_bind, run_underlying Tryd.underlying22, asIntOf, hi, sizeOf, typeInfo, hq, hj, hp]
theorem Box.t8 {w : World} {b : Nat} {l : List Int} {t : TypeId} (h : Box w b (i8 l).toArray t) (h8 : l.length = 8) : (loadVar 24 ⟨b, 0, none⟩).run Tryd.prog w = .ok (.agg (i8 l).toArray) w :=
  run_loadVar_mid w _ 0 _ (i8 l) _ h.range Tryd.underlying24 rfl (by rw [i8_len, h8]; exact tb_info)
set_option maxHeartbeats 2000000 in
theorem pcheck8 (l : List Int) (h8 : l.length = 8) (w : World) : Calls Tryd.prog 20 #[.agg (i8 l).toArray] w fun en w' => en = .returned (erN (if fdOk l = true then 0 else 22)) ∧ New w w' := by
  have BA : Box (w.alloc (.cells (i8 l).toArray 24)) w.heap.size (i8 l).toArray 24 := Box.here w _ _ _ rfl
  have nw : New w (w.alloc (.cells (i8 l).toArray 24)) := (New.refl w).alloc _ _
  have IX := Lib.hid (fun (W : World) => run_index_i8 W l h8)
  obtain ⟨e, he⟩ : ∃ e, e = (if fdOk l = true then (0 : Int) else 22) := ⟨_, rfl⟩
  rw [← he]
  have HE := Lib.hid he
  clear he
  go_enter Tryd.func20, Tryd.ntmps20
  go_upto_region 1 with fail
  generalize w.alloc (.cells (i8 l).toArray 24) = W at *
  have NW := Lib.hid nw
  have HB := Lib.hid BA
  clear BA nw
  go_wp2_with (first
    | ((with_reducible refine at_load 22 ?_); refine wpList_load_box rfl 22 _ rfl w.heap.size rfl (i8 l) 24 _ HB.out Tryd.underlying22 rfl (by rw [i8_len, h8]; exact a8_info) ?_))
  go_loopg [7] 8 (fun k i wr => ∃ j : Nat, j + k = 8 ∧ i = .int .i64 (j : Int) ∧ wr = W ∧ ∀ i, i < j → 0 ≤ l.getD i 0 ∧ l.getD i 0 ≤ 32)
  case atStart => exact ⟨0, by omega, rfl, rfl, fun i h => absurd h (Nat.not_lt_zero _)⟩
  case round =>
    obtain ⟨j, hj, rfl, rfl, hok⟩ := hrel
    have J := Lib.hid hj
    have HO := Lib.hid hok
    by_cases c : j < 8
    · have i0 := fun W => IX.out W j c
      have bad : ¬ (0 ≤ l.getD j 0 ∧ l.getD j 0 ≤ 32) → fdOk l = false := fun c => by
        rw [← Bool.not_eq_true, fdOk_iff]
        intro h
        refine c (h _ ?_)
        have hjl : j < l.length := by have := J.out; omega
        rw [List.getD_eq_getElem?_getD, List.getElem?_eq_getElem hjl]; exact List.getElem_mem hjl
      have BAD := Lib.hid bad
      have HX : ∀ x, x = l.getD j 0 → (0 ≤ x ∧ x ≤ 32) → ∀ i, i < j + 1 → 0 ≤ l.getD i 0 ∧ l.getD i 0 ≤ 32 := fun x hx h i hi => by
        by_cases d : i < j
        · exact HO.out i d
        · obtain rfl : i = j := by omega
          rw [← hx]; exact h
      have HX := Lib.hid HX
      obtain ⟨x, hx⟩ : ∃ x, x = l.getD j 0 := ⟨_, rfl⟩
      rw [← hx] at i0
      have HXE := Lib.hid hx
      clear hok hj bad hx
      by_cases d1 : x < 0
      · have e1 : e = 22 := by rw [HE.out, BAD.out (by rw [← HXE.out]; omega)]; rfl
        have E := Lib.hid e1
        clear e1
        go_wp2
        go_ret
        exact ⟨by rw [E.out]; rfl, NW.out⟩
      · by_cases d2 : 32 < x
        · have e1 : e = 22 := by rw [HE.out, BAD.out (by rw [← HXE.out]; omega)]; rfl
          have E := Lib.hid e1
          clear e1
          go_wp2
          go_ret
          exact ⟨by rw [E.out]; rfl, NW.out⟩
        · go_wp2
          go_roundg (8 - (j + 1))
          case measure => have := J.out; omega
          case rel => exact ⟨j + 1, by have := J.out; omega, by go_num, rfl, HX.out x HXE.out (by omega)⟩
    · obtain rfl : j = 8 := by omega
      have e1 : fdOk l = true := fdOk_iff.2 fun x hx => by
        obtain ⟨i, hi, rfl⟩ := List.getElem_of_mem hx
        have := hok i (by omega)
        rw [List.getD_eq_getElem?_getD, List.getElem?_eq_getElem hi] at this; exact this
      have e2 : e = 0 := by rw [HE.out, e1]; rfl
      have E := Lib.hid e2
      clear e1 e2 hok
      go_wp2
      go_ret
      exact ⟨by rw [E.out]; rfl, NW.out⟩
set_option maxHeartbeats 2000000 in
/-- slices.Index of 0 among eight -/
theorem pindex8 (l : List Int) (h8 : l.length = 8) (v : Value) (w : World) (hv : Nums w v l) : Calls Tryd.prog 22 #[v, .int .i64 0] w fun en w' => en = .returned (.int .i64 (if fdF l = 8 then -1 else (fdF l : Int))) ∧ New w w' := by
  obtain ⟨p, cap, rfl, -, hc⟩ := hv
  have HC := Lib.hid hc
  obtain ⟨e, he⟩ : ∃ e, e = (if fdF l = 8 then (-1 : Int) else (fdF l : Int)) := ⟨_, rfl⟩
  rw [← he, h8]
  rw [h8] at HC
  have HE := Lib.hid he
  clear he hc
  go_enter Tryd.func22, Tryd.ntmps22
  go_wp2
  go_loopg [8] 8 (fun k i wr => ∃ j : Nat, j + k = 8 ∧ i = .int .i64 (j : Int) ∧ wr = w ∧ ∀ i : Nat, i < j → l.getD i 0 ≠ 0)
  case atStart => exact ⟨0, by omega, rfl, rfl, fun i h => absurd h (Nat.not_lt_zero _)⟩
  case round =>
    obtain ⟨j, hj, rfl, rfl, hok⟩ := hrel
    have J := Lib.hid hj
    have HO := Lib.hid hok
    by_cases c : j < 8
    · obtain ⟨a, rfl, hc⟩ := HC.out j c
      obtain ⟨x, hx⟩ : ∃ x, x = l.getD j 0 := ⟨_, rfl⟩
      rw [← hx] at hc
      have HXE := Lib.hid hx
      clear hok hj hx
      by_cases d1 : x = 0
      · subst d1
        have hF : fdF l = j := fdF_at l j (by omega) HXE.out.symm HO.out
        have e1 : e = (j : Int) := by rw [HE.out, hF, if_neg (by omega)]
        have E := Lib.hid e1
        clear e1 hF
        go_wp2
        go_ret
        exact ⟨by rw [E.out]; rfl, New.refl _⟩
      · have HO2 := Lib.hid (fun (i : Nat) (hi : i < j + 1) => show l.getD i 0 ≠ 0 by
          by_cases d : i < j
          · exact HO.out i d
          · obtain rfl : i = j := by omega
            rw [← HXE.out]; exact d1)
        have d1b : ((0 : Int) == x) = false := by simpa using fun q : 0 = x => d1 q.symm
        clear d1
        go_wp2
        go_roundg (8 - (j + 1))
        case measure => have := J.out; omega
        case rel => exact ⟨j + 1, by have := J.out; omega, by go_num, rfl, HO2.out⟩
    · obtain rfl : j = 8 := by omega
      have hF : fdF l = 8 := by rw [fdF_none l (by rw [h8]; exact hok), h8]
      have e1 : e = -1 := by rw [HE.out, hF]; rfl
      have E := Lib.hid e1
      clear e1 hF hok
      go_wp2
      go_ret
      exact ⟨by rw [E.out]; rfl, New.refl _⟩
end Go.Proofs.YthkdgihjgllpeaaDoor
