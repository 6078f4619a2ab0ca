/- Numbers of files: eight whole numbers by value, in a block known whole; the document's May, At. -/
import Derived.Test.YthkdgihjgllpeaaDoorFdMath
import Derived.Test.YthkdgihjgllpeaaDoorWhole
import Derived.Deep.LoopGhost
import Derived.Deep.Cut
import Derived.Deep.CutBlock
import Derived.RegionTactic
import Derived.Deep.RegionHeld3
namespace Go.Proofs.YthkdgihjgllpeaaDoor
open Go.RowKit Go.Joins
set_option linter.unusedVariables false
set_option maxRecDepth 100000
def i8 (l : List Int) : List Value := l.map (Value.int .i64)
theorem i8_len (l : List Int) : (i8 l).length = l.length := by unfold i8; rw [List.length_map]
theorem i8_one (l : List Int) : ∀ v ∈ i8 l, v.oneCell' = true := fun v hv => by
  unfold i8 at hv
  obtain ⟨n, _, rfl⟩ := List.mem_map.1 hv
  rfl
theorem i8_at (l : List Int) (i : Nat) (hi : i < l.length) : (i8 l)[i]? = some (.int .i64 (l.getD i 0)) := by
  unfold i8
  rw [List.getElem?_map, List.getD_eq_getElem?_getD, List.getElem?_eq_getElem hi]; rfl
theorem i8_set (l : List Int) (i : Nat) (x : Int) : (i8 l).set i (.int .i64 x) = i8 (l.set i x) := by unfold i8; rw [List.map_set]
theorem a8_info : (Tryd.prog.info? 22).map (·.size) = some 8 := by kernel_rfl
section
variable {w w' : World} {b : Nat} {l : List Int} {t : TypeId}
theorem Box.c8 (h : Box w b (i8 l).toArray t) (i : Nat) (hi : i < l.length) : w.cell? ⟨b, i, none⟩ = some (.int .i64 (l.getD i 0)) := by
  rw [h.cell, List.getElem?_toArray]; exact i8_at l i hi
theorem Box.s8 (h : Box w b (i8 l).toArray t) (i : Nat) (x : Int) : Box (w.setCell ⟨b, i, none⟩ (.int .i64 x)) b (i8 (l.set i x)).toArray t := by
  rw [← i8_set]; exact h.setL i _
theorem Box.r8 (h : Box w b (i8 l).toArray t) (h8 : l.length = 8) : (loadVar 22 ⟨b, 0, none⟩).run Tryd.prog w = .ok (.agg (i8 l).toArray) w :=
  run_loadVar_mid w _ 0 _ (i8 l) _ h.range Tryd.underlying22 rfl (by rw [i8_len, h8]; exact a8_info)
end
set_option maxHeartbeats 2000000 in
theorem rmay8 (l : List Int) (h8 : l.length = 8) (w : World) : Calls Tryd.prog 14 #[.agg (i8 l).toArray] w fun e w' => e = .returned (.bool (fdOk l)) ∧ New w w' := by
  have BA : Box (w.alloc (.cells (i8 l).toArray 22)) w.heap.size (i8 l).toArray 22 := Box.here w _ _ _ rfl
  have nw : New w (w.alloc (.cells (i8 l).toArray 22)) := (New.refl w).alloc _ _
  go_enter Tryd.func14, Tryd.ntmps14
  go_upto_region 1 with fail
  generalize w.alloc (.cells (i8 l).toArray 22) = W at *
  have NW := Lib.hid nw
  have HB := Lib.hid BA
  clear BA nw
  go_wp2_with fail
  go_loopg [3] 8 (fun k i wr => ∃ j : Nat, j + k = 8 ∧ i = .int .i64 (j : Int) ∧ wr = W ∧ ∀ i, i < j → 0 ≤ l.getD i 0 ∧ l.getD i 0 ≤ 32)
  case atStart => exact ⟨0, by omega, rfl, rfl, fun i h => absurd h (Nat.not_lt_zero _)⟩
  case round =>
    obtain ⟨j, hj, rfl, rfl, hok⟩ := hrel
    have J := Lib.hid hj
    have HO := Lib.hid hok
    by_cases c : j < 8
    · have hc := HB.out.c8 j (by omega)
      have bad : ¬ (0 ≤ l.getD j 0 ∧ l.getD j 0 ≤ 32) → fdOk l = false := fun c => by
        rw [← Bool.not_eq_true, fdOk_iff]
        intro h
        refine c (h _ ?_)
        have hjl : j < l.length := by have := J.out; omega
        rw [List.getD_eq_getElem?_getD, List.getElem?_eq_getElem hjl]; exact List.getElem_mem hjl
      have BAD := Lib.hid bad
      have HX : ∀ x, x = l.getD j 0 → (0 ≤ x ∧ x ≤ 32) → ∀ i, i < j + 1 → 0 ≤ l.getD i 0 ∧ l.getD i 0 ≤ 32 := fun x hx h i hi => by
        by_cases d : i < j
        · exact HO.out i d
        · obtain rfl : i = j := by omega
          rw [← hx]; exact h
      have HX := Lib.hid HX
      obtain ⟨x, hx⟩ : ∃ x, x = l.getD j 0 := ⟨_, rfl⟩
      rw [← hx] at hc
      have HXE := Lib.hid hx
      clear hok hj bad hx
      by_cases d1 : x < 0
      · have e : fdOk l = false := BAD.out (by rw [← HXE.out]; omega)
        have E := Lib.hid e
        clear e
        go_wp2
        go_ret
        exact ⟨ret_bool E.out.symm, NW.out⟩
      · by_cases d2 : 32 < x
        · have e : fdOk l = false := BAD.out (by rw [← HXE.out]; omega)
          have E := Lib.hid e
          clear e
          go_wp2
          go_ret
          exact ⟨ret_bool E.out.symm, NW.out⟩
        · go_wp2
          go_roundg (8 - (j + 1))
          case measure => have := J.out; omega
          case rel => exact ⟨j + 1, by have := J.out; omega, by go_num, rfl, HX.out x HXE.out (by omega)⟩
    · obtain rfl : j = 8 := by omega
      have e : fdOk l = true := fdOk_iff.2 fun x hx => by
        obtain ⟨i, hi, rfl⟩ := List.getElem_of_mem hx
        have := hok i (by omega)
        rw [List.getD_eq_getElem?_getD, List.getElem?_eq_getElem hi] at this; exact this
      have E := Lib.hid e
      clear e hok
      go_wp2
      go_ret
      exact ⟨ret_bool E.out.symm, NW.out⟩
set_option maxHeartbeats 2000000 in
theorem rat8 (l : List Int) (h8 : l.length = 8) (fd : Int) (w : World) : Calls Tryd.prog 9 #[.agg (i8 l).toArray, .int .i64 fd] w fun e w' => e = .returned (.tuple #[.int .i64 (faN l fd), .int .i64 (faE l fd)]) ∧ New w w' := by
  have BA : Box (w.alloc (.cells (i8 l).toArray 22)) w.heap.size (i8 l).toArray 22 := Box.here w _ _ _ rfl
  have nw : New w (w.alloc (.cells (i8 l).toArray 22)) := (New.refl w).alloc _ _
  have X := fun W => rmay8 l h8 W
  obtain ⟨an, han⟩ : ∃ x, x = faN l fd := ⟨_, rfl⟩
  obtain ⟨ae, hae⟩ : ∃ x, x = faE l fd := ⟨_, rfl⟩
  rw [← han, ← hae]
  cases hm : fdOk l with
  | false =>
    rw [hm] at X
    have e1 : ae = 22 := hae.trans (faE_bad hm fd)
    have e2 : an = 0 := by rw [han]; unfold faN; rw [← hae, e1]; rfl
    rw [e1, e2]
    clear han hae e1 e2 hm
    go_enter Tryd.func9, Tryd.ntmps9
    go_upto_region 1 with fail
    generalize w.alloc (.cells (i8 l).toArray 22) = W at *
    have HB := Lib.hid BA
    clear BA
    go_wp2_with (first
      | ((with_reducible refine at_load 22 ?_); refine wpList_load_box rfl 22 _ rfl w.heap.size rfl (i8 l) 22 _ HB.out Tryd.underlying22 rfl (by rw [i8_len, h8]; exact a8_info) ?_))
    refine (X _).mono ?_
    rintro e w1 ⟨rfl, n1⟩
    go_wp2
    go_ret2
    exact ⟨rfl, nw.trans n1⟩
  | true =>
    rw [hm] at X
    have HM := Lib.hid hm
    have HAN := Lib.hid han
    have HAE := Lib.hid hae
    clear hm han hae
    go_enter Tryd.func9, Tryd.ntmps9
    go_upto_region 1 with fail
    generalize w.alloc (.cells (i8 l).toArray 22) = W at *
    have HB := Lib.hid BA
    have NW := Lib.hid nw
    clear BA nw
    go_wp2_with (first
      | ((with_reducible refine at_load 22 ?_); refine wpList_load_box rfl 22 _ rfl w.heap.size rfl (i8 l) 22 _ HB.out Tryd.underlying22 rfl (by rw [i8_len, h8]; exact a8_info) ?_))
    refine (X _).mono ?_
    rintro e w1 ⟨rfl, n1⟩
    have HB1 := Lib.hid (HB.out.new n1)
    have NW1 := Lib.hid (NW.out.trans n1)
    clear n1 X NW HB
    go_wp2_with fail
    go_loopg [6] 8 (fun k i wr => ∃ j : Nat, j + k = 8 ∧ i = .int .i64 (j : Int) ∧ wr = w1 ∧ ∀ i : Nat, i < j → ((i : Int) = fd → l.getD i 0 = 0))
    case atStart => exact ⟨0, by omega, rfl, rfl, fun i h => absurd h (Nat.not_lt_zero _)⟩
    case round =>
      obtain ⟨j, hj, rfl, rfl, hok⟩ := hrel
      have J := Lib.hid hj
      have HO := Lib.hid hok
      by_cases c : j < 8
      · have hc := HB1.out.c8 j (by omega)
        obtain ⟨x, hx⟩ : ∃ x, x = l.getD j 0 := ⟨_, rfl⟩
        have hxb := fdOk_get HM.out j
        rw [← hx] at hc hxb
        have HXE := Lib.hid hx
        clear hok hj hx
        by_cases d1 : (j : Int) = fd
        · subst d1
          by_cases d2 : 0 < x
          · have e1 : ae = 0 := by rw [HAE.out]; exact faE_ok HM.out j c (by rw [← HXE.out]; omega)
            have e2 : an = x - 1 := by rw [HAN.out]; unfold faN; rw [← HAE.out, e1, if_pos rfl, Int.toNat_natCast, HXE.out]
            have E2 := Lib.hid e2
            have E1 := Lib.hid e1
            clear e1 e2 HO
            go_wp2
            go_ret2
            exact ⟨by rw [E1.out, E2.out]; rfl, NW1.out⟩
          · have HO2 := Lib.hid (fun (i : Nat) (hi : i < j + 1) (hf : (i : Int) = (j : Int)) => show l.getD i 0 = 0 by
              have : i = j := by omega
              subst this
              rw [← HXE.out]; omega)
            go_wp2
            go_roundg (8 - (j + 1))
            case measure => have := J.out; omega
            case rel => exact ⟨j + 1, by have := J.out; omega, by go_num, rfl, HO2.out⟩
        · have d1b : ((j : Int) == fd) = false := by simpa using d1
          have D1 := Lib.hid d1
          clear d1
          go_wp2
          go_roundg (8 - (j + 1))
          case measure => have := J.out; omega
          case rel =>
            refine ⟨j + 1, by have := J.out; omega, by go_num, rfl, fun i hi hf => ?_⟩
            by_cases d : i < j
            · exact HO.out i d hf
            · obtain rfl : i = j := by omega
              exact absurd hf D1.out
      · obtain rfl : j = 8 := by omega
        have e1 : ae = 9 := by
          rw [HAE.out]
          by_cases d : 0 ≤ fd ∧ fd < 8
          · have := hok fd.toNat (by omega) (by omega)
            have h9 := faE_free HM.out fd.toNat this
            rwa [show ((fd.toNat : Nat) : Int) = fd by omega] at h9
          · exact faE_out HM.out fd (by omega)
        have e2 : an = 0 := by rw [HAN.out]; unfold faN; rw [← HAE.out, e1]; rfl
        have E2 := Lib.hid e2
        have E1 := Lib.hid e1
        clear e1 e2 hok HO
        go_wp2
        go_ret2
        exact ⟨by rw [E1.out, E2.out]; rfl, NW1.out⟩
end Go.Proofs.YthkdgihjgllpeaaDoor
