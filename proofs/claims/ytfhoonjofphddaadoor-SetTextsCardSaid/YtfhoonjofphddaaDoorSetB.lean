/- What the package of sets of signals and the document's own answers make of all signals of a set, and of a list of signals: contracts, for all sets and all slices of numbers, in any world, behind which there are only new blocks. -/
import Derived.Test.YtfhoonjofphddaaDoorSetA
import Derived.Deep.LoopGhost
namespace Go.Proofs.YtfhoonjofphddaaDoor
open Go.RowKit
set_option linter.unusedVariables false
theorem int_info : (Tryd.prog.info? 3).map (fun i => (i.zero, i.size, i.bytes)) = some (some (.int .i64 0), 1, 8) := by kernel_rfl
/-- a slice of whole numbers that the call made, or nil -/
def Own (base : Nat) (w : World) (v : Value) (l : List Int) : Prop := w.ownsRow base 3 1 v l.length (l.map (Value.int .i64))
/-- a slice of whole numbers that can be read -/
def Ints (w : World) (v : Value) (l : List Int) : Prop :=
  (v = .slice none 0 0 ∧ l = []) ∨ ∃ b o cap, v = .slice (some ⟨b, o, none⟩) l.length cap ∧ l.length ≤ cap ∧ cap ≤ maxLen ∧ b < w.heap.size ∧ ∀ i, i < l.length → w.cell? ⟨b, o + i, none⟩ = some (.int .i64 (l.getD i 0))
theorem Own.nil (base : Nat) (w : World) : Own base w (.slice none 0 0) [] := ⟨by simp, .inl ⟨rfl, rfl⟩⟩
theorem Own.drew {base : Nat} {w : World} {v : Value} {l : List Int} (h : Own base w v l) : Own base w.drew v l := h
theorem Own.drewN {base : Nat} {w : World} {v : Value} {l : List Int} (h : Own base w v l) (n : Nat) : Own base (w.drewN n) v l := h
theorem Own.new {base : Nat} {w w' : World} {v : Value} {l : List Int} (h : Own base w v l) (k : New w w') : Own base w' v l := by
  refine ⟨h.1, ?_⟩
  rcases h.2 with hn | ⟨g, cap, cur, rfl, hb, hg, rest⟩
  · exact .inl hn
  · exact .inr ⟨g, cap, cur, rfl, hb, by rw [k.block (Array.getElem?_eq_some_iff.1 hg).1]; exact hg, rest⟩
theorem Own.ints {base : Nat} {w : World} {v : Value} {l : List Int} (h : Own base w v l) : Ints w v l := by
  rcases h.2 with ⟨rfl, hn⟩ | ⟨g, cap, cur, rfl, hb, hg, h1, h2, h3, h4⟩
  · exact .inl ⟨rfl, by simpa using hn⟩
  · refine .inr ⟨g, 0, cap, rfl, h1, h2, (Array.getElem?_eq_some_iff.1 hg).1, fun i hi => ?_⟩
    have e : (cur.toList.take (l.length * 1))[i]? = some (.int .i64 (l.getD i 0)) := by
      rw [h4, List.getElem?_map, List.getElem?_eq_getElem hi, List.getD_eq_getElem?_getD, List.getElem?_eq_getElem hi]; rfl
    rw [List.getElem?_take] at e
    split at e
    · simpa [World.cell?, hg] using e
    · cases e
theorem Ints.new {w w' : World} {v : Value} {l : List Int} (h : Ints w v l) (k : New w w') : Ints w' v l := by
  rcases h with h | ⟨b, o, cap, h1, h2, h3, h4, h5⟩
  · exact .inl h
  · exact .inr ⟨b, o, cap, h1, h2, h3, Nat.lt_of_lt_of_le h4 k.size, fun i hi => by rw [k.cell h4]; exact h5 i hi⟩
/-- what List answers -/
def Lists (l : List Int) (w : World) (e : Ending) (w' : World) : Prop := ∃ v, e = .returned v ∧ Own w.heap.size w' v l ∧ New w w'
theorem lsk_push (x : Int) (j : Nat) (h : mem x j = true) : lsk x (j + 1) = lsk x j ++ [(j : Int) + 1] := by
  show (if mem x j then lsk x j ++ [(j : Int) + 1] else lsk x j) = _; rw [if_pos h]
theorem lsk_skip (x : Int) (j : Nat) (h : mem x j = false) : lsk x (j + 1) = lsk x j := by
  show (if mem x j then lsk x j ++ [(j : Int) + 1] else lsk x j) = _; rw [if_neg (by simp [h])]
theorem Own.push {base : Nat} {w0 wr w1 : World} {v v' : Value} {l : List Int} {n : Int} {o : Obj} (hnx : New w0 wr) (hb : base = w0.heap.size)
    (hown : Own base wr v l) (hown' : w1.ownsRow base 3 1 v' (l.length + 1) (l.map (Value.int .i64) ++ [.int .i64 n])) (hgrow : (wr.alloc o).grownBy w1 v.ownBlock) : Own base w1 v' (l ++ [n]) ∧ New w0 w1 := by
  subst hb
  refine ⟨?_, (hnx.allocO o).grown hgrow fun k hk => (World.ownsRow.lt hown k hk).1⟩
  unfold Own; simpa using hown'
set_option maxHeartbeats 1000000 in
theorem list_any (x : Int) (w : World) (h : 0 ≤ x) (h' : x ≤ 4294967295) :
    Calls Tryd.prog 17 #[.int .u32 x] w (Lists (lst x) w) := by
  obtain ⟨i0, hi, hz0, hz1, hz2⟩ := info_parts int_info
  go_enter Tryd.func17, Tryd.ntmps17
  go_wp2
  go_loopg [3, 4] 31 (fun k l i wr => ∃ j : Nat, j + k = 31 ∧ i = .int .i64 ((j : Int) + 1) ∧ Own w.heap.size wr l (lsk x j) ∧ New w wr)
  case atStart => exact ⟨0, rfl, rfl, Own.nil _ _, New.refl _⟩
  case round =>
    obtain ⟨j, hj, rfl, hown, hnx⟩ := hrel
    have hl := lsk_len x j
    by_cases hlt : j < 31
    · have hs := hasS_in x j hlt
      rcases Bool.eq_false_or_eq_true (mem x j) with c | c
      · have P := Lib.hid (lsk_push x j c)
        rw [c] at hs
        have H := Lib.hid c
        clear c
        go_wp2_with (first | (go_at_call 12; (with_reducible refine (has_any _ _ _ h h' (by omega) (by omega)).mono ?_); rintro e w' ⟨rfl, rfl⟩) | (at_builtin; refine wpList_append_own _ rfl _ _ 24 rfl w.heap.size 3 i0 (.int .i64 0) 1 8 Tryd.underlying24 hi hz0 hz1 hz2 rfl (by decide) _ _ _ rfl (World.ownsRow.alloc hown _) ⟨wr.heap.size, 0, none⟩ 1 1 [.int .i64 ((j : Int) + 1)] rfl rfl ?c1 ?c2 ?c3 ?c4 ?c5 ?_))
        case c1 => intro i u hu; rcases i with _ | i <;> simp at hu; subst hu; exact (World.cell?_alloc_at _ _ _ _ rfl).trans rfl
        case c2 => intro u hu; simp at hu; subst hu; rfl
        case c3 => unfold maxLen; omega
        case c4 => omega
        case c5 => have := hnx.size; simp; omega
        intro v' w1 hown' hgrow _
        obtain ⟨o', hnx'⟩ := Own.push hnx rfl hown hown' hgrow
        rw [← P.out] at o'
        clear hown' hgrow hown hnx hs
        go_wp2
        go_roundg (30 - j)
        case measure => omega
        case rel => exact ⟨j + 1, by omega, by go_num, o', hnx'⟩
      · have P := Lib.hid (lsk_skip x j c)
        rw [c] at hs
        have H := Lib.hid c
        clear c
        rw [← P.out] at hown
        go_wp2_with (go_at_call 12; (with_reducible refine (has_any _ _ _ h h' (by omega) (by omega)).mono ?_); rintro e w' ⟨rfl, rfl⟩)
        go_roundg (30 - j)
        case measure => omega
        case rel => exact ⟨j + 1, by omega, by go_num, hown, hnx⟩
    · obtain rfl : j = 31 := by omega
      go_wp2
      go_ret
      exact ⟨_, rfl, hown, hnx⟩
set_option maxHeartbeats 1000000 in
theorem rlist_any (x : Int) (w : World) (h : 0 ≤ x) (h' : x ≤ 4294967295) :
    Calls Tryd.prog 7 #[.int .u32 x] w (Lists (lst x) w) := by
  obtain ⟨i0, hi, hz0, hz1, hz2⟩ := info_parts int_info
  have h0 := Lib.hid (shr_zero x h)
  go_enter Tryd.func7, Tryd.ntmps7
  go_wp2
  go_loopg [0, 3, 4] 31 (fun k s l i wr => ∃ j : Nat, j + k = 31 ∧ i = .int .i64 ((j : Int) + 1) ∧ s = .int .u32 (shr x j) ∧ Own w.heap.size wr l (lsk x j) ∧ New w wr)
  case atStart => exact ⟨0, rfl, rfl, by rw [h0.out], Own.nil _ _, New.refl _⟩
  case round =>
    obtain ⟨j, hj, rfl, rfl, hown, hnx⟩ := hrel
    have hl := lsk_len x j
    have hb := shr_bd x j h
    have hsu := Lib.hid (shr_succ x j)
    by_cases hlt : j < 31
    · have hs := shr_mem x j
      rcases Bool.eq_false_or_eq_true (mem x j) with c | c
      · have P := Lib.hid (lsk_push x j c)
        rw [c] at hs
        have H := Lib.hid c
        clear c
        go_wp2_with (at_builtin; refine wpList_append_own _ rfl _ _ 24 rfl w.heap.size 3 i0 (.int .i64 0) 1 8 Tryd.underlying24 hi hz0 hz1 hz2 rfl (by decide) _ _ _ rfl (World.ownsRow.alloc hown _) ⟨wr.heap.size, 0, none⟩ 1 1 [.int .i64 ((j : Int) + 1)] rfl rfl ?c1 ?c2 ?c3 ?c4 ?c5 ?_)
        case c1 => intro i u hu; rcases i with _ | i <;> simp at hu; subst hu; exact (World.cell?_alloc_at _ _ _ _ rfl).trans rfl
        case c2 => intro u hu; simp at hu; subst hu; rfl
        case c3 => unfold maxLen; omega
        case c4 => omega
        case c5 => have := hnx.size; simp; omega
        intro v' w1 hown' hgrow _
        obtain ⟨o', hnx'⟩ := Own.push hnx rfl hown hown' hgrow
        rw [← P.out] at o'
        clear hown' hgrow hown hnx hs
        go_wp2
        go_roundg (30 - j)
        case measure => omega
        case rel => exact ⟨j + 1, by omega, by go_num, by rw [hsu.out], o', hnx'⟩
      · have P := Lib.hid (lsk_skip x j c)
        rw [c] at hs
        have H := Lib.hid c
        clear c
        rw [← P.out] at hown
        go_wp2
        go_roundg (30 - j)
        case measure => omega
        case rel => exact ⟨j + 1, by omega, by go_num, by rw [hsu.out], hown, hnx⟩
    · obtain rfl : j = 31 := by omega
      go_wp2
      go_ret
      exact ⟨_, rfl, hown, hnx⟩
end Go.Proofs.YtfhoonjofphddaaDoor
