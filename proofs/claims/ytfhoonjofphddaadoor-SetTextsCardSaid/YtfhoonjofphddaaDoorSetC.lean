/- What the document's own answers make of a list of signals: its number; with a signal more, or less; is one in it. Contracts, for all sets and all slices of numbers, in any world. -/
import Derived.Test.YtfhoonjofphddaaDoorSetB
import Derived.Deep.DeepCutAuto
import Derived.Deep.CutBlock
namespace Go.Proofs.YtfhoonjofphddaaDoor
open Go.RowKit
set_option linter.unusedVariables false
theorem of_nil (w : World) : Calls Tryd.prog 15 #[.slice none 0 0] w fun e w' => e = .returned (.int .u32 (ofL [])) ∧ w = w' := by
  go_enter Tryd.func15, Tryd.ntmps15
  go_wp2
  go_loopg [3, 4] 31 (fun k s n wr => ∃ j : Nat, j + k = 31 ∧ n = .int .i64 (31 - (j : Int)) ∧ s = .int .u32 (hor [] j) ∧ w = wr)
  case atStart => exact ⟨0, rfl, rfl, rfl, rfl⟩
  case round =>
    obtain ⟨j, hj, rfl, rfl, rfl⟩ := hrel
    by_cases hlt : j < 31
    · have hb := hor_dbl [] j hlt
      have M := Lib.hid (hor_miss [] j (by simp))
      have J := Lib.hid hj
      clear hj
      go_wp2
      refine wp_loop_rounds 1 ?_
      rw [rounds_succ]
      go_wp2
      go_roundg (30 - j)
      case measure => have := J.out; omega
      case rel => exact ⟨j + 1, by have := J.out; omega, by go_num, by rw [M.out], rfl⟩
    · obtain rfl : j = 31 := by omega
      go_wp2
      go_ret
      exact ⟨rfl, rfl⟩
theorem getD_mem {l : List Int} {i : Nat} (h : i < l.length) {n : Int} (e : l.getD i 0 = n) : n ∈ l := by
  rw [List.getD_eq_getElem?_getD, List.getElem?_eq_getElem h] at e
  rw [← e]; exact List.getElem_mem h
theorem not_mem_of {l : List Int} {n : Int} (h : ∀ m, m < l.length → l.getD m 0 ≠ n) : ¬ n ∈ l := by
  intro c
  obtain ⟨m, hm, e⟩ := List.getElem_of_mem c
  exact h m hm (by rw [List.getD_eq_getElem?_getD, List.getElem?_eq_getElem hm]; exact e)
def Before (l : List Int) (n : Int) (i : Nat) : Prop := ∀ m, m < i → l.getD m 0 ≠ n
theorem Before.zero (l : List Int) (n : Int) : Before l n 0 := fun m h => by omega
theorem Before.succ {l : List Int} {n : Int} {i : Nat} (h : Before l n i) (e : l.getD i 0 ≠ n) : Before l n (i + 1) := by
  intro m hm
  by_cases c : m = i
  · subst c; exact e
  · exact h m (by omega)
set_option maxHeartbeats 1000000 in
theorem of_some (b o cap : Nat) (l : List Int) (w : World) (hl : l.length ≤ cap) (hm : cap ≤ maxLen)
    (hc : ∀ i, i < l.length → w.cell? ⟨b, o + i, none⟩ = some (.int .i64 (l.getD i 0))) :
    Calls Tryd.prog 15 #[.slice (some ⟨b, o, none⟩) l.length cap] w fun e w' => e = .returned (.int .u32 (ofL l)) ∧ w = w' := by
  unfold maxLen at hm
  have HC := Lib.hid hc
  clear hc
  go_enter Tryd.func15, Tryd.ntmps15
  go_wp2
  go_loopg [3, 4] 31 (fun k s n wr => ∃ j : Nat, j + k = 31 ∧ n = .int .i64 (31 - (j : Int)) ∧ s = .int .u32 (hor l j) ∧ w = wr)
  case atStart => exact ⟨0, rfl, rfl, rfl, rfl⟩
  case round =>
    obtain ⟨j, hj, rfl, rfl, rfl⟩ := hrel
    by_cases hlt : j < 31
    · have hb := hor_dbl l j hlt
      have J := Lib.hid hj
      clear hj
      go_wp2
      go_loopg [3, 5] l.length (fun k s i wr => ∃ m : Nat, m + k = l.length ∧ i = .int .i64 (m : Int) ∧ s = .int .u32 (2 * hor l j) ∧ Before l (31 - (j : Int)) m ∧ w = wr)
      case atStart => exact ⟨0, by simp, rfl, rfl, Before.zero _ _, rfl⟩
      case round =>
        obtain ⟨m, hk, rfl, rfl, hbf, rfl⟩ := hrel
        by_cases hm2 : m < l.length
        · have hcell := HC.out m hm2
          have K := Lib.hid hk
          clear hk
          by_cases d : l.getD m 0 = 31 - (j : Int)
          · have H := Lib.hid (hor_hit l j (getD_mem hm2 d))
            rw [d] at hcell
            clear d
            go_wp2
            go_roundg (30 - j)
            case measure => have := J.out; omega
            case rel => exact ⟨j + 1, by have := J.out; omega, by go_num, by rw [H.out], rfl⟩
          · have hbf' := hbf.succ d
            have f : (l.getD m 0 == 31 - (j : Int)) = false := by simpa using d
            generalize l.getD m 0 = x at hcell f
            clear d hbf
            go_wp2
            go_roundg (l.length - (m + 1))
            case measure => have := K.out; omega
            case rel => exact ⟨m + 1, by have := K.out; omega, by go_num, rfl, hbf', rfl⟩
        · obtain rfl : m = l.length := by omega
          have M := Lib.hid (hor_miss l j (not_mem_of hbf))
          clear hbf hk hm2
          go_wp2
          go_roundg (30 - j)
          case measure => have := J.out; omega
          case rel => exact ⟨j + 1, by have := J.out; omega, by go_num, by rw [M.out], rfl⟩
    · obtain rfl : j = 31 := by omega
      go_wp2
      go_ret
      exact ⟨rfl, rfl⟩
theorem of_any (v : Value) (l : List Int) (w : World) (h : Ints w v l) :
    Calls Tryd.prog 15 #[v] w fun e w' => e = .returned (.int .u32 (ofL l)) ∧ w = w' := by
  rcases h with ⟨rfl, rfl⟩ | ⟨b, o, cap, rfl, h1, h2, h3, h4⟩
  · exact of_nil w
  · exact of_some b o cap l w h1 h2 h4
/-- a number, and only new blocks -/
def U32N (n : Int) (w : World) (e : Ending) (w' : World) : Prop := e = .returned (.int .u32 n) ∧ New w w'
set_option maxHeartbeats 1000000 in
theorem radd_any (x n : Int) (w : World) (h : 0 ≤ x) (h' : x ≤ 4294967295) :
    Calls Tryd.prog 9 #[.int .u32 x, .int .i64 n] w (U32N (addS x n) w) := by
  obtain ⟨i0, hi, hz0, hz1, hz2⟩ := info_parts int_info
  have E := Lib.hid (ofL_add x n h)
  have hl := lst_len x
  go_enter Tryd.func9, Tryd.ntmps9
  go_wp2_with fail
  refine (rlist_any x _ h h').mono ?_
  rintro e w1 ⟨v, rfl, hown, hnx⟩
  go_wp2_with (at_builtin; refine wpList_append_own _ rfl _ _ 24 rfl w.heap.size 3 i0 (.int .i64 0) 1 8 Tryd.underlying24 hi hz0 hz1 hz2 rfl (by decide) _ _ _ rfl (World.ownsRow.alloc hown _) ⟨w1.heap.size, 0, none⟩ 1 1 [.int .i64 n] rfl rfl ?c1 ?c2 ?c3 ?c4 ?c5 ?_)
  case c1 => intro i u hu; rcases i with _ | i <;> simp at hu; subst hu; exact (World.cell?_alloc_at _ _ _ _ rfl).trans rfl
  case c2 => intro u hu; simp at hu; subst hu; rfl
  case c3 => unfold maxLen; omega
  case c4 => omega
  case c5 => have := hnx.size; simp; omega
  intro v' w2 hown' hgrow _
  obtain ⟨o', hnx'⟩ := Own.push hnx rfl hown hown' hgrow
  clear hown' hgrow hown hnx
  go_wp2_with ((with_reducible refine (of_any _ _ _ o'.ints).mono ?_); rintro e w3 ⟨rfl, rfl⟩)
  go_ret
  exact ⟨ret_int (by rw [E.out]), hnx'⟩
theorem take_snoc_int (l : List Int) (k : Nat) (h : k < l.length) : l.take (k + 1) = l.take k ++ [l.getD k 0] := by
  rw [List.take_add_one, List.getElem?_eq_getElem h, List.getD_eq_getElem?_getD, List.getElem?_eq_getElem h]; rfl
theorem filt_push (l : List Int) (n : Int) (k : Nat) (h : k < l.length) (c : l.getD k 0 ≠ n) : (l.take (k + 1)).filter (· != n) = (l.take k).filter (· != n) ++ [l.getD k 0] := by
  rw [take_snoc_int l k h, List.filter_append]; congr 1; simpa using c
theorem filt_skip (l : List Int) (n : Int) (k : Nat) (h : k < l.length) (c : l.getD k 0 = n) : (l.take (k + 1)).filter (· != n) = (l.take k).filter (· != n) := by
  rw [take_snoc_int l k h, List.filter_append, c]; simp
theorem filt_len (l : List Int) (n : Int) (k : Nat) : ((l.take k).filter (· != n)).length ≤ l.length :=
  Nat.le_trans (List.length_filter_le _ _) (by rw [List.length_take]; omega)
set_option maxHeartbeats 2000000 in
theorem rdel_any (x n : Int) (w : World) (h : 0 ≤ x) (h' : x ≤ 4294967295) :
    Calls Tryd.prog 11 #[.int .u32 x, .int .i64 n] w (U32N (delS x n) w) := by
  obtain ⟨i0, hi, hz0, hz1, hz2⟩ := info_parts int_info
  have E := Lib.hid (ofL_del x n h)
  have hl := lst_len x
  go_enter Tryd.func11, Tryd.ntmps11
  go_wp2_with fail
  refine (rlist_any x _ h h').mono ?_
  rintro e w1 ⟨v, rfl, hown, hnx⟩
  have hI := hown.ints
  clear hown
  generalize hL : lst x = l at *
  have HL := Lib.hid hL
  clear hL
  rcases hI with ⟨rfl, rfl⟩ | ⟨b, o, cap, rfl, h1, h2, h3, h4⟩
  · go_wp2_with fail
    refine wp_loop_rounds 1 ?_
    rw [rounds_succ]
    go_wp2_with ((with_reducible refine (of_nil _).mono ?_); rintro e w3 ⟨rfl, rfl⟩)
    go_ret
    exact ⟨ret_int E.out, hnx⟩
  · unfold maxLen at h2
    have HC := Lib.hid h4
    clear h4
    go_wp2_with fail
    go_loopg [6, 7] l.length (fun k out i wr => ∃ j : Nat, j + k = l.length ∧ i = .int .i64 (j : Int) ∧ Own w1.heap.size wr out ((l.take j).filter (· != n)) ∧ New w1 wr)
    case atStart => exact ⟨0, by simp, rfl, Own.nil _ _, New.refl _⟩
    case round =>
      obtain ⟨j, hj, rfl, hown, hnx2⟩ := hrel
      by_cases hlt : j < l.length
      · have hcell := HC.out j hlt
        rw [← hnx2.cell (p := ⟨b, o + j, none⟩) h3] at hcell
        have hfl := filt_len l n j
        by_cases d : l.getD j 0 = n
        · have P := Lib.hid (filt_skip l n j hlt d)
          rw [d] at hcell
          rw [← P.out] at hown
          have J := Lib.hid hj
          clear d hj
          go_wp2_with fail
          go_roundg (l.length - (j + 1))
          case measure => have := J.out; omega
          case rel => exact ⟨j + 1, by have := J.out; omega, by go_num, hown, hnx2⟩
        · have P := Lib.hid (filt_push l n j hlt d)
          have f : (l.getD j 0 != n) = true := by simpa using d
          generalize l.getD j 0 = y at hcell f P
          have J := Lib.hid hj
          clear d hj
          go_wp2_with (at_builtin; refine wpList_append_own _ rfl _ _ 24 rfl w1.heap.size 3 i0 (.int .i64 0) 1 8 Tryd.underlying24 hi hz0 hz1 hz2 rfl (by decide) _ _ _ rfl (World.ownsRow.alloc hown _) ⟨wr.heap.size, 0, none⟩ 1 1 [.int .i64 y] rfl rfl ?c1 ?c2 ?c3 ?c4 ?c5 ?_)
          try (case c1 => intro i u hu; rcases i with _ | i <;> simp at hu; subst hu; exact (World.cell?_alloc_at _ _ _ _ rfl).trans rfl)
          case c2 => first | rfl | (intro u hu; simp at hu; subst hu; rfl)
          case c3 => unfold maxLen; omega
          case c4 => omega
          case c5 => have := hnx2.size; simp; omega
          intro v' w2 hown' hgrow _
          obtain ⟨o', hnx'⟩ := Own.push hnx2 rfl hown hown' hgrow
          rw [← P.out] at o'
          clear hown' hgrow hown hnx2 hcell
          go_wp2_with fail
          go_roundg (l.length - (j + 1))
          case measure => have := J.out; omega
          case rel => exact ⟨j + 1, by have := J.out; omega, by go_num, o', hnx'⟩
      · have hjl : j = l.length := by omega
        subst hjl
        have T := Lib.hid (show l.take l.length = l from List.take_length)
        clear hj hlt
        go_wp2_with ((with_reducible refine (of_any _ _ _ hown.ints).mono ?_); rintro e w3 ⟨rfl, rfl⟩)
        go_ret
        exact ⟨ret_int (by first | exact E.out | rw [T.out, E.out]), hnx.trans hnx2⟩
/-- a bool, and only new blocks -/
def BoolN (c : Bool) (w : World) (e : Ending) (w' : World) : Prop := e = .returned (.bool c) ∧ New w w'
set_option maxHeartbeats 1000000 in
theorem rhas_any (x n : Int) (w : World) (h : 0 ≤ x) (h' : x ≤ 4294967295) :
    Calls Tryd.prog 13 #[.int .u32 x, .int .i64 n] w (BoolN (hasS x n) w) := by
  have hl := lst_len x
  have M := Lib.hid (lst_mem x n)
  go_enter Tryd.func13, Tryd.ntmps13
  go_wp2_with fail
  refine (rlist_any x _ h h').mono ?_
  rintro e w1 ⟨v, rfl, hown, hnx⟩
  have hI := hown.ints
  clear hown
  generalize lst x = l at *
  rcases hI with ⟨rfl, rfl⟩ | ⟨b, o, cap, rfl, h1, h2, h3, h4⟩
  · go_wp2_with fail
    refine wp_loop_rounds 1 ?_
    rw [rounds_succ]
    go_wp2
    go_ret
    exact ⟨ret_bool (by have := M.out; simp at this; exact this.symm), hnx⟩
  · unfold maxLen at h2
    have HC := Lib.hid h4
    clear h4
    go_wp2_with fail
    go_loopg [6] l.length (fun k i wr => ∃ j : Nat, j + k = l.length ∧ i = .int .i64 (j : Int) ∧ Before l n j ∧ w1 = wr)
    case atStart => exact ⟨0, by simp, rfl, Before.zero _ _, rfl⟩
    case round =>
      obtain ⟨j, hj, rfl, hbf, rfl⟩ := hrel
      by_cases hlt : j < l.length
      · have hcell := HC.out j hlt
        by_cases d : l.getD j 0 = n
        · have P := Lib.hid (M.out.1 (getD_mem hlt d))
          rw [d] at hcell
          clear d hj hbf
          go_wp2
          go_ret
          exact ⟨ret_bool P.out.symm, hnx⟩
        · have hbf' := hbf.succ d
          have f : (l.getD j 0 == n) = false := by simpa using d
          generalize l.getD j 0 = y at hcell f
          have J := Lib.hid hj
          clear d hj hbf
          go_wp2
          go_roundg (l.length - (j + 1))
          case measure => have := J.out; omega
          case rel => exact ⟨j + 1, by have := J.out; omega, by go_num, hbf', rfl⟩
      · have hjl : j = l.length := by omega
        subst hjl
        have nm := not_mem_of hbf
        have P := Lib.hid (show hasS x n = false from by
          rcases Bool.eq_false_or_eq_true (hasS x n) with k | k
          · exact absurd (M.out.2 k) nm
          · exact k)
        clear hj hlt hbf nm
        go_wp2
        go_ret
        exact ⟨ret_bool P.out.symm, hnx⟩
end Go.Proofs.YtfhoonjofphddaaDoor
