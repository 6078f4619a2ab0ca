/- What the document's own answers on frames answer, further: a frame taken once more, or not; all that are taken; two slices of numbers held against each other. Contracts, for any list, in any world. -/
import Derived.Test.YtajhlmiobibhjaaDoorFrC
namespace Go.Proofs.YtajhlmiobibhjaaDoor
open Go.RowKit
set_option linter.unusedVariables false
theorem ralloc_h (many : Int) (v : Value) (L : List Int) (i base : Nat) (w : World) (h : Own base w v L) (hb : base ≤ w.heap.size) (hl : L.length ≤ 1000000) (hi : (i : Int) < many) (hm : many ≤ 1024) (hn : ∀ j : Nat, j < i → cn L (j : Int) ≠ 0) (hz : cn L (i : Int) = 0) :
    Calls Tryd.prog 17 #[.agg #[.int .i64 many, v]] w (Frm base many (L ++ [(i : Int)]) [.int .i64 i, .int .i64 0] w) := by
  refine (ralloc_hit many v L i w h.ints hl hi hm hn hz).mono ?_
  rintro e w' ⟨v', h1, h2, h3⟩
  exact ⟨v', h1, h2.more hb, h3⟩
set_option maxHeartbeats 2000000 in
theorem ralloc_none (many : Nat) (v : Value) (L : List Int) (base : Nat) (w : World) (h : Own base w v L) (hb : base ≤ w.heap.size) (hl : L.length ≤ 1000000) (hm : many ≤ 1024) (hn : ∀ j : Nat, j < many → cn L (j : Int) ≠ 0) :
    Calls Tryd.prog 17 #[.agg #[.int .i64 many, v]] w (Frm base many L [.int .i64 0, .int .i64 12] w) := by
  have HN := Lib.hid hn
  have HI := Lib.hid h
  obtain ⟨p, ll, cap, rfl⟩ := h.shape
  clear h hn
  go_enter Tryd.func17, Tryd.ntmps17
  go_wp2
  go_loopg [5] many (fun k a wr => ∃ j : Nat, j + k = many ∧ a = .int .i64 (j : Int) ∧ New ((w.alloc (.cells #[.int .i64 many, .slice p ll cap] 49)).alloc (.cells #[.int .i64 0, .slice none 0 0] 49)) wr)
  case atStart => exact ⟨0, by omega, rfl, New.refl _⟩
  case round =>
    obtain ⟨j, hj, rfl, hN⟩ := hrel
    obtain ⟨n0, n1, b0, b1, b2, b3, b4, b5, b6, b7⟩ := hN.box
    have J := Lib.hid hj
    clear hj
    by_cases c : j < many
    · have X := rrefs_n many j (.slice p ll cap) L wr (HI.out.new n0).ints hl
      have d := HN.out j c
      have f : (cn L (j : Int) == 0) = false := by simpa using d
      generalize cn L (j : Int) = x at *
      clear d
      go_wp2_with (go_at_call 42; (with_reducible refine X.mono ?_); rintro e w1 ⟨rfl, hn1⟩; have hN1 := hN.trans hn1)
      go_roundg (many - (j + 1))
      case measure => have := J.out; omega
      case rel => exact ⟨j + 1, by have := J.out; omega, by go_num, hN1⟩
    · have hjl : j = many := by have := J.out; omega
      clear J c
      subst hjl
      go_wp2
      refine bodyPost_ret (v := .tuple #[.agg #[.int .i64 j, .slice p ll cap], .int .i64 0, .int .i64 12]) (by obtain ⟨e1, e2⟩ := pair_set b4 b5 (.int .i64 j) (.slice p ll cap); simp [results, Tryd.results17, go_sem, e1, e2]) rfl ⟨_, rfl, ?_, ?_⟩
      · exact HI.out.new ((n0.setAt _ _ (by omega) _).setAt _ _ (by omega) _)
      · exact (n0.setAt _ _ (by omega) _).setAt _ _ (by omega) _
set_option maxHeartbeats 2000000 in
/-- all that the list takes -/
theorem rtaken_any (many : Nat) (v : Value) (L : List Int) (w : World) (h : Ints w v L) (hl : L.length ≤ 1000000) (hm : many ≤ 1024) :
    Calls Tryd.prog 23 #[.agg #[.int .i64 many, v]] w (Lists (ltk L many) w) := by
  obtain ⟨i0, hi, hz0, hz1, hz2⟩ := info_parts int_info
  have HI := Lib.hid h
  obtain ⟨p, cap, rfl⟩ := h.len
  clear h
  go_enter Tryd.func23, Tryd.ntmps23
  go_wp2
  go_loopg [3, 4] many (fun k l i wr => ∃ j : Nat, j + k = many ∧ i = .int .i64 (j : Int) ∧ Own (w.heap.size + 1) wr l (ltk L j) ∧ New (w.alloc (.cells #[.int .i64 many, .slice p L.length cap] 49)) wr)
  case atStart => exact ⟨0, by omega, rfl, Own.nil _ _, New.refl _⟩
  case round =>
    obtain ⟨j, hj, rfl, hown, hN⟩ := hrel
    have hll := ltk_len L j
    have hs := hN.size
    simp only [World.size_alloc] at hs
    have n0 : New w wr := ((New.refl w).alloc _ _).trans hN
    have b0 : wr.cell? ⟨w.heap.size, 0, none⟩ = some (.int .i64 many) := by rw [hN.cell (by simp)]; simp
    have b1 : wr.cell? ⟨w.heap.size, 1, none⟩ = some (.slice p L.length cap) := by rw [hN.cell (by simp)]; simp
    have J := Lib.hid hj
    clear hj
    by_cases c : j < many
    · have X := rrefs_n many j (.slice p L.length cap) L wr (HI.out.new n0) hl
      have cb := cn_bd L (j : Int)
      by_cases d : 0 < cn L (j : Int)
      · have P := Lib.hid (ltk_push L j d)
        generalize cn L (j : Int) = x at *
        go_wp2_with (first
          | (go_at_call 42; (with_reducible refine X.mono ?_); rintro e w1 ⟨rfl, hn1⟩; have hN1 := hN.trans hn1; have hown1 := hown.new hn1; have hn01 := n0.trans hn1)
          | (at_builtin; refine wpList_append_own _ rfl _ _ 33 rfl (w.heap.size + 1) 3 i0 (.int .i64 0) 1 8 Tryd.underlying33 hi hz0 hz1 hz2 rfl (by decide) _ _ _ rfl (World.ownsRow.alloc hown1 _) ⟨w1.heap.size, 0, none⟩ 1 1 [.int .i64 (j : Int)] rfl rfl ?c1 ?c2 ?c3 ?c4 ?c5 ?_))
        try (case c1 => intro i u hu; rcases i with _ | i <;> simp at hu; subst hu; exact (World.cell?_alloc_at _ _ _ _ rfl).trans rfl)
        case c2 => first | rfl | (intro u hu; simp at hu; subst hu; rfl)
        case c3 => unfold maxLen; omega
        case c4 => omega
        case c5 => have := hN1.size; simp at this ⊢; omega
        intro v' w2 hown' hgrow _
        obtain ⟨o', hN2⟩ := Own.push hN1 (by simp) hown1 hown' hgrow
        rw [← P.out] at o'
        clear hown' hgrow hown hown1
        go_wp2
        go_roundg (many - (j + 1))
        case measure => have := J.out; omega
        case rel => exact ⟨j + 1, by have := J.out; omega, by go_num, o', hN2⟩
      · have P := Lib.hid (ltk_skip L j d)
        rw [← P.out] at hown
        rw [show cn L (j : Int) = 0 from by omega] at X
        clear cb d
        go_wp2_with (go_at_call 42; (with_reducible refine X.mono ?_); rintro e w1 ⟨rfl, hn1⟩; have hN1 := hN.trans hn1; have hown1 := hown.new hn1)
        go_roundg (many - (j + 1))
        case measure => have := J.out; omega
        case rel => exact ⟨j + 1, by have := J.out; omega, by go_num, hown1, hN1⟩
    · have hjl : j = many := by have := J.out; omega
      clear J c
      subst hjl
      go_wp2
      go_ret
      exact ⟨_, rfl, hown.more (by omega), n0⟩
end Go.Proofs.YtajhlmiobibhjaaDoor
