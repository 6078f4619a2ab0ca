/- What the document's own answers on frames answer, further: a frame taken once more, or not; all that are taken; two slices of numbers held against each other. Contracts, for any list, in any world. -/
import Derived.Test.YtonackipdjnjdaaDoorFrC
namespace Go.Proofs.YtonackipdjnjdaaDoor
open Go.RowKit
set_option linter.unusedVariables false
theorem ralloc_h (many : Int) (v : Value) (L : List Int) (i base : Nat) (w : World) (h : Own base w v L) (hb : base ≤ w.heap.size) (hl : L.length ≤ 1000000) (hi : (i : Int) < many) (hm : many ≤ 1024) (hn : ∀ j : Nat, j < i → cn L (j : Int) ≠ 0) (hz : cn L (i : Int) = 0) :
    Calls Tryd.prog 15 #[.agg #[.int .i64 many, v]] w (Frm base many (L ++ [(i : Int)]) [.int .i64 i, .int .i64 0] w) := by
  refine (ralloc_hit many v L i w h.ints hl hi hm hn hz).mono ?_
  rintro e w' ⟨v', h1, h2, h3⟩
  exact ⟨v', h1, h2.more hb, h3⟩
set_option maxHeartbeats 2000000 in
theorem ralloc_none (many : Nat) (v : Value) (L : List Int) (base : Nat) (w : World) (h : Own base w v L) (hb : base ≤ w.heap.size) (hl : L.length ≤ 1000000) (hm : many ≤ 1024) (hn : ∀ j : Nat, j < many → cn L (j : Int) ≠ 0) :
    Calls Tryd.prog 15 #[.agg #[.int .i64 many, v]] w (Frm base many L [.int .i64 0, .int .i64 12] w) := by
  have HN := Lib.hid hn
  have HI := Lib.hid h
  obtain ⟨p, ll, cap, rfl⟩ := h.shape
  clear h hn
  go_enter Tryd.func15, Tryd.ntmps15
  go_wp2
  go_loopg [5] many (fun k a wr => ∃ j : Nat, j + k = many ∧ a = .int .i64 (j : Int) ∧ New ((w.alloc (.cells #[.int .i64 many, .slice p ll cap] 40)).alloc (.cells #[.int .i64 0, .slice none 0 0] 40)) wr)
  case atStart => exact ⟨0, by omega, rfl, New.refl _⟩
  case round =>
    obtain ⟨j, hj, rfl, hN⟩ := hrel
    obtain ⟨n0, n1, b0, b1, b2, b3, b4, b5, b6, b7⟩ := hN.box
    have J := Lib.hid hj
    clear hj
    by_cases c : j < many
    · have X := rrefs_n many j (.slice p ll cap) L wr (HI.out.new n0).ints hl
      have d := HN.out j c
      have f : (cn L (j : Int) == 0) = false := by simpa using d
      generalize cn L (j : Int) = x at *
      clear d
      go_wp2_with (go_at_call 18; (with_reducible refine X.mono ?_); rintro e w1 ⟨rfl, hn1⟩; have hN1 := hN.trans hn1)
      go_roundg (many - (j + 1))
      case measure => have := J.out; omega
      case rel => exact ⟨j + 1, by have := J.out; omega, by go_num, hN1⟩
    · have hjl : j = many := by have := J.out; omega
      clear J c
      subst hjl
      go_wp2
      refine bodyPost_ret (v := .tuple #[.agg #[.int .i64 j, .slice p ll cap], .int .i64 0, .int .i64 12]) (by obtain ⟨e1, e2⟩ := pair_set b4 b5 (.int .i64 j) (.slice p ll cap); simp [results, Tryd.results15, go_sem, e1, e2]) rfl ⟨_, rfl, ?_, ?_⟩
      · exact HI.out.new ((n0.setAt _ _ (by omega) _).setAt _ _ (by omega) _)
      · exact (n0.setAt _ _ (by omega) _).setAt _ _ (by omega) _
set_option maxHeartbeats 2000000 in
theorem rref_no (many m : Int) (v : Value) (L : List Int) (base : Nat) (w : World) (h : Own base w v L) (hl : L.length ≤ 1000000) (hz : cn L m = 0) :
    Calls Tryd.prog 16 #[.agg #[.int .i64 many, v], .int .i64 m] w (Frm base many L [.int .i64 22] w) := by
  have HI := Lib.hid h
  obtain ⟨p, ll, cap, rfl⟩ := h.shape
  have X := rrefs_n many m (.slice p ll cap) L ((w.alloc (.cells #[.int .i64 many, .slice p ll cap] 40)).alloc (.cells #[.int .i64 0, .slice none 0 0] 40)) (h.ints.new (((New.refl w).alloc _ _).alloc _ _)) hl
  rw [hz] at X
  clear h hz
  go_enter Tryd.func16, Tryd.ntmps16
  go_wp2_with (go_at_call 18; (with_reducible refine X.mono ?_); rintro e w1 ⟨rfl, hn1⟩; obtain ⟨n0, n1, b0, b1, b2, b3, b4, b5, b6, b7⟩ := hn1.box)
  refine bodyPost_ret (v := .tuple #[.agg #[.int .i64 many, .slice p ll cap], .int .i64 22]) (by obtain ⟨e1, e2⟩ := pair_set b4 b5 (.int .i64 many) (.slice p ll cap); simp [results, Tryd.results16, go_sem, e1, e2]) rfl ⟨_, rfl, ?_, ?_⟩
  · exact HI.out.new ((n0.setAt _ _ (by omega) _).setAt _ _ (by omega) _)
  · exact (n0.setAt _ _ (by omega) _).setAt _ _ (by omega) _
set_option maxHeartbeats 2000000 in
theorem rref_yes (many m : Int) (v : Value) (L : List Int) (base : Nat) (w : World) (h : Own base w v L) (hb : base ≤ w.heap.size) (hl : L.length ≤ 1000000) (hz : cn L m ≠ 0) :
    Calls Tryd.prog 16 #[.agg #[.int .i64 many, v], .int .i64 m] w (Frm base many (L ++ [m]) [.int .i64 0] w) := by
  have f : (cn L m == 0) = false := by simpa using hz
  have hI := h.ints
  obtain ⟨p, cap, rfl, h1, h2, h3⟩ := hI.clip
  have X := rrefs_n many m (.slice p L.length cap) L ((w.alloc (.cells #[.int .i64 many, .slice p L.length cap] 40)).alloc (.cells #[.int .i64 0, .slice none 0 0] 40)) (hI.new (((New.refl w).alloc _ _).alloc _ _)) hl
  unfold maxLen at h2
  generalize cn L m = x at *
  clear h hz hI
  rcases h3 with ⟨rfl, rfl⟩ | ⟨b, rfl, hbl, hbc⟩
  all_goals go_enter Tryd.func16, Tryd.ntmps16
  · have X' : Calls Tryd.prog 18 #[.agg #[.int .i64 many, .slice none 0 cap], .int .i64 m] ((w.alloc (.cells #[.int .i64 many, .slice none 0 cap] 40)).alloc (.cells #[.int .i64 0, .slice none 0 0] 40)) (IntN x ((w.alloc (.cells #[.int .i64 many, .slice none 0 cap] 40)).alloc (.cells #[.int .i64 0, .slice none 0 0] 40))) := X
    clear hl h1 h2 X
    go_wp2_with (first
      | (go_at_call 18; (with_reducible refine X'.mono ?_); rintro e w1 ⟨rfl, hn1⟩; have hM := hn1; obtain ⟨m0, m1, k0, k1, k2, k3, k4, k5, k6, k7⟩ := hM.box; clear X' hn1)
      | (at_builtin; refine wpList_append_clip rfl (.tmp 19) (.tmp 21) rfl rfl w1.heap.size [] none (.inl ⟨rfl, rfl⟩) rfl ⟨w1.heap.size, 0, none⟩ m rfl ?c1 (by simp) ?c2 ?_))
    case c1 => exact World.cell?_alloc_at _ _ _ _ rfl
    case c2 => simp
    intro v' w2 hown hgrow
    obtain ⟨p2, kk, cp2, rfl⟩ := hown.shape
    obtain ⟨n2, s2, q0, q1, f0, f1, q2, q3, f2, f3⟩ := (hM.trans (((New.refl w1).allocO _).grownNone hgrow)).box
    have HO := Lib.hid (((hown.far (p := ⟨w.heap.size, 1, none⟩) (by simp; omega) (.slice p2 kk cp2)).far (p := ⟨w.heap.size + 1, 0, none⟩) (by simp; omega) (.int .i64 many)).far (p := ⟨w.heap.size + 1, 1, none⟩) (by simp; omega) (.slice p2 kk cp2))
    clear k0 k1 k2 k3 k4 k5 k6 k7 hown hgrow hM
    go_wp2
    refine bodyPost_ret (v := .tuple #[.agg #[.int .i64 many, .slice p2 kk cp2], .int .i64 0]) (by obtain ⟨e1, e2⟩ := pair_set2 (i := 1) (v := .slice p2 kk cp2) (by omega : w.heap.size ≠ w.heap.size + 1) q2 q3 (.int .i64 many) (.slice p2 kk cp2); simp [results, Tryd.results16, go_sem, e1, e2]) rfl ⟨_, rfl, ?_, ?_⟩
    · exact HO.out.more (by have := m0.size; omega)
    · exact ((n2.setAt _ _ (by omega) _).setAt _ _ (by omega) _).setAt _ _ (by omega) _
  · have HB := Lib.hid hbc
    clear hbc
    go_wp2_with (first
      | (go_at_call 18; (with_reducible refine X.mono ?_); rintro e w1 ⟨rfl, hn1⟩; have hM := hn1; obtain ⟨m0, m1, k0, k1, k2, k3, k4, k5, k6, k7⟩ := hM.box; clear X hn1)
      | (at_builtin; refine wpList_append_clip rfl (.tmp 19) (.tmp 21) rfl rfl w1.heap.size L (some ⟨b, 0, none⟩) (.inr ⟨b, rfl, ?c0⟩) rfl ⟨w1.heap.size, 0, none⟩ m rfl ?c1 hl ?c2 ?_))
    case c0 => intro i hi; rw [World.cell?_alloc_lt _ _ _ (by have := m0.size; simp; omega), m0.cell (p := ⟨b, i, none⟩) hbl]; exact HB.out i hi
    case c1 => exact World.cell?_alloc_at _ _ _ _ rfl
    case c2 => simp
    intro v' w2 hown hgrow
    obtain ⟨p2, kk, cp2, rfl⟩ := hown.shape
    obtain ⟨n2, s2, q0, q1, f0, f1, q2, q3, f2, f3⟩ := (hM.trans (((New.refl w1).allocO _).grownNone hgrow)).box
    have HO := Lib.hid (((hown.far (p := ⟨w.heap.size, 1, none⟩) (by simp; omega) (.slice p2 kk cp2)).far (p := ⟨w.heap.size + 1, 0, none⟩) (by simp; omega) (.int .i64 many)).far (p := ⟨w.heap.size + 1, 1, none⟩) (by simp; omega) (.slice p2 kk cp2))
    clear k0 k1 k2 k3 k4 k5 k6 k7 hown hgrow hM
    go_wp2
    refine bodyPost_ret (v := .tuple #[.agg #[.int .i64 many, .slice p2 kk cp2], .int .i64 0]) (by obtain ⟨e1, e2⟩ := pair_set2 (i := 1) (v := .slice p2 kk cp2) (by omega : w.heap.size ≠ w.heap.size + 1) q2 q3 (.int .i64 many) (.slice p2 kk cp2); simp [results, Tryd.results16, go_sem, e1, e2]) rfl ⟨_, rfl, ?_, ?_⟩
    · exact HO.out.more (by have := m0.size; omega)
    · exact ((n2.setAt _ _ (by omega) _).setAt _ _ (by omega) _).setAt _ _ (by omega) _

set_option maxHeartbeats 2000000 in
/-- all that the list takes -/
theorem rtaken_any (many : Nat) (v : Value) (L : List Int) (w : World) (h : Ints w v L) (hl : L.length ≤ 1000000) (hm : many ≤ 1024) :
    Calls Tryd.prog 19 #[.agg #[.int .i64 many, v]] w (Lists (ltk L many) w) := by
  obtain ⟨i0, hi, hz0, hz1, hz2⟩ := info_parts int_info
  have HI := Lib.hid h
  obtain ⟨p, cap, rfl⟩ := h.len
  clear h
  go_enter Tryd.func19, Tryd.ntmps19
  go_wp2
  go_loopg [3, 4] many (fun k l i wr => ∃ j : Nat, j + k = many ∧ i = .int .i64 (j : Int) ∧ Own (w.heap.size + 1) wr l (ltk L j) ∧ New (w.alloc (.cells #[.int .i64 many, .slice p L.length cap] 40)) wr)
  case atStart => exact ⟨0, by omega, rfl, Own.nil _ _, New.refl _⟩
  case round =>
    obtain ⟨j, hj, rfl, hown, hN⟩ := hrel
    have hll := ltk_len L j
    have hs := hN.size
    simp only [World.size_alloc] at hs
    have n0 : New w wr := ((New.refl w).alloc _ _).trans hN
    have b0 : wr.cell? ⟨w.heap.size, 0, none⟩ = some (.int .i64 many) := by rw [hN.cell (by simp)]; simp
    have b1 : wr.cell? ⟨w.heap.size, 1, none⟩ = some (.slice p L.length cap) := by rw [hN.cell (by simp)]; simp
    have J := Lib.hid hj
    clear hj
    by_cases c : j < many
    · have X := rrefs_n many j (.slice p L.length cap) L wr (HI.out.new n0) hl
      have cb := cn_bd L (j : Int)
      by_cases d : 0 < cn L (j : Int)
      · have P := Lib.hid (ltk_push L j d)
        generalize cn L (j : Int) = x at *
        go_wp2_with (first
          | (go_at_call 18; (with_reducible refine X.mono ?_); rintro e w1 ⟨rfl, hn1⟩; have hN1 := hN.trans hn1; have hown1 := hown.new hn1; have hn01 := n0.trans hn1)
          | (at_builtin; refine wpList_append_own _ rfl _ _ 34 rfl (w.heap.size + 1) 3 i0 (.int .i64 0) 1 8 Tryd.underlying34 hi hz0 hz1 hz2 rfl (by decide) _ _ _ rfl (World.ownsRow.alloc hown1 _) ⟨w1.heap.size, 0, none⟩ 1 1 [.int .i64 (j : Int)] rfl rfl ?c1 ?c2 ?c3 ?c4 ?c5 ?_))
        try (case c1 => intro i u hu; rcases i with _ | i <;> simp at hu; subst hu; exact (World.cell?_alloc_at _ _ _ _ rfl).trans rfl)
        case c2 => first | rfl | (intro u hu; simp at hu; subst hu; rfl)
        case c3 => unfold maxLen; omega
        case c4 => omega
        case c5 => have := hN1.size; simp at this ⊢; omega
        intro v' w2 hown' hgrow _
        obtain ⟨o', hN2⟩ := Own.push hN1 (by simp) hown1 hown' hgrow
        rw [← P.out] at o'
        clear hown' hgrow hown hown1
        go_wp2
        go_roundg (many - (j + 1))
        case measure => have := J.out; omega
        case rel => exact ⟨j + 1, by have := J.out; omega, by go_num, o', hN2⟩
      · have P := Lib.hid (ltk_skip L j d)
        rw [← P.out] at hown
        rw [show cn L (j : Int) = 0 from by omega] at X
        clear cb d
        go_wp2_with (go_at_call 18; (with_reducible refine X.mono ?_); rintro e w1 ⟨rfl, hn1⟩; have hN1 := hN.trans hn1; have hown1 := hown.new hn1)
        go_roundg (many - (j + 1))
        case measure => have := J.out; omega
        case rel => exact ⟨j + 1, by have := J.out; omega, by go_num, hown1, hN1⟩
    · have hjl : j = many := by have := J.out; omega
      clear J c
      subst hjl
      go_wp2
      go_ret
      exact ⟨_, rfl, hown.more (by omega), n0⟩
end Go.Proofs.YtonackipdjnjdaaDoor
