/- What the document's own answer on a frame that is given back answers; two slices of numbers that are the same. Contracts, for any list, in any world. -/
import Derived.Test.YtajhlmiobibhjaaDoorFrC
namespace Go.Proofs.YtajhlmiobibhjaaDoor
open Go.RowKit
set_option linter.unusedVariables false
theorem runref_none (many m : Int) (v : Value) (L : List Int) (base : Nat) (w : World) (h : Own base w v L) (hl : L.length ≤ 1000000) (hz : Before L m L.length) :
    Calls Tryd.prog 44 #[.agg #[.int .i64 many, v], .int .i64 m] w (Frm base many L [.bool false, .int .i64 22] w) := by
  have HI := Lib.hid h
  have HZ := Lib.hid hz
  obtain ⟨p, cap, rfl, h1, h2, h3⟩ := h.ints.clip
  have H3 := Lib.hid h3
  unfold maxLen at h2
  clear h h3 hz
  go_enter Tryd.func44, Tryd.ntmps44
  go_wp2
  go_loopg [7] L.length (fun k a wr => ∃ j : Nat, j + k = L.length ∧ a = .int .i64 (j : Int) ∧ ((w.alloc (.cells #[.int .i64 many, .slice p L.length cap] 49)).alloc (.cells #[.int .i64 0, .slice none 0 0] 49)) = wr)
  case atStart => exact ⟨0, by omega, rfl, rfl⟩
  case round =>
    obtain ⟨j, hj, rfl, rfl⟩ := hrel
    have J := Lib.hid hj
    clear hj
    by_cases c : j < L.length
    · have d := HZ.out j c
      rcases H3.out with ⟨rfl, rfl⟩ | ⟨b, rfl, hbl, hbc⟩
      · simp at c
      have hcell := hbc j c
      clear hbc
      have f : (L.getD j 0 == m) = false := by simpa using d
      generalize L.getD j 0 = x at *
      clear d
      go_wp2
      go_roundg (L.length - (j + 1))
      case measure => have := J.out; omega
      case rel => exact ⟨j + 1, by have := J.out; omega, by go_num, rfl⟩
    · have hjl : j = L.length := by have := J.out; omega
      clear J c
      subst hjl
      obtain ⟨n0, n1, b0, b1, b2, b3, b4, b5, b6, b7⟩ := (New.refl ((w.alloc (.cells #[.int .i64 many, .slice p L.length cap] 49)).alloc (.cells #[.int .i64 0, .slice none 0 0] 49))).box
      generalize ((w.alloc (.cells #[.int .i64 many, .slice p L.length cap] 49)).alloc (.cells #[.int .i64 0, .slice none 0 0] 49)) = w1 at *
      go_wp2
      refine bodyPost_ret (v := .tuple #[.agg #[.int .i64 many, .slice p L.length cap], .bool false, .int .i64 22]) (by obtain ⟨e1, e2⟩ := pair_set b4 b5 (.int .i64 many) (.slice p L.length cap); simp [results, Tryd.results44, go_sem, e1, e2]) rfl ⟨_, rfl, ?_, ?_⟩
      · exact HI.out.new ((n0.setAt _ _ (by omega) _).setAt _ _ (by omega) _)
      · exact (n0.setAt _ _ (by omega) _).setAt _ _ (by omega) _

theorem Own.grown1 {base : Nat} {w' : World} {v : Value} {l : List Int} {k : Nat} (h : w'.ownsRow base 3 1 v k (l.map (Value.int .i64))) (e : k = l.length) : Own base w' v l := by subst e; exact h
theorem part_cells {w : World} {b o : Nat} {l : List Int} (h : ∀ i, i < l.length → w.cell? ⟨b, o + i, none⟩ = some (.int .i64 (l.getD i 0))) :
    ∀ j u, (l.map (Value.int .i64))[j]? = some u → w.cell? ((⟨b, o, none⟩ : Addr).add j) = some u := by
  intro j v hv
  rw [List.getElem?_map] at hv
  rcases hj : l[j]? with _ | y
  · rw [hj] at hv; cases hv
  · rw [hj] at hv
    have hjl : j < l.length := by
      rcases Nat.lt_or_ge j l.length with k | k
      · exact k
      · rw [List.getElem?_eq_none k] at hj; cases hj
    have e := h j hjl
    rw [List.getD_eq_getElem?_getD, hj] at e
    have hadd : (⟨b, o, none⟩ : Addr).add j = ⟨b, o + j, none⟩ := by unfold Addr.add; split <;> simp_all
    rw [hadd, e]
    simpa using hv
theorem take_cells {w : World} {b i : Nat} {L : List Int} (hi : i ≤ L.length) (h : ∀ i, i < L.length → w.cell? ⟨b, i, none⟩ = some (.int .i64 (L.getD i 0))) :
    ∀ j u, ((L.take i).map (Value.int .i64))[j]? = some u → w.cell? ((⟨b, 0, none⟩ : Addr).add j) = some u := by
  refine part_cells fun j hj => ?_
  rw [List.length_take] at hj
  rw [Nat.zero_add, h j (by omega)]
  simp [List.getD_eq_getElem?_getD, List.getElem?_take_of_lt (show j < i by omega)]
theorem drop_cells {w : World} {b i : Nat} {L : List Int} (h : ∀ i, i < L.length → w.cell? ⟨b, i, none⟩ = some (.int .i64 (L.getD i 0))) :
    ∀ j u, ((L.drop i).map (Value.int .i64))[j]? = some u → w.cell? ((⟨b, i, none⟩ : Addr).add j) = some u := by
  refine part_cells fun j hj => ?_
  rw [List.length_drop] at hj
  rw [h (i + j) (by omega)]
  simp [List.getD_eq_getElem?_getD]
theorem one_cells (l : List Int) : ∀ u ∈ l.map (Value.int .i64), u.oneCell' = true := by
  intro u hu
  obtain ⟨n, _, rfl⟩ := List.mem_map.1 hu
  rfl
set_option maxHeartbeats 2000000 in
set_option maxRecDepth 20000 in
theorem runref_hit (many m : Int) (v : Value) (L : List Int) (i base : Nat) (w : World) (h : Own base w v L) (hb : base ≤ w.heap.size) (hl : L.length ≤ 1000000) (hi : i < L.length) (hn : Before L m i) (hz : L.getD i 0 = m) :
    Calls Tryd.prog 44 #[.agg #[.int .i64 many, v], .int .i64 m] w (Frm base many (L.take i ++ L.drop (i + 1)) [.bool (cn (L.take i ++ L.drop (i + 1)) m == 0), .int .i64 0] w) := by
  obtain ⟨i0, hi0, hz0, hz1, hz2⟩ := info_parts int_info
  have HN := Lib.hid hn
  have HZ := Lib.hid hz
  obtain ⟨p, cap, rfl, h1, h2, h3⟩ := h.ints.clip
  unfold maxLen at h2
  clear h hz hn
  have hLl : (L.take i ++ L.drop (i + 1)).length ≤ 1000000 := by simp; omega
  generalize hLL : L.take i ++ L.drop (i + 1) = LL at *
  have HL := Lib.hid hLL
  clear hLL
  generalize hXX : (cn LL m == 0) = xx at *
  have HX := Lib.hid hXX
  clear hXX
  rcases h3 with ⟨rfl, rfl⟩ | ⟨b, rfl, hbl, hbc⟩
  · simp at hi
  have HB := Lib.hid hbc
  clear hbc
  go_enter Tryd.func44, Tryd.ntmps44
  go_wp2
  go_loopg [7] (i + 1) (fun k a wr => ∃ j : Nat, j + k = i + 1 ∧ j ≤ i ∧ a = .int .i64 (j : Int) ∧ ((w.alloc (.cells #[.int .i64 many, .slice (some ⟨b, 0, none⟩) L.length cap] 49)).alloc (.cells #[.int .i64 0, .slice none 0 0] 49)) = wr)
  case atStart => exact ⟨0, by omega, by omega, rfl, rfl⟩
  case round =>
    obtain ⟨j, hj, hji, rfl, rfl⟩ := hrel
    have J := Lib.hid hj
    clear hj
    have hcell := HB.out j (by omega)
    have hjl : j < L.length := by omega
    by_cases c : j = i
    · subst c
      clear J hjl
      rw [HZ.out] at hcell
      obtain ⟨n0, n1, b0, b1, b2, b3, b4, b5, b6, b7⟩ := (New.refl ((w.alloc (.cells #[.int .i64 many, .slice (some ⟨b, 0, none⟩) L.length cap] 49)).alloc (.cells #[.int .i64 0, .slice none 0 0] 49))).box
      have hM := New.refl ((w.alloc (.cells #[.int .i64 many, .slice (some ⟨b, 0, none⟩) L.length cap] 49)).alloc (.cells #[.int .i64 0, .slice none 0 0] 49))
      generalize hW : ((w.alloc (.cells #[.int .i64 many, .slice (some ⟨b, 0, none⟩) L.length cap] 49)).alloc (.cells #[.int .i64 0, .slice none 0 0] 49)) = w1 at *
      have HW := Lib.hid hW
      clear hW
      rw [← n0.cell (p := ⟨b, j, none⟩) hbl] at hcell
      have T0 := Lib.hid (List.length_take_of_le (show j ≤ L.length by omega))
      go_wp2_with (at_builtin; refine wpList_append_own _ rfl _ _ 33 rfl w1.heap.size 3 i0 (.int .i64 0) 1 8 Tryd.underlying33 hi0 hz0 hz1 hz2 rfl (by decide) (.slice none 0 0) 0 [] rfl (World.ownsRow_nil w1 _ _ 1) ⟨b, 0, none⟩ j cap ((L.take j).map (Value.int .i64)) rfl ?c1 ?c2 ?c3 ?c4 ?c5 ?c6 ?_)
      case c1 => rw [List.length_map, T0.out]; omega
      case c2 => exact take_cells (by omega) fun q hq => by rw [n0.cell (p := ⟨b, q, none⟩) hbl]; exact HB.out q hq
      case c3 => exact one_cells _
      case c4 => unfold maxLen; omega
      case c5 => omega
      case c6 => omega
      intro v1 w2 ho1 hg1 _
      have hN2 := (New.refl w1).grown hg1 (fun k hk => by simp [Value.ownBlock] at hk)
      have o1 : Own w1.heap.size w2 v1 (L.take j) := Own.grown1 (by simpa using ho1) (by rw [T0.out])
      clear ho1 hg1
      obtain ⟨p1, k1, c1, rfl⟩ := o1.shape
      have hM2 := (HW.out ▸ hM.trans hN2 : New ((w.alloc (.cells #[.int .i64 many, .slice (some ⟨b, 0, none⟩) L.length cap] 49)).alloc (.cells #[.int .i64 0, .slice none 0 0] 49)) w2)
      obtain ⟨m0, m1, k0, k1', k2, k3, k4, k5, k6, k7⟩ := hM2.box
      clear hM hM2
      have hcw : ∀ i, i < L.length → w2.cell? ⟨b, i, none⟩ = some (.int .i64 (L.getD i 0)) := fun q hq => by rw [m0.cell (p := ⟨b, q, none⟩) hbl]; exact HB.out q hq
      have HD := Lib.hid (drop_cells (i := j + 1) hcw)
      clear hcw
      have T1 := Lib.hid (List.length_drop (i := j + 1) (l := L))
      by_cases hcap : cap = j + 1
      · subst hcap
        have hd : L.drop (j + 1) = [] := List.drop_eq_nil_of_le (by omega)
        go_wp2_with (at_builtin; refine wpList_append_own _ rfl _ _ 33 rfl w1.heap.size 3 i0 (.int .i64 0) 1 8 Tryd.underlying33 hi0 hz0 hz1 hz2 rfl (by decide) (.slice p1 k1 c1) (L.take j).length ((L.take j).map (Value.int .i64)) rfl o1 ⟨b, 0, none⟩ 0 0 [] rfl rfl ?c2 ?c3 ?c4 ?c5 ?c6 ?_)
        case c2 => intro q u hu; simp at hu
        case c3 => intro u hu; simp at hu
        case c4 => rw [T0.out]; unfold maxLen; omega
        case c5 => rw [T0.out]; omega
        case c6 => have := hN2.size; omega
        intro v2 w3 ho2 hg2 _
        have hN3 := hN2.grown hg2 (fun k hk => (World.ownsRow.lt o1 k hk).1)
        have o2 : Own w1.heap.size w3 v2 LL := HL.out ▸ Own.grown1 (l := L.take j ++ L.drop (j + 1)) (by rw [List.map_append]; rw [hd]; simpa using ho2) (by rw [hd]; simp)
        try clear hd
        clear ho2 hg2 o1 k0 k1' k2 k3 k4 k5 k6 k7 HD
        obtain ⟨p2, kk, c2, rfl⟩ := o2.shape
        have g0 := (hN3.cell (p := ⟨w.heap.size, 0, none⟩) (by simp; omega)).trans b0
        have g1 := (hN3.cell (p := ⟨w.heap.size, 1, none⟩) (by simp; omega)).trans b1
        have g2 := (hN3.frozen (p := ⟨w.heap.size, 0, none⟩) (by simp; omega)).trans b2
        have g3 := (hN3.frozen (p := ⟨w.heap.size, 1, none⟩) (by simp; omega)).trans b3
        have g4 := (hN3.cell (p := ⟨w.heap.size + 1, 0, none⟩) (by simp; omega)).trans b4
        have g5 := (hN3.cell (p := ⟨w.heap.size + 1, 1, none⟩) (by simp; omega)).trans b5
        have g6 := (hN3.frozen (p := ⟨w.heap.size + 1, 0, none⟩) (by simp; omega)).trans b6
        have g7 := (hN3.frozen (p := ⟨w.heap.size + 1, 1, none⟩) (by simp; omega)).trans b7
        clear b0 b1 b2 b3 b4 b5 b6 b7
        have o3 := o2.far (p := ⟨w.heap.size, 1, none⟩) (by simp; omega) (.slice p2 kk c2)
        have hN4 := (n0.trans hN3).setAt w.heap.size 1 (Nat.le_refl _) (.slice p2 kk c2)
        go_wp2
        have r0 : (w3.setCell ⟨w.heap.size, 1, none⟩ (.slice p2 kk c2)).cell? ⟨w.heap.size, 0, none⟩ = some (.int .i64 many) := (World.cell?_setCell_other _ _ _ _ (by simp)).trans g0
        have r1 : (w3.setCell ⟨w.heap.size, 1, none⟩ (.slice p2 kk c2)).cell? ⟨w.heap.size, 1, none⟩ = some (.slice p2 kk c2) := World.cell?_setCell_same _ _ _ g1
        have r4 : (w3.setCell ⟨w.heap.size, 1, none⟩ (.slice p2 kk c2)).cell? ⟨w.heap.size + 1, 0, none⟩ = some (.int .i64 0) := (World.cell?_setCell_other _ _ _ _ (by simp)).trans g4
        have r5 : (w3.setCell ⟨w.heap.size, 1, none⟩ (.slice p2 kk c2)).cell? ⟨w.heap.size + 1, 1, none⟩ = some (.slice none 0 0) := (World.cell?_setCell_other _ _ _ _ (by simp)).trans g5
        have r6 := (World.frozen?_setCell w3 ⟨w.heap.size, 1, none⟩ ⟨w.heap.size + 1, 0, none⟩ (.slice p2 kk c2)).trans g6
        have r7 := (World.frozen?_setCell w3 ⟨w.heap.size, 1, none⟩ ⟨w.heap.size + 1, 1, none⟩ (.slice p2 kk c2)).trans g7
        clear g0 g1 g2 g3 g4 g5 g6 g7 o2
        generalize w3.setCell ⟨w.heap.size, 1, none⟩ (.slice p2 kk c2) = w4 at *
        have z4 : w.heap.size + 1 < w4.heap.size := cell_lt r5
        go_region_with (go_at_call 42; (with_reducible refine (rrefs_n many m (.slice p2 kk c2) LL _ (o3.ints.new (by first | exact New.refl _ | exact (New.refl _).drew | exact (New.refl _).drewN _)) hLl).mono ?_); rintro e w5 ⟨rfl, hn5⟩; have s0 := (hn5.cell (p := ⟨w.heap.size, 0, none⟩) (by simp; omega)).trans r0; have s1 := (hn5.cell (p := ⟨w.heap.size, 1, none⟩) (by simp; omega)).trans r1; have s4 := (hn5.cell (p := ⟨w.heap.size + 1, 0, none⟩) (by simp; omega)).trans r4; have s5 := (hn5.cell (p := ⟨w.heap.size + 1, 1, none⟩) (by simp; omega)).trans r5; have s6 := (hn5.frozen (p := ⟨w.heap.size + 1, 0, none⟩) (by simp; omega)).trans r6; have s7 := (hn5.frozen (p := ⟨w.heap.size + 1, 1, none⟩) (by simp; omega)).trans r7)
        all_goals
          go_wp2
          have hN5 := ((New.refl w4).drew).trans hn5
          refine bodyPost_ret (v := .tuple #[.agg #[.int .i64 many, .slice p2 kk c2], .bool (cn LL m == 0), .int .i64 0]) (by obtain ⟨e1, e2⟩ := pair_set s4 s5 (.int .i64 many) (.slice p2 kk c2); simp [results, Tryd.results44, go_sem, e1, e2]) rfl ⟨_, by rw [← HX.out]; rfl, ?_, ?_⟩
          · exact (((o3.new hN5).far (p := ⟨w.heap.size + 1, 0, none⟩) (by simp; omega) _).far (p := ⟨w.heap.size + 1, 1, none⟩) (by simp; omega) _).more (by omega)
          · exact ((hN4.trans hN5).setAt _ _ (by omega) _).setAt _ _ (by omega) _
      · go_wp2_with (at_builtin; refine wpList_append_own _ rfl _ _ 33 rfl w1.heap.size 3 i0 (.int .i64 0) 1 8 Tryd.underlying33 hi0 hz0 hz1 hz2 rfl (by decide) (.slice p1 k1 c1) (L.take j).length ((L.take j).map (Value.int .i64)) rfl o1 ⟨b, j + 1, none⟩ (L.length - (j + 1)) (cap - (j + 1)) ((L.drop (j + 1)).map (Value.int .i64)) rfl (by rw [List.length_map, T1.out]; omega) ?c2 ?c3 ?c4 ?c5 ?c6 ?_)
        case c2 => exact HD.out
        case c3 => exact one_cells _
        case c4 => rw [T0.out]; unfold maxLen; omega
        case c5 => rw [T0.out]; omega
        case c6 => have := hN2.size; omega
        intro v2 w3 ho2 hg2 _
        have hN3 := hN2.grown hg2 (fun k hk => (World.ownsRow.lt o1 k hk).1)
        have o2 : Own w1.heap.size w3 v2 LL := HL.out ▸ Own.grown1 (l := L.take j ++ L.drop (j + 1)) (by rw [List.map_append]; simpa using ho2) (by simp)
        try clear hd
        clear ho2 hg2 o1 k0 k1' k2 k3 k4 k5 k6 k7 HD
        obtain ⟨p2, kk, c2, rfl⟩ := o2.shape
        have g0 := (hN3.cell (p := ⟨w.heap.size, 0, none⟩) (by simp; omega)).trans b0
        have g1 := (hN3.cell (p := ⟨w.heap.size, 1, none⟩) (by simp; omega)).trans b1
        have g2 := (hN3.frozen (p := ⟨w.heap.size, 0, none⟩) (by simp; omega)).trans b2
        have g3 := (hN3.frozen (p := ⟨w.heap.size, 1, none⟩) (by simp; omega)).trans b3
        have g4 := (hN3.cell (p := ⟨w.heap.size + 1, 0, none⟩) (by simp; omega)).trans b4
        have g5 := (hN3.cell (p := ⟨w.heap.size + 1, 1, none⟩) (by simp; omega)).trans b5
        have g6 := (hN3.frozen (p := ⟨w.heap.size + 1, 0, none⟩) (by simp; omega)).trans b6
        have g7 := (hN3.frozen (p := ⟨w.heap.size + 1, 1, none⟩) (by simp; omega)).trans b7
        clear b0 b1 b2 b3 b4 b5 b6 b7
        have o3 := o2.far (p := ⟨w.heap.size, 1, none⟩) (by simp; omega) (.slice p2 kk c2)
        have hN4 := (n0.trans hN3).setAt w.heap.size 1 (Nat.le_refl _) (.slice p2 kk c2)
        go_wp2
        have r0 : (w3.setCell ⟨w.heap.size, 1, none⟩ (.slice p2 kk c2)).cell? ⟨w.heap.size, 0, none⟩ = some (.int .i64 many) := (World.cell?_setCell_other _ _ _ _ (by simp)).trans g0
        have r1 : (w3.setCell ⟨w.heap.size, 1, none⟩ (.slice p2 kk c2)).cell? ⟨w.heap.size, 1, none⟩ = some (.slice p2 kk c2) := World.cell?_setCell_same _ _ _ g1
        have r4 : (w3.setCell ⟨w.heap.size, 1, none⟩ (.slice p2 kk c2)).cell? ⟨w.heap.size + 1, 0, none⟩ = some (.int .i64 0) := (World.cell?_setCell_other _ _ _ _ (by simp)).trans g4
        have r5 : (w3.setCell ⟨w.heap.size, 1, none⟩ (.slice p2 kk c2)).cell? ⟨w.heap.size + 1, 1, none⟩ = some (.slice none 0 0) := (World.cell?_setCell_other _ _ _ _ (by simp)).trans g5
        have r6 := (World.frozen?_setCell w3 ⟨w.heap.size, 1, none⟩ ⟨w.heap.size + 1, 0, none⟩ (.slice p2 kk c2)).trans g6
        have r7 := (World.frozen?_setCell w3 ⟨w.heap.size, 1, none⟩ ⟨w.heap.size + 1, 1, none⟩ (.slice p2 kk c2)).trans g7
        clear g0 g1 g2 g3 g4 g5 g6 g7 o2
        generalize w3.setCell ⟨w.heap.size, 1, none⟩ (.slice p2 kk c2) = w4 at *
        have z4 : w.heap.size + 1 < w4.heap.size := cell_lt r5
        go_region_with (go_at_call 42; (with_reducible refine (rrefs_n many m (.slice p2 kk c2) LL _ (o3.ints.new (by first | exact New.refl _ | exact (New.refl _).drew | exact (New.refl _).drewN _)) hLl).mono ?_); rintro e w5 ⟨rfl, hn5⟩; have s0 := (hn5.cell (p := ⟨w.heap.size, 0, none⟩) (by simp; omega)).trans r0; have s1 := (hn5.cell (p := ⟨w.heap.size, 1, none⟩) (by simp; omega)).trans r1; have s4 := (hn5.cell (p := ⟨w.heap.size + 1, 0, none⟩) (by simp; omega)).trans r4; have s5 := (hn5.cell (p := ⟨w.heap.size + 1, 1, none⟩) (by simp; omega)).trans r5; have s6 := (hn5.frozen (p := ⟨w.heap.size + 1, 0, none⟩) (by simp; omega)).trans r6; have s7 := (hn5.frozen (p := ⟨w.heap.size + 1, 1, none⟩) (by simp; omega)).trans r7)
        all_goals
          go_wp2
          have hN5 := ((New.refl w4).drew).trans hn5
          refine bodyPost_ret (v := .tuple #[.agg #[.int .i64 many, .slice p2 kk c2], .bool (cn LL m == 0), .int .i64 0]) (by obtain ⟨e1, e2⟩ := pair_set s4 s5 (.int .i64 many) (.slice p2 kk c2); simp [results, Tryd.results44, go_sem, e1, e2]) rfl ⟨_, by rw [← HX.out]; rfl, ?_, ?_⟩
          · exact (((o3.new hN5).far (p := ⟨w.heap.size + 1, 0, none⟩) (by simp; omega) _).far (p := ⟨w.heap.size + 1, 1, none⟩) (by simp; omega) _).more (by omega)
          · exact ((hN4.trans hN5).setAt _ _ (by omega) _).setAt _ _ (by omega) _
    · have d := HN.out j (by omega)
      have f : (L.getD j 0 == m) = false := by simpa using d
      generalize L.getD j 0 = x at *
      clear d
      go_wp2
      go_roundg (i - j)
      case measure => have := J.out; omega
      case rel => exact ⟨j + 1, by have := J.out; omega, by omega, by go_num, rfl⟩
end Go.Proofs.YtajhlmiobibhjaaDoor
