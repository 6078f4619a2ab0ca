/- Numbers of files, the document's: Put, Drop, Dup. -/
import Derived.Test.YthkdgihjgllpeaaDoorFdA
namespace Go.Proofs.YthkdgihjgllpeaaDoor
open Go.RowKit Go.Joins
set_option linter.unusedVariables false
set_option maxRecDepth 100000
theorem cp8_keep (b b2 : Nat) (hne : b ≠ b2) (cs : List Value) (hl : cs.length = 8) (W : World) (h : W.rangeAt b 0 cs ∧ W.there b2 0 8) : (W.setCells b2 0 cs).rangeAt b 0 cs ∧ (W.setCells b2 0 cs).there b2 0 8 :=
  ⟨World.rangeAt_setCells_apart h.1 _ _ _ (.inl hne), World.there_setCells h.2 _ _ _⟩
theorem Box.there8 {w : World} {b : Nat} {l : List Int} {t : TypeId} (h : Box w b (i8 l).toArray t) (h8 : l.length = 8) : w.there b 0 8 := by
  have := h.there; rwa [i8_len, h8] at this
/-- eight stored whole -/
theorem Box.put8 {w : World} {b : Nat} {l m : List Int} {t : TypeId} (h : Box w b (i8 l).toArray t) (hl : l.length = 8) (hm : m.length = 8) : Box (w.setCells b 0 (i8 m)) b (i8 m).toArray t ∧ Far b w (w.setCells b 0 (i8 m)) := by
  obtain ⟨r1, r2⟩ := setCells_row (i8 m) 0 (i8 l) w h (by rw [i8_len, i8_len]; omega)
  have e : splice (i8 l) 0 (i8 m) = i8 m := by simp [splice, i8_len, hl, hm]
  rw [e] at r1
  exact ⟨r1, r2⟩
theorem list8 {l : List Int} (h : l.length = 8) : ∃ a b c d e f g k, l = [a, b, c, d, e, f, g, k] := by
  match l, h with
  | [a, b, c, d, e, f, g, k], _ => exact ⟨a, b, c, d, e, f, g, k, rfl⟩
theorem Box.eight {w : World} {g : Nat} {t : TypeId} {y0 y1 y2 y3 y4 y5 y6 y7 : Value} (h : Box w g #[y0, y1, y2, y3, y4, y5, y6, y7] t) : g < w.heap.size ∧ (w.cell? ⟨g, 0, none⟩ = some y0 ∧ w.cell? ⟨g, 1, none⟩ = some y1 ∧ w.cell? ⟨g, 2, none⟩ = some y2 ∧ w.cell? ⟨g, 3, none⟩ = some y3 ∧ w.cell? ⟨g, 4, none⟩ = some y4 ∧ w.cell? ⟨g, 5, none⟩ = some y5 ∧ w.cell? ⟨g, 6, none⟩ = some y6 ∧ w.cell? ⟨g, 7, none⟩ = some y7) ∧
    (w.frozen? ⟨g, 0, none⟩ = false ∧ w.frozen? ⟨g, 1, none⟩ = false ∧ w.frozen? ⟨g, 2, none⟩ = false ∧ w.frozen? ⟨g, 3, none⟩ = false ∧ w.frozen? ⟨g, 4, none⟩ = false ∧ w.frozen? ⟨g, 5, none⟩ = false ∧ w.frozen? ⟨g, 6, none⟩ = false ∧ w.frozen? ⟨g, 7, none⟩ = false) :=
  ⟨h.lt, ⟨h.cell 0, h.cell 1, h.cell 2, h.cell 3, h.cell 4, h.cell 5, h.cell 6, h.cell 7⟩, h.unfrozen 0, h.unfrozen 1, h.unfrozen 2, h.unfrozen 3, h.unfrozen 4, h.unfrozen 5, h.unfrozen 6, h.unfrozen 7⟩
theorem Box.set8 {w : World} {g : Nat} {t : TypeId} {y0 y1 y2 y3 y4 y5 y6 y7 : Value} (h : Box w g #[y0, y1, y2, y3, y4, y5, y6, y7] t) (x0 x1 x2 x3 x4 x5 x6 x7 : Value) : Box ((((((((w.setCell ⟨g, 0, none⟩ x0).setCell ⟨g, 1, none⟩ x1).setCell ⟨g, 2, none⟩ x2).setCell ⟨g, 3, none⟩ x3).setCell ⟨g, 4, none⟩ x4).setCell ⟨g, 5, none⟩ x5).setCell ⟨g, 6, none⟩ x6).setCell ⟨g, 7, none⟩ x7) g #[x0, x1, x2, x3, x4, x5, x6, x7] t := by
  have := (((((((h.set 0 x0).set 1 x1).set 2 x2).set 3 x3).set 4 x4).set 5 x5).set 6 x6).set 7 x7
  simpa using this
theorem New.set8 {a b : World} (h : New a b) {g : Nat} (hg : a.heap.size ≤ g) (x0 x1 x2 x3 x4 x5 x6 x7 : Value) : New a ((((((((b.setCell ⟨g, 0, none⟩ x0).setCell ⟨g, 1, none⟩ x1).setCell ⟨g, 2, none⟩ x2).setCell ⟨g, 3, none⟩ x3).setCell ⟨g, 4, none⟩ x4).setCell ⟨g, 5, none⟩ x5).setCell ⟨g, 6, none⟩ x6).setCell ⟨g, 7, none⟩ x7) :=
  (((((((h.setCell (p := ⟨g, 0, none⟩) hg x0).setCell (p := ⟨g, 1, none⟩) hg x1).setCell (p := ⟨g, 2, none⟩) hg x2).setCell (p := ⟨g, 3, none⟩) hg x3).setCell (p := ⟨g, 4, none⟩) hg x4).setCell (p := ⟨g, 5, none⟩) hg x5).setCell (p := ⟨g, 6, none⟩) hg x6).setCell (p := ⟨g, 7, none⟩) hg x7
theorem New.far8 {a b c : World} {rb : Nat} (h : New a b) (k : Far rb b c) (hr : a.heap.size ≤ rb) : New a c := k.new h hr
/-- what the walks of Put, Drop, Dup begin with -/
theorem two8 (l : List Int) (w E : World) (hE : E = (w.alloc (.cells (i8 l).toArray 22)).alloc (.cells #[.int .i64 0, .int .i64 0, .int .i64 0, .int .i64 0, .int .i64 0, .int .i64 0, .int .i64 0, .int .i64 0] 22)) :
    New w E ∧ Box E w.heap.size (i8 l).toArray 22 ∧ Box E (w.heap.size + 1) (i8 z8).toArray 22 := by
  subst hE
  exact ⟨((New.refl w).alloc _ _).alloc _ _, (Box.here w _ _ _ rfl).alloc _, Box.here _ _ _ _ (by rw [World.size_alloc])⟩
theorem z8_val : Value.agg #[.int .i64 0, .int .i64 0, .int .i64 0, .int .i64 0, .int .i64 0, .int .i64 0, .int .i64 0, .int .i64 0] = .agg (i8 z8).toArray := rfl
set_option maxHeartbeats 4000000 in
theorem rput8_bad (l : List Int) (h8 : l.length = 8) (f : Int) (w : World) (hb : fdOk l = false ∨ f < 0 ∨ 31 < f) : Calls Tryd.prog 7 #[.agg (i8 l).toArray, .int .i64 f] w fun e w' => e = .returned (.tuple #[.int .i64 0, .agg (i8 z8).toArray, .int .i64 22]) ∧ New w w' := by
  obtain ⟨E, hE⟩ : ∃ E, E = (w.alloc (.cells (i8 l).toArray 22)).alloc (.cells #[.int .i64 0, .int .i64 0, .int .i64 0, .int .i64 0, .int .i64 0, .int .i64 0, .int .i64 0, .int .i64 0] 22) := ⟨_, rfl⟩
  obtain ⟨n0, bA, bZ⟩ := two8 l w E hE
  have X := fun W => rmay8 l h8 W
  have ways : (fdOk l = false) ∨ (fdOk l = true ∧ f < 0) ∨ (fdOk l = true ∧ ¬ f < 0 ∧ 31 < f) := by
    cases h : fdOk l with
    | false => exact .inl rfl
    | true => rcases hb with c | c | c; rw [h] at c; cases c; exact .inr (.inl ⟨rfl, c⟩); by_cases d : f < 0; exact .inr (.inl ⟨rfl, d⟩); exact .inr (.inr ⟨rfl, d, c⟩)
  have hZ : Hid (∀ W, New E W → Box W (w.heap.size + 1) (i8 z8).toArray 22) := Lib.hid (fun W k => bZ.new k)
  have hA : Hid (∀ W, New E W → Box W w.heap.size (i8 l).toArray 22) := Lib.hid (fun W k => bA.new k)
  have N0 := Lib.hid n0
  clear hb bA bZ n0
  rcases ways with hm | ⟨hm, hf⟩ | ⟨hm, hf0, hf⟩
  all_goals
    rw [hm] at X
    clear hm
    go_enter Tryd.func7, Tryd.ntmps7
    go_upto_region 1 with fail
    rw [← hE]
    clear hE
    go_wp2_with (first
      | ((with_reducible refine at_load 22 ?_); refine wpList_load_box rfl 22 _ rfl w.heap.size rfl (i8 l) 22 _ (hA.out E (New.refl E)) Tryd.underlying22 rfl (by rw [i8_len, h8]; exact a8_info) ?_))
    refine (X _).mono ?_
    rintro e w1 ⟨rfl, n1⟩
    have hB := hZ.out w1 n1
    have N1 := Lib.hid (N0.out.trans n1)
    clear n1 X
    go_wp2_with (first
      | ((with_reducible refine at_store 22 ?_); refine wpList_store_box rfl 22 _ _ rfl (w.heap.size + 1) (i8 z8) (i8 z8) 22 rfl rfl hB rfl a8_info (i8_one z8) ?_; intro w2 hb2 hf2))
    refine bodyPost_ret (v := .tuple #[.int .i64 0, .agg (i8 z8).toArray, .int .i64 22]) (by simp [results, Tryd.results7, asAddr, hb2.r8 rfl]) rfl ⟨rfl, N1.out.far8 hf2 (by omega)⟩
set_option maxHeartbeats 4000000 in
theorem rput8_good (l : List Int) (h8 : l.length = 8) (f : Int) (w : World) (hm : fdOk l = true) (hf : 0 ≤ f ∧ f ≤ 31) (n : Int) (m : List Int) (e : Int) (hn : n = fpN l f) (hmm : m = fpL l f) (he : e = fpE l f) : Calls Tryd.prog 7 #[.agg (i8 l).toArray, .int .i64 f] w fun en w' => en = .returned (.tuple #[.int .i64 n, .agg (i8 m).toArray, .int .i64 e]) ∧ New w w' := by
  obtain ⟨E, hE⟩ : ∃ E, E = (w.alloc (.cells (i8 l).toArray 22)).alloc (.cells #[.int .i64 0, .int .i64 0, .int .i64 0, .int .i64 0, .int .i64 0, .int .i64 0, .int .i64 0, .int .i64 0] 22) := ⟨_, rfl⟩
  obtain ⟨n0, bA, bZ⟩ := two8 l w E hE
  have X := fun W => rmay8 l h8 W
  have hZ : Hid (∀ W, New E W → Box W (w.heap.size + 1) (i8 z8).toArray 22) := Lib.hid (fun W k => bZ.new k)
  have hA : Hid (∀ W, New E W → Box W w.heap.size (i8 l).toArray 22) := Lib.hid (fun W k => bA.new k)
  have N0 := Lib.hid n0
  have fE : ¬ (fdOk l = false ∨ f < 0 ∨ 31 < f) := by rw [hm]; intro c; rcases c with c | c | c; cases c; omega; omega
  have HN := Lib.hid (And.intro hn (And.intro hmm (And.intro he fE)))
  have hf0 : ¬ f < 0 := by omega
  have hf1 : ¬ 31 < f := by omega
  rw [hm] at X
  clear bA bZ n0 hm hn hmm he fE hf
  go_enter Tryd.func7, Tryd.ntmps7
  go_upto_region 1 with fail
  rw [← hE]
  clear hE
  go_wp2_with (first
    | ((with_reducible refine at_load 22 ?_); refine wpList_load_box rfl 22 _ rfl w.heap.size rfl (i8 l) 22 _ (hA.out E (New.refl E)) Tryd.underlying22 rfl (by rw [i8_len, h8]; exact a8_info) ?_))
  refine (X _).mono ?_
  rintro en w1 ⟨rfl, n1⟩
  have hB := Lib.hid (hZ.out w1 n1)
  have hA1 := Lib.hid (hA.out w1 n1)
  have N1 := Lib.hid (N0.out.trans n1)
  clear n1 X hZ hA N0
  go_wp2_with fail
  go_loopg [7] 8 (fun k i wr => ∃ j : Nat, j + k = 8 ∧ i = .int .i64 (j : Int) ∧ wr = w1 ∧ ∀ i : Nat, i < j → l.getD i 0 ≠ 0)
  case atStart => exact ⟨0, by omega, rfl, rfl, fun i h => absurd h (Nat.not_lt_zero _)⟩
  case round =>
    obtain ⟨j, hj, rfl, rfl, hok⟩ := hrel
    have J := Lib.hid hj
    have HO := Lib.hid hok
    by_cases c : j < 8
    · have hc := hA1.out.c8 j (by omega)
      obtain ⟨x, hx⟩ : ∃ x, x = l.getD j 0 := ⟨_, rfl⟩
      rw [← hx] at hc
      have HXE := Lib.hid hx
      clear hok hj hx
      by_cases d1 : x = 0
      · subst d1
        have hF : fdF l = j := fdF_at l j (by omega) HXE.out.symm HO.out
        have e1 : fpE l f = 0 := by unfold fpE; rw [if_neg HN.out.2.2.2, if_neg (by omega)]
        have en : n = (j : Int) := by rw [HN.out.1]; unfold fpN; rw [e1, if_pos rfl, hF]
        have em : m = l.set j (f + 1) := by rw [HN.out.2.1]; unfold fpL; rw [e1, if_pos rfl, hF]
        have ee : e = 0 := by rw [HN.out.2.2.1, e1]
        have EE := Lib.hid (And.intro en (And.intro em ee))
        have fz := hA1.out.unfrozen j
        have lb := hA1.out.lt
        have hm8 : m.length = 8 := by rw [em, List.length_set, h8]
        have bM := hA1.out.s8 j (f + 1)
        rw [← em] at bM
        have bZ2 := hB.out.other (p := ⟨w.heap.size, j, none⟩) (by show w.heap.size ≠ _; omega) (.int .i64 (f + 1))
        have nM := N1.out.setCell (p := ⟨w.heap.size, j, none⟩) (Nat.le_refl _) (.int .i64 (f + 1))
        clear e1 en em ee hF HO
        go_upto_region 8 with fail
        generalize World.setCell _ _ _ = W2 at *
        obtain ⟨q0, q1, q2, q3, q4, q5, q6, q7, hq⟩ := list8 hm8
        rw [hq] at bM
        have bM : Box W2 w.heap.size #[.int .i64 q0, .int .i64 q1, .int .i64 q2, .int .i64 q3, .int .i64 q4, .int .i64 q5, .int .i64 q6, .int .i64 q7] 22 := bM
        have bZ2 : Box W2 (w.heap.size + 1) #[.int .i64 0, .int .i64 0, .int .i64 0, .int .i64 0, .int .i64 0, .int .i64 0, .int .i64 0, .int .i64 0] 22 := bZ2
        obtain ⟨la, ⟨a0, a1, a2, a3, a4, a5, a6, a7⟩, -⟩ := bM.eight
        obtain ⟨lz, ⟨z0, z1, z2, z3, z4, z5, z6, z7⟩, g0, g1, g2, g3, g4, g5, g6, g7⟩ := bZ2.eight
        have BZ2 := Lib.hid bZ2
        have NM := Lib.hid nM
        have HQ := Lib.hid hq
        clear hc fz lb bM bZ2 nM hq
        go_region
        have B9 := ((BZ2.out.set8 (.int .i64 q0) (.int .i64 q1) (.int .i64 q2) (.int .i64 q3) (.int .i64 q4) (.int .i64 q5) (.int .i64 q6) (.int .i64 q7)).new (New.refl _).drew)
        have N9 := (NM.out.set8 (g := w.heap.size + 1) (by omega) (.int .i64 q0) (.int .i64 q1) (.int .i64 q2) (.int .i64 q3) (.int .i64 q4) (.int .i64 q5) (.int .i64 q6) (.int .i64 q7)).drew
        have B9 : Box _ (w.heap.size + 1) (i8 [q0, q1, q2, q3, q4, q5, q6, q7]).toArray 22 := B9
        have R8 := B9.r8 rfl
        clear a0 a1 a2 a3 a4 a5 a6 a7 z0 z1 z2 z3 z4 z5 z6 z7 g0 g1 g2 g3 g4 g5 g6 g7 B9
        generalize World.drew _ = W9 at *
        go_wp2
        refine bodyPost_ret (v := .tuple #[.int .i64 j, .agg (i8 [q0, q1, q2, q3, q4, q5, q6, q7]).toArray, .int .i64 0]) (by simp [results, Tryd.results7, asAddr, R8]) rfl ⟨by rw [EE.out.1, HQ.out, EE.out.2.2], N9⟩
      · have HO2 := Lib.hid (fun (i : Nat) (hi : i < j + 1) => show l.getD i 0 ≠ 0 by
          by_cases d : i < j
          · exact HO.out i d
          · obtain rfl : i = j := by omega
            rw [← HXE.out]; exact d1)
        have d1b : (x == (0 : Int)) = false := by simpa using d1
        clear d1
        go_wp2
        go_roundg (8 - (j + 1))
        case measure => have := J.out; omega
        case rel => exact ⟨j + 1, by have := J.out; omega, by go_num, rfl, HO2.out⟩
    · obtain rfl : j = 8 := by omega
      have hF : fdF l = 8 := by rw [fdF_none l (by rw [h8]; exact hok), h8]
      have e1 : fpE l f = 24 := by unfold fpE; rw [if_neg HN.out.2.2.2, if_pos hF]
      have en : n = 0 := by rw [HN.out.1]; unfold fpN; rw [e1]; rfl
      have em : m = z8 := by rw [HN.out.2.1]; unfold fpL; rw [e1]; rfl
      have ee : e = 24 := by rw [HN.out.2.2.1, e1]
      have EE := Lib.hid (And.intro en (And.intro em ee))
      clear e1 en em ee hF HO hok
      go_wp2_with (first
        | ((with_reducible refine at_store 22 ?_); refine wpList_store_box rfl 22 _ _ rfl (w.heap.size + 1) (i8 z8) (i8 z8) 22 rfl rfl hB.out rfl a8_info (i8_one z8) ?_; intro w2 hb2 hf2))
      refine bodyPost_ret (v := .tuple #[.int .i64 0, .agg (i8 z8).toArray, .int .i64 24]) (by simp [results, Tryd.results7, asAddr, hb2.r8 rfl]) rfl ⟨by rw [EE.out.1, EE.out.2.1, EE.out.2.2], N1.out.far8 hf2 (by omega)⟩
theorem rput8_any (l : List Int) (h8 : l.length = 8) (f : Int) (w : World) : Calls Tryd.prog 7 #[.agg (i8 l).toArray, .int .i64 f] w fun en w' => en = .returned (.tuple #[.int .i64 (fpN l f), .agg (i8 (fpL l f)).toArray, .int .i64 (fpE l f)]) ∧ New w w' := by
  by_cases hb : fdOk l = false ∨ f < 0 ∨ 31 < f
  · have e1 : fpE l f = 22 := if_pos hb
    have e2 : fpN l f = 0 := by unfold fpN; rw [e1]; rfl
    have e3 : fpL l f = z8 := by unfold fpL; rw [e1]; rfl
    rw [e1, e2, e3]; exact rput8_bad l h8 f w hb
  · exact rput8_good l h8 f w (by cases h : fdOk l; exact absurd (.inl h) hb; rfl) (by omega) _ _ _ rfl rfl rfl
theorem fpL_len {l : List Int} (h8 : l.length = 8) (f : Int) : (fpL l f).length = 8 := by unfold fpL; split; rw [List.length_set, h8]; rfl
theorem fdL_len {l : List Int} (h8 : l.length = 8) (f : Int) : (fdL l f).length = 8 := by unfold fdL; split; rw [List.length_set, h8]; rfl
theorem fuL_len {l : List Int} (h8 : l.length = 8) (f : Int) : (fuL l f).length = 8 := by unfold fuL; split; rw [List.length_set, h8]; rfl
theorem faE_in {l : List Int} {fd : Int} (h : faE l fd = 0) : 0 ≤ fd ∧ fd < 8 := by
  unfold faE at h
  split at h
  · omega
  · split at h
    · rename_i c; exact ⟨c.1, c.2.1⟩
    · omega
set_option maxHeartbeats 4000000 in
theorem rdrop8_any (l : List Int) (h8 : l.length = 8) (fd : Int) (w : World) : Calls Tryd.prog 11 #[.agg (i8 l).toArray, .int .i64 fd] w fun en w' => en = .returned (.tuple #[.int .i64 (faN l fd), .agg (i8 (fdL l fd)).toArray, .int .i64 (faE l fd)]) ∧ New w w' := by
  obtain ⟨E, hE⟩ : ∃ E, E = (w.alloc (.cells (i8 l).toArray 22)).alloc (.cells #[.int .i64 0, .int .i64 0, .int .i64 0, .int .i64 0, .int .i64 0, .int .i64 0, .int .i64 0, .int .i64 0] 22) := ⟨_, rfl⟩
  obtain ⟨n0, bA, bZ⟩ := two8 l w E hE
  have X := fun W => rat8 l h8 fd W
  have hZ : Hid (∀ W, New E W → Box W (w.heap.size + 1) (i8 z8).toArray 22) := Lib.hid (fun W k => bZ.new k)
  have hA : Hid (∀ W, New E W → Box W w.heap.size (i8 l).toArray 22) := Lib.hid (fun W k => bA.new k)
  have N0 := Lib.hid n0
  have hd := Lib.hid (show faE l fd = 0 → fdL l fd = l.set fd.toNat 0 from fun h => if_pos h)
  have hz := Lib.hid (show faE l fd ≠ 0 → fdL l fd = z8 ∧ faN l fd = 0 from fun h => ⟨if_neg h, if_neg h⟩)
  have hin := Lib.hid (faE_in (l := l) (fd := fd))
  generalize fdL l fd = m at *
  generalize faN l fd = n at *
  generalize faE l fd = e at *
  clear bA bZ n0
  by_cases he : e = 0
  · subst he
    obtain ⟨j, rfl⟩ : ∃ j : Nat, fd = (j : Int) := ⟨fd.toNat, by have := hin.out rfl; omega⟩
    have hj : j < 8 := by have := hin.out rfl; omega
    have hm : m = l.set j 0 := by have := hd.out rfl; rwa [Int.toNat_natCast] at this
    have HM := Lib.hid hm
    clear hd hz hin hm
    go_enter Tryd.func11, Tryd.ntmps11
    go_upto_region 1 with fail
    rw [← hE]
    clear hE
    go_wp2_with (first
      | ((with_reducible refine at_load 22 ?_); refine wpList_load_box rfl 22 _ rfl w.heap.size rfl (i8 l) 22 _ (hA.out E (New.refl E)) Tryd.underlying22 rfl (by rw [i8_len, h8]; exact a8_info) ?_))
    refine (X _).mono ?_
    rintro en w1 ⟨rfl, n1⟩
    have hB := hZ.out w1 n1
    have hA1 := hA.out w1 n1
    have N1 := N0.out.trans n1
    have fz := hA1.unfrozen j
    have lb := hA1.lt
    have hc := hA1.c8 j (by omega)
    have hm8 : m.length = 8 := by rw [HM.out, List.length_set, h8]
    have bM := hA1.s8 j 0
    rw [← HM.out] at bM
    have bZ2 := hB.other (p := ⟨w.heap.size, j, none⟩) (by show w.heap.size ≠ _; omega) (.int .i64 0)
    have nM := N1.setCell (p := ⟨w.heap.size, j, none⟩) (Nat.le_refl _) (.int .i64 0)
    clear n1 X hZ hA N0 hB hA1 N1
    go_upto_region 5 with fail
    generalize World.setCell _ _ _ = W2 at *
    obtain ⟨q0, q1, q2, q3, q4, q5, q6, q7, hq⟩ := list8 hm8
    rw [hq] at bM
    have bM : Box W2 w.heap.size #[.int .i64 q0, .int .i64 q1, .int .i64 q2, .int .i64 q3, .int .i64 q4, .int .i64 q5, .int .i64 q6, .int .i64 q7] 22 := bM
    have bZ2 : Box W2 (w.heap.size + 1) #[.int .i64 0, .int .i64 0, .int .i64 0, .int .i64 0, .int .i64 0, .int .i64 0, .int .i64 0, .int .i64 0] 22 := bZ2
    obtain ⟨la, ⟨a0, a1, a2, a3, a4, a5, a6, a7⟩, -⟩ := bM.eight
    obtain ⟨lz, ⟨z0, z1, z2, z3, z4, z5, z6, z7⟩, g0, g1, g2, g3, g4, g5, g6, g7⟩ := bZ2.eight
    have BZ2 := Lib.hid bZ2
    have NM := Lib.hid nM
    have HQ := Lib.hid hq
    clear hc fz lb bM bZ2 nM hq
    go_region
    have B9 := ((BZ2.out.set8 (.int .i64 q0) (.int .i64 q1) (.int .i64 q2) (.int .i64 q3) (.int .i64 q4) (.int .i64 q5) (.int .i64 q6) (.int .i64 q7)).new (New.refl _).drew)
    have N9 := (NM.out.set8 (g := w.heap.size + 1) (by omega) (.int .i64 q0) (.int .i64 q1) (.int .i64 q2) (.int .i64 q3) (.int .i64 q4) (.int .i64 q5) (.int .i64 q6) (.int .i64 q7)).drew
    have B9 : Box _ (w.heap.size + 1) (i8 [q0, q1, q2, q3, q4, q5, q6, q7]).toArray 22 := B9
    have R8 := B9.r8 rfl
    clear a0 a1 a2 a3 a4 a5 a6 a7 z0 z1 z2 z3 z4 z5 z6 z7 g0 g1 g2 g3 g4 g5 g6 g7 B9
    generalize World.drew _ = W9 at *
    go_wp2
    refine bodyPost_ret (v := .tuple #[.int .i64 n, .agg (i8 [q0, q1, q2, q3, q4, q5, q6, q7]).toArray, .int .i64 0]) (by simp [results, Tryd.results11, asAddr, R8]) rfl ⟨by rw [HQ.out], N9⟩
  · obtain ⟨hm, hn⟩ := hz.out he
    subst hm hn
    have hb : (e == (0 : Int)) = false := by simpa using he
    clear hd hz hin
    go_enter Tryd.func11, Tryd.ntmps11
    go_upto_region 1 with fail
    rw [← hE]
    clear hE
    go_wp2_with (first
      | ((with_reducible refine at_load 22 ?_); refine wpList_load_box rfl 22 _ rfl w.heap.size rfl (i8 l) 22 _ (hA.out E (New.refl E)) Tryd.underlying22 rfl (by rw [i8_len, h8]; exact a8_info) ?_))
    refine (X _).mono ?_
    rintro en w1 ⟨rfl, n1⟩
    have hB := Lib.hid (hZ.out w1 n1)
    have N1 := Lib.hid (N0.out.trans n1)
    clear n1 X hZ hA N0
    go_wp2_with (first
      | ((with_reducible refine at_store 22 ?_); refine wpList_store_box rfl 22 _ _ rfl (w.heap.size + 1) (i8 z8) (i8 z8) 22 rfl rfl hB.out rfl a8_info (i8_one z8) ?_; intro w2 hb2 hf2))
    refine bodyPost_ret (v := .tuple #[.int .i64 0, .agg (i8 z8).toArray, .int .i64 e]) (by simp [results, Tryd.results11, asAddr, hb2.r8 rfl]) rfl ⟨rfl, N1.out.far8 hf2 (by omega)⟩
set_option maxHeartbeats 4000000 in
theorem rdup8_any (l : List Int) (h8 : l.length = 8) (fd : Int) (w : World) : Calls Tryd.prog 13 #[.agg (i8 l).toArray, .int .i64 fd] w fun en w' => en = .returned (.tuple #[.int .i64 (fuN l fd), .agg (i8 (fuL l fd)).toArray, .int .i64 (fuE l fd)]) ∧ New w w' := by
  obtain ⟨E, hE⟩ : ∃ E, E = (w.alloc (.cells (i8 l).toArray 22)).alloc (.cells #[.int .i64 0, .int .i64 0, .int .i64 0, .int .i64 0, .int .i64 0, .int .i64 0, .int .i64 0, .int .i64 0] 22) := ⟨_, rfl⟩
  obtain ⟨n0, bA, bZ⟩ := two8 l w E hE
  have X := fun W => rat8 l h8 fd W
  have Y := fun W => rput8_any l h8 (faN l fd) W
  have hZ : Hid (∀ W, New E W → Box W (w.heap.size + 1) (i8 z8).toArray 22) := Lib.hid (fun W k => bZ.new k)
  have hA : Hid (∀ W, New E W → Box W w.heap.size (i8 l).toArray 22) := Lib.hid (fun W k => bA.new k)
  have N0 := Lib.hid n0
  have e1 : faE l fd = 0 → fuE l fd = fpE l (faN l fd) ∧ fuN l fd = fpN l (faN l fd) ∧ fuL l fd = fpL l (faN l fd) := fun h => by
    have : fuE l fd = fpE l (faN l fd) := by unfold fuE; rw [if_neg (fun c => c h)]
    refine ⟨this, ?_, ?_⟩
    · unfold fuN fpN; rw [this]
    · unfold fuL fpL; rw [this]
  have e2 : faE l fd ≠ 0 → fuE l fd = faE l fd ∧ fuN l fd = 0 ∧ fuL l fd = z8 := fun h => by
    have : fuE l fd = faE l fd := by unfold fuE; rw [if_pos h]
    refine ⟨this, ?_, ?_⟩
    · unfold fuN; rw [this, if_neg h]
    · unfold fuL; rw [this, if_neg h]
  clear bA bZ n0
  by_cases he : faE l fd = 0
  · obtain ⟨f1, f2, f3⟩ := e1 he
    rw [f1, f2, f3]
    rw [he] at X
    have hl := fpL_len h8 (faN l fd)
    generalize fpL l (faN l fd) = m at *
    generalize fpN l (faN l fd) = n at *
    generalize fpE l (faN l fd) = e at *
    generalize faN l fd = k at *
    clear e1 e2 f1 f2 f3 he
    go_enter Tryd.func13, Tryd.ntmps13
    go_upto_region 1 with fail
    rw [← hE]
    clear hE
    go_wp2_with (first
      | ((with_reducible refine at_load 22 ?_); refine wpList_load_box rfl 22 _ rfl w.heap.size rfl (i8 l) 22 _ (hA.out E (New.refl E)) Tryd.underlying22 rfl (by rw [i8_len, h8]; exact a8_info) ?_))
    refine (X _).mono ?_
    rintro en w1 ⟨rfl, n1⟩
    have hB := Lib.hid (hZ.out w1 n1)
    have hA1 := Lib.hid (hA.out w1 n1)
    have N1 := Lib.hid (N0.out.trans n1)
    clear n1 X hZ hA N0
    go_wp2_with (first
      | ((with_reducible refine at_load 22 ?_); refine wpList_load_box rfl 22 _ rfl w.heap.size rfl (i8 l) 22 _ hA1.out Tryd.underlying22 rfl (by rw [i8_len, h8]; exact a8_info) ?_))
    refine (Y _).mono ?_
    rintro en w2 ⟨rfl, n2⟩
    have hB2 := Lib.hid (hB.out.new n2)
    have N2 := Lib.hid (N1.out.trans n2)
    clear n2 Y hB N1 hA1
    go_wp2_with (first
      | ((with_reducible refine at_store 22 ?_); refine wpList_store_box rfl 22 _ _ rfl (w.heap.size + 1) (i8 m) (i8 z8) 22 rfl rfl hB2.out (by rw [i8_len, i8_len, hl]; rfl) (by rw [i8_len, hl]; exact a8_info) (i8_one m) ?_; intro w3 hb2 hf2))
    refine bodyPost_ret (v := .tuple #[.int .i64 n, .agg (i8 m).toArray, .int .i64 e]) (by simp [results, Tryd.results13, asAddr, hb2.r8 hl]) rfl ⟨rfl, N2.out.far8 hf2 (by omega)⟩
  · obtain ⟨f1, f2, f3⟩ := e2 he
    rw [f1, f2, f3]
    have f4 : faN l fd = 0 := if_neg he
    rw [f4] at X
    generalize faE l fd = e at *
    have hb : (e == (0 : Int)) = false := by simpa using he
    clear e1 e2 f1 f2 f3 f4 Y
    go_enter Tryd.func13, Tryd.ntmps13
    go_upto_region 1 with fail
    rw [← hE]
    clear hE
    go_wp2_with (first
      | ((with_reducible refine at_load 22 ?_); refine wpList_load_box rfl 22 _ rfl w.heap.size rfl (i8 l) 22 _ (hA.out E (New.refl E)) Tryd.underlying22 rfl (by rw [i8_len, h8]; exact a8_info) ?_))
    refine (X _).mono ?_
    rintro en w1 ⟨rfl, n1⟩
    have hB := Lib.hid (hZ.out w1 n1)
    have N1 := Lib.hid (N0.out.trans n1)
    clear n1 X hZ hA N0
    go_wp2_with (first
      | ((with_reducible refine at_store 22 ?_); refine wpList_store_box rfl 22 _ _ rfl (w.heap.size + 1) (i8 z8) (i8 z8) 22 rfl rfl hB.out rfl a8_info (i8_one z8) ?_; intro w2 hb2 hf2))
    refine bodyPost_ret (v := .tuple #[.int .i64 0, .agg (i8 z8).toArray, .int .i64 e]) (by simp [results, Tryd.results13, asAddr, hb2.r8 rfl]) rfl ⟨rfl, N1.out.far8 hf2 (by omega)⟩
end Go.Proofs.YthkdgihjgllpeaaDoor
