/- Numbers of files: the package's Put, Drop, Dup. -/
import Derived.Test.YthkdgihjgllpeaaDoorFdQ
namespace Go.Proofs.YthkdgihjgllpeaaDoor
open Go.RowKit Go.Joins
set_option linter.unusedVariables false
set_option maxRecDepth 100000
theorem twoT (l : List Int) (w E : World) (hE : E = (w.alloc (.cells (i8 l).toArray 24)).alloc (.cells #[.int .i64 0, .int .i64 0, .int .i64 0, .int .i64 0, .int .i64 0, .int .i64 0, .int .i64 0, .int .i64 0] 24)) :
    New w E ∧ Box E w.heap.size (i8 l).toArray 24 ∧ Box E (w.heap.size + 1) (i8 z8).toArray 24 := by
  subst hE
  exact ⟨((New.refl w).alloc _ _).alloc _ _, (Box.here w _ _ _ rfl).alloc _, Box.here _ _ _ _ (by rw [World.size_alloc])⟩
theorem Box.nums8 {w : World} {b : Nat} {l : List Int} {t : TypeId} (h : Box w b (i8 l).toArray t) (h8 : l.length = 8) : Nums w (.slice (some ⟨b, 0, none⟩) 8 8) l :=
  ⟨_, 8, by rw [h8], ⟨by omega, by unfold maxLen; decide⟩, fun i hi => ⟨_, rfl, by rw [Addr.add_mid, Nat.zero_add]; exact h.c8 i hi⟩⟩
set_option maxHeartbeats 4000000 in
theorem pput8_bad (l : List Int) (h8 : l.length = 8) (f : Int) (w : World) (hb : fdOk l = false ∨ f < 0 ∨ 31 < f) : Calls Tryd.prog 6 #[.agg (i8 l).toArray, .int .i64 f] w fun e w' => e = .returned (.tuple #[.int .i64 0, .agg (i8 z8).toArray, erN 22]) ∧ New w w' := by
  obtain ⟨E, hE⟩ : ∃ E, E = (w.alloc (.cells (i8 l).toArray 24)).alloc (.cells #[.int .i64 0, .int .i64 0, .int .i64 0, .int .i64 0, .int .i64 0, .int .i64 0, .int .i64 0, .int .i64 0] 24) := ⟨_, rfl⟩
  obtain ⟨n0, bA, bZ⟩ := twoT l w E hE
  have X := fun W => pcheck8 l h8 W
  have ways : (fdOk l = false) ∨ (fdOk l = true ∧ f < 0) ∨ (fdOk l = true ∧ ¬ f < 0 ∧ 32 ≤ f) := by
    cases h : fdOk l with
    | false => exact .inl rfl
    | true => rcases hb with c | c | c; rw [h] at c; cases c; exact .inr (.inl ⟨rfl, c⟩); by_cases d : f < 0; exact .inr (.inl ⟨rfl, d⟩); exact .inr (.inr ⟨rfl, d, by omega⟩)
  have hZ : Hid (∀ W, New E W → Box W (w.heap.size + 1) (i8 z8).toArray 24) := Lib.hid (fun W k => bZ.new k)
  have hA : Hid (∀ W, New E W → Box W w.heap.size (i8 l).toArray 24) := Lib.hid (fun W k => bA.new k)
  have N0 := Lib.hid n0
  have EP := erN_pos (show (22 : Int) ≠ 0 by omega)
  rw [EP]
  clear hb bA bZ n0
  rcases ways with hm | ⟨hm, hf⟩ | ⟨hm, hf0, hf⟩
  · rw [hm, if_neg (by simp), EP] at X
    clear hm EP
    go_enter Tryd.func6, Tryd.ntmps6
    go_upto_region 1 with fail
    rw [← hE]
    clear hE
    go_wp2_with (first
      | ((with_reducible refine at_load 24 ?_); refine wpList_load_box rfl 24 _ rfl w.heap.size rfl (i8 l) 24 _ (hA.out E (New.refl E)) Tryd.underlying24 rfl (by rw [i8_len, h8]; exact tb_info) ?_))
    refine (X _).mono ?_
    rintro e w1 ⟨rfl, n1⟩
    have hB := hZ.out w1 n1
    have N1 := Lib.hid (N0.out.trans n1)
    clear n1 X
    go_wp2_with (first
      | ((with_reducible refine at_store 24 ?_); refine wpList_store_box rfl 24 _ _ rfl (w.heap.size + 1) (i8 z8) (i8 z8) 24 rfl rfl hB rfl tb_info (i8_one z8) ?_; intro w2 hb2 hf2))
    refine bodyPost_ret (v := .tuple #[.int .i64 0, .agg (i8 z8).toArray, .iface 47 (.int .i64 22)]) (by simp [results, Tryd.results6, asAddr, hb2.t8 rfl]) rfl ⟨rfl, N1.out.far8 hf2 (by omega)⟩
  all_goals
    rw [hm, if_pos rfl, fe00] at X
    clear hm EP
    go_enter Tryd.func6, Tryd.ntmps6
    go_upto_region 1 with fail
    rw [← hE]
    clear hE
    go_wp2_with (first
      | ((with_reducible refine at_load 24 ?_); refine wpList_load_box rfl 24 _ rfl w.heap.size rfl (i8 l) 24 _ (hA.out E (New.refl E)) Tryd.underlying24 rfl (by rw [i8_len, h8]; exact tb_info) ?_))
    refine (X _).mono ?_
    rintro e w1 ⟨rfl, n1⟩
    have hB := hZ.out w1 n1
    have N1 := Lib.hid (N0.out.trans n1)
    clear n1 X
    go_wp2_with (first
      | ((with_reducible refine at_store 24 ?_); refine wpList_store_box rfl 24 _ _ rfl (w.heap.size + 1) (i8 z8) (i8 z8) 24 rfl rfl hB rfl tb_info (i8_one z8) ?_; intro w2 hb2 hf2))
    refine bodyPost_ret (v := .tuple #[.int .i64 0, .agg (i8 z8).toArray, .iface 47 (.int .i64 22)]) (by simp [results, Tryd.results6, asAddr, hb2.t8 rfl]) rfl ⟨rfl, N1.out.far8 hf2 (by omega)⟩
set_option maxHeartbeats 4000000 in
theorem pput8_good (l : List Int) (h8 : l.length = 8) (f : Int) (w : World) (hm : fdOk l = true) (hf : 0 ≤ f ∧ f ≤ 31) (n : Int) (m : List Int) (e : Int) (hn : n = fpN l f) (hmm : m = fpL l f) (he : e = fpE l f) : Calls Tryd.prog 6 #[.agg (i8 l).toArray, .int .i64 f] w fun en w' => en = .returned (.tuple #[.int .i64 n, .agg (i8 m).toArray, erN e]) ∧ New w w' := by
  obtain ⟨E, hE⟩ : ∃ E, E = (w.alloc (.cells (i8 l).toArray 24)).alloc (.cells #[.int .i64 0, .int .i64 0, .int .i64 0, .int .i64 0, .int .i64 0, .int .i64 0, .int .i64 0, .int .i64 0] 24) := ⟨_, rfl⟩
  obtain ⟨n0, bA, bZ⟩ := twoT l w E hE
  have X := fun W => pcheck8 l h8 W
  have Y := fun v W hv => pindex8 l h8 v W hv
  have hZ : Hid (∀ W, New E W → Box W (w.heap.size + 1) (i8 z8).toArray 24) := Lib.hid (fun W k => bZ.new k)
  have hA : Hid (∀ W, New E W → Box W w.heap.size (i8 l).toArray 24) := Lib.hid (fun W k => bA.new k)
  have N0 := Lib.hid n0
  have fE : ¬ (fdOk l = false ∨ f < 0 ∨ 31 < f) := by rw [hm]; intro c; rcases c with c | c | c; cases c; omega; omega
  have hf0 : decide (f < 0) = false := decide_eq_false (by omega)
  have hf1 : decide (32 ≤ f) = false := decide_eq_false (by omega)
  rw [hm, if_pos rfl, fe00] at X
  have hle := fdF_le l
  rw [h8] at hle
  by_cases hF : fdF l = 8
  · have e1 : fpE l f = 24 := by unfold fpE; rw [if_neg fE, if_pos hF]
    have en : n = 0 := by rw [hn]; unfold fpN; rw [e1]; rfl
    have em : m = z8 := by rw [hmm]; unfold fpL; rw [e1]; rfl
    have ee : e = 24 := by rw [he, e1]
    subst en em ee
    have Z := Lib.hid (fun v W hv => show Calls _ _ _ _ _ from if_pos hF ▸ Y v W hv)
    rw [erN_pos (show (24 : Int) ≠ 0 by omega)]
    clear bA bZ n0 hm hn hmm he hf hF e1 fE hle Y
    go_enter Tryd.func6, Tryd.ntmps6
    go_upto_region 1 with fail
    rw [← hE]
    clear hE
    go_wp2_with (first
      | ((with_reducible refine at_load 24 ?_); refine wpList_load_box rfl 24 _ rfl w.heap.size rfl (i8 l) 24 _ (hA.out E (New.refl E)) Tryd.underlying24 rfl (by rw [i8_len, h8]; exact tb_info) ?_))
    refine (X _).mono ?_
    rintro en w1 ⟨rfl, n1⟩
    have hB := Lib.hid (hZ.out w1 n1)
    have hA1 := hA.out w1 n1
    have N1 := Lib.hid (N0.out.trans n1)
    have hnm := hA1.nums8 h8
    clear n1 X hZ hA N0 hA1
    go_wp2_with fail
    refine (Z.out _ _ hnm).mono ?_
    rintro en w2 ⟨rfl, n2⟩
    have hB2 := Lib.hid (hB.out.new n2)
    have N2 := Lib.hid (N1.out.trans n2)
    clear n2 Z hB N1 hnm
    go_wp2_with (first
      | ((with_reducible refine at_store 24 ?_); refine wpList_store_box rfl 24 _ _ rfl (w.heap.size + 1) (i8 z8) (i8 z8) 24 rfl rfl hB2.out rfl tb_info (i8_one z8) ?_; intro w3 hb2 hf2))
    refine bodyPost_ret (v := .tuple #[.int .i64 0, .agg (i8 z8).toArray, .iface 47 (.int .i64 24)]) (by simp [results, Tryd.results6, asAddr, hb2.t8 rfl]) rfl ⟨rfl, N2.out.far8 hf2 (by omega)⟩
  · have e1 : fpE l f = 0 := by unfold fpE; rw [if_neg fE, if_neg hF]
    obtain ⟨j, hj⟩ : ∃ j, j = fdF l := ⟨_, rfl⟩
    have en : n = (j : Int) := by rw [hn]; unfold fpN; rw [e1, if_pos rfl, hj]
    have em : m = l.set j (f + 1) := by rw [hmm]; unfold fpL; rw [e1, if_pos rfl, hj]
    have ee : e = 0 := by rw [he, e1]
    have Z := Lib.hid (fun v W hv => show Calls Tryd.prog 22 #[v, .int .i64 0] W fun en w' => en = .returned (.int .i64 (j : Int)) ∧ New W w' by have := Y v W hv; rwa [if_neg hF, ← hj] at this)
    have hj8 : j < 8 := by omega
    subst ee en
    have EM := Lib.hid em
    rw [fe00]
    have hm8 : m.length = 8 := by rw [em, List.length_set, h8]
    have hjn : ¬ ((j : Int) < 0) := by omega
    clear bA bZ n0 hm hn hmm he hF e1 fE hle Y hj em
    go_enter Tryd.func6, Tryd.ntmps6
    go_upto_region 1 with fail
    rw [← hE]
    clear hE
    go_wp2_with (first
      | ((with_reducible refine at_load 24 ?_); refine wpList_load_box rfl 24 _ rfl w.heap.size rfl (i8 l) 24 _ (hA.out E (New.refl E)) Tryd.underlying24 rfl (by rw [i8_len, h8]; exact tb_info) ?_))
    refine (X _).mono ?_
    rintro en w1 ⟨rfl, n1⟩
    have hB := Lib.hid (hZ.out w1 n1)
    have hA1 := hA.out w1 n1
    have N1 := Lib.hid (N0.out.trans n1)
    have hnm := hA1.nums8 h8
    have HA1 := Lib.hid hA1
    clear n1 X hZ hA N0 hA1
    go_wp2_with fail
    refine (Z.out _ _ hnm).mono ?_
    rintro en w2 ⟨rfl, n2⟩
    have hB2 := hB.out.new n2
    have hA2 := HA1.out.new n2
    have N2 := N1.out.trans n2
    have fz := hA2.unfrozen j
    have lb := hA2.lt
    have hc := hA2.c8 j (by omega)
    have bM := hA2.s8 j (f + 1)
    rw [← EM.out] at bM
    have bZ2 := hB2.other (p := ⟨w.heap.size, j, none⟩) (by show w.heap.size ≠ _; omega) (.int .i64 (f + 1))
    have nM := N2.setCell (p := ⟨w.heap.size, j, none⟩) (Nat.le_refl _) (.int .i64 (f + 1))
    clear n2 Z hB N1 hnm HA1 hB2 hA2 N2
    go_upto_region 10 with fail
    generalize World.setCell _ _ _ = W2 at *
    obtain ⟨q0, q1, q2, q3, q4, q5, q6, q7, hq⟩ := list8 hm8
    rw [hq] at bM
    have bM : Box W2 w.heap.size #[.int .i64 q0, .int .i64 q1, .int .i64 q2, .int .i64 q3, .int .i64 q4, .int .i64 q5, .int .i64 q6, .int .i64 q7] 24 := bM
    have bZ2 : Box W2 (w.heap.size + 1) #[.int .i64 0, .int .i64 0, .int .i64 0, .int .i64 0, .int .i64 0, .int .i64 0, .int .i64 0, .int .i64 0] 24 := bZ2
    obtain ⟨la, ⟨a0, a1, a2, a3, a4, a5, a6, a7⟩, -⟩ := bM.eight
    obtain ⟨lz, ⟨z0, z1, z2, z3, z4, z5, z6, z7⟩, g0, g1, g2, g3, g4, g5, g6, g7⟩ := bZ2.eight
    have BZ2 := Lib.hid bZ2
    have NM := Lib.hid nM
    have HQ := Lib.hid hq
    clear hc fz lb bM bZ2 nM hq hf0 hf1 hf
    go_region
    have B9 := ((BZ2.out.set8 (.int .i64 q0) (.int .i64 q1) (.int .i64 q2) (.int .i64 q3) (.int .i64 q4) (.int .i64 q5) (.int .i64 q6) (.int .i64 q7)).new (New.refl _).drew)
    have N9 := (NM.out.set8 (g := w.heap.size + 1) (by omega) (.int .i64 q0) (.int .i64 q1) (.int .i64 q2) (.int .i64 q3) (.int .i64 q4) (.int .i64 q5) (.int .i64 q6) (.int .i64 q7)).drew
    have B9 : Box _ (w.heap.size + 1) (i8 [q0, q1, q2, q3, q4, q5, q6, q7]).toArray 24 := B9
    have R8 := B9.t8 rfl
    clear a0 a1 a2 a3 a4 a5 a6 a7 z0 z1 z2 z3 z4 z5 z6 z7 g0 g1 g2 g3 g4 g5 g6 g7 B9
    generalize World.drew _ = W9 at *
    go_wp2
    refine bodyPost_ret (v := .tuple #[.int .i64 j, .agg (i8 [q0, q1, q2, q3, q4, q5, q6, q7]).toArray, .nilIface]) (by simp [results, Tryd.results6, asAddr, R8]) rfl ⟨by rw [HQ.out], N9⟩
theorem pput8 (l : List Int) (h8 : l.length = 8) (f : Int) (w : World) : Calls Tryd.prog 6 #[.agg (i8 l).toArray, .int .i64 f] w fun en w' => en = .returned (.tuple #[.int .i64 (fpN l f), .agg (i8 (fpL l f)).toArray, erN (fpE l f)]) ∧ New w w' := by
  by_cases hb : fdOk l = false ∨ f < 0 ∨ 31 < f
  · have e1 : fpE l f = 22 := if_pos hb
    have e2 : fpN l f = 0 := by unfold fpN; rw [e1]; rfl
    have e3 : fpL l f = z8 := by unfold fpL; rw [e1]; rfl
    rw [e1, e2, e3]; exact pput8_bad l h8 f w hb
  · exact pput8_good l h8 f w (by cases h : fdOk l; exact absurd (.inl h) hb; rfl) (by omega) _ _ _ rfl rfl rfl
set_option maxHeartbeats 4000000 in
theorem pdrop8 (l : List Int) (h8 : l.length = 8) (fd : Int) (w : World) : Calls Tryd.prog 10 #[.agg (i8 l).toArray, .int .i64 fd] w fun en w' => en = .returned (.tuple #[.int .i64 (faN l fd), .agg (i8 (fdL l fd)).toArray, erN (faE l fd)]) ∧ New w w' := by
  obtain ⟨E, hE⟩ : ∃ E, E = (w.alloc (.cells (i8 l).toArray 24)).alloc (.cells #[.int .i64 0, .int .i64 0, .int .i64 0, .int .i64 0, .int .i64 0, .int .i64 0, .int .i64 0, .int .i64 0] 24) := ⟨_, rfl⟩
  obtain ⟨n0, bA, bZ⟩ := twoT l w E hE
  have X := fun W => pat8 l h8 fd W
  have hZ : Hid (∀ W, New E W → Box W (w.heap.size + 1) (i8 z8).toArray 24) := Lib.hid (fun W k => bZ.new k)
  have hA : Hid (∀ W, New E W → Box W w.heap.size (i8 l).toArray 24) := Lib.hid (fun W k => bA.new k)
  have N0 := Lib.hid n0
  have hd := Lib.hid (show faE l fd = 0 → fdL l fd = l.set fd.toNat 0 from fun h => if_pos h)
  have hz := Lib.hid (show faE l fd ≠ 0 → fdL l fd = z8 ∧ faN l fd = 0 from fun h => ⟨if_neg h, if_neg h⟩)
  have hin := Lib.hid (faE_in (l := l) (fd := fd))
  generalize fdL l fd = m at *
  generalize faN l fd = n at *
  generalize faE l fd = e at *
  clear bA bZ n0
  by_cases he : e = 0
  · subst he
    obtain ⟨j, rfl⟩ : ∃ j : Nat, fd = (j : Int) := ⟨fd.toNat, by have := hin.out rfl; omega⟩
    have hj : j < 8 := by have := hin.out rfl; omega
    have hm : m = l.set j 0 := by have := hd.out rfl; rwa [Int.toNat_natCast] at this
    have HM := Lib.hid hm
    rw [fe00] at X ⊢
    clear hd hz hin hm
    go_enter Tryd.func10, Tryd.ntmps10
    go_upto_region 1 with fail
    rw [← hE]
    clear hE
    go_wp2_with (first
      | ((with_reducible refine at_load 24 ?_); refine wpList_load_box rfl 24 _ rfl w.heap.size rfl (i8 l) 24 _ (hA.out E (New.refl E)) Tryd.underlying24 rfl (by rw [i8_len, h8]; exact tb_info) ?_))
    refine (X _).mono ?_
    rintro en w1 ⟨rfl, n1⟩
    have hB := hZ.out w1 n1
    have hA1 := hA.out w1 n1
    have N1 := N0.out.trans n1
    have fz := hA1.unfrozen j
    have lb := hA1.lt
    have hc := hA1.c8 j (by omega)
    have hm8 : m.length = 8 := by rw [HM.out, List.length_set, h8]
    have bM := hA1.s8 j 0
    rw [← HM.out] at bM
    have bZ2 := hB.other (p := ⟨w.heap.size, j, none⟩) (by show w.heap.size ≠ _; omega) (.int .i64 0)
    have nM := N1.setCell (p := ⟨w.heap.size, j, none⟩) (Nat.le_refl _) (.int .i64 0)
    clear n1 X hZ hA N0 hB hA1 N1
    go_upto_region 5 with fail
    generalize World.setCell _ _ _ = W2 at *
    obtain ⟨q0, q1, q2, q3, q4, q5, q6, q7, hq⟩ := list8 hm8
    rw [hq] at bM
    have bM : Box W2 w.heap.size #[.int .i64 q0, .int .i64 q1, .int .i64 q2, .int .i64 q3, .int .i64 q4, .int .i64 q5, .int .i64 q6, .int .i64 q7] 24 := bM
    have bZ2 : Box W2 (w.heap.size + 1) #[.int .i64 0, .int .i64 0, .int .i64 0, .int .i64 0, .int .i64 0, .int .i64 0, .int .i64 0, .int .i64 0] 24 := bZ2
    obtain ⟨la, ⟨a0, a1, a2, a3, a4, a5, a6, a7⟩, -⟩ := bM.eight
    obtain ⟨lz, ⟨z0, z1, z2, z3, z4, z5, z6, z7⟩, g0, g1, g2, g3, g4, g5, g6, g7⟩ := bZ2.eight
    have BZ2 := Lib.hid bZ2
    have NM := Lib.hid nM
    have HQ := Lib.hid hq
    clear hc fz lb bM bZ2 nM hq
    go_region
    have B9 := ((BZ2.out.set8 (.int .i64 q0) (.int .i64 q1) (.int .i64 q2) (.int .i64 q3) (.int .i64 q4) (.int .i64 q5) (.int .i64 q6) (.int .i64 q7)).new (New.refl _).drew)
    have N9 := (NM.out.set8 (g := w.heap.size + 1) (by omega) (.int .i64 q0) (.int .i64 q1) (.int .i64 q2) (.int .i64 q3) (.int .i64 q4) (.int .i64 q5) (.int .i64 q6) (.int .i64 q7)).drew
    have B9 : Box _ (w.heap.size + 1) (i8 [q0, q1, q2, q3, q4, q5, q6, q7]).toArray 24 := B9
    have R8 := B9.t8 rfl
    clear a0 a1 a2 a3 a4 a5 a6 a7 z0 z1 z2 z3 z4 z5 z6 z7 g0 g1 g2 g3 g4 g5 g6 g7 B9
    generalize World.drew _ = W9 at *
    go_wp2
    refine bodyPost_ret (v := .tuple #[.int .i64 n, .agg (i8 [q0, q1, q2, q3, q4, q5, q6, q7]).toArray, .nilIface]) (by simp [results, Tryd.results10, asAddr, R8]) rfl ⟨by rw [HQ.out], N9⟩
  · obtain ⟨hm, hn⟩ := hz.out he
    subst hm hn
    rw [erN_pos he] at X ⊢
    clear hd hz hin
    go_enter Tryd.func10, Tryd.ntmps10
    go_upto_region 1 with fail
    rw [← hE]
    clear hE
    go_wp2_with (first
      | ((with_reducible refine at_load 24 ?_); refine wpList_load_box rfl 24 _ rfl w.heap.size rfl (i8 l) 24 _ (hA.out E (New.refl E)) Tryd.underlying24 rfl (by rw [i8_len, h8]; exact tb_info) ?_))
    refine (X _).mono ?_
    rintro en w1 ⟨rfl, n1⟩
    have hB := Lib.hid (hZ.out w1 n1)
    have N1 := Lib.hid (N0.out.trans n1)
    clear n1 X hZ hA N0
    go_wp2_with (first
      | ((with_reducible refine at_store 24 ?_); refine wpList_store_box rfl 24 _ _ rfl (w.heap.size + 1) (i8 z8) (i8 z8) 24 rfl rfl hB.out rfl tb_info (i8_one z8) ?_; intro w2 hb2 hf2))
    refine bodyPost_ret (v := .tuple #[.int .i64 0, .agg (i8 z8).toArray, .iface 47 (.int .i64 e)]) (by simp [results, Tryd.results10, asAddr, hb2.t8 rfl]) rfl ⟨rfl, N1.out.far8 hf2 (by omega)⟩
set_option maxHeartbeats 4000000 in
theorem pdup8 (l : List Int) (h8 : l.length = 8) (fd : Int) (w : World) : Calls Tryd.prog 12 #[.agg (i8 l).toArray, .int .i64 fd] w fun en w' => en = .returned (.tuple #[.int .i64 (fuN l fd), .agg (i8 (fuL l fd)).toArray, erN (fuE l fd)]) ∧ New w w' := by
  obtain ⟨E, hE⟩ : ∃ E, E = (w.alloc (.cells (i8 l).toArray 24)).alloc (.cells #[.int .i64 0, .int .i64 0, .int .i64 0, .int .i64 0, .int .i64 0, .int .i64 0, .int .i64 0, .int .i64 0] 24) := ⟨_, rfl⟩
  obtain ⟨n0, bA, bZ⟩ := twoT l w E hE
  have X := fun W => pat8 l h8 fd W
  have Y := fun W => pput8 l h8 (faN l fd) W
  have hZ : Hid (∀ W, New E W → Box W (w.heap.size + 1) (i8 z8).toArray 24) := Lib.hid (fun W k => bZ.new k)
  have hA : Hid (∀ W, New E W → Box W w.heap.size (i8 l).toArray 24) := Lib.hid (fun W k => bA.new k)
  have N0 := Lib.hid n0
  have e1 : faE l fd = 0 → fuE l fd = fpE l (faN l fd) ∧ fuN l fd = fpN l (faN l fd) ∧ fuL l fd = fpL l (faN l fd) := fun h => by
    have : fuE l fd = fpE l (faN l fd) := by unfold fuE; rw [if_neg (fun c => c h)]
    refine ⟨this, ?_, ?_⟩
    · unfold fuN fpN; rw [this]
    · unfold fuL fpL; rw [this]
  have e2 : faE l fd ≠ 0 → fuE l fd = faE l fd ∧ fuN l fd = 0 ∧ fuL l fd = z8 := fun h => by
    have : fuE l fd = faE l fd := by unfold fuE; rw [if_pos h]
    refine ⟨this, ?_, ?_⟩
    · unfold fuN; rw [this, if_neg h]
    · unfold fuL; rw [this, if_neg h]
  clear bA bZ n0
  by_cases he : faE l fd = 0
  · obtain ⟨f1, f2, f3⟩ := e1 he
    rw [f1, f2, f3]
    rw [he, fe00] at X
    have hl := fpL_len h8 (faN l fd)
    generalize fpL l (faN l fd) = m at *
    generalize fpN l (faN l fd) = n at *
    generalize fpE l (faN l fd) = e at *
    generalize faN l fd = k at *
    generalize erN e = ev at *
    clear e1 e2 f1 f2 f3 he
    go_enter Tryd.func12, Tryd.ntmps12
    go_upto_region 1 with fail
    rw [← hE]
    clear hE
    go_wp2_with (first
      | ((with_reducible refine at_load 24 ?_); refine wpList_load_box rfl 24 _ rfl w.heap.size rfl (i8 l) 24 _ (hA.out E (New.refl E)) Tryd.underlying24 rfl (by rw [i8_len, h8]; exact tb_info) ?_))
    refine (X _).mono ?_
    rintro en w1 ⟨rfl, n1⟩
    have hB := Lib.hid (hZ.out w1 n1)
    have hA1 := Lib.hid (hA.out w1 n1)
    have N1 := Lib.hid (N0.out.trans n1)
    clear n1 X hZ hA N0
    go_wp2_with (first
      | ((with_reducible refine at_load 24 ?_); refine wpList_load_box rfl 24 _ rfl w.heap.size rfl (i8 l) 24 _ hA1.out Tryd.underlying24 rfl (by rw [i8_len, h8]; exact tb_info) ?_))
    refine (Y _).mono ?_
    rintro en w2 ⟨rfl, n2⟩
    have hB2 := Lib.hid (hB.out.new n2)
    have N2 := Lib.hid (N1.out.trans n2)
    clear n2 Y hB N1 hA1
    go_wp2_with (first
      | ((with_reducible refine at_store 24 ?_); refine wpList_store_box rfl 24 _ _ rfl (w.heap.size + 1) (i8 m) (i8 z8) 24 rfl rfl hB2.out (by rw [i8_len, i8_len, hl]; rfl) (by rw [i8_len, hl]; exact tb_info) (i8_one m) ?_; intro w3 hb2 hf2))
    refine bodyPost_ret (v := .tuple #[.int .i64 n, .agg (i8 m).toArray, ev]) (by simp [results, Tryd.results12, asAddr, hb2.t8 hl]) rfl ⟨rfl, N2.out.far8 hf2 (by omega)⟩
  · obtain ⟨f1, f2, f3⟩ := e2 he
    rw [f1, f2, f3]
    have f4 : faN l fd = 0 := if_neg he
    rw [f4] at X
    generalize faE l fd = e at *
    rw [erN_pos he] at X ⊢
    clear e1 e2 f1 f2 f3 f4 Y
    go_enter Tryd.func12, Tryd.ntmps12
    go_upto_region 1 with fail
    rw [← hE]
    clear hE
    go_wp2_with (first
      | ((with_reducible refine at_load 24 ?_); refine wpList_load_box rfl 24 _ rfl w.heap.size rfl (i8 l) 24 _ (hA.out E (New.refl E)) Tryd.underlying24 rfl (by rw [i8_len, h8]; exact tb_info) ?_))
    refine (X _).mono ?_
    rintro en w1 ⟨rfl, n1⟩
    have hB := Lib.hid (hZ.out w1 n1)
    have N1 := Lib.hid (N0.out.trans n1)
    clear n1 X hZ hA N0
    go_wp2_with (first
      | ((with_reducible refine at_store 24 ?_); refine wpList_store_box rfl 24 _ _ rfl (w.heap.size + 1) (i8 z8) (i8 z8) 24 rfl rfl hB.out rfl tb_info (i8_one z8) ?_; intro w2 hb2 hf2))
    refine bodyPost_ret (v := .tuple #[.int .i64 0, .agg (i8 z8).toArray, .iface 47 (.int .i64 e)]) (by simp [results, Tryd.results12, asAddr, hb2.t8 rfl]) rfl ⟨rfl, N1.out.far8 hf2 (by omega)⟩
end Go.Proofs.YthkdgihjgllpeaaDoor
