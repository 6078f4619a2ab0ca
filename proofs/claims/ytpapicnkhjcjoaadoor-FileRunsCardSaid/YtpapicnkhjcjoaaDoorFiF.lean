/- The document's open files: Ref. -/
import Derived.Test.YtpapicnkhjcjoaaDoorFiE
import Derived.Deep.CutRange
namespace Go.Proofs.YtpapicnkhjcjoaaDoor
open Go.RowKit
set_option linter.unusedVariables false
set_option maxRecDepth 100000
section
variable {w w' : World} {u : Value} {L : Ft} {most : Int}
theorem fgE_nine {n : Int} (h : fgE L n ≠ 0) : fgE L n = 9 := by
  unfold fgE at h ⊢
  cases hg : lget L n with
  | none => rfl
  | some x => rw [hg] at h; exact absurd rfl h
set_option maxHeartbeats 8000000 in
theorem rfref_any {b : Nat} (h0 : OwnW RIt b w u (L.map itC)) (hbs : b ≤ w.heap.size) (hl : L.length ≤ 100000) (n by_ : Int) (hb : -1 ≤ by_ ∧ by_ ≤ 1) (hr : -4611686018427387904 ≤ (fgF L n).rf ∧ (fgF L n).rf ≤ 4611686018427387904) : Calls Tryd.prog 15 #[DtV most u, .int .i64 n, .int .i64 by_] w fun e w' => ∃ u', e = .returned (.tuple #[DtV most u', FlV (frO L n by_), .int .i64 (frE L n by_)]) ∧ DtD b u w w' u' (frL L n by_) := by
  have h : Its w u L := h0.rws
  have HOW := Lib.hid h0
  clear h0
  obtain ⟨p, cap, rfl, h1, h2⟩ := h.shape
  unfold maxLen at h2
  have H := Lib.hid h
  obtain ⟨E, hE⟩ : ∃ E, E = ((w.alloc (.cells #[.int .i64 most, .slice p L.length cap] 44)).alloc (.cells #[.int .i64 0, .slice none 0 0] 44)).alloc (.cells #[.int .i64 0, .int .i64 0, .int .i64 0, .bool false, .bool false, .string ⟨#[]⟩, .int .i64 0] 45) := ⟨_, rfl⟩
  have n0 : New w E := by rw [hE]; exact (((New.refl w).alloc _ _).alloc _ _).alloc _ _
  have bA : Box E w.heap.size #[.int .i64 most, .slice p L.length cap] 44 := by rw [hE]; exact ((Box.here w _ _ _ rfl).alloc _).alloc _
  have bZ : Box E (w.heap.size + 1) #[.int .i64 0, .slice none 0 0] 44 := by rw [hE]; exact (Box.here _ _ _ _ (by rw [World.size_alloc])).alloc _
  have bY : Box E (w.heap.size + 2) #[.int .i64 0, .int .i64 0, .int .i64 0, .bool false, .bool false, .string ⟨#[]⟩, .int .i64 0] 45 := by rw [hE]; exact Box.here _ _ _ _ (by rw [World.size_alloc, World.size_alloc])
  have X := rfget_any (w := E) (most := most) (h.new n0) (by omega) n
  have cW := fun W (k : New w W) (f : Fl) => rfwith_any (w := W) (most := most) (h.new k) hl n f
  unfold DtV FlV at *
  clear h
  by_cases hg : fgE L n = 0
  · rw [hg] at X
    by_cases ho : 1048576 < (frB L n by_).rf
    · have e1 : frE L n by_ = 22 := by unfold frE; rw [if_neg (fun c => c hg), if_pos ho]
      have e2 : frL L n by_ = L := by unfold frL; rw [e1]; rfl
      have e3 : frO L n by_ = Fl.zero := by unfold frO; rw [e1]; rfl
      rw [e1, e2, e3]
      have ho' : 1048576 < (fgF L n).rf + by_ := ho
      clear e1 e2 e3 hg cW ho
      generalize fgF L n = f at *
      generalize hLN : L.length = ln at *
      go_enter Tryd.func15, Tryd.ntmps15
      go_wp2_with fail
      rw [← hE]
      refine X.mono ?_
      rintro e w1 ⟨rfl, n1⟩
      have n2 := n0.trans n1
      have sz := n0.size
      have lE := bY.lt
      have sz1 := n1.size
      have BA := Lib.hid (bA.new n1)
      have BZ := Lib.hid (bZ.new n1)
      have BY := Lib.hid (bY.new n1)
      obtain ⟨a0, a1⟩ := (bA.new n1).two
      have la := (bA.new n1).lt
      obtain ⟨z0, z1⟩ := (bZ.new n1).two
      have g0 := (bZ.new n1).unfrozen 0
      have g1 := (bZ.new n1).unfrozen 1
      have lz := (bZ.new n1).lt
      obtain ⟨ly, ⟨y0, y1, y2, y3, y4, y5, y6⟩, h0, h1', h2', h3, h4, h5, h6⟩ := (bY.new n1).seven
      clear X hE bA bZ bY n1 n0
      go_upto_region 2 with fail
      obtain ⟨W7, hW7⟩ : ∃ W7, W7 = w1.alloc (.cells #[.int .i64 f.k, .int .i64 f.id, .int .i64 f.off, .bool f.rd, .bool f.wt, .string (ba f.nm), .int .i64 f.rf] 45) := ⟨_, rfl⟩
      have n3 : New w1 W7 := by rw [hW7]; exact (New.refl w1).alloc _ _
      have bF : Box W7 w1.heap.size #[.int .i64 f.k, .int .i64 f.id, .int .i64 f.off, .bool f.rd, .bool f.wt, .string (ba f.nm), .int .i64 f.rf] 45 := by rw [hW7]; exact Box.here _ _ _ _ rfl
      rw [← hW7]
      have n7 : New w W7 := n2.trans n3
      have BA := Lib.hid (BA.out.new n3)
      have BZ := Lib.hid (BZ.out.new n3)
      have BY := Lib.hid (BY.out.new n3)
      have BF := Lib.hid bF
      clear hW7 a0 a1 z0 z1 g0 g1 y0 y1 y2 y3 y4 y5 y6 h0 h1' h2' h3 h4 h5 h6 la lz ly n3 n2 bF
      obtain ⟨lf, ⟨c0, c1, c2, c3, c4, c5, c6⟩, -, -, -, -, -, -, f6⟩ := BF.out.seven
      go_upto_region 6 with fail
      obtain ⟨W8, hW8⟩ : ∃ W8, W8 = W7.setCell ⟨w1.heap.size, 6, none⟩ (.int .i64 (f.rf + by_)) := ⟨_, rfl⟩
      rw [← hW8]
      have n8 : New w W8 := by rw [hW8]; exact n7.setCell (p := ⟨w1.heap.size, 6, none⟩) (by show _ ≤ w1.heap.size; omega) _
      have BA := Lib.hid (show Box W8 _ _ _ by rw [hW8]; exact BA.out.other (p := ⟨w1.heap.size, 6, none⟩) (by show w1.heap.size ≠ _; omega) _)
      have BZ := Lib.hid (show Box W8 _ _ _ by rw [hW8]; exact BZ.out.other (p := ⟨w1.heap.size, 6, none⟩) (by show w1.heap.size ≠ _; omega) _)
      have BY := Lib.hid (show Box W8 _ _ _ by rw [hW8]; exact BY.out.other (p := ⟨w1.heap.size, 6, none⟩) (by show w1.heap.size ≠ _; omega) _)
      have bF : Box W8 w1.heap.size #[.int .i64 f.k, .int .i64 f.id, .int .i64 f.off, .bool f.rd, .bool f.wt, .string (ba f.nm), .int .i64 (f.rf + by_)] 45 := by rw [hW8]; simpa using BF.out.set 6 (.int .i64 (f.rf + by_))
      clear hW8 n7 c0 c1 c2 c3 c4 c5 c6 f6
      obtain ⟨a0, a1⟩ := BA.out.two
      obtain ⟨z0, z1⟩ := BZ.out.two
      have g0 := BZ.out.unfrozen 0
      have g1 := BZ.out.unfrozen 1
      obtain ⟨ly, ⟨y0, y1, y2, y3, y4, y5, y6⟩, h0, h1', h2', h3, h4, h5, h6⟩ := BY.out.seven
      go_wp2
      have BZf := ((BZ.out.set2 (.int .i64 most) (.slice p ln cap)).oth7 (g := w.heap.size + 2) (by omega) (.int .i64 0) (.int .i64 0) (.int .i64 0) (.bool false) (.bool false) (.string ⟨#[]⟩) (.int .i64 0)).rtb
      have BYf := ((BY.out.oth2 (g := w.heap.size + 1) (by omega) (.int .i64 most) (.slice p ln cap)).set7 (.int .i64 0) (.int .i64 0) (.int .i64 0) (.bool false) (.bool false) (.string ⟨#[]⟩) (.int .i64 0)).rfi
      have HN := (n8.set2 (g := w.heap.size + 1) (by omega) (.int .i64 most) (.slice p ln cap)).set7 (g := w.heap.size + 2) (by omega) (.int .i64 0) (.int .i64 0) (.int .i64 0) (.bool false) (.bool false) (.string ⟨#[]⟩) (.int .i64 0)
      exact bodyPost_ret (v := .tuple #[.agg #[.int .i64 most, .slice p ln cap], .agg #[.int .i64 0, .int .i64 0, .int .i64 0, .bool false, .bool false, .string ⟨#[]⟩, .int .i64 0], .int .i64 22]) (by simp [results, Tryd.results15, asAddr, BZf, BYf]) rfl ⟨_, rfl, HOW.out.new HN, fun g hg => .inr hg, HN⟩
    · have e1 : frE L n by_ = 0 := by unfold frE; rw [if_neg (fun c => c hg), if_neg ho]
      have e2 : frL L n by_ = lwith L n (frB L n by_) := by unfold frL; rw [if_pos e1]
      have e3 : frO L n by_ = frB L n by_ := by unfold frO; rw [if_pos e1]
      rw [e1, e2, e3]
      have ho' : ¬ 1048576 < (fgF L n).rf + by_ := ho
      unfold frB
      clear e1 e2 e3 hg ho
      generalize fgF L n = f at *
      have cW := fun W k => cW W k { f with rf := f.rf + by_ }
      dsimp only at cW ⊢
      generalize lwith L n { f with rf := f.rf + by_ } = L' at *
      have CW := Lib.hid cW
      clear cW
      generalize hLN : L.length = ln at *
      go_enter Tryd.func15, Tryd.ntmps15
      go_wp2_with fail
      rw [← hE]
      refine X.mono ?_
      rintro e w1 ⟨rfl, n1⟩
      have n2 := n0.trans n1
      have sz := n0.size
      have lE := bY.lt
      have sz1 := n1.size
      have BA := Lib.hid (bA.new n1)
      have BZ := Lib.hid (bZ.new n1)
      have BY := Lib.hid (bY.new n1)
      obtain ⟨a0, a1⟩ := (bA.new n1).two
      have la := (bA.new n1).lt
      obtain ⟨z0, z1⟩ := (bZ.new n1).two
      have g0 := (bZ.new n1).unfrozen 0
      have g1 := (bZ.new n1).unfrozen 1
      have lz := (bZ.new n1).lt
      obtain ⟨ly, ⟨y0, y1, y2, y3, y4, y5, y6⟩, h0, h1', h2', h3, h4, h5, h6⟩ := (bY.new n1).seven
      clear X hE bA bZ bY n1 n0
      go_upto_region 2 with fail
      obtain ⟨W7, hW7⟩ : ∃ W7, W7 = w1.alloc (.cells #[.int .i64 f.k, .int .i64 f.id, .int .i64 f.off, .bool f.rd, .bool f.wt, .string (ba f.nm), .int .i64 f.rf] 45) := ⟨_, rfl⟩
      have n3 : New w1 W7 := by rw [hW7]; exact (New.refl w1).alloc _ _
      have bF : Box W7 w1.heap.size #[.int .i64 f.k, .int .i64 f.id, .int .i64 f.off, .bool f.rd, .bool f.wt, .string (ba f.nm), .int .i64 f.rf] 45 := by rw [hW7]; exact Box.here _ _ _ _ rfl
      rw [← hW7]
      have n7 : New w W7 := n2.trans n3
      have BA := Lib.hid (BA.out.new n3)
      have BZ := Lib.hid (BZ.out.new n3)
      have BY := Lib.hid (BY.out.new n3)
      have BF := Lib.hid bF
      clear hW7 a0 a1 z0 z1 g0 g1 y0 y1 y2 y3 y4 y5 y6 h0 h1' h2' h3 h4 h5 h6 la lz ly n3 n2 bF
      obtain ⟨lf, ⟨c0, c1, c2, c3, c4, c5, c6⟩, -, -, -, -, -, -, f6⟩ := BF.out.seven
      go_wp2_with fail
      obtain ⟨W8, hW8⟩ : ∃ W8, W8 = W7.setCell ⟨w1.heap.size, 6, none⟩ (.int .i64 (f.rf + by_)) := ⟨_, rfl⟩
      rw [← hW8]
      have n8 : New w W8 := by rw [hW8]; exact n7.setCell (p := ⟨w1.heap.size, 6, none⟩) (by show _ ≤ w1.heap.size; omega) _
      have BA := Lib.hid (show Box W8 _ _ _ by rw [hW8]; exact BA.out.other (p := ⟨w1.heap.size, 6, none⟩) (by show w1.heap.size ≠ _; omega) _)
      have BZ := Lib.hid (show Box W8 _ _ _ by rw [hW8]; exact BZ.out.other (p := ⟨w1.heap.size, 6, none⟩) (by show w1.heap.size ≠ _; omega) _)
      have BY := Lib.hid (show Box W8 _ _ _ by rw [hW8]; exact BY.out.other (p := ⟨w1.heap.size, 6, none⟩) (by show w1.heap.size ≠ _; omega) _)
      have bF : Box W8 w1.heap.size #[.int .i64 f.k, .int .i64 f.id, .int .i64 f.off, .bool f.rd, .bool f.wt, .string (ba f.nm), .int .i64 (f.rf + by_)] 45 := by rw [hW8]; simpa using BF.out.set 6 (.int .i64 (f.rf + by_))
      clear hW8 n7 c0 c1 c2 c3 c4 c5 c6 f6
      obtain ⟨a0, a1⟩ := BA.out.two
      obtain ⟨lf, ⟨c0, c1, c2, c3, c4, c5, c6⟩, -⟩ := bF.seven
      have nd : New W8 W8.drew := (New.refl W8).drew
      have KEEP : ∀ w', But (fun g => g = w.heap.size + 1 ∨ g = w.heap.size + 2) W8 w' → w'.cell? ⟨w.heap.size, 0, none⟩ = some (.int .i64 most) ∧ w'.cell? ⟨w.heap.size, 1, none⟩ = some (.slice p ln cap) ∧ w'.cell? ⟨w1.heap.size, 0, none⟩ = some (.int .i64 f.k) ∧ w'.cell? ⟨w1.heap.size, 1, none⟩ = some (.int .i64 f.id) ∧ w'.cell? ⟨w1.heap.size, 2, none⟩ = some (.int .i64 f.off) ∧ w'.cell? ⟨w1.heap.size, 3, none⟩ = some (.bool f.rd) ∧ w'.cell? ⟨w1.heap.size, 4, none⟩ = some (.bool f.wt) ∧ w'.cell? ⟨w1.heap.size, 5, none⟩ = some (.string (ba f.nm)) ∧ w'.cell? ⟨w1.heap.size, 6, none⟩ = some (.int .i64 (f.rf + by_)) := fun w' k => by
        have ka : ∀ o x, W8.cell? ⟨w.heap.size, o, none⟩ = some x → w'.cell? ⟨w.heap.size, o, none⟩ = some x := fun o x h => by rw [k.cell (p := ⟨w.heap.size, o, none⟩) (cell_lt h) (by show ¬ (w.heap.size = _ ∨ w.heap.size = _); omega)]; exact h
        have kb : ∀ o x, W8.cell? ⟨w1.heap.size, o, none⟩ = some x → w'.cell? ⟨w1.heap.size, o, none⟩ = some x := fun o x h => by rw [k.cell (p := ⟨w1.heap.size, o, none⟩) (cell_lt h) (by show ¬ (w1.heap.size = _ ∨ w1.heap.size = _); omega)]; exact h
        exact ⟨ka _ _ a0, ka _ _ a1, kb _ _ c0, kb _ _ c1, kb _ _ c2, kb _ _ c3, kb _ _ c4, kb _ _ c5, kb _ _ c6⟩
      have KEEP := Lib.hid KEEP
      have ND : But (fun g => g = w.heap.size + 1 ∨ g = w.heap.size + 2) W8 W8.drew := But.of_new _ nd
      have SET2 : ∀ w' x y, But (fun g => g = w.heap.size + 1 ∨ g = w.heap.size + 2) w' ((w'.setCell ⟨w.heap.size + 1, 0, none⟩ x).setCell ⟨w.heap.size + 1, 1, none⟩ y) := fun w' x y => (But.set w' (p := ⟨w.heap.size + 1, 0, none⟩) (.inl rfl) x).trans (But.set _ (p := ⟨w.heap.size + 1, 1, none⟩) (.inl rfl) y)
      have SET2 := Lib.hid SET2
      have SET7 : ∀ w' x0 x1 x2 x3 x4 x5 x6, But (fun g => g = w.heap.size + 1 ∨ g = w.heap.size + 2) w' (((((((w'.setCell ⟨w.heap.size + 2, 0, none⟩ x0).setCell ⟨w.heap.size + 2, 1, none⟩ x1).setCell ⟨w.heap.size + 2, 2, none⟩ x2).setCell ⟨w.heap.size + 2, 3, none⟩ x3).setCell ⟨w.heap.size + 2, 4, none⟩ x4).setCell ⟨w.heap.size + 2, 5, none⟩ x5).setCell ⟨w.heap.size + 2, 6, none⟩ x6) := fun w' x0 x1 x2 x3 x4 x5 x6 =>
        ((((((But.set w' (p := ⟨w.heap.size + 2, 0, none⟩) (.inr rfl) x0).trans (But.set _ (p := ⟨w.heap.size + 2, 1, none⟩) (.inr rfl) x1)).trans (But.set _ (p := ⟨w.heap.size + 2, 2, none⟩) (.inr rfl) x2)).trans (But.set _ (p := ⟨w.heap.size + 2, 3, none⟩) (.inr rfl) x3)).trans (But.set _ (p := ⟨w.heap.size + 2, 4, none⟩) (.inr rfl) x4)).trans (But.set _ (p := ⟨w.heap.size + 2, 5, none⟩) (.inr rfl) x5)).trans (But.set _ (p := ⟨w.heap.size + 2, 6, none⟩) (.inr rfl) x6)
      have SET7 := Lib.hid SET7
      have BAA : ∀ w', New W8 w' → Box w' (w.heap.size + 1) #[.int .i64 0, .slice none 0 0] 44 := fun w' k => BZ.out.new k
      have BYY : ∀ w', New W8 w' → Box w' (w.heap.size + 2) #[.int .i64 0, .int .i64 0, .int .i64 0, .bool false, .bool false, .string ⟨#[]⟩, .int .i64 0] 45 := fun w' k => BY.out.new k
      have BAA := Lib.hid BAA
      have BYY := Lib.hid BYY
      have hS : (fun w' : World => w'.cell? ⟨w.heap.size, 0, none⟩ = some (.int .i64 most) ∧ w'.cell? ⟨w.heap.size, 1, none⟩ = some (.slice p ln cap) ∧ w'.cell? ⟨w1.heap.size, 0, none⟩ = some (.int .i64 f.k) ∧ w'.cell? ⟨w1.heap.size, 1, none⟩ = some (.int .i64 f.id) ∧ w'.cell? ⟨w1.heap.size, 2, none⟩ = some (.int .i64 f.off) ∧ w'.cell? ⟨w1.heap.size, 3, none⟩ = some (.bool f.rd) ∧ w'.cell? ⟨w1.heap.size, 4, none⟩ = some (.bool f.wt) ∧ w'.cell? ⟨w1.heap.size, 5, none⟩ = some (.string (ba f.nm)) ∧ w'.cell? ⟨w1.heap.size, 6, none⟩ = some (.int .i64 (f.rf + by_))) W8.drew := KEEP.out _ ND
      refine wp_region_L (st := 6) (S := fun w' : World => w'.cell? ⟨w.heap.size, 0, none⟩ = some (.int .i64 most) ∧ w'.cell? ⟨w.heap.size, 1, none⟩ = some (.slice p ln cap) ∧ w'.cell? ⟨w1.heap.size, 0, none⟩ = some (.int .i64 f.k) ∧ w'.cell? ⟨w1.heap.size, 1, none⟩ = some (.int .i64 f.id) ∧ w'.cell? ⟨w1.heap.size, 2, none⟩ = some (.int .i64 f.off) ∧ w'.cell? ⟨w1.heap.size, 3, none⟩ = some (.bool f.rd) ∧ w'.cell? ⟨w1.heap.size, 4, none⟩ = some (.bool f.wt) ∧ w'.cell? ⟨w1.heap.size, 5, none⟩ = some (.string (ba f.nm)) ∧ w'.cell? ⟨w1.heap.size, 6, none⟩ = some (.int .i64 (f.rf + by_))) (by kernel_rfl) ?_
      refine wpAnyL_take (i := 0) (v := ?_) rfl (by kernel_rfl) (by kernel_rfl) (by kernel_rfl) (by kernel_rfl) (by kernel_rfl) (fun _ _ _ h => h) (Or.inl ⟨by rfl, ?_⟩) hS ?_
      rotate_left
      · intro w hSw
        obtain ⟨s0, s1, s2, s3, s4, s5, s6, s7, s8⟩ := hSw
        go_simp
        with_reducible rfl
      try simp only [Act.put, List.setIfInBounds_toArray, List.set_cons_zero, List.set_cons_succ, List.getElem_toArray, List.getElem_cons_zero]
      refine wpAnyL_takeY (i := 1) (v := ?_) (by rfl) rfl (by kernel_rfl) (by kernel_rfl) (by kernel_rfl) (fun _ _ _ h => h) (Or.inl ⟨by rfl, ?_⟩) hS ?_
      rotate_left
      · intro w hSw
        go_simp
        with_reducible rfl
      try simp only [Act.put, List.setIfInBounds_toArray, List.set_cons_zero, List.set_cons_succ, List.getElem_toArray, List.getElem_cons_zero, List.getElem_cons_succ]
      refine wpAnyL_take (i := 2) (v := ?_) rfl (by kernel_rfl) (by kernel_rfl) (by kernel_rfl) (by kernel_rfl) (by kernel_rfl) (fun _ _ _ h => h) (Or.inl ⟨by rfl, ?_⟩) hS ?_
      rotate_left
      · intro w hSw
        obtain ⟨s0, s1, s2, s3, s4, s5, s6, s7, s8⟩ := hSw
        go_simp
        with_reducible rfl
      try simp only [Act.put, List.setIfInBounds_toArray, List.set_cons_zero, List.set_cons_succ, List.getElem_toArray, List.getElem_cons_zero, List.getElem_cons_succ]
      refine wpAnyL_take (i := 4) (v := ?_) rfl (by kernel_rfl) (by kernel_rfl) (by kernel_rfl) (by kernel_rfl) (by kernel_rfl) (fun _ _ _ h => h) (Or.inl ⟨by rfl, ?_⟩) hS ?_
      rotate_left
      · intro w hSw
        obtain ⟨s0, s1, s2, s3, s4, s5, s6, s7, s8⟩ := hSw
        go_simp
        with_reducible rfl
      try simp only [Act.put, List.setIfInBounds_toArray, List.set_cons_zero, List.set_cons_succ, List.getElem_toArray, List.getElem_cons_zero, List.getElem_cons_succ]
      refine wpAnyL_one (i := 3) (by kernel_rfl) rfl (fun K' hK => ?_)
      go_simp
      refine (CW.out _ (n8.trans nd)).mono ?_
      rintro e w4 ⟨u', rfl, o4, n4⟩
      have hnx : New W8 w4 := nd.trans n4
      have HX : But (fun g => g = w.heap.size + 1 ∨ g = w.heap.size + 2) W8 w4 := But.of_new _ hnx
      obtain ⟨p4, c4', rfl, -, -⟩ := o4.shape
      refine hK.out _ _ (fun _ => KEEP.out _ HX) ?_
      clear hK K'
      try simp only [Act.put, List.setIfInBounds_toArray, List.set_cons_zero, List.set_cons_succ, List.getElem_toArray, List.getElem_cons_zero, List.getElem_cons_succ]
      have B1 := BAA.out _ hnx
      have B2 := BYY.out _ hnx
      have lz := B1.lt
      have BZf := ((B1.set2 (.int .i64 most) (.slice p4 (L'.map itC).length c4')).oth7 (g := w.heap.size + 2) (by omega) (.int .i64 f.k) (.int .i64 f.id) (.int .i64 f.off) (.bool f.rd) (.bool f.wt) (.string (ba f.nm)) (.int .i64 (f.rf + by_))).rtb
      have BYf := ((B2.oth2 (g := w.heap.size + 1) (by omega) (.int .i64 most) (.slice p4 (L'.map itC).length c4')).set7 (.int .i64 f.k) (.int .i64 f.id) (.int .i64 f.off) (.bool f.rd) (.bool f.wt) (.string (ba f.nm)) (.int .i64 (f.rf + by_))).rfi
      have HN := ((n8.trans hnx).set2 (g := w.heap.size + 1) (by omega) (.int .i64 most) (.slice p4 (L'.map itC).length c4')).set7 (g := w.heap.size + 2) (by omega) (.int .i64 f.k) (.int .i64 f.id) (.int .i64 f.off) (.bool f.rd) (.bool f.wt) (.string (ba f.nm)) (.int .i64 (f.rf + by_))
      have PP := (o4.but ((SET2.out w4 (.int .i64 most) (.slice p4 (L'.map itC).length c4')).trans (SET7.out _ (.int .i64 f.k) (.int .i64 f.id) (.int .i64 f.off) (.bool f.rd) (.bool f.wt) (.string (ba f.nm)) (.int .i64 (f.rf + by_)))) (fun g hg c => by have h1 := o4.ge hg; have h2 : W8.drew.heap.size = W8.heap.size := rfl; have := BY.out.lt; omega)).more (b2 := b) (by have h2 : W8.drew.heap.size = W8.heap.size := rfl; have := BY.out.lt; omega)
      have PG : ∀ g, (Value.slice p4 (L'.map itC).length c4').ownBlock = some g → w.heap.size ≤ g := fun g hg => by have h1 := o4.ge hg; have h2 : W8.drew.heap.size = W8.heap.size := rfl; have := BY.out.lt; omega
      have END := Lib.hid (And.intro BZf (And.intro BYf (And.intro HN (And.intro PP PG))))
      obtain ⟨z0, z1⟩ := B1.two
      have g0 := B1.unfrozen 0
      have g1 := B1.unfrozen 1
      obtain ⟨ly, ⟨y0, y1, y2, y3, y4, y5, y6⟩, h0, h1', h2', h3, h4, h5, h6⟩ := B2.seven
      have HXX := Lib.hid (HX.trans (SET2.out w4 (.int .i64 most) (.slice p4 (L'.map itC).length c4')))
      clear BZf BYf HN PP PG B1 B2 hS BAA BYY SET2 SET7 HX ND nd hnx o4 n4 a0 a1 c0 c1 c2 c3 c4 c5 c6 bF
      generalize (L'.map itC).length = l4 at *
      refine wpAnyL_one (i := 5) (by kernel_rfl) rfl (fun K' hK => ?_)
      go_simp
      refine hK.out _ _ (fun _ => KEEP.out _ HXX.out) ?_
      clear hK K' KEEP
      refine wpAnyL_one (i := 6) (by kernel_rfl) rfl (fun K' hK => ?_)
      go_simp
      refine hK.out _ _ (fun h => by simp at h) ?_
      clear hK K'
      refine wpAnyL_one (i := 7) (by kernel_rfl) rfl (fun K' hK => ?_)
      go_simp
      refine hK.out _ _ (fun h => by simp at h) ?_
      clear hK K'
      refine wpAnyL_done (by kernel_rfl) ?_ _
      go_wp2
      obtain ⟨HR1, HR2, NN, PP, PG⟩ := END.out
      exact bodyPost_ret (v := .tuple #[.agg #[.int .i64 most, .slice p4 l4 c4'], .agg #[.int .i64 f.k, .int .i64 f.id, .int .i64 f.off, .bool f.rd, .bool f.wt, .string (ba f.nm), .int .i64 (f.rf + by_)], .int .i64 0]) (by simp [results, Tryd.results15, asAddr, HR1, HR2]) rfl ⟨_, rfl, PP, fun g hg => .inl (PG g hg), NN⟩
  · have e0 := fgE_nine hg
    have e1 : frE L n by_ = 9 := by unfold frE; rw [if_pos hg, e0]
    have e2 : frL L n by_ = L := by unfold frL; rw [e1]; rfl
    have e3 : frO L n by_ = Fl.zero := by unfold frO; rw [e1]; rfl
    rw [e1, e2, e3]
    rw [e0] at X
    clear e0 e1 e2 e3 hg cW
    generalize fgF L n = f at *
    generalize hLN : L.length = ln at *
    go_enter Tryd.func15, Tryd.ntmps15
    go_wp2_with fail
    rw [← hE]
    refine X.mono ?_
    rintro e w1 ⟨rfl, n1⟩
    have n2 := n0.trans n1
    have sz := n0.size
    have lE := bY.lt
    have sz1 := n1.size
    have BA := Lib.hid (bA.new n1)
    have BZ := Lib.hid (bZ.new n1)
    have BY := Lib.hid (bY.new n1)
    obtain ⟨a0, a1⟩ := (bA.new n1).two
    have la := (bA.new n1).lt
    obtain ⟨z0, z1⟩ := (bZ.new n1).two
    have g0 := (bZ.new n1).unfrozen 0
    have g1 := (bZ.new n1).unfrozen 1
    have lz := (bZ.new n1).lt
    obtain ⟨ly, ⟨y0, y1, y2, y3, y4, y5, y6⟩, h0, h1', h2', h3, h4, h5, h6⟩ := (bY.new n1).seven
    clear X hE bA bZ bY n1 n0
    go_upto_region 2 with fail
    obtain ⟨W7, hW7⟩ : ∃ W7, W7 = w1.alloc (.cells #[.int .i64 f.k, .int .i64 f.id, .int .i64 f.off, .bool f.rd, .bool f.wt, .string (ba f.nm), .int .i64 f.rf] 45) := ⟨_, rfl⟩
    have n3 : New w1 W7 := by rw [hW7]; exact (New.refl w1).alloc _ _
    have bF : Box W7 w1.heap.size #[.int .i64 f.k, .int .i64 f.id, .int .i64 f.off, .bool f.rd, .bool f.wt, .string (ba f.nm), .int .i64 f.rf] 45 := by rw [hW7]; exact Box.here _ _ _ _ rfl
    rw [← hW7]
    have n7 : New w W7 := n2.trans n3
    have BA := Lib.hid (BA.out.new n3)
    have BZ := Lib.hid (BZ.out.new n3)
    have BY := Lib.hid (BY.out.new n3)
    have BF := Lib.hid bF
    clear hW7 a0 a1 z0 z1 g0 g1 y0 y1 y2 y3 y4 y5 y6 h0 h1' h2' h3 h4 h5 h6 la lz ly n3 n2 bF
    obtain ⟨a0, a1⟩ := BA.out.two
    obtain ⟨z0, z1⟩ := BZ.out.two
    have g0 := BZ.out.unfrozen 0
    have g1 := BZ.out.unfrozen 1
    obtain ⟨ly, ⟨y0, y1, y2, y3, y4, y5, y6⟩, h0, h1', h2', h3, h4, h5, h6⟩ := BY.out.seven
    go_wp2
    have BZf := ((BZ.out.set2 (.int .i64 most) (.slice p ln cap)).oth7 (g := w.heap.size + 2) (by omega) (.int .i64 0) (.int .i64 0) (.int .i64 0) (.bool false) (.bool false) (.string ⟨#[]⟩) (.int .i64 0)).rtb
    have BYf := ((BY.out.oth2 (g := w.heap.size + 1) (by omega) (.int .i64 most) (.slice p ln cap)).set7 (.int .i64 0) (.int .i64 0) (.int .i64 0) (.bool false) (.bool false) (.string ⟨#[]⟩) (.int .i64 0)).rfi
    have HN := (n7.set2 (g := w.heap.size + 1) (by omega) (.int .i64 most) (.slice p ln cap)).set7 (g := w.heap.size + 2) (by omega) (.int .i64 0) (.int .i64 0) (.int .i64 0) (.bool false) (.bool false) (.string ⟨#[]⟩) (.int .i64 0)
    exact bodyPost_ret (v := .tuple #[.agg #[.int .i64 most, .slice p ln cap], .agg #[.int .i64 0, .int .i64 0, .int .i64 0, .bool false, .bool false, .string ⟨#[]⟩, .int .i64 0], .int .i64 9]) (by simp [results, Tryd.results15, asAddr, BZf, BYf]) rfl ⟨_, rfl, HOW.out.new HN, fun g hg => .inr hg, HN⟩
end
end Go.Proofs.YtpapicnkhjcjoaaDoor