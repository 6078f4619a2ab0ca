/- The document's pipes: Open. -/
import Derived.Test.YtdoppkeaidemgaaDoorPiS
namespace Go.Proofs.YtdoppkeaidemgaaDoor
open Go.RowKit
set_option linter.unusedVariables false
set_option maxRecDepth 100000
section
variable {w : World} {u : Value} {p : Pp}
theorem Box.s0 {g : Nat} {t : TypeId} {a b c : Value} (h : Box w g #[a, b, c] t) (x : Value) : Box (w.setCell ⟨g, 0, none⟩ x) g #[x, b, c] t := by simpa using h.set 0 x
theorem Box.s1 {g : Nat} {t : TypeId} {a b c : Value} (h : Box w g #[a, b, c] t) (x : Value) : Box (w.setCell ⟨g, 1, none⟩ x) g #[a, x, c] t := by simpa using h.set 1 x
theorem Box.s2 {g : Nat} {t : TypeId} {a b c : Value} (h : Box w g #[a, b, c] t) (x : Value) : Box (w.setCell ⟨g, 2, none⟩ x) g #[a, b, x] t := by simpa using h.set 2 x
set_option maxHeartbeats 4000000 in
theorem rpopen_any (h : Byts w u p.l) (wt : Bool) (c : Int) (hc : -1 ≤ c ∧ c ≤ 1) : Calls Tryd.prog 14 #[PpV u p, .bool wt, .int .i64 c] w fun e w' => ∃ v', e = .returned (.tuple #[PpV v' (ptP p wt c), .int .i64 (ptE p wt c)]) ∧ Byts w' v' (ptP p wt c).l ∧ (∀ g, v'.ownBlock = some g → u.ownBlock = some g) ∧ New w w' := by
  have h0 := h
  obtain ⟨q, cap, rfl⟩ := h.shape
  obtain ⟨l, r, wr⟩ := p
  obtain ⟨E, hE⟩ : ∃ E, E = (w.alloc (.cells #[.slice q l.length cap, .int .i64 r, .int .i64 wr] 24)).alloc (.cells #[.slice none 0 0, .int .i64 0, .int .i64 0] 24) := ⟨_, rfl⟩
  have n0 : New w E := by rw [hE]; exact ((New.refl w).alloc _ _).alloc _ _
  have bA : Box E w.heap.size #[.slice q l.length cap, .int .i64 r, .int .i64 wr] 24 := by rw [hE]; exact (Box.here w _ _ _ rfl).alloc _
  have bZ : Box E (w.heap.size + 1) #[.slice none 0 0, .int .i64 0, .int .i64 0] 24 := by rw [hE]; exact Box.here _ _ _ _ (by rw [World.size_alloc])
  have X := rpmay_any (w := E) (p := ⟨l, r, wr⟩) (h.new n0)
  unfold PpV at X ⊢
  dsimp only at X ⊢
  by_cases hm : piOk l r wr
  · rw [decide_eq_true hm] at X
    have hm2 := hm
    obtain ⟨k1, k2, k3, k4, k5⟩ := hm2
    have k6 : l.length < 65 := by omega
    cases wt
    · by_cases hz : r + c = 0
      · have eA : ptA ⟨l, r, wr⟩ false c = ⟨[], r + c, wr⟩ := by unfold ptA; simp [hz]
        have eZ : ((r + c) == (0 : Int)) = true := by simp [hz]
        have X2 := fun W (n : New w W) => rpmay_any (w := W) (u := .slice none 0 0) (p := ⟨[], r + c, wr⟩) (Byts.nil W)
        unfold PpV at X2
        dsimp only at X2
        have H0 := Lib.hid h0
        clear h h0 hz
        by_cases q2 : piOk [] (r + c) (wr)
        · simp only [decide_eq_true q2] at X2
          have e2 : ptE ⟨l, r, wr⟩ false c = 0 := by unfold ptE; rw [eA]; simp [hm, q2]
          have e1 : ptP ⟨l, r, wr⟩ false c = ⟨[], r + c, wr⟩ := by unfold ptP; rw [e2]; exact eA
          rw [e1, e2]
          clear e1 e2 eA q2 hm
          go_enter Tryd.func14, Tryd.ntmps14
          go_wp2_with fail
          rw [← hE]
          refine X.mono ?_
          rintro e w1 ⟨rfl, n1⟩
          have n2 := n0.trans n1
          have sz := n0.size
          have bA1 := bA.new n1
          have bZ1 := bZ.new n1
          have BA := Lib.hid ((bA1.s1 (.int .i64 (r + c))).s0 (.slice none 0 0))
          have BZ0 := Lib.hid ((bZ1.other (p := ⟨w.heap.size, 1, none⟩) (by show w.heap.size ≠ _; omega) (.int .i64 (r + c))).other (p := ⟨w.heap.size, 0, none⟩) (by show w.heap.size ≠ _; omega) (.slice none 0 0))
          have N2 := Lib.hid ((n2.setCell (p := ⟨w.heap.size, 1, none⟩) (Nat.le_refl _) (.int .i64 (r + c))).setCell (p := ⟨w.heap.size, 0, none⟩) (Nat.le_refl _) (.slice none 0 0))
          obtain ⟨la, a0, a1, a2, f0, f1, f2⟩ := bA1.three'
          clear X hE bA bZ n1 n0 bZ1 bA1 n2
          go_wp2_with fail
          refine (X2 _ N2.out).mono ?_
          rintro e w3 ⟨rfl, n3⟩
          have N3 := Lib.hid (N2.out.trans n3)
          have BZ := Lib.hid (BZ0.out.new n3)
          obtain ⟨la3, c0, c1, c2, d0, d1, d2⟩ := (BA.out.new n3).three'
          obtain ⟨lz, z0, z1, z2, g0, g1, g2⟩ := (BZ0.out.new n3).three'
          clear a0 a1 a2 f0 f1 f2 n3 X2
          go_wp2
          have HR := (BZ.out.set3 (.slice none 0 0) (.int .i64 (r + c)) (.int .i64 (wr))).rpi
          have HN := N3.out.set3 (g := w.heap.size + 1) (by omega) (.slice none 0 0) (.int .i64 (r + c)) (.int .i64 (wr))
          exact bodyPost_ret (v := .tuple #[.agg #[.slice none 0 0, .int .i64 (r + c), .int .i64 (wr)], .int .i64 0]) (by simp [results, Tryd.results14, asAddr, HR]) rfl ⟨_, rfl, Byts.nil _, (fun g hg => by cases hg), HN⟩
        · simp only [decide_eq_false q2] at X2
          have e2 : ptE ⟨l, r, wr⟩ false c = 22 := by unfold ptE; rw [eA]; simp [hm, q2]
          have e1 : ptP ⟨l, r, wr⟩ false c = Pp.zero := by unfold ptP; rw [e2]; rfl
          rw [e1, e2]
          clear e1 e2 eA q2 hm
          go_enter Tryd.func14, Tryd.ntmps14
          go_wp2_with fail
          rw [← hE]
          refine X.mono ?_
          rintro e w1 ⟨rfl, n1⟩
          have n2 := n0.trans n1
          have sz := n0.size
          have bA1 := bA.new n1
          have bZ1 := bZ.new n1
          have BA := Lib.hid ((bA1.s1 (.int .i64 (r + c))).s0 (.slice none 0 0))
          have BZ0 := Lib.hid ((bZ1.other (p := ⟨w.heap.size, 1, none⟩) (by show w.heap.size ≠ _; omega) (.int .i64 (r + c))).other (p := ⟨w.heap.size, 0, none⟩) (by show w.heap.size ≠ _; omega) (.slice none 0 0))
          have N2 := Lib.hid ((n2.setCell (p := ⟨w.heap.size, 1, none⟩) (Nat.le_refl _) (.int .i64 (r + c))).setCell (p := ⟨w.heap.size, 0, none⟩) (Nat.le_refl _) (.slice none 0 0))
          obtain ⟨la, a0, a1, a2, f0, f1, f2⟩ := bA1.three'
          clear X hE bA bZ n1 n0 bZ1 bA1 n2
          go_wp2_with fail
          refine (X2 _ N2.out).mono ?_
          rintro e w3 ⟨rfl, n3⟩
          have N3 := Lib.hid (N2.out.trans n3)
          have BZ := Lib.hid (BZ0.out.new n3)
          obtain ⟨la3, c0, c1, c2, d0, d1, d2⟩ := (BA.out.new n3).three'
          obtain ⟨lz, z0, z1, z2, g0, g1, g2⟩ := (BZ0.out.new n3).three'
          clear a0 a1 a2 f0 f1 f2 n3 X2
          go_wp2
          have HR := (BZ.out.set3 (.slice none 0 0) (.int .i64 (0)) (.int .i64 (0))).rpi
          have HN := N3.out.set3 (g := w.heap.size + 1) (by omega) (.slice none 0 0) (.int .i64 (0)) (.int .i64 (0))
          exact bodyPost_ret (v := .tuple #[.agg #[.slice none 0 0, .int .i64 (0), .int .i64 (0)], .int .i64 22]) (by simp [results, Tryd.results14, asAddr, HR]) rfl ⟨_, rfl, Byts.nil _, (fun g hg => by cases hg), HN⟩
      · have eA : ptA ⟨l, r, wr⟩ false c = ⟨l, r + c, wr⟩ := by unfold ptA; simp [hz]
        have eZ : ((r + c) == (0 : Int)) = false := by simp [hz]
        have X2 := fun W (n : New w W) => rpmay_any (w := W) (u := .slice q l.length cap) (p := ⟨l, r + c, wr⟩) (h0.new n)
        unfold PpV at X2
        dsimp only at X2
        have H0 := Lib.hid h0
        clear h h0 hz
        by_cases q2 : piOk l (r + c) (wr)
        · simp only [decide_eq_true q2] at X2
          have e2 : ptE ⟨l, r, wr⟩ false c = 0 := by unfold ptE; rw [eA]; simp [hm, q2]
          have e1 : ptP ⟨l, r, wr⟩ false c = ⟨l, r + c, wr⟩ := by unfold ptP; rw [e2]; exact eA
          rw [e1, e2]
          clear e1 e2 eA q2 hm
          go_enter Tryd.func14, Tryd.ntmps14
          go_wp2_with fail
          rw [← hE]
          refine X.mono ?_
          rintro e w1 ⟨rfl, n1⟩
          have n2 := n0.trans n1
          have sz := n0.size
          have bA1 := bA.new n1
          have bZ1 := bZ.new n1
          have BA := Lib.hid (bA1.s1 (.int .i64 (r + c)))
          have BZ0 := Lib.hid (bZ1.other (p := ⟨w.heap.size, 1, none⟩) (by show w.heap.size ≠ _; omega) (.int .i64 (r + c)))
          have N2 := Lib.hid (n2.setCell (p := ⟨w.heap.size, 1, none⟩) (Nat.le_refl _) (.int .i64 (r + c)))
          obtain ⟨la, a0, a1, a2, f0, f1, f2⟩ := bA1.three'
          clear X hE bA bZ n1 n0 bZ1 bA1 n2
          go_wp2_with fail
          refine (X2 _ N2.out).mono ?_
          rintro e w3 ⟨rfl, n3⟩
          have N3 := Lib.hid (N2.out.trans n3)
          have BZ := Lib.hid (BZ0.out.new n3)
          obtain ⟨la3, c0, c1, c2, d0, d1, d2⟩ := (BA.out.new n3).three'
          obtain ⟨lz, z0, z1, z2, g0, g1, g2⟩ := (BZ0.out.new n3).three'
          clear a0 a1 a2 f0 f1 f2 n3 X2
          go_wp2
          have HR := (BZ.out.set3 (.slice q l.length cap) (.int .i64 (r + c)) (.int .i64 (wr))).rpi
          have HN := N3.out.set3 (g := w.heap.size + 1) (by omega) (.slice q l.length cap) (.int .i64 (r + c)) (.int .i64 (wr))
          exact bodyPost_ret (v := .tuple #[.agg #[.slice q l.length cap, .int .i64 (r + c), .int .i64 (wr)], .int .i64 0]) (by simp [results, Tryd.results14, asAddr, HR]) rfl ⟨_, rfl, H0.out.new HN, (fun g hg => hg), HN⟩
        · simp only [decide_eq_false q2] at X2
          have e2 : ptE ⟨l, r, wr⟩ false c = 22 := by unfold ptE; rw [eA]; simp [hm, q2]
          have e1 : ptP ⟨l, r, wr⟩ false c = Pp.zero := by unfold ptP; rw [e2]; rfl
          rw [e1, e2]
          clear e1 e2 eA q2 hm
          go_enter Tryd.func14, Tryd.ntmps14
          go_wp2_with fail
          rw [← hE]
          refine X.mono ?_
          rintro e w1 ⟨rfl, n1⟩
          have n2 := n0.trans n1
          have sz := n0.size
          have bA1 := bA.new n1
          have bZ1 := bZ.new n1
          have BA := Lib.hid (bA1.s1 (.int .i64 (r + c)))
          have BZ0 := Lib.hid (bZ1.other (p := ⟨w.heap.size, 1, none⟩) (by show w.heap.size ≠ _; omega) (.int .i64 (r + c)))
          have N2 := Lib.hid (n2.setCell (p := ⟨w.heap.size, 1, none⟩) (Nat.le_refl _) (.int .i64 (r + c)))
          obtain ⟨la, a0, a1, a2, f0, f1, f2⟩ := bA1.three'
          clear X hE bA bZ n1 n0 bZ1 bA1 n2
          go_wp2_with fail
          refine (X2 _ N2.out).mono ?_
          rintro e w3 ⟨rfl, n3⟩
          have N3 := Lib.hid (N2.out.trans n3)
          have BZ := Lib.hid (BZ0.out.new n3)
          obtain ⟨la3, c0, c1, c2, d0, d1, d2⟩ := (BA.out.new n3).three'
          obtain ⟨lz, z0, z1, z2, g0, g1, g2⟩ := (BZ0.out.new n3).three'
          clear a0 a1 a2 f0 f1 f2 n3 X2
          go_wp2
          have HR := (BZ.out.set3 (.slice none 0 0) (.int .i64 (0)) (.int .i64 (0))).rpi
          have HN := N3.out.set3 (g := w.heap.size + 1) (by omega) (.slice none 0 0) (.int .i64 (0)) (.int .i64 (0))
          exact bodyPost_ret (v := .tuple #[.agg #[.slice none 0 0, .int .i64 (0), .int .i64 (0)], .int .i64 22]) (by simp [results, Tryd.results14, asAddr, HR]) rfl ⟨_, rfl, Byts.nil _, (fun g hg => by cases hg), HN⟩
    · by_cases hz : r = 0
      · have eA : ptA ⟨l, r, wr⟩ true c = ⟨[], r, wr + c⟩ := by unfold ptA; simp [hz]
        have eZ : ((r) == (0 : Int)) = true := by simp [hz]
        have X2 := fun W (n : New w W) => rpmay_any (w := W) (u := .slice none 0 0) (p := ⟨[], r, wr + c⟩) (Byts.nil W)
        unfold PpV at X2
        dsimp only at X2
        have H0 := Lib.hid h0
        clear h h0 hz
        by_cases q2 : piOk [] (r) (wr + c)
        · simp only [decide_eq_true q2] at X2
          have e2 : ptE ⟨l, r, wr⟩ true c = 0 := by unfold ptE; rw [eA]; simp [hm, q2]
          have e1 : ptP ⟨l, r, wr⟩ true c = ⟨[], r, wr + c⟩ := by unfold ptP; rw [e2]; exact eA
          rw [e1, e2]
          clear e1 e2 eA q2 hm
          go_enter Tryd.func14, Tryd.ntmps14
          go_wp2_with fail
          rw [← hE]
          refine X.mono ?_
          rintro e w1 ⟨rfl, n1⟩
          have n2 := n0.trans n1
          have sz := n0.size
          have bA1 := bA.new n1
          have bZ1 := bZ.new n1
          have BA := Lib.hid ((bA1.s2 (.int .i64 (wr + c))).s0 (.slice none 0 0))
          have BZ0 := Lib.hid ((bZ1.other (p := ⟨w.heap.size, 2, none⟩) (by show w.heap.size ≠ _; omega) (.int .i64 (wr + c))).other (p := ⟨w.heap.size, 0, none⟩) (by show w.heap.size ≠ _; omega) (.slice none 0 0))
          have N2 := Lib.hid ((n2.setCell (p := ⟨w.heap.size, 2, none⟩) (Nat.le_refl _) (.int .i64 (wr + c))).setCell (p := ⟨w.heap.size, 0, none⟩) (Nat.le_refl _) (.slice none 0 0))
          obtain ⟨la, a0, a1, a2, f0, f1, f2⟩ := bA1.three'
          clear X hE bA bZ n1 n0 bZ1 bA1 n2
          go_wp2_with fail
          refine (X2 _ N2.out).mono ?_
          rintro e w3 ⟨rfl, n3⟩
          have N3 := Lib.hid (N2.out.trans n3)
          have BZ := Lib.hid (BZ0.out.new n3)
          obtain ⟨la3, c0, c1, c2, d0, d1, d2⟩ := (BA.out.new n3).three'
          obtain ⟨lz, z0, z1, z2, g0, g1, g2⟩ := (BZ0.out.new n3).three'
          clear a0 a1 a2 f0 f1 f2 n3 X2
          go_wp2
          have HR := (BZ.out.set3 (.slice none 0 0) (.int .i64 (r)) (.int .i64 (wr + c))).rpi
          have HN := N3.out.set3 (g := w.heap.size + 1) (by omega) (.slice none 0 0) (.int .i64 (r)) (.int .i64 (wr + c))
          exact bodyPost_ret (v := .tuple #[.agg #[.slice none 0 0, .int .i64 (r), .int .i64 (wr + c)], .int .i64 0]) (by simp [results, Tryd.results14, asAddr, HR]) rfl ⟨_, rfl, Byts.nil _, (fun g hg => by cases hg), HN⟩
        · simp only [decide_eq_false q2] at X2
          have e2 : ptE ⟨l, r, wr⟩ true c = 22 := by unfold ptE; rw [eA]; simp [hm, q2]
          have e1 : ptP ⟨l, r, wr⟩ true c = Pp.zero := by unfold ptP; rw [e2]; rfl
          rw [e1, e2]
          clear e1 e2 eA q2 hm
          go_enter Tryd.func14, Tryd.ntmps14
          go_wp2_with fail
          rw [← hE]
          refine X.mono ?_
          rintro e w1 ⟨rfl, n1⟩
          have n2 := n0.trans n1
          have sz := n0.size
          have bA1 := bA.new n1
          have bZ1 := bZ.new n1
          have BA := Lib.hid ((bA1.s2 (.int .i64 (wr + c))).s0 (.slice none 0 0))
          have BZ0 := Lib.hid ((bZ1.other (p := ⟨w.heap.size, 2, none⟩) (by show w.heap.size ≠ _; omega) (.int .i64 (wr + c))).other (p := ⟨w.heap.size, 0, none⟩) (by show w.heap.size ≠ _; omega) (.slice none 0 0))
          have N2 := Lib.hid ((n2.setCell (p := ⟨w.heap.size, 2, none⟩) (Nat.le_refl _) (.int .i64 (wr + c))).setCell (p := ⟨w.heap.size, 0, none⟩) (Nat.le_refl _) (.slice none 0 0))
          obtain ⟨la, a0, a1, a2, f0, f1, f2⟩ := bA1.three'
          clear X hE bA bZ n1 n0 bZ1 bA1 n2
          go_wp2_with fail
          refine (X2 _ N2.out).mono ?_
          rintro e w3 ⟨rfl, n3⟩
          have N3 := Lib.hid (N2.out.trans n3)
          have BZ := Lib.hid (BZ0.out.new n3)
          obtain ⟨la3, c0, c1, c2, d0, d1, d2⟩ := (BA.out.new n3).three'
          obtain ⟨lz, z0, z1, z2, g0, g1, g2⟩ := (BZ0.out.new n3).three'
          clear a0 a1 a2 f0 f1 f2 n3 X2
          go_wp2
          have HR := (BZ.out.set3 (.slice none 0 0) (.int .i64 (0)) (.int .i64 (0))).rpi
          have HN := N3.out.set3 (g := w.heap.size + 1) (by omega) (.slice none 0 0) (.int .i64 (0)) (.int .i64 (0))
          exact bodyPost_ret (v := .tuple #[.agg #[.slice none 0 0, .int .i64 (0), .int .i64 (0)], .int .i64 22]) (by simp [results, Tryd.results14, asAddr, HR]) rfl ⟨_, rfl, Byts.nil _, (fun g hg => by cases hg), HN⟩
      · have eA : ptA ⟨l, r, wr⟩ true c = ⟨l, r, wr + c⟩ := by unfold ptA; simp [hz]
        have eZ : ((r) == (0 : Int)) = false := by simp [hz]
        have X2 := fun W (n : New w W) => rpmay_any (w := W) (u := .slice q l.length cap) (p := ⟨l, r, wr + c⟩) (h0.new n)
        unfold PpV at X2
        dsimp only at X2
        have H0 := Lib.hid h0
        clear h h0 hz
        by_cases q2 : piOk l (r) (wr + c)
        · simp only [decide_eq_true q2] at X2
          have e2 : ptE ⟨l, r, wr⟩ true c = 0 := by unfold ptE; rw [eA]; simp [hm, q2]
          have e1 : ptP ⟨l, r, wr⟩ true c = ⟨l, r, wr + c⟩ := by unfold ptP; rw [e2]; exact eA
          rw [e1, e2]
          clear e1 e2 eA q2 hm
          go_enter Tryd.func14, Tryd.ntmps14
          go_wp2_with fail
          rw [← hE]
          refine X.mono ?_
          rintro e w1 ⟨rfl, n1⟩
          have n2 := n0.trans n1
          have sz := n0.size
          have bA1 := bA.new n1
          have bZ1 := bZ.new n1
          have BA := Lib.hid (bA1.s2 (.int .i64 (wr + c)))
          have BZ0 := Lib.hid (bZ1.other (p := ⟨w.heap.size, 2, none⟩) (by show w.heap.size ≠ _; omega) (.int .i64 (wr + c)))
          have N2 := Lib.hid (n2.setCell (p := ⟨w.heap.size, 2, none⟩) (Nat.le_refl _) (.int .i64 (wr + c)))
          obtain ⟨la, a0, a1, a2, f0, f1, f2⟩ := bA1.three'
          clear X hE bA bZ n1 n0 bZ1 bA1 n2
          go_wp2_with fail
          refine (X2 _ N2.out).mono ?_
          rintro e w3 ⟨rfl, n3⟩
          have N3 := Lib.hid (N2.out.trans n3)
          have BZ := Lib.hid (BZ0.out.new n3)
          obtain ⟨la3, c0, c1, c2, d0, d1, d2⟩ := (BA.out.new n3).three'
          obtain ⟨lz, z0, z1, z2, g0, g1, g2⟩ := (BZ0.out.new n3).three'
          clear a0 a1 a2 f0 f1 f2 n3 X2
          go_wp2
          have HR := (BZ.out.set3 (.slice q l.length cap) (.int .i64 (r)) (.int .i64 (wr + c))).rpi
          have HN := N3.out.set3 (g := w.heap.size + 1) (by omega) (.slice q l.length cap) (.int .i64 (r)) (.int .i64 (wr + c))
          exact bodyPost_ret (v := .tuple #[.agg #[.slice q l.length cap, .int .i64 (r), .int .i64 (wr + c)], .int .i64 0]) (by simp [results, Tryd.results14, asAddr, HR]) rfl ⟨_, rfl, H0.out.new HN, (fun g hg => hg), HN⟩
        · simp only [decide_eq_false q2] at X2
          have e2 : ptE ⟨l, r, wr⟩ true c = 22 := by unfold ptE; rw [eA]; simp [hm, q2]
          have e1 : ptP ⟨l, r, wr⟩ true c = Pp.zero := by unfold ptP; rw [e2]; rfl
          rw [e1, e2]
          clear e1 e2 eA q2 hm
          go_enter Tryd.func14, Tryd.ntmps14
          go_wp2_with fail
          rw [← hE]
          refine X.mono ?_
          rintro e w1 ⟨rfl, n1⟩
          have n2 := n0.trans n1
          have sz := n0.size
          have bA1 := bA.new n1
          have bZ1 := bZ.new n1
          have BA := Lib.hid (bA1.s2 (.int .i64 (wr + c)))
          have BZ0 := Lib.hid (bZ1.other (p := ⟨w.heap.size, 2, none⟩) (by show w.heap.size ≠ _; omega) (.int .i64 (wr + c)))
          have N2 := Lib.hid (n2.setCell (p := ⟨w.heap.size, 2, none⟩) (Nat.le_refl _) (.int .i64 (wr + c)))
          obtain ⟨la, a0, a1, a2, f0, f1, f2⟩ := bA1.three'
          clear X hE bA bZ n1 n0 bZ1 bA1 n2
          go_wp2_with fail
          refine (X2 _ N2.out).mono ?_
          rintro e w3 ⟨rfl, n3⟩
          have N3 := Lib.hid (N2.out.trans n3)
          have BZ := Lib.hid (BZ0.out.new n3)
          obtain ⟨la3, c0, c1, c2, d0, d1, d2⟩ := (BA.out.new n3).three'
          obtain ⟨lz, z0, z1, z2, g0, g1, g2⟩ := (BZ0.out.new n3).three'
          clear a0 a1 a2 f0 f1 f2 n3 X2
          go_wp2
          have HR := (BZ.out.set3 (.slice none 0 0) (.int .i64 (0)) (.int .i64 (0))).rpi
          have HN := N3.out.set3 (g := w.heap.size + 1) (by omega) (.slice none 0 0) (.int .i64 (0)) (.int .i64 (0))
          exact bodyPost_ret (v := .tuple #[.agg #[.slice none 0 0, .int .i64 (0), .int .i64 (0)], .int .i64 22]) (by simp [results, Tryd.results14, asAddr, HR]) rfl ⟨_, rfl, Byts.nil _, (fun g hg => by cases hg), HN⟩
  · rw [decide_eq_false hm] at X
    have e1 : ptP ⟨l, r, wr⟩ wt c = Pp.zero := by unfold ptP ptE; dsimp only; rw [if_pos hm]; rfl
    have e2 : ptE ⟨l, r, wr⟩ wt c = 22 := by unfold ptE; dsimp only; rw [if_pos hm]
    rw [e1, e2]
    clear e1 e2 h hm h0
    go_enter Tryd.func14, Tryd.ntmps14
    go_wp2_with fail
    rw [← hE]
    refine X.mono ?_
    rintro e w1 ⟨rfl, n1⟩
    have n2 := n0.trans n1
    have BZ := Lib.hid (bZ.new n1)
    obtain ⟨la, a0, a1, a2, f0, f1, f2⟩ := (bA.new n1).three'
    obtain ⟨lz, z0, z1, z2, g0, g1, g2⟩ := (bZ.new n1).three'
    have sz := n0.size
    clear X hE bA bZ n1 n0
    have N3 := Lib.hid n2
    go_wp2
    have HR := (BZ.out.set3 (.slice none 0 0) (.int .i64 (0)) (.int .i64 (0))).rpi
    have HN := N3.out.set3 (g := w.heap.size + 1) (by omega) (.slice none 0 0) (.int .i64 (0)) (.int .i64 (0))
    exact bodyPost_ret (v := .tuple #[.agg #[.slice none 0 0, .int .i64 (0), .int .i64 (0)], .int .i64 22]) (by simp [results, Tryd.results14, asAddr, HR]) rfl ⟨_, rfl, Byts.nil _, (fun g hg => by cases hg), HN⟩
end
end Go.Proofs.YtdoppkeaidemgaaDoor
