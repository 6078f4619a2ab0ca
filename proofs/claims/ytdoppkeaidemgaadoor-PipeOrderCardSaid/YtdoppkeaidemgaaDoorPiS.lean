/- The document's pipes: Read, the errors. -/
import Derived.Test.YtdoppkeaidemgaaDoorPiR
import Derived.Deep.MidRow
namespace Go.Proofs.YtdoppkeaidemgaaDoor
open Go.RowKit
set_option linter.unusedVariables false
set_option maxRecDepth 100000
section
variable {w : World} {u : Value} {p : Pp}
theorem New.set3 {a b : World} (h : New a b) {g : Nat} (hg : a.heap.size ≤ g) (x y z : Value) : New a (((b.setCell ⟨g, 0, none⟩ x).setCell ⟨g, 1, none⟩ y).setCell ⟨g, 2, none⟩ z) := ((h.setCell (p := ⟨g, 0, none⟩) hg x).setCell (p := ⟨g, 1, none⟩) hg y).setCell (p := ⟨g, 2, none⟩) hg z
theorem Box.set3 {g : Nat} {t : TypeId} {a b c : Value} (h : Box w g #[a, b, c] t) (x y z : Value) : Box (((w.setCell ⟨g, 0, none⟩ x).setCell ⟨g, 1, none⟩ y).setCell ⟨g, 2, none⟩ z) g #[x, y, z] t := by
  have := ((h.set 0 x).set 1 y).set 2 z
  simpa using this
theorem rpi_info : (Tryd.prog.info? 24).map (·.size) = some 3 := by kernel_rfl
theorem Box.rpi {g : Nat} {x y z : Value} (h : Box w g #[x, y, z] 24) : (loadVar 24 ⟨g, 0, none⟩).run Tryd.prog w = .ok (.agg #[x, y, z]) w :=
  run_loadVar_mid w _ 0 _ [x, y, z] _ (fun j v hv => by rw [Nat.zero_add, h.cell j]; simpa using hv) Tryd.underlying24 rfl rpi_info
set_option maxHeartbeats 4000000 in
theorem rpread_no (h : Byts w u p.l) (n : Int) (he : prE p n ≠ 0) : Calls Tryd.prog 8 #[PpV u p, .int .i64 n] w fun e w' => e = .returned (.tuple #[.slice none 0 0, PpV (.slice none 0 0) Pp.zero, .int .i64 (prE p n)]) ∧ New w w' := by
  obtain ⟨q, cap, rfl⟩ := h.shape
  obtain ⟨l, r, wr⟩ := p
  obtain ⟨E, hE⟩ : ∃ E, E = (w.alloc (.cells #[.slice q l.length cap, .int .i64 r, .int .i64 wr] 24)).alloc (.cells #[.slice none 0 0, .int .i64 0, .int .i64 0] 24) := ⟨_, rfl⟩
  have n0 : New w E := by rw [hE]; exact ((New.refl w).alloc _ _).alloc _ _
  have bA : Box E w.heap.size #[.slice q l.length cap, .int .i64 r, .int .i64 wr] 24 := by rw [hE]; exact (Box.here w _ _ _ rfl).alloc _
  have bZ : Box E (w.heap.size + 1) #[.slice none 0 0, .int .i64 0, .int .i64 0] 24 := by rw [hE]; exact Box.here _ _ _ _ (by rw [World.size_alloc])
  have X := rpmay_any (w := E) (p := ⟨l, r, wr⟩) (h.new n0)
  unfold PpV at X ⊢
  dsimp only at X ⊢
  unfold prE at he ⊢
  dsimp only at he ⊢
  by_cases hm : piOk l r wr
  · rw [decide_eq_true hm] at X
    by_cases hn : n < 0
    · rw [if_pos (.inr hn)] at he ⊢
      clear h hm he
      go_enter Tryd.func8, Tryd.ntmps8
      go_wp2_with fail
      rw [← hE]
      refine X.mono ?_
      rintro e w1 ⟨rfl, n1⟩
      have n2 := n0.trans n1
      have BZ := Lib.hid (bZ.new n1)
      obtain ⟨la, a0, a1, a2, f0, f1, f2⟩ := (bA.new n1).three'
      obtain ⟨lz, z0, z1, z2, g0, g1, g2⟩ := (bZ.new n1).three'
      have sz := n0.size
      clear X hE bA bZ n1 n0
      go_wp2
      have HR := (BZ.out.set3 (.slice none 0 0) (.int .i64 0) (.int .i64 0)).rpi
      have HN := n2.set3 (g := w.heap.size + 1) (by omega) (.slice none 0 0) (.int .i64 0) (.int .i64 0)
      exact bodyPost_ret (v := .tuple #[.slice none 0 0, .agg #[.slice none 0 0, .int .i64 0, .int .i64 0], .int .i64 22]) (by simp [results, Tryd.results8, asAddr, HR]) rfl ⟨rfl, HN⟩
    · rw [if_neg (by rintro (q | q); exact q hm; exact hn q)] at he ⊢
      by_cases ha : 0 < n ∧ l = [] ∧ 0 < wr
      · rw [if_pos ha] at he ⊢
        obtain ⟨h1, rfl, h3⟩ := ha
        simp only [List.length_nil] at *
        clear h hm he
        go_enter Tryd.func8, Tryd.ntmps8
        go_wp2_with fail
        rw [← hE]
        refine X.mono ?_
        rintro e w1 ⟨rfl, n1⟩
        have n2 := n0.trans n1
        have BZ := Lib.hid (bZ.new n1)
        obtain ⟨la, a0, a1, a2, f0, f1, f2⟩ := (bA.new n1).three'
        obtain ⟨lz, z0, z1, z2, g0, g1, g2⟩ := (bZ.new n1).three'
        have sz := n0.size
        clear X hE bA bZ n1 n0
        go_wp2
        have HR := (BZ.out.set3 (.slice none 0 0) (.int .i64 0) (.int .i64 0)).rpi
        have HN := n2.set3 (g := w.heap.size + 1) (by omega) (.slice none 0 0) (.int .i64 0) (.int .i64 0)
        exact bodyPost_ret (v := .tuple #[.slice none 0 0, .agg #[.slice none 0 0, .int .i64 0, .int .i64 0], .int .i64 11]) (by simp [results, Tryd.results8, asAddr, HR]) rfl ⟨rfl, HN⟩
      · rw [if_neg ha] at he; exact absurd rfl he
  · rw [decide_eq_false hm] at X
    rw [if_pos (.inl hm)] at he ⊢
    clear h hm he
    go_enter Tryd.func8, Tryd.ntmps8
    go_wp2_with fail
    rw [← hE]
    refine X.mono ?_
    rintro e w1 ⟨rfl, n1⟩
    have n2 := n0.trans n1
    have BZ := Lib.hid (bZ.new n1)
    obtain ⟨la, a0, a1, a2, f0, f1, f2⟩ := (bA.new n1).three'
    obtain ⟨lz, z0, z1, z2, g0, g1, g2⟩ := (bZ.new n1).three'
    have sz := n0.size
    clear X hE bA bZ n1 n0
    go_wp2
    have HR := (BZ.out.set3 (.slice none 0 0) (.int .i64 0) (.int .i64 0)).rpi
    have HN := n2.set3 (g := w.heap.size + 1) (by omega) (.slice none 0 0) (.int .i64 0) (.int .i64 0)
    exact bodyPost_ret (v := .tuple #[.slice none 0 0, .agg #[.slice none 0 0, .int .i64 0, .int .i64 0], .int .i64 22]) (by simp [results, Tryd.results8, asAddr, HR]) rfl ⟨rfl, HN⟩
set_option maxHeartbeats 4000000 in
theorem rpwrite_no (h : Byts w u p.l) {v : Value} {b : List Int} (hb : Byts w v b) (he : pwE p b ≠ 0) : Calls Tryd.prog 10 #[PpV u p, v] w fun e w' => e = .returned (.tuple #[.int .i64 0, PpV (.slice none 0 0) Pp.zero, .int .i64 (pwE p b)]) ∧ New w w' := by
  obtain ⟨q2, cap2, rfl⟩ := hb.shape
  obtain ⟨q, cap, rfl⟩ := h.shape
  obtain ⟨l, r, wr⟩ := p
  obtain ⟨E, hE⟩ : ∃ E, E = (w.alloc (.cells #[.slice q l.length cap, .int .i64 r, .int .i64 wr] 24)).alloc (.cells #[.slice none 0 0, .int .i64 0, .int .i64 0] 24) := ⟨_, rfl⟩
  have n0 : New w E := by rw [hE]; exact ((New.refl w).alloc _ _).alloc _ _
  have bA : Box E w.heap.size #[.slice q l.length cap, .int .i64 r, .int .i64 wr] 24 := by rw [hE]; exact (Box.here w _ _ _ rfl).alloc _
  have bZ : Box E (w.heap.size + 1) #[.slice none 0 0, .int .i64 0, .int .i64 0] 24 := by rw [hE]; exact Box.here _ _ _ _ (by rw [World.size_alloc])
  have X := rpmay_any (w := E) (p := ⟨l, r, wr⟩) (h.new n0)
  unfold PpV at X ⊢
  dsimp only at X ⊢
  unfold pwE at he ⊢
  dsimp only at he ⊢
  by_cases hm : piOk l r wr
  · rw [decide_eq_true hm] at X
    rw [if_neg (fun c => c hm)] at he ⊢
    by_cases hn : r = 0
    · rw [if_pos hn] at he ⊢
      subst hn
      clear h hm he hb
      go_enter Tryd.func10, Tryd.ntmps10
      go_wp2_with fail
      rw [← hE]
      refine X.mono ?_
      rintro e w1 ⟨rfl, n1⟩
      have n2 := n0.trans n1
      have BZ := Lib.hid (bZ.new n1)
      obtain ⟨la, a0, a1, a2, f0, f1, f2⟩ := (bA.new n1).three'
      obtain ⟨lz, z0, z1, z2, g0, g1, g2⟩ := (bZ.new n1).three'
      have sz := n0.size
      clear X hE bA bZ n1 n0
      go_wp2
      have HR := (BZ.out.set3 (.slice none 0 0) (.int .i64 0) (.int .i64 0)).rpi
      have HN := n2.set3 (g := w.heap.size + 1) (by omega) (.slice none 0 0) (.int .i64 0) (.int .i64 0)
      exact bodyPost_ret (v := .tuple #[.int .i64 0, .agg #[.slice none 0 0, .int .i64 0, .int .i64 0], .int .i64 32]) (by simp [results, Tryd.results10, asAddr, HR]) rfl ⟨rfl, HN⟩
    · rw [if_neg hn] at he ⊢
      by_cases ha : b ≠ [] ∧ l.length = 64
      · rw [if_pos ha] at he ⊢
        obtain ⟨h1, h2⟩ := ha
        have h4 : 0 < b.length := by cases b with | nil => exact absurd rfl h1 | cons => simp
        have h5 : (0 : Int) < (b.length : Int) := by omega
        have h6 : (r == (0 : Int)) = false := by simpa using hn
        generalize l.length = nl at *
        generalize b.length = nb at *
        subst h2
        clear h hm he hb h1
        go_enter Tryd.func10, Tryd.ntmps10
        go_wp2_with fail
        rw [← hE]
        refine X.mono ?_
        rintro e w1 ⟨rfl, n1⟩
        have n2 := n0.trans n1
        have BZ := Lib.hid (bZ.new n1)
        obtain ⟨la, a0, a1, a2, f0, f1, f2⟩ := (bA.new n1).three'
        obtain ⟨lz, z0, z1, z2, g0, g1, g2⟩ := (bZ.new n1).three'
        have sz := n0.size
        clear X hE bA bZ n1 n0
        go_wp2
        have HR := (BZ.out.set3 (.slice none 0 0) (.int .i64 0) (.int .i64 0)).rpi
        have HN := n2.set3 (g := w.heap.size + 1) (by omega) (.slice none 0 0) (.int .i64 0) (.int .i64 0)
        exact bodyPost_ret (v := .tuple #[.int .i64 0, .agg #[.slice none 0 0, .int .i64 0, .int .i64 0], .int .i64 11]) (by simp [results, Tryd.results10, asAddr, HR]) rfl ⟨rfl, HN⟩
      · rw [if_neg ha] at he; exact absurd rfl he
  · rw [decide_eq_false hm] at X
    rw [if_pos hm] at he ⊢
    clear h hm he hb
    go_enter Tryd.func10, Tryd.ntmps10
    go_wp2_with fail
    rw [← hE]
    refine X.mono ?_
    rintro e w1 ⟨rfl, n1⟩
    have n2 := n0.trans n1
    have BZ := Lib.hid (bZ.new n1)
    obtain ⟨la, a0, a1, a2, f0, f1, f2⟩ := (bA.new n1).three'
    obtain ⟨lz, z0, z1, z2, g0, g1, g2⟩ := (bZ.new n1).three'
    have sz := n0.size
    clear X hE bA bZ n1 n0
    go_wp2
    have HR := (BZ.out.set3 (.slice none 0 0) (.int .i64 0) (.int .i64 0)).rpi
    have HN := n2.set3 (g := w.heap.size + 1) (by omega) (.slice none 0 0) (.int .i64 0) (.int .i64 0)
    exact bodyPost_ret (v := .tuple #[.int .i64 0, .agg #[.slice none 0 0, .int .i64 0, .int .i64 0], .int .i64 22]) (by simp [results, Tryd.results10, asAddr, HR]) rfl ⟨rfl, HN⟩
end
end Go.Proofs.YtdoppkeaidemgaaDoor
