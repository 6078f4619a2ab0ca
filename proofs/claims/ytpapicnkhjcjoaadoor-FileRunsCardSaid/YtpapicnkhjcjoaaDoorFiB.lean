/- The document's open files: Get, With. -/
import Derived.Test.YtpapicnkhjcjoaaDoorFiA
import Derived.BigQuiet
import Derived.RegionTactic
import Derived.Deep.MidRow
namespace Go.Proofs.YtpapicnkhjcjoaaDoor
open Go.RowKit
set_option linter.unusedVariables false
set_option maxRecDepth 100000
section
variable {w w' : World} {u : Value} {L : Ft} {most : Int}
theorem New.set7 {a b : World} (h : New a b) {g : Nat} (hg : a.heap.size ≤ g) (x0 x1 x2 x3 x4 x5 x6 : Value) : New a (((((((b.setCell ⟨g, 0, none⟩ x0).setCell ⟨g, 1, none⟩ x1).setCell ⟨g, 2, none⟩ x2).setCell ⟨g, 3, none⟩ x3).setCell ⟨g, 4, none⟩ x4).setCell ⟨g, 5, none⟩ x5).setCell ⟨g, 6, none⟩ x6) :=
  ((((((h.setCell (p := ⟨g, 0, none⟩) hg x0).setCell (p := ⟨g, 1, none⟩) hg x1).setCell (p := ⟨g, 2, none⟩) hg x2).setCell (p := ⟨g, 3, none⟩) hg x3).setCell (p := ⟨g, 4, none⟩) hg x4).setCell (p := ⟨g, 5, none⟩) hg x5).setCell (p := ⟨g, 6, none⟩) hg x6
theorem Box.set7 {g : Nat} {t : TypeId} {y0 y1 y2 y3 y4 y5 y6 : Value} (h : Box w g #[y0, y1, y2, y3, y4, y5, y6] t) (x0 x1 x2 x3 x4 x5 x6 : Value) : Box (((((((w.setCell ⟨g, 0, none⟩ x0).setCell ⟨g, 1, none⟩ x1).setCell ⟨g, 2, none⟩ x2).setCell ⟨g, 3, none⟩ x3).setCell ⟨g, 4, none⟩ x4).setCell ⟨g, 5, none⟩ x5).setCell ⟨g, 6, none⟩ x6) g #[x0, x1, x2, x3, x4, x5, x6] t := by
  have := ((((((h.set 0 x0).set 1 x1).set 2 x2).set 3 x3).set 4 x4).set 5 x5).set 6 x6
  simpa using this
theorem Box.seven {g : Nat} {t : TypeId} {y0 y1 y2 y3 y4 y5 y6 : Value} (h : Box w g #[y0, y1, y2, y3, y4, y5, y6] t) : g < w.heap.size ∧ (w.cell? ⟨g, 0, none⟩ = some y0 ∧ w.cell? ⟨g, 1, none⟩ = some y1 ∧ w.cell? ⟨g, 2, none⟩ = some y2 ∧ w.cell? ⟨g, 3, none⟩ = some y3 ∧ w.cell? ⟨g, 4, none⟩ = some y4 ∧ w.cell? ⟨g, 5, none⟩ = some y5 ∧ w.cell? ⟨g, 6, none⟩ = some y6) ∧
    (w.frozen? ⟨g, 0, none⟩ = false ∧ w.frozen? ⟨g, 1, none⟩ = false ∧ w.frozen? ⟨g, 2, none⟩ = false ∧ w.frozen? ⟨g, 3, none⟩ = false ∧ w.frozen? ⟨g, 4, none⟩ = false ∧ w.frozen? ⟨g, 5, none⟩ = false ∧ w.frozen? ⟨g, 6, none⟩ = false) :=
  ⟨h.lt, ⟨h.cell 0, h.cell 1, h.cell 2, h.cell 3, h.cell 4, h.cell 5, h.cell 6⟩, h.unfrozen 0, h.unfrozen 1, h.unfrozen 2, h.unfrozen 3, h.unfrozen 4, h.unfrozen 5, h.unfrozen 6⟩
theorem fld_add (x : Addr) (k f : Nat) (hf : f ≠ 0) : x.add (k + f) = ⟨(x.add k).block, (x.add k).off + f, none⟩ := by
  rw [← Go.Deep.add_add]
  generalize x.add k = y
  simp [Addr.add, hf]
theorem rfi_info : (Tryd.prog.info? 45).map (·.size) = some 7 := by kernel_rfl
theorem Box.rfi {g : Nat} {y0 y1 y2 y3 y4 y5 y6 : Value} (h : Box w g #[y0, y1, y2, y3, y4, y5, y6] 45) : (loadVar 45 ⟨g, 0, none⟩).run Tryd.prog w = .ok (.agg #[y0, y1, y2, y3, y4, y5, y6]) w :=
  run_loadVar_mid w _ 0 _ [y0, y1, y2, y3, y4, y5, y6] _ (fun j v hv => by rw [Nat.zero_add, h.cell j]; simpa using hv) Tryd.underlying45 rfl rfi_info
set_option maxHeartbeats 4000000 in
theorem rfget_any (h : Its w u L) (hl : L.length ≤ 1000000) (n : Int) : Calls Tryd.prog 18 #[DtV most u, .int .i64 n] w fun e w' => e = .returned (.tuple #[FlV (fgF L n), .int .i64 (fgE L n)]) ∧ New w w' := by
  have H := Lib.hid h
  obtain ⟨p, cap, rfl, h1, h2⟩ := h.shape
  unfold maxLen at h2
  obtain ⟨E, hE⟩ : ∃ E, E = (w.alloc (.cells #[.int .i64 most, .slice p L.length cap] 44)).alloc (.cells #[.int .i64 0, .int .i64 0, .int .i64 0, .bool false, .bool false, .string ⟨#[]⟩, .int .i64 0] 45) := ⟨_, rfl⟩
  have n0 : New w E := by rw [hE]; exact ((New.refl w).alloc _ _).alloc _ _
  have bA : Box E w.heap.size #[.int .i64 most, .slice p L.length cap] 44 := by rw [hE]; exact (Box.here w _ _ _ rfl).alloc _
  have bZ : Box E (w.heap.size + 1) #[.int .i64 0, .int .i64 0, .int .i64 0, .bool false, .bool false, .string ⟨#[]⟩, .int .i64 0] 45 := by rw [hE]; exact Box.here _ _ _ _ (by rw [World.size_alloc])
  have X := rat_any (w := E) (most := most) (h.new n0) hl n
  unfold DtV FlV at *
  clear h
  cases hg : lget L n with
  | none =>
    rw [lix_none hg] at X
    have e1 : fgE L n = 9 := by unfold fgE; rw [hg]
    have e2 : fgF L n = Fl.zero := by unfold fgF; rw [hg]; rfl
    rw [e1, e2]
    clear hg e1 e2 H
    generalize L.length = ln at *
    go_enter Tryd.func18, Tryd.ntmps18
    go_wp2_with fail
    rw [← hE]
    refine X.mono ?_
    rintro e w1 ⟨rfl, n1⟩
    have n2 := n0.trans n1
    have sz := n0.size
    have BZ := Lib.hid (bZ.new n1)
    obtain ⟨lz, ⟨z0, z1, z2, z3, z4, z5, z6⟩, g0, g1, g2, g3, g4, g5, g6⟩ := (bZ.new n1).seven
    clear X hE bA bZ n1 n0
    go_wp2
    have HR := (BZ.out.set7 (.int .i64 0) (.int .i64 0) (.int .i64 0) (.bool false) (.bool false) (.string ⟨#[]⟩) (.int .i64 0)).rfi
    have HN := n2.set7 (g := w.heap.size + 1) (by omega) (.int .i64 0) (.int .i64 0) (.int .i64 0) (.bool false) (.bool false) (.string ⟨#[]⟩) (.int .i64 0)
    exact bodyPost_ret (v := .tuple #[.agg #[.int .i64 0, .int .i64 0, .int .i64 0, .bool false, .bool false, .string ⟨#[]⟩, .int .i64 0], .int .i64 9]) (by simp [results, Tryd.results18, asAddr, HR]) rfl ⟨rfl, HN⟩
  | some f =>
    obtain ⟨L1, L2, hL, hn1⟩ := lget_some hg
    have hi := lix_some hL hn1 0
    rw [Int.zero_add] at hi
    rw [hi] at X
    have e1 : fgE L n = 0 := by unfold fgE; rw [hg]
    have e2 : fgF L n = f := by unfold fgF; rw [hg]; rfl
    rw [e1, e2]
    have hlt : L1.length < L.length := by rw [hL, List.length_append, List.length_cons]; omega
    obtain ⟨a, rfl, hc⟩ := H.out.cell L1.length hlt
    have hq : L[L1.length]'hlt = (n, f) := by subst hL; simp
    rw [hq] at hc
    have C1 := hc 1 (.int .i64 f.k) rfl
    have C2 := hc 2 (.int .i64 f.id) rfl
    have C3 := hc 3 (.int .i64 f.off) rfl
    have C4 := hc 4 (.bool f.rd) rfl
    have C5 := hc 5 (.bool f.wt) rfl
    have C6 := hc 6 (.string (ba f.nm)) rfl
    have C7 := hc 7 (.int .i64 f.rf) rfl
    have CC := Lib.hid (And.intro C1 (And.intro C2 (And.intro C3 (And.intro C4 (And.intro C5 (And.intro C6 C7))))))
    clear hg e1 e2 hi hq hc C1 C2 C3 C4 C5 C6 C7 hn1 hL
    generalize L.length = ln at *
    generalize L1.length = i1 at *
    go_enter Tryd.func18, Tryd.ntmps18
    go_wp2_with fail
    rw [← hE]
    refine X.mono ?_
    rintro e w1 ⟨rfl, n1⟩
    have n2 := n0.trans n1
    have sz := n0.size
    have BZ := Lib.hid (bZ.new n1)
    obtain ⟨a0, a1⟩ := (bA.new n1).two
    obtain ⟨lz, ⟨z0, z1, z2, z3, z4, z5, z6⟩, g0, g1, g2, g3, g4, g5, g6⟩ := (bZ.new n1).seven
    obtain ⟨C1, C2, C3, C4, C5, C6, C7⟩ := CC.out
    have C1 := n2.keeps C1
    have C2 := n2.keeps C2
    have C3 := n2.keeps C3
    have C4 := n2.keeps C4
    have C5 := n2.keeps C5
    have C6 := n2.keeps C6
    have C7 := n2.keeps C7
    rw [fld_add a (i1 * 8) 1 (by omega)] at C1
    rw [fld_add a (i1 * 8) 2 (by omega)] at C2
    rw [fld_add a (i1 * 8) 3 (by omega)] at C3
    rw [fld_add a (i1 * 8) 4 (by omega)] at C4
    rw [fld_add a (i1 * 8) 5 (by omega)] at C5
    rw [fld_add a (i1 * 8) 6 (by omega)] at C6
    rw [fld_add a (i1 * 8) 7 (by omega)] at C7
    clear X hE bA bZ n1 n0
    go_wp2
    have HR := (BZ.out.set7 (.int .i64 f.k) (.int .i64 f.id) (.int .i64 f.off) (.bool f.rd) (.bool f.wt) (.string (ba f.nm)) (.int .i64 f.rf)).rfi
    have HN := n2.set7 (g := w.heap.size + 1) (by omega) (.int .i64 f.k) (.int .i64 f.id) (.int .i64 f.off) (.bool f.rd) (.bool f.wt) (.string (ba f.nm)) (.int .i64 f.rf)
    exact bodyPost_ret (v := .tuple #[.agg #[.int .i64 f.k, .int .i64 f.id, .int .i64 f.off, .bool f.rd, .bool f.wt, .string (ba f.nm), .int .i64 f.rf], .int .i64 0]) (by simp [results, Tryd.results18, asAddr, HR]) rfl ⟨rfl, HN⟩
end
end Go.Proofs.YtpapicnkhjcjoaaDoor
