/- The package's table of open files: Open where there is room. -/
import Derived.Test.YtpapicnkhjcjoaaDoorFiW
namespace Go.Proofs.YtpapicnkhjcjoaaDoor
open Go.RowKit
set_option linter.unusedVariables false
set_option maxRecDepth 100000
section
variable {S : Nat → Prop} {w w' : World} {tb rb m : Nat} {most : Int} {L : Ft}
theorem But.row7 (w : World) (rb i0 i1 i2 i3 i4 i5 i6 : Nat) (x0 x1 x2 x3 x4 x5 x6 : Value) : But (fun g => g = rb) w (((((((w.setCell ⟨rb, i0, none⟩ x0).setCell ⟨rb, i1, none⟩ x1).setCell ⟨rb, i2, none⟩ x2).setCell ⟨rb, i3, none⟩ x3).setCell ⟨rb, i4, none⟩ x4).setCell ⟨rb, i5, none⟩ x5).setCell ⟨rb, i6, none⟩ x6) := by
  have s := fun (W : World) (i : Nat) (x : Value) => But.set (S := fun g => g = rb) W (p := ⟨rb, i, none⟩) rfl x
  exact ((((((s _ _ _).trans (s _ _ _)).trans (s _ _ _)).trans (s _ _ _)).trans (s _ _ _)).trans (s _ _ _)).trans (s _ _ _)
theorem Rof.drew (h : Rof w rb m L) : Rof w.drew rb m L := h.but (But.drew (fun _ => False) w) id
set_option maxHeartbeats 8000000 in
theorem fopen_ok (h : Ftq w tb rb m L) (f : Fl) (hm : flOk f) (hf : ¬ (m : Int) ≤ (L.length : Int)) (j : Nat) (hjf : frZ L = (j : Int)) (hj : j < m) :
    Calls Tryd.prog 6 #[.pointer (some ⟨tb, 0, none⟩), FlV f] w fun e w' => e = .returned (.tuple #[.int .i64 (j : Int), .nilIface]) ∧ ∃ w1, New w w1 ∧ But (fun g => g = rb) w1 w' ∧ (∀ L' : Ft, (∀ i : Int, fgF L' i = if i = (j : Int) then { f with rf := 1 } else fgF L i) → Rof w' rb m L') := by
  have n0 : New w (w.alloc (.cells #[.int .i64 f.k, .int .i64 f.id, .int .i64 f.off, .bool f.rd, .bool f.wt, .string (ba f.nm), .int .i64 f.rf] 29)) := (New.refl w).alloc _ _
  have bA := Box.here w w.heap.size #[.int .i64 f.k, .int .i64 f.id, .int .i64 f.off, .bool f.rd, .bool f.wt, .string (ba f.nm), .int .i64 f.rf] 29 rfl
  have q := fun W => fvalid_any f W
  have X := fun W (k : New w W) => fidx_any (h.new k)
  rw [show fixN m L = (j : Int) from (if_neg hf).trans hjf] at X
  have Y := fun W => fcopied_any f hm.2.2.2 W
  have HS := Lib.hid h
  have ltb : tb < w.heap.size := h.head.lt
  have lrb : rb < w.heap.size := h.row.lt
  have nrb : ¬ tb = rb := h.ne
  rw [decide_eq_true hm] at q
  unfold FlV at *
  obtain ⟨k, id, off, rd, wt, nm, rf⟩ := f
  dsimp only at *
  obtain ⟨W0, hW0⟩ : ∃ W0, W0 = w.alloc (.cells #[.int .i64 k, .int .i64 id, .int .i64 off, .bool rd, .bool wt, .string (ba nm), .int .i64 rf] 29) := ⟨_, rfl⟩
  have BA := Lib.hid bA
  clear h hm hf hjf bA
  go_enter Tryd.func6, Tryd.ntmps6
  go_wp2_with fail
  refine (q _).mono ?_
  rintro e w1 ⟨rfl, n1⟩
  have n2 := n0.trans n1
  have B1 := Lib.hid (BA.out.new n1)
  have hc := (HS.out.new n2).head.one
  clear n0 n1 q hW0 BA
  go_wp2_with fail
  refine (X _ n2).mono ?_
  rintro e w2 ⟨rfl, n3⟩
  have n4 := n2.trans n3
  have B2 := Lib.hid (B1.out.new n3)
  obtain ⟨la, ⟨a0, a1, a2, a3, a4, a5, a6⟩, f0, f1, f2, f3, f4, f5, f6⟩ := B2.out.seven
  clear hc n2 n3 X B1
  go_wp2_with fail
  refine (Y _).mono ?_
  rintro e w3 ⟨rfl, n5⟩
  have n6 := n4.trans n5
  have B3 := Lib.hid (B2.out.new n5)
  obtain ⟨la, ⟨a0, a1, a2, a3, a4, a5, a6⟩, f0, f1, f2, f3, f4, f5, f6⟩ := B3.out.seven
  clear n4 n5 Y B2
  go_upto_region 8 with fail
  obtain ⟨W4, hW4⟩ : ∃ W4, W4 = ((((((((w3.setCell ⟨w.heap.size, 0, none⟩ (.int .i64 k)).setCell ⟨w.heap.size, 1, none⟩ (.int .i64 id)).setCell ⟨w.heap.size, 2, none⟩ (.int .i64 off)).setCell ⟨w.heap.size, 3, none⟩ (.bool rd)).setCell ⟨w.heap.size, 4, none⟩ (.bool wt)).setCell ⟨w.heap.size, 5, none⟩ (.string (ba nm))).setCell ⟨w.heap.size, 6, none⟩ (.int .i64 rf)).setCell ⟨w.heap.size, 6, none⟩ (.int .i64 1)) := ⟨_, rfl⟩
  have B4 : Box W4 w.heap.size #[.int .i64 k, .int .i64 id, .int .i64 off, .bool rd, .bool wt, .string (ba nm), .int .i64 1] 29 := by
    rw [hW4]
    have := (B3.out.set7 (.int .i64 k) (.int .i64 id) (.int .i64 off) (.bool rd) (.bool wt) (.string (ba nm)) (.int .i64 rf)).set 6 (.int .i64 1)
    simpa using this
  have n8 : New w W4 := by rw [hW4]; exact (n6.set7 (g := w.heap.size) (Nat.le_refl _) _ _ _ _ _ _ _).setCell (p := ⟨w.heap.size, 6, none⟩) (Nat.le_refl _) _
  rw [← hW4]
  clear hW4 a0 a1 a2 a3 a4 a5 a6 f0 f1 f2 f3 f4 f5 f6 la n6 B3
  have Q4 := HS.out.new n8
  have hc := Q4.head.one
  obtain ⟨la, ⟨a0, a1, a2, a3, a4, a5, a6⟩, -⟩ := B4.seven
  obtain ⟨f9, hf9⟩ : ∃ f9, f9 = fgF L (j : Int) := ⟨_, rfl⟩
  obtain ⟨lr, ⟨c0, c1, c2, c3, c4, c5, c6⟩, g0, g1, g2, g3, g4, g5, g6⟩ := Q4.row.seven j hj f9 hf9
  have RO := Lib.hid Q4.row
  have m32 := HS.out.m32
  clear B4 Q4 hf9 HS
  go_region
  have BU := Lib.hid ((But.row7 W4 rb (j * 7) (j * 7 + 1) (j * 7 + 2) (j * 7 + 3) (j * 7 + 4) (j * 7 + 5) (j * 7 + 6) (.int .i64 k) (.int .i64 id) (.int .i64 off) (.bool rd) (.bool wt) (.string (ba nm)) (.int .i64 1)).trans (But.drew _ _))
  have RW := Lib.hid (fun L' hL => (RO.out.all (L' := L') ⟨k, id, off, rd, wt, nm, 1⟩ hj hL).drew)
  dsimp only at RW
  generalize World.drew _ = W5 at *
  clear a0 a1 a2 a3 a4 a5 a6 c0 c1 c2 c3 c4 c5 c6 g0 g1 g2 g3 g4 g5 g6 hc
  go_wp2
  go_ret2
  exact ⟨rfl, W4, n8, BU.out, RW.out⟩
theorem fopen_any (h : Ftb S w tb most L) (f : Fl) : Calls Tryd.prog 6 #[.pointer (some ⟨tb, 0, none⟩), FlV f] w fun e w' => e = .returned (.tuple #[.int .i64 (foN most L f), erN (foE most L f)]) ∧ FtD S w w' tb most (foL most L f) := by
  obtain ⟨m, rb, h1, h2, h3⟩ := id h
  by_cases hm : flOk f
  · by_cases hf : (m : Int) ≤ (L.length : Int)
    · have e1 : foE most L f = 23 := by unfold foE; rw [if_neg (fun c => c hm), h1, if_pos hf]
      have e2 : foN most L f = 0 := by unfold foN; rw [e1]; rfl
      have e3 : foL most L f = L := by unfold foL; rw [e1]; rfl
      rw [e1, e2, e3]
      exact (fopen_full h2 f hm hf).mono fun e w' ⟨he, hd⟩ => ⟨he, FtD.new h hd⟩
    · obtain ⟨j, hj, hl, hn, _⟩ := frZ_spec L
      have hjm : j < m := by omega
      have e1 : foE most L f = 0 := by unfold foE; rw [if_neg (fun c => c hm), h1, if_neg hf]
      have e2 : foN most L f = (j : Int) := by unfold foN; rw [e1, if_pos rfl, hj]
      have e3 : foL most L f = L ++ [((j : Int), { f with rf := 1 })] := by unfold foL; rw [e1, if_pos rfl, hj]
      rw [e1, e2, e3, fe0]
      refine (fopen_ok h2 f hm hf j hj hjm).mono ?_
      rintro e w' ⟨he, w1, n1, b1, hr⟩
      have h4 := h2.new n1
      refine ⟨he, FtD.same h3 h1 ⟨h4.m1, h4.m32, h4.ne, h4.head.but b1 h4.ne, hr _ fun i => fgF_add hn _ i, h4.ok.add hn hjm ⟨Int.le_refl 1, show (1 : Int) ≤ 1048576 by decide⟩ hm.2.2.2⟩ ((But.of_new _ n1).trans b1)⟩
  · have e1 : foE most L f = 22 := by unfold foE; rw [if_pos hm]
    have e2 : foN most L f = 0 := by unfold foN; rw [e1]; rfl
    have e3 : foL most L f = L := by unfold foL; rw [e1]; rfl
    rw [e1, e2, e3]
    exact (fopen_bad h2 f hm).mono fun e w' ⟨he, hd⟩ => ⟨he, FtD.new h hd⟩
end
end Go.Proofs.YtpapicnkhjcjoaaDoor
