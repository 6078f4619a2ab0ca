/- What the document's own answers on tables of two levels do, further: a page's entry that is not laid down. Contracts, for any list, in any world, behind which there are only new blocks. -/
import Derived.Test.YtajhlmiobibhjaaDoorTdH
namespace Go.Proofs.YtajhlmiobibhjaaDoor
open Go.RowKit
set_option linter.unusedVariables false
set_option maxRecDepth 100000
section
variable {w : World} {vL vU vO vF : Value} {L : List (Int × Int)} {U O l : List Int} {base : Nat} {many : Int}
/-- nothing set -/
def rsE (vL vU vO : Value) (gone : Bool) (many : Int) (vF : Value) (er : Int) : Value := .tuple #[.agg #[vL, vU, vO, .bool gone], .agg #[.int .i64 many, vF], .int .i64 er]
theorem rs_cells {w6 : World} {n8 n9 : Nat} {x0 x1 x2 x3 y0 y1 : Value} (vL vU vO vF : Value) (gone : Bool) (many : Int) (N : New w w6) (b8 : Box w6 n8 #[x0, x1, x2, x3] 47) (b9 : Box w6 n9 #[y0, y1] 49) (hne : n8 ≠ n9) (h8 : w.heap.size ≤ n8) (h9 : w.heap.size ≤ n9) :
    let W := ((((((w6.setCell ⟨n8, 0, none⟩ vL).setCell ⟨n8, 1, none⟩ vU).setCell ⟨n8, 2, none⟩ vO).setCell ⟨n8, 3, none⟩ (.bool gone)).setCell ⟨n9, 0, none⟩ (.int .i64 many)).setCell ⟨n9, 1, none⟩ vF).drew
    W.cell? ⟨n8, 0, none⟩ = some vL ∧ W.cell? ⟨n8, 1, none⟩ = some vU ∧ W.cell? ⟨n8, 2, none⟩ = some vO ∧ W.cell? ⟨n8, 3, none⟩ = some (.bool gone) ∧ W.cell? ⟨n9, 0, none⟩ = some (.int .i64 many) ∧ W.cell? ⟨n9, 1, none⟩ = some vF ∧ New w W := by
  intro W
  have c9 := b9.other4 (n := n8) hne vL vU vO (.bool gone)
  have d8 := (b8.set4 vL vU vO (.bool gone)).other2 (n := n9) (Ne.symm hne) (.int .i64 many) vF
  have d9 := c9.set2 (.int .i64 many) vF
  have pN := (N.set4 h8 vL vU vO (.bool gone)).set2 h9 (.int .i64 many) vF
  have nD : New (set2 (set4 w6 n8 vL vU vO (.bool gone)) n9 (.int .i64 many) vF) W := (New.refl _).drew
  obtain ⟨_, ⟨r0, r1, r2, r3⟩, _⟩ := (d8.new nD).four'
  obtain ⟨r4, r5⟩ := (d9.new nD).two
  exact ⟨r0, r1, r2, r3, r4, r5, pN.trans nD⟩
set_option maxHeartbeats 4000000 in
theorem rset_gone (m g q : Int) (c : Bool) (h1 : Sl vL) (h2 : Sl vU) (h3 : Sl vO) (h4 : Sl vF) :
    Calls Tryd.prog 15 #[.agg #[vL, vU, vO, .bool true], .agg #[.int .i64 many, vF], .int .i64 m, .agg #[.int .i64 g, .int .u8 q, .bool c]] w (Said (rsE vL vU vO true many vF 22) w) := by
  obtain ⟨p1, k1, c1, rfl⟩ := h1
  obtain ⟨p2, k2, c2, rfl⟩ := h2
  obtain ⟨p3, k3, c3, rfl⟩ := h3
  obtain ⟨p4, k4, c4, rfl⟩ := h4
  obtain ⟨W0, hW0⟩ : ∃ W0, W0 = ((((w.alloc (.cells #[.slice p1 k1 c1, .slice p2 k2 c2, .slice p3 k3 c3, .bool true] 47)).alloc (.cells #[.int .i64 many, .slice p4 k4 c4] 49)).alloc (.cells #[.int .i64 g, .int .u8 q, .bool c] 52)).alloc (.cells #[.slice none 0 0, .slice none 0 0, .slice none 0 0, .bool false] 47)).alloc (.cells #[.int .i64 0, .slice none 0 0] 49) := ⟨_, rfl⟩
  have n0 : New w W0 := by rw [hW0]; exact (((((New.refl w).alloc _ _).alloc _ _).alloc _ _).alloc _ _).alloc _ _
  have B4 : Box W0 w.heap.size #[.slice p1 k1 c1, .slice p2 k2 c2, .slice p3 k3 c3, .bool true] 47 := by rw [hW0]; exact ((((Box.here w _ _ _ rfl).alloc _).alloc _).alloc _).alloc _
  have B5 : Box W0 (w.heap.size + 1) #[.int .i64 many, .slice p4 k4 c4] 49 := by rw [hW0]; exact (((Box.here _ _ _ _ (by simp)).alloc _).alloc _).alloc _
  have B7 : Box W0 (w.heap.size + 1 + 1) #[.int .i64 g, .int .u8 q, .bool c] 52 := by rw [hW0]; exact ((Box.here _ _ _ _ (by simp)).alloc _).alloc _
  have B8 : Box W0 (w.heap.size + 1 + 1 + 1) #[.slice none 0 0, .slice none 0 0, .slice none 0 0, .bool false] 47 := by rw [hW0]; exact (Box.here _ _ _ _ (by simp)).alloc _
  have B9 : Box W0 (w.heap.size + 1 + 1 + 1 + 1) #[.int .i64 0, .slice none 0 0] 49 := by rw [hW0]; exact Box.here _ _ _ _ (by simp)
  obtain ⟨x0, x1, x2, x3⟩ := B4.four
  go_enter Tryd.func15, Tryd.ntmps15
  go_wp2_with fail
  try rw [← hW0]
  clear hW0 x0 x1 x2 x3
  obtain ⟨s4, ⟨a0, a1, a2, a3⟩, u0, u1, u2, u3⟩ := B4.four'
  obtain ⟨a4, a5⟩ := B5.two
  obtain ⟨s8, ⟨a6, a7, a8, a9⟩, f0, f1, f2, f3⟩ := B8.four'
  obtain ⟨b0, b1⟩ := B9.two
  have f4 := B9.unfrozen 0
  have f5 := B9.unfrozen 1
  have HW := Lib.hid (rs_cells (.slice p1 k1 c1) (.slice p2 k2 c2) (.slice p3 k3 c3) (.slice p4 k4 c4) true many n0 B8 B9 (by omega) (by omega) (by omega))
  clear B4 B5 B7 B8 B9 n0
  go_region
  all_goals
    clear a0 a1 a2 a3 a4 a5 a6 a7 a8 a9 b0 b1 f0 f1 f2 f3 f4 f5
    rename_i hret
    refine hret _ _ (wp_ret ?_)
    obtain ⟨r0, r1, r2, r3, r4, r5, QN⟩ := HW.out
    exact bodyPost_ret (v := rsE (.slice p1 k1 c1) (.slice p2 k2 c2) (.slice p3 k3 c3) true many (.slice p4 k4 c4) 22) (by simp [rsE, results, Tryd.results15, go_sem, r0, r1, r2, r3, r4, r5]) rfl ⟨rfl, QN⟩
set_option maxHeartbeats 4000000 in
theorem rset_bad (m g q : Int) (c : Bool) (hp : ¬ (0 ≤ m ∧ m < 4096)) (h1 : Sl vL) (h2 : Sl vU) (h3 : Sl vO) (h4 : Sl vF) :
    Calls Tryd.prog 15 #[.agg #[vL, vU, vO, .bool false], .agg #[.int .i64 many, vF], .int .i64 m, .agg #[.int .i64 g, .int .u8 q, .bool c]] w (Said (rsE vL vU vO false many vF 22) w) := by
  obtain ⟨p1, k1, c1, rfl⟩ := h1
  obtain ⟨p2, k2, c2, rfl⟩ := h2
  obtain ⟨p3, k3, c3, rfl⟩ := h3
  obtain ⟨p4, k4, c4, rfl⟩ := h4
  obtain ⟨W0, hW0⟩ : ∃ W0, W0 = ((((w.alloc (.cells #[.slice p1 k1 c1, .slice p2 k2 c2, .slice p3 k3 c3, .bool false] 47)).alloc (.cells #[.int .i64 many, .slice p4 k4 c4] 49)).alloc (.cells #[.int .i64 g, .int .u8 q, .bool c] 52)).alloc (.cells #[.slice none 0 0, .slice none 0 0, .slice none 0 0, .bool false] 47)).alloc (.cells #[.int .i64 0, .slice none 0 0] 49) := ⟨_, rfl⟩
  have n0 : New w W0 := by rw [hW0]; exact (((((New.refl w).alloc _ _).alloc _ _).alloc _ _).alloc _ _).alloc _ _
  have X := rpage_no m W0 hp
  have B4 : Box W0 w.heap.size #[.slice p1 k1 c1, .slice p2 k2 c2, .slice p3 k3 c3, .bool false] 47 := by rw [hW0]; exact ((((Box.here w _ _ _ rfl).alloc _).alloc _).alloc _).alloc _
  have B5 : Box W0 (w.heap.size + 1) #[.int .i64 many, .slice p4 k4 c4] 49 := by rw [hW0]; exact (((Box.here _ _ _ _ (by simp)).alloc _).alloc _).alloc _
  have B7 : Box W0 (w.heap.size + 1 + 1) #[.int .i64 g, .int .u8 q, .bool c] 52 := by rw [hW0]; exact ((Box.here _ _ _ _ (by simp)).alloc _).alloc _
  have B8 : Box W0 (w.heap.size + 1 + 1 + 1) #[.slice none 0 0, .slice none 0 0, .slice none 0 0, .bool false] 47 := by rw [hW0]; exact (Box.here _ _ _ _ (by simp)).alloc _
  have B9 : Box W0 (w.heap.size + 1 + 1 + 1 + 1) #[.int .i64 0, .slice none 0 0] 49 := by rw [hW0]; exact Box.here _ _ _ _ (by simp)
  obtain ⟨x0, x1, x2, x3⟩ := B4.four
  go_enter Tryd.func15, Tryd.ntmps15
  go_wp2_with fail
  rw [← hW0]
  clear hW0
  refine X.mono ?_
  rintro e w' ⟨rfl, rfl⟩
  clear X
  go_wp2_with fail
  clear x0 x1 x2 x3
  obtain ⟨s4, ⟨a0, a1, a2, a3⟩, u0, u1, u2, u3⟩ := B4.four'
  obtain ⟨a4, a5⟩ := B5.two
  obtain ⟨s8, ⟨a6, a7, a8, a9⟩, f0, f1, f2, f3⟩ := B8.four'
  obtain ⟨b0, b1⟩ := B9.two
  have f4 := B9.unfrozen 0
  have f5 := B9.unfrozen 1
  have HW := Lib.hid (rs_cells (.slice p1 k1 c1) (.slice p2 k2 c2) (.slice p3 k3 c3) (.slice p4 k4 c4) false many n0 B8 B9 (by omega) (by omega) (by omega))
  clear B4 B5 B7 B8 B9 n0
  go_region
  all_goals
    clear a0 a1 a2 a3 a4 a5 a6 a7 a8 a9 b0 b1 f0 f1 f2 f3 f4 f5
    rename_i hret
    refine hret _ _ (wp_ret ?_)
    obtain ⟨r0, r1, r2, r3, r4, r5, QN⟩ := HW.out
    exact bodyPost_ret (v := rsE (.slice p1 k1 c1) (.slice p2 k2 c2) (.slice p3 k3 c3) false many (.slice p4 k4 c4) 22) (by simp [rsE, results, Tryd.results15, go_sem, r0, r1, r2, r3, r4, r5]) rfl ⟨rfl, QN⟩
set_option maxHeartbeats 4000000 in
theorem rset_may (p : Nat) (g q : Int) (c : Bool) (hp : p < 4096) (hq : 0 ≤ q) (hy : ¬ (0 ≤ g ∧ g < 1024 ∧ q ≤ 7)) (h1 : Sl vL) (h2 : Sl vU) (h3 : Sl vO) (h4 : Sl vF) :
    Calls Tryd.prog 15 #[.agg #[vL, vU, vO, .bool false], .agg #[.int .i64 many, vF], .int .i64 p, .agg #[.int .i64 g, .int .u8 q, .bool c]] w (Said (rsE vL vU vO false many vF 22) w) := by
  obtain ⟨p1, k1, c1, rfl⟩ := h1
  obtain ⟨p2, k2, c2, rfl⟩ := h2
  obtain ⟨p3, k3, c3, rfl⟩ := h3
  obtain ⟨p4, k4, c4, rfl⟩ := h4
  obtain ⟨W0, hW0⟩ : ∃ W0, W0 = ((((w.alloc (.cells #[.slice p1 k1 c1, .slice p2 k2 c2, .slice p3 k3 c3, .bool false] 47)).alloc (.cells #[.int .i64 many, .slice p4 k4 c4] 49)).alloc (.cells #[.int .i64 g, .int .u8 q, .bool c] 52)).alloc (.cells #[.slice none 0 0, .slice none 0 0, .slice none 0 0, .bool false] 47)).alloc (.cells #[.int .i64 0, .slice none 0 0] 49) := ⟨_, rfl⟩
  have n0 : New w W0 := by rw [hW0]; exact (((((New.refl w).alloc _ _).alloc _ _).alloc _ _).alloc _ _).alloc _ _
  have X := rpage_yes p W0 hp
  have Y := fun W => rmay_no g q c W hq hy
  have B4 : Box W0 w.heap.size #[.slice p1 k1 c1, .slice p2 k2 c2, .slice p3 k3 c3, .bool false] 47 := by rw [hW0]; exact ((((Box.here w _ _ _ rfl).alloc _).alloc _).alloc _).alloc _
  have B5 : Box W0 (w.heap.size + 1) #[.int .i64 many, .slice p4 k4 c4] 49 := by rw [hW0]; exact (((Box.here _ _ _ _ (by simp)).alloc _).alloc _).alloc _
  have B7 : Box W0 (w.heap.size + 1 + 1) #[.int .i64 g, .int .u8 q, .bool c] 52 := by rw [hW0]; exact ((Box.here _ _ _ _ (by simp)).alloc _).alloc _
  have B8 : Box W0 (w.heap.size + 1 + 1 + 1) #[.slice none 0 0, .slice none 0 0, .slice none 0 0, .bool false] 47 := by rw [hW0]; exact (Box.here _ _ _ _ (by simp)).alloc _
  have B9 : Box W0 (w.heap.size + 1 + 1 + 1 + 1) #[.int .i64 0, .slice none 0 0] 49 := by rw [hW0]; exact Box.here _ _ _ _ (by simp)
  obtain ⟨x0, x1, x2, x3⟩ := B4.four
  go_enter Tryd.func15, Tryd.ntmps15
  go_wp2_with fail
  rw [← hW0]
  clear hW0
  refine X.mono ?_
  rintro e w' ⟨rfl, rfl⟩
  clear X
  obtain ⟨y0, y1, y2⟩ := B7.three
  go_wp2_with fail
  refine (Y _).mono ?_
  rintro e w1 ⟨rfl, n1⟩
  have N1 := n0.trans n1
  have D4 := B4.new n1
  have D5 := B5.new n1
  have D7 := B7.new n1
  have D8 := B8.new n1
  have D9 := B9.new n1
  clear B4 B5 B7 B8 B9 n0 n1 x0 x1 x2 x3 y0 y1 y2 Y
  go_wp2_with fail
  obtain ⟨s4, ⟨a0, a1, a2, a3⟩, u0, u1, u2, u3⟩ := D4.four'
  obtain ⟨a4, a5⟩ := D5.two
  obtain ⟨s8, ⟨a6, a7, a8, a9⟩, f0, f1, f2, f3⟩ := D8.four'
  obtain ⟨b0, b1⟩ := D9.two
  have f4 := D9.unfrozen 0
  have f5 := D9.unfrozen 1
  have HW := Lib.hid (rs_cells (.slice p1 k1 c1) (.slice p2 k2 c2) (.slice p3 k3 c3) (.slice p4 k4 c4) false many N1 D8 D9 (by omega) (by omega) (by omega))
  clear D4 D5 D7 D8 D9 N1
  go_region
  all_goals
    clear a0 a1 a2 a3 a4 a5 a6 a7 a8 a9 b0 b1 f0 f1 f2 f3 f4 f5
    rename_i hret
    refine hret _ _ (wp_ret ?_)
    obtain ⟨r0, r1, r2, r3, r4, r5, QN⟩ := HW.out
    exact bodyPost_ret (v := rsE (.slice p1 k1 c1) (.slice p2 k2 c2) (.slice p3 k3 c3) false many (.slice p4 k4 c4) 22) (by simp [rsE, results, Tryd.results15, go_sem, r0, r1, r2, r3, r4, r5]) rfl ⟨rfl, QN⟩
set_option maxHeartbeats 4000000 in
theorem rset_full (k p : Nat) (hmk : many = (k : Int)) (g q : Int) (c : Bool) (h1 : Sl vL) (h2 : Own base w vU U) (h3 : Sl vO) (h4 : Own base w vF l) (hbs : base ≤ w.heap.size) (hp : p < 4096) (hU : U.length ≤ 5000) (hl : l.length ≤ 1000000) (hk : k ≤ 1024) (hn : ∀ j : Nat, j < k → cn l (j : Int) ≠ 0)
    (g0 : 0 ≤ g) (g1 : g < 1024) (q0 : 0 ≤ q) (q1 : q ≤ 7) (hm : ¬ ((p / 64 : Nat) : Int) ∈ U) :
    Calls Tryd.prog 15 #[.agg #[vL, vU, vO, .bool false], .agg #[.int .i64 many, vF], .int .i64 p, .agg #[.int .i64 g, .int .u8 q, .bool c]] w (Said (rsE vL vU vO false many vF 12) w) := by
  subst hmk
  obtain ⟨p1, k1, c1, rfl⟩ := h1
  obtain ⟨p2, k2, c2, rfl⟩ := h2.ints.sl
  obtain ⟨p3, k3, c3, rfl⟩ := h3
  obtain ⟨p4, k4, c4, rfl⟩ := h4.ints.sl
  obtain ⟨W0, hW0⟩ : ∃ W0, W0 = ((((w.alloc (.cells #[.slice p1 k1 c1, .slice p2 k2 c2, .slice p3 k3 c3, .bool false] 47)).alloc (.cells #[.int .i64 (k : Int), .slice p4 k4 c4] 49)).alloc (.cells #[.int .i64 g, .int .u8 q, .bool c] 52)).alloc (.cells #[.slice none 0 0, .slice none 0 0, .slice none 0 0, .bool false] 47)).alloc (.cells #[.int .i64 0, .slice none 0 0] 49) := ⟨_, rfl⟩
  have n0 : New w W0 := by rw [hW0]; exact (((((New.refl w).alloc _ _).alloc _ _).alloc _ _).alloc _ _).alloc _ _
  have X := rpage_yes p W0 hp
  have Y := fun W => rmay_ok g q c W g0 g1 q0 q1
  have Z := fun W (k : New w W) => rneeds_any (vL := .slice p1 k1 c1) (vO := .slice p3 k3 c3) p ⟨_, _, _, rfl⟩ (h2.new k).ints ⟨_, _, _, rfl⟩ hp hU
  have HA := fun W (m : New w W) => ralloc_none k (.slice p4 k4 c4) l base W (h4.new m) (by have := m.size; omega) hl hk hn
  rw [show decide (¬ ((p / 64 : Nat) : Int) ∈ U) = true from decide_eq_true hm] at Z
  have B4 : Box W0 w.heap.size #[.slice p1 k1 c1, .slice p2 k2 c2, .slice p3 k3 c3, .bool false] 47 := by rw [hW0]; exact ((((Box.here w _ _ _ rfl).alloc _).alloc _).alloc _).alloc _
  have B5 : Box W0 (w.heap.size + 1) #[.int .i64 (k : Int), .slice p4 k4 c4] 49 := by rw [hW0]; exact (((Box.here _ _ _ _ (by simp)).alloc _).alloc _).alloc _
  have B7 : Box W0 (w.heap.size + 1 + 1) #[.int .i64 g, .int .u8 q, .bool c] 52 := by rw [hW0]; exact ((Box.here _ _ _ _ (by simp)).alloc _).alloc _
  have B8 : Box W0 (w.heap.size + 1 + 1 + 1) #[.slice none 0 0, .slice none 0 0, .slice none 0 0, .bool false] 47 := by rw [hW0]; exact (Box.here _ _ _ _ (by simp)).alloc _
  have B9 : Box W0 (w.heap.size + 1 + 1 + 1 + 1) #[.int .i64 0, .slice none 0 0] 49 := by rw [hW0]; exact Box.here _ _ _ _ (by simp)
  obtain ⟨x0, x1, x2, x3⟩ := B4.four
  go_enter Tryd.func15, Tryd.ntmps15
  clear h2 h4 hm hn
  go_wp2_with fail
  rw [← hW0]
  clear hW0
  refine X.mono ?_
  rintro e w' ⟨rfl, rfl⟩
  clear X
  obtain ⟨y0, y1, y2⟩ := B7.three
  go_wp2_with fail
  refine (Y _).mono ?_
  rintro e w1 ⟨rfl, n1⟩
  have N1 := n0.trans n1
  have D4 := B4.new n1
  have D5 := B5.new n1
  have D7 := B7.new n1
  have D8 := B8.new n1
  have D9 := B9.new n1
  clear B4 B5 B7 B8 B9 n0 n1 x0 x1 x2 x3 y0 y1 y2 Y
  obtain ⟨x0, x1, x2, x3⟩ := D4.four
  go_wp2_with fail
  refine (Z _ N1).mono ?_
  rintro e w2 ⟨rfl, n2⟩
  have N2 := N1.trans n2
  have E4 := D4.new n2
  have E5 := D5.new n2
  have E7 := D7.new n2
  have E8 := D8.new n2
  have E9 := D9.new n2
  clear D4 D5 D7 D8 D9 N1 n2 x0 x1 x2 x3 Z
  obtain ⟨x4, x5⟩ := E5.two
  go_wp2_with fail
  refine (HA _ N2).mono ?_
  rintro e u3 ⟨vF2, rfl, o2, n3⟩
  obtain ⟨pF2, kF2, cF2, rfl⟩ := o2.shape
  have N3 := (N2.trans n3).alloc #[.int .i64 (k : Int), .slice pF2 kF2 cF2] 49
  have m3 := n3.alloc #[.int .i64 (k : Int), .slice pF2 kF2 cF2] 49
  have A4 := E4.new m3
  have A5 := E5.new m3
  have A7 := E7.new m3
  have A8 := E8.new m3
  have A9 := E9.new m3
  clear E4 E5 E7 E8 E9 N2 n3 m3 o2 HA x4 x5
  go_wp2_with fail
  generalize u3.alloc (.cells #[.int .i64 (k : Int), .slice pF2 kF2 cF2] 49) = u4 at *
  obtain ⟨s4, ⟨a0, a1, a2, a3⟩, u0, u1, u2, u3⟩ := A4.four'
  obtain ⟨a4, a5⟩ := A5.two
  obtain ⟨s8, ⟨a6, a7, a8, a9⟩, f0, f1, f2, f3⟩ := A8.four'
  obtain ⟨b0, b1⟩ := A9.two
  have f4 := A9.unfrozen 0
  have f5 := A9.unfrozen 1
  have HW := Lib.hid (rs_cells (.slice p1 k1 c1) (.slice p2 k2 c2) (.slice p3 k3 c3) (.slice p4 k4 c4) false (k : Int) N3 A8 A9 (by omega) (by omega) (by omega))
  clear A4 A5 A7 A8 A9 N3
  go_region
  all_goals
    clear a0 a1 a2 a3 a4 a5 a6 a7 a8 a9 b0 b1 f0 f1 f2 f3 f4 f5
    rename_i hret
    refine hret _ _ (wp_ret ?_)
    obtain ⟨r0, r1, r2, r3, r4, r5, QN⟩ := HW.out
    exact bodyPost_ret (v := rsE (.slice p1 k1 c1) (.slice p2 k2 c2) (.slice p3 k3 c3) false (k : Int) (.slice p4 k4 c4) 12) (by simp [rsE, results, Tryd.results15, go_sem, r0, r1, r2, r3, r4, r5]) rfl ⟨rfl, QN⟩
end
end Go.Proofs.YtajhlmiobibhjaaDoor
