/- Spaces of pages in memory: a page that gets a frame of noughts, one that gets a frame of its own. Contracts, for any spaces over one row of frames, in any world. -/
import Derived.Test.YtgedimlhldfkaaaGreatDoorSpD
import Derived.Deep.RegionHeld3
namespace Go.Proofs.YtgedimlhldfkaaaGreatDoor
open Go.RowKit
set_option linter.unusedVariables false
set_option maxRecDepth 100000
theorem set_back {rs : List Int} {g : Nat} (hg : g < rs.length) (hz : rs.getD g 0 = 0) : (rs.set g 1).set g ((rs.set g 1).getD g 0 - 1) = rs := by
  rw [getD_set _ _ _ _ hg, if_pos rfl, List.set_set]
  apply ext_getD (by simp)
  intro j hj
  rw [getD_set _ _ _ _ hg]
  split
  · rename_i e; subst e; rw [hz]; rfl
  · rfl
section
variable {w w' : World} {k fb rb mb qb : Nat} {rs bs qs cs : List Int} {S T : List Sq} {a : Nat → Prop} {i : Nat}
theorem fill_no1 (h : GM w k fb rb mb qb rs bs S) (hi : i < S.length) (ho : S[i].on = true) (m P : Int) (hn : NoFree rs k) :
    Calls Tryz.prog 85 #[.pointer (some ⟨S[i].sb, 0, none⟩), .int .i64 m, .int .u8 P] w (GDid k fb rb mb qb rs bs S (.tuple #[.int .i64 0, .iface 98 (.int .i64 12)]) w) := by
  obtain ⟨v, hb, _⟩ := (h.has hi ho).box
  obtain ⟨c0, c1, c2, c3⟩ := Box.four hb
  have X := g_alloc_no h hn
  clear h hb hn
  go_enter Tryz.func85, Tryz.ntmps85
  go_wp2_with fail
  refine X.mono ?_
  rintro e w1 ⟨rfl, h1, b1⟩
  go_wp2
  go_ret2
  exact ⟨rfl, h1, b1⟩
set_option maxHeartbeats 1000000 in
theorem fill_no2 (h : GM w k fb rb mb qb rs bs S) (hi : i < S.length) (ho : S[i].on = true) (gd : Good k a bs S[i].t) (p : Nat) (hp : p < 4096) (P : Int) (q0 : 0 ≤ P) (q1 : P ≤ 7) (g : Nat) (hg : g < k) (hn : NoFree rs g) (hz : rs.getD g 0 = 0)
    (h0 : nm bs S[i].t (p / 64) = 0) (hn2 : NoFree (rs.set g 1) k) :
    Calls Tryz.prog 85 #[.pointer (some ⟨S[i].sb, 0, none⟩), .int .i64 p, .int .u8 P] w (GDid k fb rb mb qb rs bs S (.tuple #[.int .i64 0, .iface 98 (.int .i64 12)]) w) := by
  obtain ⟨v, hb, _⟩ := (h.has hi ho).box
  obtain ⟨c0, c1, c2, c3⟩ := Box.four hb
  have hk := h.bd
  have SB := (h.rbqb.2 i hi).1
  have X := g_alloc h g hg hn hz
  have Y := fun W (H : GM W k fb rb mb qb (rs.set g 1) bs S) => g_set_no H hi ho gd p hp (g : Int) P false (by omega) (by omega) q0 q1 h0 hn2
  have Z := fun W (H : GM W k fb rb mb qb (rs.set g 1) bs S) => g_unref H g hg (by rw [getD_set _ _ _ _ (by rw [h.len]; exact hg), if_pos rfl]; omega)
  have hs := set_back (by rw [h.len]; exact hg) hz
  simp only [hs] at Z
  generalize ((rs.set g 1).getD g 0 == 1) = bb at Z
  generalize rs.set g 1 = r1 at *
  have HB := Lib.hid hb
  clear h hb hn hz h0 hn2 hs gd
  go_enter Tryz.func85, Tryz.ntmps85
  go_wp2_with fail
  refine X.mono ?_
  rintro e w1 ⟨rfl, h1, b1⟩
  obtain ⟨d0, d1, d2, d3⟩ := Box.four (Box.but HB.out b1 SB)
  go_wp2_with fail
  refine (Y _ h1).mono ?_
  rintro e w2 ⟨rfl, n2⟩
  have h2 := h1.new n2
  obtain ⟨f0, f1, f2, f3⟩ := Box.four ((Box.but HB.out b1 SB).new n2)
  go_wp2_with fail
  refine (Z _ h2).mono ?_
  rintro e w3 ⟨rfl, h3, b3⟩
  go_wp2
  go_ret2
  exact ⟨rfl, h3, (b1.trans (But.of_new _ n2)).trans b3⟩
set_option maxHeartbeats 1000000 in
theorem fill_ok (h : GM w k fb rb mb qb rs bs S) (hi : i < S.length) (ho : S[i].on = true) (gd : Good k a bs S[i].t) (p : Nat) (hp : p < 4096) (P : Int) (q0 : 0 ≤ P) (q1 : P ≤ 7) (g : Nat) (hg : g < k) (hn : NoFree rs g) (hz : rs.getD g 0 = 0)
    (n : Nat) (hnn : nm bs S[i].t (p / 64) = 0 → n < k ∧ NoFree (rs.set g 1) n ∧ (rs.set g 1).getD n 0 = 0) :
    Calls Tryz.prog 85 #[.pointer (some ⟨S[i].sb, 0, none⟩), .int .i64 p, .int .u8 P] w
      (GDid k fb rb mb qb (layR (rs.set g 1) bs S[i].t p n) (zr (layB bs S[i].t p (ennum g P false) n) g) S (.tuple #[.int .i64 g, .nilIface]) w) := by
  obtain ⟨v, hb, _⟩ := (h.has hi ho).box
  obtain ⟨c0, c1, c2, c3⟩ := Box.four hb
  have hk := h.bd
  have SB := (h.rbqb.2 i hi).1
  have X := g_alloc h g hg hn hz
  have Y := fun W (H : GM W k fb rb mb qb (rs.set g 1) bs S) => g_set H hi ho gd p hp (g : Int) P false (by omega) (by omega) q0 q1 n hnn
  have Z := fun W r b (H : GM W k fb rb mb qb r b S) => g_zero H g hg
  generalize layB bs S[i].t p (ennum g P false) n = b1 at *
  generalize layR (rs.set g 1) bs S[i].t p n = r2 at *
  generalize rs.set g 1 = r1 at *
  have HB := Lib.hid hb
  clear h hb hn hz gd hnn
  go_enter Tryz.func85, Tryz.ntmps85
  go_wp2_with fail
  refine X.mono ?_
  rintro e w1 ⟨rfl, h1, b1⟩
  obtain ⟨d0, d1, d2, d3⟩ := Box.four (Box.but HB.out b1 SB)
  go_wp2_with fail
  refine (Y _ h1).mono ?_
  rintro e w2 ⟨rfl, h2, b2⟩
  have b12 := b1.trans b2
  obtain ⟨f0, f1, f2, f3⟩ := Box.four (Box.but HB.out b12 SB)
  go_wp2_with fail
  refine (Z _ _ _ h2).mono ?_
  rintro e w3 ⟨rfl, h3, b3⟩
  go_wp2
  go_ret2
  exact ⟨rfl, h3, b12.trans b3⟩
end
end Go.Proofs.YtgedimlhldfkaaaGreatDoor
namespace Go.Proofs.YtgedimlhldfkaaaGreatDoor
open Go.RowKit
set_option linter.unusedVariables false
set_option maxRecDepth 100000
section
variable {w w' : World} {k fb rb mb qb : Nat} {rs bs qs cs : List Int} {S T : List Sq} {a : Nat → Prop} {i : Nat}
theorem drew_new (w : World) : New w w.drew := (New.refl w).drew
set_option maxHeartbeats 1000000 in
theorem split_free (h : GM w k fb rb mb qb rs bs S) (hi : i < S.length) (ho : S[i].on = true) (gd : Good k a bs S[i].t) (p : Nat) (hp : p < 4096) (f : Nat) (hf : f < k) (P : Int) (c : Bool) (q0 : 0 ≤ P) (q1 : P ≤ 7) (h1 : ¬ 1 < rs.getD f 0) (h0 : nm bs S[i].t (p / 64) ≠ 0) :
    Calls Tryz.prog 86 #[.pointer (some ⟨S[i].sb, 0, none⟩), .int .i64 p, .agg #[.int .i64 f, .int .u8 P, .bool c]] w
      (GDid k fb rb mb qb rs (pt bs (lof bs S[i].t (p / 64)) (p % 64) (ennum f P false)) S (.tuple #[.int .i64 f, .nilIface]) w) := by
  have hk := h.bd
  have N0 := (New.refl w).alloc #[.int .i64 f, .int .u8 P, .bool c] 117
  have B0 := Box.here w _ #[.int .i64 f, .int .u8 P, .bool c] 117 rfl
  have H0 := h.new N0
  obtain ⟨v, hb, _⟩ := (H0.has hi ho).box
  have SB := (H0.rbqb.2 i hi).1
  have EB : ¬ (w.heap.size = rb ∨ w.heap.size = qb) := by have := h.fr.lt; have := h.ph.lt; omega
  have X := fun W (H : GM W k fb rb mb qb rs bs S) => g_refs H f hf
  have Y := fun W (H : GM W k fb rb mb qb rs bs S) => g_set H hi ho gd p hp (f : Int) P false (by omega) (by omega) q0 q1 0 (fun e => absurd e h0)
  unfold layR layB at Y
  rw [if_neg h0, if_neg h0] at Y
  generalize pt bs (lof bs S[i].t (p / 64)) (p % 64) (ennum f P false) = b1 at *
  have e1 : decide (1 < rs.getD f 0) = false := by simpa using h1
  generalize rs.getD f 0 = R at *
  have HG := Lib.hid h
  clear h gd h0
  go_enter Tryz.func86, Tryz.ntmps86
  go_wp2_with fail
  change Code.wp _ _ _ _ (w.alloc (.cells #[.int .i64 f, .int .u8 P, .bool c] 117))
  generalize (w.alloc (.cells #[.int .i64 f, .int .u8 P, .bool c] 117)) = W at *
  generalize hEB : w.heap.size = eb at *
  have HE := Lib.hid hEB
  clear hEB
  obtain ⟨c0, c1, c2, c3⟩ := Box.four hb
  obtain ⟨hs, k0, k1, k2, f0, f1, f2⟩ := B0.three'
  have H1 := H0.new (drew_new W)
  have X1 := X _ H1
  clear X
  go_region_held3 (fun w' => w'.cell? ⟨S[i].sb, 0, none⟩ = some (.pointer (some ⟨fb, 0, none⟩)) ∧ w'.cell? ⟨eb, 0, none⟩ = some (.int .i64 f))
    (first | go_keep)
    (first | (go_at_call 134; (with_reducible refine X1.mono ?_); rintro e w1 ⟨rfl, rfl⟩))
  have N2 : New w (W.setCell ⟨eb, 2, none⟩ (.bool false)).drew := (N0.setCell (p := ⟨eb, 2, none⟩) (by rw [HE.out]; exact Nat.le_refl _) _).drew
  have B2 : Box (W.setCell ⟨eb, 2, none⟩ (.bool false)).drew eb #[.int .i64 f, .int .u8 P, .bool false] 117 := (B0.set 2 (.bool false)).new (drew_new _)
  go_wp2_with fail
  generalize (W.setCell ⟨eb, 2, none⟩ (.bool false)).drew = W2 at *
  have H2 := HG.out.new N2
  have N3 := N2.trans (drew_new W2)
  have Y1 := Y _ (HG.out.new N3)
  obtain ⟨v2, hb2, _⟩ := (H2.has hi ho).box
  obtain ⟨d0, d1, d2, d3⟩ := Box.four hb2
  obtain ⟨j0, j1, j2⟩ := B2.three
  have hb3 := Box.new hb2 (drew_new W2)
  have B3 := B2.new (drew_new W2)
  clear Y c0 c1 c2 c3 k0 k1 k2 f0 f1 f2 hs X1 H1 hb B0 H0 H2
  go_region_held3 (fun w' => w'.cell? ⟨S[i].sb, 2, none⟩ = some (.pointer (some ⟨S[i].tb, 0, none⟩)) ∧ w'.cell? ⟨eb, 0, none⟩ = some (.int .i64 f) ∧ w'.cell? ⟨eb, 1, none⟩ = some (.int .u8 P) ∧ w'.cell? ⟨eb, 2, none⟩ = some (.bool false))
    (first | go_keep | exact ⟨(Box.four (Box.but hb3 b5 SB)).2.2.1, (Box.but B3 b5 EB).three⟩)
    (first | (go_at_call 56; (with_reducible refine Y1.mono ?_); rintro e w5 ⟨rfl, h5, b5⟩))
  all_goals
    go_wp2
    go_ret2
    exact ⟨rfl, h5, (But.of_new _ N3).trans b5⟩
set_option maxHeartbeats 1000000 in
theorem split_no (h : GM w k fb rb mb qb rs bs S) (hi : i < S.length) (ho : S[i].on = true) (p : Nat) (f : Nat) (hf : f < k) (P : Int) (c : Bool) (h1 : 1 < rs.getD f 0) (hn : NoFree rs k) :
    Calls Tryz.prog 86 #[.pointer (some ⟨S[i].sb, 0, none⟩), .int .i64 p, .agg #[.int .i64 f, .int .u8 P, .bool c]] w
      (GDid k fb rb mb qb rs bs S (.tuple #[.int .i64 0, .iface 98 (.int .i64 12)]) w) := by
  have hk := h.bd
  have N0 := (New.refl w).alloc #[.int .i64 f, .int .u8 P, .bool c] 117
  have B0 := Box.here w _ #[.int .i64 f, .int .u8 P, .bool c] 117 rfl
  have H0 := h.new N0
  obtain ⟨v, hb, _⟩ := (H0.has hi ho).box
  have SB := (H0.rbqb.2 i hi).1
  have EB : ¬ (w.heap.size = rb ∨ w.heap.size = qb) := by have := h.fr.lt; have := h.ph.lt; omega
  have X := fun W (H : GM W k fb rb mb qb rs bs S) => g_refs H f hf
  have Y := fun W (H : GM W k fb rb mb qb rs bs S) => g_alloc_no H hn
  have e1 : decide (1 < rs.getD f 0) = true := by simpa using h1
  have e1' : 1 < rs.getD f 0 := h1
  generalize rs.getD f 0 = R at *
  have HG := Lib.hid h
  clear h hn
  go_enter Tryz.func86, Tryz.ntmps86
  go_wp2_with fail
  change Code.wp _ _ _ _ (w.alloc (.cells #[.int .i64 f, .int .u8 P, .bool c] 117))
  generalize (w.alloc (.cells #[.int .i64 f, .int .u8 P, .bool c] 117)) = W at *
  generalize hEB : w.heap.size = eb at *
  have HE := Lib.hid hEB
  clear hEB
  obtain ⟨c0, c1, c2, c3⟩ := Box.four hb
  obtain ⟨hs, k0, k1, k2, f0, f1, f2⟩ := B0.three'
  have H1 := H0.new (drew_new W)
  have X1 := X _ H1
  clear X
  go_region_held3 (fun w' => w'.cell? ⟨S[i].sb, 0, none⟩ = some (.pointer (some ⟨fb, 0, none⟩)) ∧ w'.cell? ⟨eb, 0, none⟩ = some (.int .i64 f))
    (first | go_keep)
    (first | (go_at_call 134; (with_reducible refine X1.mono ?_); rintro e w1 ⟨rfl, rfl⟩))
  obtain ⟨v1, hb1, _⟩ := (H1.has hi ho).box
  have B1 := B0.new (drew_new W)
  have N1 := N0.drew
  clear X1 H0 hb B0 c0 c1 c2 c3 k0 k1 k2 f0 f1 f2 hs
  go_wp2_with fail
  generalize W.drew = W1 at *
  obtain ⟨c0, c1, c2, c3⟩ := Box.four hb1
  have Y1 := Y _ H1
  go_wp2_with fail
  refine Y1.mono ?_
  rintro e w2 ⟨rfl, h2, b2⟩
  go_wp2
  go_ret2
  exact ⟨rfl, h2, (But.of_new _ N1).trans b2⟩
set_option maxHeartbeats 2000000 in
theorem split_ok (h : GM w k fb rb mb qb rs bs S) (hi : i < S.length) (ho : S[i].on = true) (p : Nat) (hp : p < 4096) (f : Nat) (hf : f < k) (P : Int) (c : Bool) (q0 : 0 ≤ P) (q1 : P ≤ 7) (h1 : 1 < rs.getD f 0)
    (g : Nat) (hg : g < k) (hn : NoFree rs g) (hz : rs.getD g 0 = 0) (gd : Good k a (splice bs (g * 256 + 0) (fby bs f)) S[i].t) (h0 : nm (splice bs (g * 256 + 0) (fby bs f)) S[i].t (p / 64) ≠ 0) :
    Calls Tryz.prog 86 #[.pointer (some ⟨S[i].sb, 0, none⟩), .int .i64 p, .agg #[.int .i64 f, .int .u8 P, .bool c]] w
      (GDid k fb rb mb qb ((rs.set g 1).set f (rs.getD f 0 - 1)) (pt (splice bs (g * 256 + 0) (fby bs f)) (lof (splice bs (g * 256 + 0) (fby bs f)) S[i].t (p / 64)) (p % 64) (ennum g P false)) S (.tuple #[.int .i64 g, .nilIface]) w) := by
  have hfg : f ≠ g := fun e => by rw [e] at h1; omega
  have hk := h.bd
  have N0 := (New.refl w).alloc #[.int .i64 f, .int .u8 P, .bool c] 117
  have B0 := Box.here w _ #[.int .i64 f, .int .u8 P, .bool c] 117 rfl
  have H0 := h.new N0
  obtain ⟨v, hb, _⟩ := (H0.has hi ho).box
  have SB := (H0.rbqb.2 i hi).1
  have EB : ¬ (w.heap.size = rb ∨ w.heap.size = qb) := by have := h.fr.lt; have := h.ph.lt; omega
  have X := fun W (H : GM W k fb rb mb qb rs bs S) => g_refs H f hf
  have hgf : (rs.set g 1).getD f 0 = rs.getD f 0 := by rw [getD_set _ _ _ _ (by rw [h.len]; exact hg), if_neg hfg]
  have Y := fun W (H : GM W k fb rb mb qb rs bs S) => g_alloc H g hg hn hz
  have Z := fun W (H : GM W k fb rb mb qb (rs.set g 1) bs S) => g_copy H g f hg hf
  have U := fun W cs (H : GM W k fb rb mb qb (rs.set g 1) cs S) => g_unref H f hf (by rw [hgf]; omega)
  simp only [hgf] at U
  generalize (rs.getD f 0 == 1) = ub at U
  have V := fun W (H : GM W k fb rb mb qb ((rs.set g 1).set f (rs.getD f 0 - 1)) (splice bs (g * 256 + 0) (fby bs f)) S) => g_set H hi ho gd p hp (g : Int) P false (by omega) (by omega) q0 q1 0 (fun e => absurd e h0)
  unfold layR layB at V
  rw [if_neg h0, if_neg h0] at V
  generalize (rs.set g 1).set f (rs.getD f 0 - 1) = r2 at *
  generalize pt (splice bs (g * 256 + 0) (fby bs f)) (lof (splice bs (g * 256 + 0) (fby bs f)) S[i].t (p / 64)) (p % 64) (ennum g P false) = b2 at *
  generalize splice bs (g * 256 + 0) (fby bs f) = b1 at *
  generalize rs.set g 1 = r1 at *
  have e1 : decide (1 < rs.getD f 0) = true := by simpa using h1
  have e1' : 1 < rs.getD f 0 := h1
  generalize rs.getD f 0 = R at *
  have HG := Lib.hid h
  clear h hn hz gd h0 hgf
  go_enter Tryz.func86, Tryz.ntmps86
  go_wp2_with fail
  change Code.wp _ _ _ _ (w.alloc (.cells #[.int .i64 f, .int .u8 P, .bool c] 117))
  generalize (w.alloc (.cells #[.int .i64 f, .int .u8 P, .bool c] 117)) = W at *
  generalize hEB : w.heap.size = eb at *
  have HE := Lib.hid hEB
  clear hEB
  obtain ⟨c0, c1, c2, c3⟩ := Box.four hb
  obtain ⟨hs, k0, k1, k2, f0, f1, f2⟩ := B0.three'
  have H1 := H0.new (drew_new W)
  have X1 := X _ H1
  clear X
  go_region_held3 (fun w' => w'.cell? ⟨S[i].sb, 0, none⟩ = some (.pointer (some ⟨fb, 0, none⟩)) ∧ w'.cell? ⟨eb, 0, none⟩ = some (.int .i64 f))
    (first | go_keep)
    (first | (go_at_call 134; (with_reducible refine X1.mono ?_); rintro e w1 ⟨rfl, rfl⟩))
  obtain ⟨v1, hb1, _⟩ := (H1.has hi ho).box
  have B1 := B0.new (drew_new W)
  have N1 := N0.drew
  clear X1 H0 hb B0 c0 c1 c2 c3 k0 k1 k2 f0 f1 f2 hs
  go_wp2_with fail
  generalize W.drew = W1 at *
  obtain ⟨c0, c1, c2, c3⟩ := Box.four hb1
  have Y1 := Y _ H1
  go_wp2_with fail
  refine Y1.mono ?_
  rintro e w2 ⟨rfl, h2, bb2⟩
  clear Y1 Y H1 c0 c1 c2 c3
  have D2 := (But.of_new (fun g => g = rb ∨ g = qb) N1).trans bb2
  have hb2 := Box.but hb1 bb2 SB
  have B2 := B1.but bb2 EB
  have HD2 := Lib.hid D2
  go_wp2_with fail
  obtain ⟨c0, c1, c2, c3⟩ := Box.four hb2
  obtain ⟨k0, k1, k2⟩ := B2.three
  have Z1 := Z _ (h2.new (drew_new w2))
  go_region_held3 (fun w' => w'.cell? ⟨S[i].sb, 1, none⟩ = some (.pointer (some ⟨mb, 0, none⟩)) ∧ w'.cell? ⟨eb, 0, none⟩ = some (.int .i64 f))
    (first | go_keep | exact ⟨(Box.four (Box.but (Box.new hb2 (drew_new w2)) b3 SB)).2.1, ((B2.new (drew_new w2)).but b3 EB).three.1⟩)
    (first | (go_at_call 135; (with_reducible refine Z1.mono ?_); rintro e w3 ⟨rfl, h3, b3⟩))
  clear Z Z1 c0 c1 c2 c3 k0 k1 k2
  have hb3 := Box.but (Box.new hb2 (drew_new w2)) b3 SB
  have B3 := (B2.new (drew_new w2)).but b3 EB
  have HD3 := Lib.hid ((HD2.out.trans (But.of_new _ (drew_new w2))).trans b3)
  clear hb2 B2 b3 h2 bb2 D2
  go_wp2_with fail
  obtain ⟨c0, c1, c2, c3⟩ := Box.four hb3
  obtain ⟨k0, k1, k2⟩ := B3.three
  have U1 := U _ _ (h3.new (drew_new w3))
  go_region_held3 (fun w' => w'.cell? ⟨S[i].sb, 0, none⟩ = some (.pointer (some ⟨fb, 0, none⟩)) ∧ w'.cell? ⟨eb, 0, none⟩ = some (.int .i64 f))
    (first | go_keep | exact ⟨(Box.four (Box.but (Box.new hb3 (drew_new w3)) b4 SB)).1, ((B3.new (drew_new w3)).but b4 EB).three.1⟩)
    (first | (go_at_call 92; (with_reducible refine U1.mono ?_); rintro e w4 ⟨rfl, h4, b4⟩))
  clear U U1 c0 c1 c2 c3 k0 k1 k2
  have hb4 := Box.but (Box.new hb3 (drew_new w3)) b4 SB
  have B4 := (B3.new (drew_new w3)).but b4 EB
  have HD4 := Lib.hid ((HD3.out.trans (But.of_new _ (drew_new w3))).trans b4)
  have H4 := Lib.hid h4
  clear hb3 B3 b4 h3
  obtain ⟨hs, k0, k1, k2, f0, f1, f2⟩ := B4.three'
  have HB := Lib.hid hb4
  have HB4 := Lib.hid B4
  clear hb4 B4 h4
  go_wp2_with fail
  have N5 : But (fun x => x = eb) w4 ((w4.setCell ⟨eb, 0, none⟩ (.int .i64 g)).setCell ⟨eb, 2, none⟩ (.bool false)) := (But.set (S := fun x => x = eb) w4 (p := ⟨eb, 0, none⟩) rfl _).trans (But.set (S := fun x => x = eb) _ (p := ⟨eb, 2, none⟩) rfl _)
  have H5 := H4.out.aside HB4.out (by decide) (by decide) (by decide) (by decide) (by decide) (by decide) (by decide) N5
  have hb5 := Box.but HB.out N5 (Box.ne HB.out HB4.out (by decide))
  have B5 := (HB4.out.set 0 (.int .i64 g)).set 2 (.bool false)
  have D5 : But (fun x => x = rb ∨ x = qb) w ((w4.setCell ⟨eb, 0, none⟩ (.int .i64 g)).setCell ⟨eb, 2, none⟩ (.bool false)) := (HD4.out.setNew (p := ⟨eb, 0, none⟩) (by rw [HE.out]; exact Nat.le_refl _) _).setNew (p := ⟨eb, 2, none⟩) (by rw [HE.out]; exact Nat.le_refl _) _
  clear HB4 HB HD4 H4 k0 k1 k2 f0 f1 f2 hs N5
  generalize ((w4.setCell ⟨eb, 0, none⟩ (.int .i64 g)).setCell ⟨eb, 2, none⟩ (.bool false)) = w5 at *
  have V1 := V _ (H5.new (drew_new w5))
  obtain ⟨c0, c1, c2, c3⟩ := Box.four hb5
  obtain ⟨k0, k1, k2⟩ := Box.three (show Box w5 eb #[.int .i64 g, .int .u8 P, .bool false] 117 from B5)
  have KEEP : ∀ w6, But (fun x => x = rb ∨ x = qb) w5.drew w6 → w6.cell? ⟨S[i].sb, 2, none⟩ = some (.pointer (some ⟨S[i].tb, 0, none⟩)) ∧ w6.cell? ⟨eb, 0, none⟩ = some (.int .i64 g) ∧ w6.cell? ⟨eb, 1, none⟩ = some (.int .u8 P) ∧ w6.cell? ⟨eb, 2, none⟩ = some (.bool false) := fun w6 b6 =>
    ⟨(Box.four (Box.but (Box.new hb5 (drew_new w5)) b6 SB)).2.2.1, Box.three (show Box w6 eb #[.int .i64 g, .int .u8 P, .bool false] 117 from Box.but (Box.new B5 (drew_new w5)) b6 EB)⟩
  clear H5 hb5 B5 V
  go_region_held3 (fun w' => w'.cell? ⟨S[i].sb, 2, none⟩ = some (.pointer (some ⟨S[i].tb, 0, none⟩)) ∧ w'.cell? ⟨eb, 0, none⟩ = some (.int .i64 g) ∧ w'.cell? ⟨eb, 1, none⟩ = some (.int .u8 P) ∧ w'.cell? ⟨eb, 2, none⟩ = some (.bool false))
    (first | go_keep | exact KEEP _ b6)
    (first | (go_at_call 56; (with_reducible refine V1.mono ?_); rintro e w6 ⟨rfl, h6, b6⟩))
  all_goals
    go_wp2
    go_ret2
    exact ⟨rfl, h6, (D5.trans (But.of_new _ (drew_new w5))).trans b6⟩
end
end Go.Proofs.YtgedimlhldfkaaaGreatDoor
namespace Go.Proofs.YtgedimlhldfkaaaGreatDoor
open Go.RowKit
set_option linter.unusedVariables false
set_option maxRecDepth 100000
section
variable {w w' : World} {k fb rb mb qb : Nat} {rs bs qs cs : List Int} {S T : List Sq} {a : Nat → Prop} {i : Nat}
theorem reach_gone {v : Value} (h : GoneS w v) (m u : Int) (b : Bool) :
    Calls Tryz.prog 40 #[v, .int .i64 m, .int .u8 u, .bool b] w fun e w' => e = .returned (.tuple #[.int .i64 0, .iface 98 (.int .i64 22)]) ∧ w = w' := by
  have X := sgone_yes h
  clear h
  go_enter Tryz.func40, Tryz.ntmps40
  go_wp2_with (go_at_call 41; (with_reducible refine (X).mono ?_); rintro e w' ⟨rfl, rfl⟩)
  go_ret2
  exact ⟨rfl, rfl⟩
set_option maxHeartbeats 1000000 in
theorem reach_out (h : GM w k fb rb mb qb rs bs S) (hi : i < S.length) (ho : S[i].on = true) (gd : Good k a bs S[i].t) (m u : Int) (b : Bool) (hv : pgI bs S[i].t m = 0) (hat : atO S[i].L m = none) :
    Calls Tryz.prog 40 #[.pointer (some ⟨S[i].sb, 0, none⟩), .int .i64 m, .int .u8 u, .bool b] w (GDid k fb rb mb qb rs bs S (.tuple #[.int .i64 0, .iface 98 (.int .i64 14)]) w) := by
  obtain ⟨v, hb, hR⟩ := (h.has hi ho).box
  obtain ⟨sp, sc, rfl⟩ := hR.shape
  have Q1 := sgone_no hb
  have X := sfind_any m h hi ho gd
  obtain ⟨e1, e2, e3, e4⟩ := dc_zero
  rw [hv] at X
  unfold fndE at X
  rw [e1, e2, e3, e4] at X
  have HG := Lib.hid h
  have SBX := Lib.hid (Box.lt hb)
  clear h gd hv
  go_enter Tryz.func40, Tryz.ntmps40
  go_wp2_with fail
  refine Q1.mono ?_
  rintro e w0 ⟨rfl, rfl⟩
  go_wp2_with fail
  refine X.mono ?_
  rintro e w1 ⟨rfl, n1⟩
  have nn := n1.alloc #[.int .i64 0, .int .u8 0, .bool false] 117
  have HEB := Lib.hid n1.size
  have BE := Box.here w1 _ #[.int .i64 0, .int .u8 0, .bool false] 117 rfl
  have hb1 := Box.new hb nn
  obtain ⟨c0, c1, c2, c3⟩ := Box.four hb1
  obtain ⟨k0, k1, k2⟩ := BE.three
  clear X Q1 n1
  go_wp2_with fail
  generalize (w1.alloc (.cells #[.int .i64 0, .int .u8 0, .bool false] 117)) = W1 at *
  generalize w1.heap.size = eb at *
  have Y := rat_any _ _ _ m (hR.new nn).rgs
  unfold AtN at Y
  rw [hat] at Y
  simp only [Option.getD_none, Option.isSome_none] at Y
  go_wp2_with fail
  refine Y.mono ?_
  rintro e w2 ⟨rfl, n2⟩
  have n3 := (nn.trans n2).alloc #[.int .i64 0, .int .i64 0, .int .u8 ((0 : Nat) : Int)] 37
  go_wp2
  go_ret2
  exact ⟨rfl, HG.out.new n3, But.of_new _ n3⟩
set_option maxHeartbeats 1000000 in
theorem reach_no_new (h : GM w k fb rb mb qb rs bs S) (hi : i < S.length) (ho : S[i].on = true) (gd : Good k a bs S[i].t) (m u : Int) (r : Rg) (hv : pgI bs S[i].t m = 0) (hat : atO S[i].L m = some r) (hno : usd 0 r.p u = false) :
    Calls Tryz.prog 40 #[.pointer (some ⟨S[i].sb, 0, none⟩), .int .i64 m, .int .u8 u, .bool false] w (GDid k fb rb mb qb rs bs S (.tuple #[.int .i64 0, .iface 98 (.int .i64 14)]) w) := by
  obtain ⟨v, hb, hR⟩ := (h.has hi ho).box
  obtain ⟨sp, sc, rfl⟩ := hR.shape
  have Q1 := sgone_no hb
  have X := sfind_any m h hi ho gd
  obtain ⟨e1, e2, e3, e4⟩ := dc_zero
  rw [hv] at X
  unfold fndE at X
  rw [e1, e2, e3, e4] at X
  have HG := Lib.hid h
  have SBX := Lib.hid (Box.lt hb)
  clear h gd hv
  go_enter Tryz.func40, Tryz.ntmps40
  go_wp2_with fail
  refine Q1.mono ?_
  rintro e w0 ⟨rfl, rfl⟩
  go_wp2_with fail
  refine X.mono ?_
  rintro e w1 ⟨rfl, n1⟩
  have nn := n1.alloc #[.int .i64 0, .int .u8 0, .bool false] 117
  have HEB := Lib.hid n1.size
  have BE := Box.here w1 _ #[.int .i64 0, .int .u8 0, .bool false] 117 rfl
  have hb1 := Box.new hb nn
  obtain ⟨c0, c1, c2, c3⟩ := Box.four hb1
  obtain ⟨k0, k1, k2⟩ := BE.three
  clear X Q1 n1
  go_wp2_with fail
  generalize (w1.alloc (.cells #[.int .i64 0, .int .u8 0, .bool false] 117)) = W1 at *
  generalize w1.heap.size = eb at *
  have Y := rat_any _ _ _ m (hR.new nn).rgs
  unfold AtN at Y
  rw [hat] at Y
  simp only [Option.getD_some, Option.isSome_some] at Y
  go_wp2_with fail
  refine Y.mono ?_
  rintro e w2 ⟨rfl, n2⟩
  have BE2 := (BE.new n2).alloc (.cells #[.int .i64 r.f, .int .i64 r.t, .int .u8 (r.p : Int)] 37)
  have BR := Box.here w2 _ #[.int .i64 r.f, .int .i64 r.t, .int .u8 (r.p : Int)] 37 rfl
  have n3 := (nn.trans n2).alloc #[.int .i64 r.f, .int .i64 r.t, .int .u8 (r.p : Int)] 37
  have EBX : w.heap.size ≤ eb := HEB.out
  obtain ⟨hs, k0, k1, k2, f0, f1, f2⟩ := BE2.three'
  obtain ⟨j0, j1, j2⟩ := BR.three
  have BE3 := BE2.set 1 (.int .u8 (r.p : Int))
  have n4 := n3.setCell (p := ⟨eb, 1, none⟩) EBX (.int .u8 (r.p : Int))
  have H4 := HG.out.new n4
  have HB3 := Lib.hid BE3
  have HN4 := Lib.hid n4
  clear Y n2 hb1 c0 c1 c2 c3 BE BE2 BR n3 n4 BE3 nn
  go_wp2_with fail
  have M := fun W => may_any (w := W) (f := 0) (p := (r.p : Int)) (c := false) (u := u) (by omega)
  simp only [hno] at M
  refine (M _).mono ?_
  rintro e w5 ⟨rfl, n5⟩
  go_wp2
  go_ret2
  exact ⟨rfl, H4.new n5, But.of_new _ (HN4.out.trans n5)⟩
set_option maxHeartbeats 1000000 in
theorem reach_fill_t (h : GM w k fb rb mb qb rs bs S) (hi : i < S.length) (ho : S[i].on = true) (gd : Good k a bs S[i].t) (m u : Int) (r : Rg) (hv : pgI bs S[i].t m = 0) (hat : atO S[i].L m = some r) (x0 : Int) (er : Value) (X0 : ∀ W, GM W k fb rb mb qb rs bs S → Calls Tryz.prog 85 #[.pointer (some ⟨S[i].sb, 0, none⟩), .int .i64 m, .int .u8 (r.p : Int)] W (GDid k fb rb mb qb qs cs S (.tuple #[.int .i64 x0, er]) W)) :
    Calls Tryz.prog 40 #[.pointer (some ⟨S[i].sb, 0, none⟩), .int .i64 m, .int .u8 u, .bool true] w (GDid k fb rb mb qb qs cs S (.tuple #[.int .i64 x0, er]) w) := by
  obtain ⟨v, hb, hR⟩ := (h.has hi ho).box
  obtain ⟨sp, sc, rfl⟩ := hR.shape
  have Q1 := sgone_no hb
  have X := sfind_any m h hi ho gd
  obtain ⟨e1, e2, e3, e4⟩ := dc_zero
  rw [hv] at X
  unfold fndE at X
  rw [e1, e2, e3, e4] at X
  have HG := Lib.hid h
  have SBX := Lib.hid (Box.lt hb)
  clear h gd hv
  go_enter Tryz.func40, Tryz.ntmps40
  go_wp2_with fail
  refine Q1.mono ?_
  rintro e w0 ⟨rfl, rfl⟩
  go_wp2_with fail
  refine X.mono ?_
  rintro e w1 ⟨rfl, n1⟩
  have nn := n1.alloc #[.int .i64 0, .int .u8 0, .bool false] 117
  have HEB := Lib.hid n1.size
  have BE := Box.here w1 _ #[.int .i64 0, .int .u8 0, .bool false] 117 rfl
  have hb1 := Box.new hb nn
  obtain ⟨c0, c1, c2, c3⟩ := Box.four hb1
  obtain ⟨k0, k1, k2⟩ := BE.three
  clear X Q1 n1
  go_wp2_with fail
  generalize (w1.alloc (.cells #[.int .i64 0, .int .u8 0, .bool false] 117)) = W1 at *
  generalize w1.heap.size = eb at *
  have Y := rat_any _ _ _ m (hR.new nn).rgs
  unfold AtN at Y
  rw [hat] at Y
  simp only [Option.getD_some, Option.isSome_some] at Y
  go_wp2_with fail
  refine Y.mono ?_
  rintro e w2 ⟨rfl, n2⟩
  have BE2 := (BE.new n2).alloc (.cells #[.int .i64 r.f, .int .i64 r.t, .int .u8 (r.p : Int)] 37)
  have BR := Box.here w2 _ #[.int .i64 r.f, .int .i64 r.t, .int .u8 (r.p : Int)] 37 rfl
  have n3 := (nn.trans n2).alloc #[.int .i64 r.f, .int .i64 r.t, .int .u8 (r.p : Int)] 37
  have EBX : w.heap.size ≤ eb := HEB.out
  obtain ⟨hs, k0, k1, k2, f0, f1, f2⟩ := BE2.three'
  obtain ⟨j0, j1, j2⟩ := BR.three
  have BE3 := BE2.set 1 (.int .u8 (r.p : Int))
  have n4 := n3.setCell (p := ⟨eb, 1, none⟩) EBX (.int .u8 (r.p : Int))
  have H4 := HG.out.new n4
  have HB3 := Lib.hid BE3
  have HN4 := Lib.hid n4
  clear Y n2 hb1 c0 c1 c2 c3 BE BE2 BR n3 n4 BE3 nn
  go_wp2_with fail
  refine (X0 _ H4).mono ?_
  rintro e w6 ⟨rfl, h6, b6⟩
  go_wp2
  go_ret2
  exact ⟨rfl, h6, (But.of_new _ HN4.out).trans b6⟩
set_option maxHeartbeats 1000000 in
theorem reach_fill_f (h : GM w k fb rb mb qb rs bs S) (hi : i < S.length) (ho : S[i].on = true) (gd : Good k a bs S[i].t) (m u : Int) (r : Rg) (hv : pgI bs S[i].t m = 0) (hat : atO S[i].L m = some r) (hno : usd 0 r.p u = true) (x0 : Int) (er : Value) (X0 : ∀ W, GM W k fb rb mb qb rs bs S → Calls Tryz.prog 85 #[.pointer (some ⟨S[i].sb, 0, none⟩), .int .i64 m, .int .u8 (r.p : Int)] W (GDid k fb rb mb qb qs cs S (.tuple #[.int .i64 x0, er]) W)) :
    Calls Tryz.prog 40 #[.pointer (some ⟨S[i].sb, 0, none⟩), .int .i64 m, .int .u8 u, .bool false] w (GDid k fb rb mb qb qs cs S (.tuple #[.int .i64 x0, er]) w) := by
  obtain ⟨v, hb, hR⟩ := (h.has hi ho).box
  obtain ⟨sp, sc, rfl⟩ := hR.shape
  have Q1 := sgone_no hb
  have X := sfind_any m h hi ho gd
  obtain ⟨e1, e2, e3, e4⟩ := dc_zero
  rw [hv] at X
  unfold fndE at X
  rw [e1, e2, e3, e4] at X
  have HG := Lib.hid h
  have SBX := Lib.hid (Box.lt hb)
  clear h gd hv
  go_enter Tryz.func40, Tryz.ntmps40
  go_wp2_with fail
  refine Q1.mono ?_
  rintro e w0 ⟨rfl, rfl⟩
  go_wp2_with fail
  refine X.mono ?_
  rintro e w1 ⟨rfl, n1⟩
  have nn := n1.alloc #[.int .i64 0, .int .u8 0, .bool false] 117
  have HEB := Lib.hid n1.size
  have BE := Box.here w1 _ #[.int .i64 0, .int .u8 0, .bool false] 117 rfl
  have hb1 := Box.new hb nn
  obtain ⟨c0, c1, c2, c3⟩ := Box.four hb1
  obtain ⟨k0, k1, k2⟩ := BE.three
  clear X Q1 n1
  go_wp2_with fail
  generalize (w1.alloc (.cells #[.int .i64 0, .int .u8 0, .bool false] 117)) = W1 at *
  generalize w1.heap.size = eb at *
  have Y := rat_any _ _ _ m (hR.new nn).rgs
  unfold AtN at Y
  rw [hat] at Y
  simp only [Option.getD_some, Option.isSome_some] at Y
  go_wp2_with fail
  refine Y.mono ?_
  rintro e w2 ⟨rfl, n2⟩
  have BE2 := (BE.new n2).alloc (.cells #[.int .i64 r.f, .int .i64 r.t, .int .u8 (r.p : Int)] 37)
  have BR := Box.here w2 _ #[.int .i64 r.f, .int .i64 r.t, .int .u8 (r.p : Int)] 37 rfl
  have n3 := (nn.trans n2).alloc #[.int .i64 r.f, .int .i64 r.t, .int .u8 (r.p : Int)] 37
  have EBX : w.heap.size ≤ eb := HEB.out
  obtain ⟨hs, k0, k1, k2, f0, f1, f2⟩ := BE2.three'
  obtain ⟨j0, j1, j2⟩ := BR.three
  have BE3 := BE2.set 1 (.int .u8 (r.p : Int))
  have n4 := n3.setCell (p := ⟨eb, 1, none⟩) EBX (.int .u8 (r.p : Int))
  have H4 := HG.out.new n4
  have HB3 := Lib.hid BE3
  have HN4 := Lib.hid n4
  clear Y n2 hb1 c0 c1 c2 c3 BE BE2 BR n3 n4 BE3 nn
  go_wp2_with fail
  have M := fun W => may_any (w := W) (f := 0) (p := (r.p : Int)) (c := false) (u := u) (by omega)
  simp only [hno] at M
  refine (M _).mono ?_
  rintro e w5 ⟨rfl, n5⟩
  have H5 := H4.new n5
  have N5 := HN4.out.trans n5
  obtain ⟨l0, l1, l2⟩ := Box.three (show Box w5 eb #[.int .i64 0, .int .u8 (r.p : Int), .bool false] 117 from HB3.out.new n5)
  clear k0 k1 k2 f0 f1 f2 hs j0 j1 j2
  go_wp2_with fail
  refine (X0 _ H5).mono ?_
  rintro e w6 ⟨rfl, h6, b6⟩
  go_wp2
  go_ret2
  exact ⟨rfl, h6, (But.of_new _ N5).trans b6⟩
set_option maxHeartbeats 1000000 in
theorem reach_no_old (h : GM w k fb rb mb qb rs bs S) (hi : i < S.length) (ho : S[i].on = true) (gd : Good k a bs S[i].t) (m u : Int) (hv : dcb (pgI bs S[i].t m) = true) (hp0 : 0 ≤ dcp (pgI bs S[i].t m)) (hno : usd (dcf (pgI bs S[i].t m)) (dcp (pgI bs S[i].t m)) u = false) :
    Calls Tryz.prog 40 #[.pointer (some ⟨S[i].sb, 0, none⟩), .int .i64 m, .int .u8 u, .bool false] w (GDid k fb rb mb qb rs bs S (.tuple #[.int .i64 0, .iface 98 (.int .i64 14)]) w) := by
  obtain ⟨v, hb, hR⟩ := (h.has hi ho).box
  obtain ⟨sp, sc, rfl⟩ := hR.shape
  have Q1 := sgone_no hb
  have X := sfind_any m h hi ho gd
  unfold fndE at X
  rw [hv] at X
  generalize dcf (pgI bs S[i].t m) = x at *
  generalize dcp (pgI bs S[i].t m) = y at *
  generalize dcc (pgI bs S[i].t m) = z at *
  have HG := Lib.hid h
  have SBX := Lib.hid (Box.lt hb)
  have HN0 := Lib.hid (New.refl w)
  clear h gd
  go_enter Tryz.func40, Tryz.ntmps40
  go_wp2_with fail
  refine Q1.mono ?_
  rintro e w0 ⟨rfl, rfl⟩
  go_wp2_with fail
  refine X.mono ?_
  rintro e w1 ⟨rfl, n1⟩
  have nn := n1.alloc #[.int .i64 x, .int .u8 y, .bool z] 117
  have HEB := Lib.hid n1.size
  have BE := Box.here w1 _ #[.int .i64 x, .int .u8 y, .bool z] 117 rfl
  have hb1 := Box.new hb nn
  obtain ⟨c0, c1, c2, c3⟩ := Box.four hb1
  obtain ⟨k0, k1, k2⟩ := BE.three
  clear X Q1 n1
  go_wp2_with fail
  generalize (w1.alloc (.cells #[.int .i64 x, .int .u8 y, .bool z] 117)) = W1 at *
  generalize w1.heap.size = eb at *
  have H1 := HG.out.new nn
  have M := fun W => may_any (w := W) (f := x) (p := y) (c := z) (u := u) (by omega)
  simp only [hno] at M
  refine (M _).mono ?_
  rintro e w5 ⟨rfl, n5⟩
  go_wp2
  go_ret2
  exact ⟨rfl, H1.new n5, But.of_new _ (nn.trans n5)⟩
set_option maxHeartbeats 1000000 in
theorem reach_split_t (h : GM w k fb rb mb qb rs bs S) (hi : i < S.length) (ho : S[i].on = true) (gd : Good k a bs S[i].t) (m : Int) (hv : dcb (pgI bs S[i].t m) = true) (hp0 : 0 ≤ dcp (pgI bs S[i].t m)) (hz : dcc (pgI bs S[i].t m) = true) (x0 : Int) (er : Value) (X0 : ∀ W, GM W k fb rb mb qb rs bs S → Calls Tryz.prog 86 #[.pointer (some ⟨S[i].sb, 0, none⟩), .int .i64 m, .agg #[.int .i64 (dcf (pgI bs S[i].t m)), .int .u8 (dcp (pgI bs S[i].t m)), .bool true]] W (GDid k fb rb mb qb qs cs S (.tuple #[.int .i64 x0, er]) W)) :
    Calls Tryz.prog 40 #[.pointer (some ⟨S[i].sb, 0, none⟩), .int .i64 m, .int .u8 2, .bool true] w (GDid k fb rb mb qb qs cs S (.tuple #[.int .i64 x0, er]) w) := by
  obtain ⟨v, hb, hR⟩ := (h.has hi ho).box
  obtain ⟨sp, sc, rfl⟩ := hR.shape
  have Q1 := sgone_no hb
  have X := sfind_any m h hi ho gd
  unfold fndE at X
  rw [hv, hz] at X
  generalize dcf (pgI bs S[i].t m) = x at *
  generalize dcp (pgI bs S[i].t m) = y at *
  have HG := Lib.hid h
  have SBX := Lib.hid (Box.lt hb)
  have HN0 := Lib.hid (New.refl w)
  clear h gd
  go_enter Tryz.func40, Tryz.ntmps40
  go_wp2_with fail
  refine Q1.mono ?_
  rintro e w0 ⟨rfl, rfl⟩
  go_wp2_with fail
  refine X.mono ?_
  rintro e w1 ⟨rfl, n1⟩
  have nn := n1.alloc #[.int .i64 x, .int .u8 y, .bool true] 117
  have HEB := Lib.hid n1.size
  have BE := Box.here w1 _ #[.int .i64 x, .int .u8 y, .bool true] 117 rfl
  have hb1 := Box.new hb nn
  obtain ⟨c0, c1, c2, c3⟩ := Box.four hb1
  obtain ⟨k0, k1, k2⟩ := BE.three
  clear X Q1 n1
  go_wp2_with fail
  generalize (w1.alloc (.cells #[.int .i64 x, .int .u8 y, .bool true] 117)) = W1 at *
  generalize w1.heap.size = eb at *
  have H1 := HG.out.new nn
  refine (X0 _ H1).mono ?_
  rintro e w6 ⟨rfl, h6, b6⟩
  go_wp2
  go_ret2
  exact ⟨rfl, h6, (But.of_new _ (nn)).trans b6⟩
set_option maxHeartbeats 1000000 in
theorem reach_split_f (h : GM w k fb rb mb qb rs bs S) (hi : i < S.length) (ho : S[i].on = true) (gd : Good k a bs S[i].t) (m : Int) (hv : dcb (pgI bs S[i].t m) = true) (hp0 : 0 ≤ dcp (pgI bs S[i].t m)) (hno : usd (dcf (pgI bs S[i].t m)) (dcp (pgI bs S[i].t m)) 2 = true) (hz : dcc (pgI bs S[i].t m) = true) (x0 : Int) (er : Value) (X0 : ∀ W, GM W k fb rb mb qb rs bs S → Calls Tryz.prog 86 #[.pointer (some ⟨S[i].sb, 0, none⟩), .int .i64 m, .agg #[.int .i64 (dcf (pgI bs S[i].t m)), .int .u8 (dcp (pgI bs S[i].t m)), .bool true]] W (GDid k fb rb mb qb qs cs S (.tuple #[.int .i64 x0, er]) W)) :
    Calls Tryz.prog 40 #[.pointer (some ⟨S[i].sb, 0, none⟩), .int .i64 m, .int .u8 2, .bool false] w (GDid k fb rb mb qb qs cs S (.tuple #[.int .i64 x0, er]) w) := by
  obtain ⟨v, hb, hR⟩ := (h.has hi ho).box
  obtain ⟨sp, sc, rfl⟩ := hR.shape
  have Q1 := sgone_no hb
  have X := sfind_any m h hi ho gd
  unfold fndE at X
  rw [hv, hz] at X
  generalize dcf (pgI bs S[i].t m) = x at *
  generalize dcp (pgI bs S[i].t m) = y at *
  have HG := Lib.hid h
  have SBX := Lib.hid (Box.lt hb)
  have HN0 := Lib.hid (New.refl w)
  clear h gd
  go_enter Tryz.func40, Tryz.ntmps40
  go_wp2_with fail
  refine Q1.mono ?_
  rintro e w0 ⟨rfl, rfl⟩
  go_wp2_with fail
  refine X.mono ?_
  rintro e w1 ⟨rfl, n1⟩
  have nn := n1.alloc #[.int .i64 x, .int .u8 y, .bool true] 117
  have HEB := Lib.hid n1.size
  have BE := Box.here w1 _ #[.int .i64 x, .int .u8 y, .bool true] 117 rfl
  have hb1 := Box.new hb nn
  obtain ⟨c0, c1, c2, c3⟩ := Box.four hb1
  obtain ⟨k0, k1, k2⟩ := BE.three
  clear X Q1 n1
  go_wp2_with fail
  generalize (w1.alloc (.cells #[.int .i64 x, .int .u8 y, .bool true] 117)) = W1 at *
  generalize w1.heap.size = eb at *
  have H1 := HG.out.new nn
  have M := fun W => may_any (w := W) (f := x) (p := y) (c := true) (u := 2) (by omega)
  simp only [hno] at M
  refine (M _).mono ?_
  rintro e w5 ⟨rfl, n5⟩
  have H5 := H1.new n5
  have N5 := nn.trans n5
  obtain ⟨l0, l1, l2⟩ := (BE.new n5).three
  clear k0 k1 k2 c0 c1 c2 c3
  go_wp2_with fail
  refine (X0 _ H5).mono ?_
  rintro e w6 ⟨rfl, h6, b6⟩
  go_wp2
  go_ret2
  exact ⟨rfl, h6, (But.of_new _ (N5)).trans b6⟩
set_option maxHeartbeats 1000000 in
theorem reach_old_t (h : GM w k fb rb mb qb rs bs S) (hi : i < S.length) (ho : S[i].on = true) (gd : Good k a bs S[i].t) (m u : Int) (hv : dcb (pgI bs S[i].t m) = true) (hp0 : 0 ≤ dcp (pgI bs S[i].t m)) (hu : ¬ u = 2) :
    Calls Tryz.prog 40 #[.pointer (some ⟨S[i].sb, 0, none⟩), .int .i64 m, .int .u8 u, .bool true] w (GDid k fb rb mb qb rs bs S (.tuple #[.int .i64 (dcf (pgI bs S[i].t m)), .nilIface]) w) := by
  obtain ⟨v, hb, hR⟩ := (h.has hi ho).box
  obtain ⟨sp, sc, rfl⟩ := hR.shape
  have Q1 := sgone_no hb
  have X := sfind_any m h hi ho gd
  unfold fndE at X
  rw [hv] at X
  generalize dcf (pgI bs S[i].t m) = x at *
  generalize dcp (pgI bs S[i].t m) = y at *
  generalize dcc (pgI bs S[i].t m) = z at *
  have HG := Lib.hid h
  have SBX := Lib.hid (Box.lt hb)
  have HN0 := Lib.hid (New.refl w)
  have du : decide (u = 2) = false := by simpa using hu
  clear h gd
  go_enter Tryz.func40, Tryz.ntmps40
  go_wp2_with fail
  refine Q1.mono ?_
  rintro e w0 ⟨rfl, rfl⟩
  go_wp2_with fail
  refine X.mono ?_
  rintro e w1 ⟨rfl, n1⟩
  have nn := n1.alloc #[.int .i64 x, .int .u8 y, .bool z] 117
  have HEB := Lib.hid n1.size
  have BE := Box.here w1 _ #[.int .i64 x, .int .u8 y, .bool z] 117 rfl
  have hb1 := Box.new hb nn
  obtain ⟨c0, c1, c2, c3⟩ := Box.four hb1
  obtain ⟨k0, k1, k2⟩ := BE.three
  clear X Q1 n1
  go_wp2_with fail
  generalize (w1.alloc (.cells #[.int .i64 x, .int .u8 y, .bool z] 117)) = W1 at *
  generalize w1.heap.size = eb at *
  have H1 := HG.out.new nn
  go_wp2
  go_ret2
  exact ⟨rfl, H1, But.of_new _ (nn)⟩
set_option maxHeartbeats 1000000 in
theorem reach_old_f (h : GM w k fb rb mb qb rs bs S) (hi : i < S.length) (ho : S[i].on = true) (gd : Good k a bs S[i].t) (m u : Int) (hv : dcb (pgI bs S[i].t m) = true) (hp0 : 0 ≤ dcp (pgI bs S[i].t m)) (hno : usd (dcf (pgI bs S[i].t m)) (dcp (pgI bs S[i].t m)) u = true) (hu : ¬ u = 2) :
    Calls Tryz.prog 40 #[.pointer (some ⟨S[i].sb, 0, none⟩), .int .i64 m, .int .u8 u, .bool false] w (GDid k fb rb mb qb rs bs S (.tuple #[.int .i64 (dcf (pgI bs S[i].t m)), .nilIface]) w) := by
  obtain ⟨v, hb, hR⟩ := (h.has hi ho).box
  obtain ⟨sp, sc, rfl⟩ := hR.shape
  have Q1 := sgone_no hb
  have X := sfind_any m h hi ho gd
  unfold fndE at X
  rw [hv] at X
  generalize dcf (pgI bs S[i].t m) = x at *
  generalize dcp (pgI bs S[i].t m) = y at *
  generalize dcc (pgI bs S[i].t m) = z at *
  have HG := Lib.hid h
  have SBX := Lib.hid (Box.lt hb)
  have HN0 := Lib.hid (New.refl w)
  have du : decide (u = 2) = false := by simpa using hu
  clear h gd
  go_enter Tryz.func40, Tryz.ntmps40
  go_wp2_with fail
  refine Q1.mono ?_
  rintro e w0 ⟨rfl, rfl⟩
  go_wp2_with fail
  refine X.mono ?_
  rintro e w1 ⟨rfl, n1⟩
  have nn := n1.alloc #[.int .i64 x, .int .u8 y, .bool z] 117
  have HEB := Lib.hid n1.size
  have BE := Box.here w1 _ #[.int .i64 x, .int .u8 y, .bool z] 117 rfl
  have hb1 := Box.new hb nn
  obtain ⟨c0, c1, c2, c3⟩ := Box.four hb1
  obtain ⟨k0, k1, k2⟩ := BE.three
  clear X Q1 n1
  go_wp2_with fail
  generalize (w1.alloc (.cells #[.int .i64 x, .int .u8 y, .bool z] 117)) = W1 at *
  generalize w1.heap.size = eb at *
  have H1 := HG.out.new nn
  have M := fun W => may_any (w := W) (f := x) (p := y) (c := z) (u := u) (by omega)
  simp only [hno] at M
  refine (M _).mono ?_
  rintro e w5 ⟨rfl, n5⟩
  have H5 := H1.new n5
  have N5 := nn.trans n5
  obtain ⟨l0, l1, l2⟩ := (BE.new n5).three
  clear k0 k1 k2 c0 c1 c2 c3
  go_wp2
  go_ret2
  exact ⟨rfl, H5, But.of_new _ (N5)⟩
set_option maxHeartbeats 1000000 in
theorem reach_keep_t (h : GM w k fb rb mb qb rs bs S) (hi : i < S.length) (ho : S[i].on = true) (gd : Good k a bs S[i].t) (m : Int) (hv : dcb (pgI bs S[i].t m) = true) (hp0 : 0 ≤ dcp (pgI bs S[i].t m)) (hz : dcc (pgI bs S[i].t m) = false) :
    Calls Tryz.prog 40 #[.pointer (some ⟨S[i].sb, 0, none⟩), .int .i64 m, .int .u8 2, .bool true] w (GDid k fb rb mb qb rs bs S (.tuple #[.int .i64 (dcf (pgI bs S[i].t m)), .nilIface]) w) := by
  obtain ⟨v, hb, hR⟩ := (h.has hi ho).box
  obtain ⟨sp, sc, rfl⟩ := hR.shape
  have Q1 := sgone_no hb
  have X := sfind_any m h hi ho gd
  unfold fndE at X
  rw [hv, hz] at X
  generalize dcf (pgI bs S[i].t m) = x at *
  generalize dcp (pgI bs S[i].t m) = y at *
  have HG := Lib.hid h
  have SBX := Lib.hid (Box.lt hb)
  have HN0 := Lib.hid (New.refl w)
  clear h gd
  go_enter Tryz.func40, Tryz.ntmps40
  go_wp2_with fail
  refine Q1.mono ?_
  rintro e w0 ⟨rfl, rfl⟩
  go_wp2_with fail
  refine X.mono ?_
  rintro e w1 ⟨rfl, n1⟩
  have nn := n1.alloc #[.int .i64 x, .int .u8 y, .bool false] 117
  have HEB := Lib.hid n1.size
  have BE := Box.here w1 _ #[.int .i64 x, .int .u8 y, .bool false] 117 rfl
  have hb1 := Box.new hb nn
  obtain ⟨c0, c1, c2, c3⟩ := Box.four hb1
  obtain ⟨k0, k1, k2⟩ := BE.three
  clear X Q1 n1
  go_wp2_with fail
  generalize (w1.alloc (.cells #[.int .i64 x, .int .u8 y, .bool false] 117)) = W1 at *
  generalize w1.heap.size = eb at *
  have H1 := HG.out.new nn
  go_wp2
  go_ret2
  exact ⟨rfl, H1, But.of_new _ (nn)⟩
set_option maxHeartbeats 1000000 in
theorem reach_keep_f (h : GM w k fb rb mb qb rs bs S) (hi : i < S.length) (ho : S[i].on = true) (gd : Good k a bs S[i].t) (m : Int) (hv : dcb (pgI bs S[i].t m) = true) (hp0 : 0 ≤ dcp (pgI bs S[i].t m)) (hno : usd (dcf (pgI bs S[i].t m)) (dcp (pgI bs S[i].t m)) 2 = true) (hz : dcc (pgI bs S[i].t m) = false) :
    Calls Tryz.prog 40 #[.pointer (some ⟨S[i].sb, 0, none⟩), .int .i64 m, .int .u8 2, .bool false] w (GDid k fb rb mb qb rs bs S (.tuple #[.int .i64 (dcf (pgI bs S[i].t m)), .nilIface]) w) := by
  obtain ⟨v, hb, hR⟩ := (h.has hi ho).box
  obtain ⟨sp, sc, rfl⟩ := hR.shape
  have Q1 := sgone_no hb
  have X := sfind_any m h hi ho gd
  unfold fndE at X
  rw [hv, hz] at X
  generalize dcf (pgI bs S[i].t m) = x at *
  generalize dcp (pgI bs S[i].t m) = y at *
  have HG := Lib.hid h
  have SBX := Lib.hid (Box.lt hb)
  have HN0 := Lib.hid (New.refl w)
  clear h gd
  go_enter Tryz.func40, Tryz.ntmps40
  go_wp2_with fail
  refine Q1.mono ?_
  rintro e w0 ⟨rfl, rfl⟩
  go_wp2_with fail
  refine X.mono ?_
  rintro e w1 ⟨rfl, n1⟩
  have nn := n1.alloc #[.int .i64 x, .int .u8 y, .bool false] 117
  have HEB := Lib.hid n1.size
  have BE := Box.here w1 _ #[.int .i64 x, .int .u8 y, .bool false] 117 rfl
  have hb1 := Box.new hb nn
  obtain ⟨c0, c1, c2, c3⟩ := Box.four hb1
  obtain ⟨k0, k1, k2⟩ := BE.three
  clear X Q1 n1
  go_wp2_with fail
  generalize (w1.alloc (.cells #[.int .i64 x, .int .u8 y, .bool false] 117)) = W1 at *
  generalize w1.heap.size = eb at *
  have H1 := HG.out.new nn
  have M := fun W => may_any (w := W) (f := x) (p := y) (c := false) (u := 2) (by omega)
  simp only [hno] at M
  refine (M _).mono ?_
  rintro e w5 ⟨rfl, n5⟩
  have H5 := H1.new n5
  have N5 := nn.trans n5
  obtain ⟨l0, l1, l2⟩ := (BE.new n5).three
  clear k0 k1 k2 c0 c1 c2 c3
  go_wp2
  go_ret2
  exact ⟨rfl, H5, But.of_new _ (N5)⟩
end
end Go.Proofs.YtgedimlhldfkaaaGreatDoor
