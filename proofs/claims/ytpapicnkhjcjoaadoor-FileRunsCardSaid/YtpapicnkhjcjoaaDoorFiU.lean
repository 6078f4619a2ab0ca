/- The package's table of open files: Unref. -/
import Derived.Test.YtpapicnkhjcjoaaDoorFiX
import Derived.Deep.RegionHeld3
namespace Go.Proofs.YtpapicnkhjcjoaaDoor
open Go.RowKit
set_option linter.unusedVariables false
set_option maxRecDepth 100000
section
variable {S : Nat → Prop} {w w' : World} {tb rb m : Nat} {most : Int} {L : Ft}
set_option maxHeartbeats 4000000 in
theorem funref_err (p : Option Addr) (n k : Int) (w : World) (hk : k ≠ 0) (X : ∀ W, New w W → Calls Tryd.prog 26 #[.pointer p, .int .i64 n] W fun e w' => e = .returned (.tuple #[.pointer none, erN k]) ∧ New W w') :
    Calls Tryd.prog 8 #[.pointer p, .int .i64 n] w fun e w' => e = .returned (.tuple #[FlV Fl.zero, .bool false, erN k]) ∧ New w w' := by
  obtain ⟨E, hE⟩ : ∃ E, E = w.alloc (.cells #[.int .i64 0, .int .i64 0, .int .i64 0, .bool false, .bool false, .string ⟨#[]⟩, .int .i64 0] 29) := ⟨_, rfl⟩
  have n0 : New w E := by rw [hE]; exact (New.refl w).alloc _ _
  have bZ : Box E w.heap.size #[.int .i64 0, .int .i64 0, .int .i64 0, .bool false, .bool false, .string ⟨#[]⟩, .int .i64 0] 29 := by rw [hE]; exact Box.here _ _ _ _ rfl
  have X := X E n0
  have e1 : FlV Fl.zero = .agg #[.int .i64 0, .int .i64 0, .int .i64 0, .bool false, .bool false, .string ⟨#[]⟩, .int .i64 0] := rfl
  rw [erN_pos hk] at X ⊢
  rw [e1]
  clear e1
  go_enter Tryd.func8, Tryd.ntmps8
  go_wp2_with fail
  rw [← hE]
  refine X.mono ?_
  rintro e w1 ⟨rfl, n1⟩
  have n2 := n0.trans n1
  have BZ := Lib.hid (bZ.new n1)
  obtain ⟨lz, ⟨z0, z1, z2, z3, z4, z5, z6⟩, g0, g1, g2, g3, g4, g5, g6⟩ := (bZ.new n1).seven
  clear X hE bZ n1 n0
  go_wp2
  have HR := (BZ.out.set7 (.int .i64 0) (.int .i64 0) (.int .i64 0) (.bool false) (.bool false) (.string ⟨#[]⟩) (.int .i64 0)).pfi
  have HN := n2.set7 (g := w.heap.size) (Nat.le_refl _) (.int .i64 0) (.int .i64 0) (.int .i64 0) (.bool false) (.bool false) (.string ⟨#[]⟩) (.int .i64 0)
  exact bodyPost_ret (v := .tuple #[.agg #[.int .i64 0, .int .i64 0, .int .i64 0, .bool false, .bool false, .string ⟨#[]⟩, .int .i64 0], .bool false, .iface 66 (.int .i64 k)]) (by simp [results, Tryd.results8, asAddr, HR]) rfl ⟨rfl, HN⟩
theorem funref_nil (n : Int) (w : World) : Calls Tryd.prog 8 #[.pointer none, .int .i64 n] w fun e w' => e = .returned (.tuple #[FlV Fl.zero, .bool false, erN 22]) ∧ New w w' :=
  funref_err none n 22 w (by decide) fun W _ => ffile_nil n W
set_option maxHeartbeats 8000000 in
theorem funref_ok (h : Ftq w tb rb m L) (j : Nat) (hn : lget L (j : Int) ≠ none) (g : Fl) (hg : g = { fgF L (j : Int) with rf := (fgF L (j : Int)).rf - 1 }) (h0 : 0 ≤ g.rf ∧ g.rf < 1048576) (g2 : Fl) (hg2 : g2 = if g.rf = 0 then Fl.zero else g) (b : Bool) (hb : b = decide (g.rf = 0)) :
    Calls Tryd.prog 8 #[.pointer (some ⟨tb, 0, none⟩), .int .i64 (j : Int)] w fun e w' => e = .returned (.tuple #[FlV g, .bool b, .nilIface]) ∧ But (fun g => g = rb) w w' ∧ (∀ L' : Ft, (∀ i : Int, fgF L' i = if i = (j : Int) then g2 else fgF L i) → Rof w' rb m L') := by
  obtain ⟨E, hE⟩ : ∃ E, E = w.alloc (.cells #[.int .i64 0, .int .i64 0, .int .i64 0, .bool false, .bool false, .string ⟨#[]⟩, .int .i64 0] 29) := ⟨_, rfl⟩
  have n0 : New w E := by rw [hE]; exact (New.refl w).alloc _ _
  have bZ : Box E w.heap.size #[.int .i64 0, .int .i64 0, .int .i64 0, .bool false, .bool false, .string ⟨#[]⟩, .int .i64 0] 29 := by rw [hE]; exact Box.here _ _ _ _ rfl
  have X := ffile_ok (h.new n0) j hn
  have HS := Lib.hid h
  have hj := h.in_ hn
  have m32 := h.m32
  have lrb := h.row.lt
  have Y := fun W => fcopied_any g (by rw [hg]; exact h.ok.name _) W
  have Z := fun W => fnone_any g W
  rw [← hb] at Z
  have HB := Lib.hid hb
  have HG2 := Lib.hid hg2
  clear hb hg2
  have hg6 : (fgF L (j : Int)).rf = g.rf + 1 := by rw [hg]; show _ = (fgF L (j : Int)).rf - 1 + 1; omega
  have HG := Lib.hid hg
  have HF : flC g = (flC (fgF L (j : Int))).set 6 (.int .i64 g.rf) := by rw [hg]; rfl
  have HFF := Lib.hid HF
  unfold FlV at *
  clear h hn hg HF
  obtain ⟨k, id, off, rd, wt, nm, rf⟩ := g
  dsimp only at *
  go_enter Tryd.func8, Tryd.ntmps8
  go_wp2_with fail
  rw [← hE]
  refine X.mono ?_
  rintro e w1 ⟨rfl, n1⟩
  have n2 := n0.trans n1
  have BZ := Lib.hid (bZ.new n1)
  obtain ⟨lr, ⟨-, -, -, -, -, -, c6⟩, ⟨-, -, -, -, -, -, g6⟩⟩ := (HS.out.new n2).row.seven j hj _ rfl
  rw [hg6] at c6
  clear X hE bZ n1 n0 hg6
  go_upto_region 5 with fail
  obtain ⟨W4, hW4⟩ : ∃ W4, W4 = w1.setCell ⟨rb, j * 7 + 6, none⟩ (.int .i64 rf) := ⟨_, rfl⟩
  have b4 : But (fun g => g = rb) w1 W4 := by rw [hW4]; exact But.set (S := fun g => g = rb) w1 (p := ⟨rb, j * 7 + 6, none⟩) rfl _
  have HRW := Lib.hid (fun L' hL => show Rof W4 rb m L' by rw [hW4]; exact (HS.out.new n2).row.one (g := ⟨k, id, off, rd, wt, nm, rf⟩) hj (by decide) HFF.out hL)
  have BZ4 : Box W4 w.heap.size #[.int .i64 0, .int .i64 0, .int .i64 0, .bool false, .bool false, .string ⟨#[]⟩, .int .i64 0] 29 := by rw [hW4]; exact BZ.out.other (p := ⟨rb, j * 7 + 6, none⟩) (by show rb ≠ w.heap.size; omega) _
  have lr4 : rb < W4.heap.size := Nat.lt_of_lt_of_le lr b4.size
  -- a table of one file that tells the row's cells
  obtain ⟨LL, hLL⟩ : ∃ LL : Ft, ∀ i : Int, fgF LL i = if i = (j : Int) then (⟨k, id, off, rd, wt, nm, rf⟩ : Fl) else fgF L i := ⟨((j : Int), ⟨k, id, off, rd, wt, nm, rf⟩) :: L, fun i => by
    unfold fgF
    show ((if (j : Int) = i then some _ else lget L i).getD _) = _
    by_cases c : i = (j : Int)
    · rw [if_pos c, if_pos c.symm]; rfl
    · rw [if_neg c, if_neg (fun e => c e.symm)]⟩
  have HLL := Lib.hid hLL
  have R4 := HRW.out LL hLL
  have hLj : (⟨k, id, off, rd, wt, nm, rf⟩ : Fl) = fgF LL (j : Int) := by rw [hLL, if_pos rfl]
  have KEEP := Lib.hid (fun W (q : New W4 W) => And.intro q ((R4.but (But.of_new (fun _ => False) q) (fun c => c)).seven j hj _ hLj).2.1)
  dsimp only at KEEP
  have HSt := Lib.hid (And.intro n2 b4)
  have BZH := Lib.hid BZ4
  have HR4 := Lib.hid (And.intro R4 hLj)
  rw [← hW4]
  clear hW4 c6 g6 b4 BZ4 R4 hLL hLj n2 BZ HFF
  obtain ⟨-, c0, c1, c2, c3, c4, c5, c6⟩ := KEEP.out W4 (New.refl _)
  go_cut [9, 10] from 28 to 36 (fun pv bv wx => ∃ bx, pv = .pointer (some ⟨bx, 0, none⟩) ∧ bv = .bool b ∧ W4.heap.size ≤ bx ∧ Box wx bx #[.int .i64 k, .int .i64 id, .int .i64 off, .bool rd, .bool wt, .string (ba nm), .int .i64 rf] 29 ∧ New W4 wx)
  case first =>
    go_region_held3 (fun w' => New W4 w' ∧ w'.cell? ⟨rb, j * 7, none⟩ = some (.int .i64 k) ∧ w'.cell? ⟨rb, j * 7 + 1, none⟩ = some (.int .i64 id) ∧ w'.cell? ⟨rb, j * 7 + 2, none⟩ = some (.int .i64 off) ∧ w'.cell? ⟨rb, j * 7 + 3, none⟩ = some (.bool rd) ∧ w'.cell? ⟨rb, j * 7 + 4, none⟩ = some (.bool wt) ∧ w'.cell? ⟨rb, j * 7 + 5, none⟩ = some (.string (ba nm)) ∧ w'.cell? ⟨rb, j * 7 + 6, none⟩ = some (.int .i64 rf))
      (first | with_reducible exact KEEP.out _ hnx | with_reducible exact KEEP.out _ (New.refl W4).drew | with_reducible exact KEEP.out _ (hnx.alloc _ _) | with_reducible exact KEEP.out _ ((New.refl W4).alloc _ _).drew | with_reducible exact KEEP.out _ (hnx.set7 hge _ _ _ _ _ _ _) | with_reducible exact KEEP.out _ (New.set7 (hnx.alloc _ _) hnx.size _ _ _ _ _ _ _))
      (first
        | (go_at_call 25; (with_reducible refine (Y _).mono ?_); rintro e wz ⟨rfl, hny⟩; have hnx : New W4 wz := New.trans (New.refl W4).drew hny)
        | (go_at_call 25; (with_reducible refine (Y _).mono ?_); rintro e wz ⟨rfl, hny⟩; have hnx : New W4 wz := New.trans ((New.refl W4).alloc _ _).drew hny
           have hbz : Box wz W4.heap.size #[.int .i64 0, .int .i64 0, .int .i64 0, .bool false, .bool false, .string ⟨#[]⟩, .int .i64 0] 29 := ((Box.here W4 W4.heap.size _ _ rfl).new (New.refl _).drew).new hny
           obtain ⟨bl, ⟨b0, b1, b2, b3, b4, b5, b6⟩, bg0, bg1, bg2, bg3, bg4, bg5, bg6⟩ := hbz.seven)
        | (go_at_call 24; (with_reducible refine (Z _).mono ?_); rintro e wz2 ⟨rfl, hnz⟩; have hny2 : New wz wz2 := hnz; have hbz2 : Box wz2 W4.heap.size #[.int .i64 0, .int .i64 0, .int .i64 0, .bool false, .bool false, .string ⟨#[]⟩, .int .i64 0] 29 := hbz.new hny2
           have hnx2 : New W4 wz2 := hnx.trans hny2
           clear hnx
           have hnx := hnx2
           have hge : W4.heap.size ≤ W4.heap.size := Nat.le_refl _
           obtain ⟨dl, ⟨d0, d1, d2, d3, d4, d5, d6⟩, dg0, dg1, dg2, dg3, dg4, dg5, dg6⟩ := hbz2.seven)
        | (go_at_call 24; (with_reducible refine (Z _).mono ?_); rintro e wz2 ⟨rfl, hnz⟩; have hny2 : New wz wz2 := hnz
           have hnx2 : New W4 wz2 := hnx.trans hny2
           clear hnx
           have hnx := hnx2)
        | (go_at_call 24; (with_reducible refine (Z _).mono ?_); rintro e wz2 ⟨rfl, hnz⟩; have hbz2 : Box wz2 wz.heap.size #[.int .i64 0, .int .i64 0, .int .i64 0, .bool false, .bool false, .string ⟨#[]⟩, .int .i64 0] 29 := (Box.here wz wz.heap.size _ _ rfl).new hnz
           have hge : W4.heap.size ≤ wz.heap.size := hnx.size
           have hnx2 : New W4 wz2 := (hnx.alloc _ _).trans hnz
           clear hnx
           have hnx := hnx2
           obtain ⟨dl, ⟨d0, d1, d2, d3, d4, d5, d6⟩, dg0, dg1, dg2, dg3, dg4, dg5, dg6⟩ := hbz2.seven))
    · go_wp2_with fail
      go_meet
      case rel => exact ⟨wz2.heap.size, rfl, rfl, hnx.size, Box.here wz2 wz2.heap.size _ _ rfl, hnx.alloc _ _⟩
    · go_wp2_with fail
      go_meet
      case rel => exact ⟨wz.heap.size, rfl, rfl, hge, hbz2.set7 (.int .i64 k) (.int .i64 id) (.int .i64 off) (.bool rd) (.bool wt) (.string (ba nm)) (.int .i64 rf), hnx.set7 hge (.int .i64 k) (.int .i64 id) (.int .i64 off) (.bool rd) (.bool wt) (.string (ba nm)) (.int .i64 rf)⟩
    · go_wp2_with fail
      go_meet
      case rel => exact ⟨W4.heap.size, rfl, rfl, hge, hbz2.set7 (.int .i64 k) (.int .i64 id) (.int .i64 off) (.bool rd) (.bool wt) (.string (ba nm)) (.int .i64 rf), hnx.set7 hge (.int .i64 k) (.int .i64 id) (.int .i64 off) (.bool rd) (.bool wt) (.string (ba nm)) (.int .i64 rf)⟩
  case rest =>
    obtain ⟨bx, rfl, rfl, hbx, B5, n5⟩ := hcut
    have R5 := HR4.out.1.but (But.of_new (fun _ => False) n5) (fun c => c)
    have BZ5 := BZH.out.new n5
    have e123 : rb ≠ bx ∧ w.heap.size ≠ bx ∧ rb ≠ w.heap.size := by have := BZH.out.lt; omega
    obtain ⟨e1, e2, e3⟩ := e123
    have BB := ((But.of_new (fun g => g = rb) HSt.out.1).trans HSt.out.2).trans (But.of_new (fun g => g = rb) n5)
    obtain ⟨lr5, ⟨r0, r1, r2, r3, r4, r5, r6⟩, q0, q1, q2, q3, q4, q5, q6⟩ := R5.seven j hj _ HR4.out.2
    dsimp only at r0 r1 r2 r3 r4 r5 r6
    have RR := Lib.hid R5
    have BBH := Lib.hid BB
    have B5H := Lib.hid B5
    have BZH5 := Lib.hid BZ5
    clear KEEP c0 c1 c2 c3 c4 c5 c6 Y Z n5 R5 B5 BZ5 BB HSt HRW BZH HR4 HG lr4 lr
    by_cases hr : rf = 0
    · have hbt : b = true := by rw [HB.out]; exact decide_eq_true hr
      have hgt : g2 = Fl.zero := by rw [HG2.out]; exact if_pos hr
      have HGT := Lib.hid hgt
      subst hbt
      clear hgt HB HG2 hr
      go_upto_region 8 with fail
      obtain ⟨W6, hW6⟩ : ∃ W6, W6 = (((((((wc.setCell ⟨rb, j * 7, none⟩ (.int .i64 0)).setCell ⟨rb, j * 7 + 1, none⟩ (.int .i64 0)).setCell ⟨rb, j * 7 + 2, none⟩ (.int .i64 0)).setCell ⟨rb, j * 7 + 3, none⟩ (.bool false)).setCell ⟨rb, j * 7 + 4, none⟩ (.bool false)).setCell ⟨rb, j * 7 + 5, none⟩ (.string ⟨#[]⟩)).setCell ⟨rb, j * 7 + 6, none⟩ (.int .i64 0)) := ⟨_, rfl⟩
      have k6 : But (fun g => g = rb) wc W6 := by rw [hW6]; exact But.row7 wc rb _ _ _ _ _ _ _ _ _ _ _ _ _ _
      have RN := Lib.hid (fun (L' : Ft) (hL' : ∀ i : Int, fgF L' i = if i = (j : Int) then g2 else fgF L i) => show Rof W6 rb m L' by
        rw [hW6]
        exact RR.out.all Fl.zero hj (fun i => by
          rw [hL' i, HLL.out i, HGT.out]
          by_cases c : i = (j : Int)
          · rw [if_pos c, if_pos c]
          · rw [if_neg c, if_neg c, if_neg c]))
      have B6 := B5H.out.but k6 (fun c => e1 c.symm)
      have BZ6 := BZH5.out.but k6 (fun c => e3 c.symm)
      have BB := Lib.hid (BBH.out.trans k6)
      rw [← hW6]
      clear hW6 k6 r0 r1 r2 r3 r4 r5 r6 q0 q1 q2 q3 q4 q5 q6 RR B5H BZH5 BBH lr5
      obtain ⟨-, ⟨x0, x1, x2, x3, x4, x5, x6⟩, -⟩ := B6.seven
      obtain ⟨lz5, ⟨y0, y1, y2, y3, y4, y5, y6⟩, h0', h1', h2', h3', h4', h5', h6'⟩ := BZ6.seven
      have BZ6 := Lib.hid BZ6
      have nex := e2
      clear B6 e1 e2 hbx
      go_wp2
      have HR := (BZ6.out.set7 (.int .i64 k) (.int .i64 id) (.int .i64 off) (.bool rd) (.bool wt) (.string (ba nm)) (.int .i64 rf)).pfi
      have HK := But.row7 W6 w.heap.size 0 1 2 3 4 5 6 (.int .i64 k) (.int .i64 id) (.int .i64 off) (.bool rd) (.bool wt) (.string (ba nm)) (.int .i64 rf)
      refine bodyPost_ret (v := .tuple #[.agg #[.int .i64 k, .int .i64 id, .int .i64 off, .bool rd, .bool wt, .string (ba nm), .int .i64 rf], .bool true, .nilIface]) (by simp [results, Tryd.results8, asAddr, HR]) rfl ⟨rfl, ?_, fun L' hL' => (RN.out L' hL').but HK (fun c => e3 c)⟩
      exact ((((((BB.out.setNew (p := ⟨w.heap.size, 0, none⟩) (Nat.le_refl _) _).setNew (p := ⟨w.heap.size, 1, none⟩) (Nat.le_refl _) _).setNew (p := ⟨w.heap.size, 2, none⟩) (Nat.le_refl _) _).setNew (p := ⟨w.heap.size, 3, none⟩) (Nat.le_refl _) _).setNew (p := ⟨w.heap.size, 4, none⟩) (Nat.le_refl _) _).setNew (p := ⟨w.heap.size, 5, none⟩) (Nat.le_refl _) _).setNew (p := ⟨w.heap.size, 6, none⟩) (Nat.le_refl _) _
    · have hbt : b = false := by rw [HB.out]; exact decide_eq_false hr
      have hgt : g2 = ⟨k, id, off, rd, wt, nm, rf⟩ := by rw [HG2.out]; exact if_neg hr
      have HGT := Lib.hid hgt
      subst hbt
      clear hgt HB HG2 hr
      have RN := Lib.hid (fun (L' : Ft) (hL' : ∀ i : Int, fgF L' i = if i = (j : Int) then g2 else fgF L i) => show Rof wc rb m L' by
        have := RR.out
        obtain ⟨cs, g1, g2, g3⟩ := this
        refine ⟨cs, g1, g2, fun i hi f x hx => g3 i hi f x ?_⟩
        rw [HLL.out]; rw [hL', HGT.out] at hx; exact hx)
      have B6 := B5H.out
      have BZ6 := BZH5.out
      have BB := BBH
      clear r0 r1 r2 r3 r4 r5 r6 q0 q1 q2 q3 q4 q5 q6 RR B5H BZH5 BBH lr5
      obtain ⟨-, ⟨x0, x1, x2, x3, x4, x5, x6⟩, -⟩ := B6.seven
      obtain ⟨lz5, ⟨y0, y1, y2, y3, y4, y5, y6⟩, h0', h1', h2', h3', h4', h5', h6'⟩ := BZ6.seven
      have BZ6 := Lib.hid BZ6
      have nex := e2
      clear B6 e1 e2 hbx
      go_wp2
      have HR := (BZ6.out.set7 (.int .i64 k) (.int .i64 id) (.int .i64 off) (.bool rd) (.bool wt) (.string (ba nm)) (.int .i64 rf)).pfi
      have HK := But.row7 wc w.heap.size 0 1 2 3 4 5 6 (.int .i64 k) (.int .i64 id) (.int .i64 off) (.bool rd) (.bool wt) (.string (ba nm)) (.int .i64 rf)
      refine bodyPost_ret (v := .tuple #[.agg #[.int .i64 k, .int .i64 id, .int .i64 off, .bool rd, .bool wt, .string (ba nm), .int .i64 rf], .bool false, .nilIface]) (by simp [results, Tryd.results8, asAddr, HR]) rfl ⟨rfl, ?_, fun L' hL' => (RN.out L' hL').but HK (fun c => e3 c)⟩
      exact ((((((BB.out.setNew (p := ⟨w.heap.size, 0, none⟩) (Nat.le_refl _) _).setNew (p := ⟨w.heap.size, 1, none⟩) (Nat.le_refl _) _).setNew (p := ⟨w.heap.size, 2, none⟩) (Nat.le_refl _) _).setNew (p := ⟨w.heap.size, 3, none⟩) (Nat.le_refl _) _).setNew (p := ⟨w.heap.size, 4, none⟩) (Nat.le_refl _) _).setNew (p := ⟨w.heap.size, 5, none⟩) (Nat.le_refl _) _).setNew (p := ⟨w.heap.size, 6, none⟩) (Nat.le_refl _) _
end
end Go.Proofs.YtpapicnkhjcjoaaDoor
