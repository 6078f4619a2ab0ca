/- The package's pipes: Open, Close. -/
import Derived.Test.YtdoppkeaidemgaaDoorPiP
namespace Go.Proofs.YtdoppkeaidemgaaDoor
open Go.RowKit
set_option linter.unusedVariables false
set_option maxRecDepth 100000
section
variable {w : World} {u : Value} {p : Pp}
/-- bytes don't lie in a block of a pipe: they stay where that block is written -/
theorem Byts.box3 {v : Value} {l : List Int} {g : Nat} {q : Option Addr} {n c : Nat} {r s : Int} {t : TypeId} (h : Byts w v l) (hb : Box w g #[.slice q n c, .int .i64 r, .int .i64 s] t) {w' : World} (k : But (fun x => x = g) w w') : Byts w' v l := by
  obtain ⟨p, cap, e, hm, hc⟩ := h
  refine ⟨p, cap, e, hm, fun i hi => ?_⟩
  obtain ⟨a, ha, hcell⟩ := hc i hi
  refine ⟨a, ha, ?_⟩
  rw [k.cell (cell_lt hcell) (fun e => ?_)]
  · exact hcell
  · unfold Box at hb
    unfold World.cell? at hcell
    rw [e, hb] at hcell
    dsimp only at hcell
    generalize (a.add i).off = o at hcell
    rcases o with _ | _ | _ | o <;> simp at hcell
set_option maxHeartbeats 8000000 in
theorem pchange_any (h : Byts w u p.l) (wt : Bool) (c : Int) (hc : -1 ≤ c ∧ c ≤ 1) : Calls Tryd.prog 21 #[PpV u p, .bool wt, .int .i64 c] w (TurnD u p wt c w) := by
  have H0 := Lib.hid h
  unfold TurnD
  obtain ⟨q, cap, rfl⟩ := h.shape
  obtain ⟨l, r, wr⟩ := p
  obtain ⟨E, hE⟩ : ∃ E, E = (w.alloc (.cells #[.slice q l.length cap, .int .i64 r, .int .i64 wr] 26)).alloc (.cells #[.slice none 0 0, .int .i64 0, .int .i64 0] 26) := ⟨_, rfl⟩
  have n0 : New w E := by rw [hE]; exact ((New.refl w).alloc _ _).alloc _ _
  have bA : Box E w.heap.size #[.slice q l.length cap, .int .i64 r, .int .i64 wr] 26 := by rw [hE]; exact (Box.here w _ _ _ rfl).alloc _
  have bZ : Box E (w.heap.size + 1) #[.slice none 0 0, .int .i64 0, .int .i64 0] 26 := by rw [hE]; exact Box.here _ _ _ _ (by rw [World.size_alloc])
  have X := pcheck_any (w := E) (p := ⟨l, r, wr⟩) (h.new n0)
  unfold PpV at X ⊢
  dsimp only at X ⊢
  dsimp only at H0
  by_cases hm : piOk l r wr
  · rw [decide_eq_true hm, if_pos rfl, er0'] at X
    have hm2 := hm
    obtain ⟨k1, k2, k3, k4, k5⟩ := hm2
    have cB := Lib.hid (fun W (k : New w W) => bclone_any (.slice q l.length cap) l W (H0.out.new k) (by omega))
    have cZ := Lib.hid (fun W => bclone_any (.slice none 0 0) [] W (Byts.nil W) (by simp))
    clear h
    cases wt
    · have eA : ptA ⟨l, r, wr⟩ false c = ⟨if r + c = 0 then [] else l, r + c, wr⟩ := rfl
      have X2 := fun W (n : New w W) => pcheck_any (w := W) (u := .slice q l.length cap) (p := ⟨l, r + c, wr⟩) (H0.out.new n)
      unfold PpV at X2
      dsimp only at X2
      by_cases q2 : piOk l (r + c) (wr)
      · simp only [decide_eq_true q2, ↓reduceIte, er0'] at X2
        by_cases hz : r + c = 0
        · have e2 : ptE ⟨l, r, wr⟩ false c = 0 := by unfold ptE; rw [eA, if_pos hz, if_neg (fun c => c hm), if_neg (fun c => c ⟨by simp, q2.2⟩)]
          have e1 : ptP ⟨l, r, wr⟩ false c = ⟨[], r + c, wr⟩ := by unfold ptP; rw [if_pos e2, eA, if_pos hz]
          rw [e1, e2, er0']
          have h6 : (r + c == (0 : Int)) = true := by simpa using hz
          clear e1 e2 eA q2 hm hz
          go_enter Tryd.func21, Tryd.ntmps21
          go_wp2_with fail
          rw [← hE]
          refine X.mono ?_
          rintro e w1 ⟨rfl, n1⟩
          have n2 := n0.trans n1
          have sz := n0.size
          have sz1 := n1.size
          have lE := bZ.lt
          have BA := Lib.hid (bA.new n1)
          have BZ := Lib.hid (bZ.new n1)
          obtain ⟨la, a0, a1, a2, f0, f1, f2⟩ := (bA.new n1).three'
          obtain ⟨lz, z0, z1, z2, g0, g1, g2⟩ := (bZ.new n1).three'
          clear X hE bA bZ n1 n0
          have sz1 : w.heap.size + 1 < w1.heap.size := lz
          have BA := Lib.hid (BA.out.s1 (.int .i64 (r + c)))
          have BZ := Lib.hid (BZ.out.other (p := ⟨w.heap.size, 1, none⟩) (by show w.heap.size ≠ _; omega) (.int .i64 (r + c)))
          have N2 := Lib.hid (n2.setCell (p := ⟨w.heap.size, 1, none⟩) (Nat.le_refl _) (.int .i64 (r + c)))
          clear n2
          go_wp2_with fail
          refine (X2 _ N2.out).mono ?_
          rintro e w3 ⟨rfl, n3⟩
          have N3 := Lib.hid (N2.out.trans n3)
          have BZ := Lib.hid (BZ.out.new n3)
          have BA := Lib.hid (BA.out.new n3)
          clear la a0 a1 a2 f0 f1 f2 lz z0 z1 z2 g0 g1 g2
          obtain ⟨la, a0, a1, a2, f0, f1, f2⟩ := BA.out.three'
          obtain ⟨lz, z0, z1, z2, g0, g1, g2⟩ := BZ.out.three'
          clear n3 X2 N2
          have BA := Lib.hid (BA.out.s0 (.slice none 0 0))
          have BZ := Lib.hid (BZ.out.other (p := ⟨w.heap.size, 0, none⟩) (by show w.heap.size ≠ _; omega) (.slice none 0 0))
          have N3 := Lib.hid (N3.out.setCell (p := ⟨w.heap.size, 0, none⟩) (Nat.le_refl _) (.slice none 0 0))
          have szw : (w3.setCell ⟨w.heap.size, 0, none⟩ (.slice none 0 0)).heap.size = w3.heap.size := by simp
          go_wp2_with fail
          refine (cZ.out _).mono ?_
          rintro e w4 ⟨vr, rfl, o3, n4⟩
          have n4s := n4.size
          rw [szw] at o3 n4s
          have sz4 := n4.size
          have O3 := o3
          obtain ⟨pr, cr, rfl⟩ := o3.shape
          have BA2 := (BA.out.new n4).s0 (.slice pr ([] : List Int).length cr)
          have BZ2 := ((BZ.out.new n4).other (p := ⟨w.heap.size, 0, none⟩) (by show w.heap.size ≠ _; omega) (.slice pr ([] : List Int).length cr)).set3 (.slice pr ([] : List Int).length cr) (.int .i64 (r + c)) (.int .i64 (wr))
          have NN := ((N3.out.trans n4).setCell (p := ⟨w.heap.size, 0, none⟩) (Nat.le_refl _) (.slice pr ([] : List Int).length cr)).set3 (g := w.heap.size + 1) (by omega) (.slice pr ([] : List Int).length cr) (.int .i64 (r + c)) (.int .i64 (wr))
          have KB := (But.set (S := fun g => g ≤ w.heap.size + 1) w4 (p := ⟨w.heap.size, 0, none⟩) (Nat.le_succ _) (.slice pr ([] : List Int).length cr)).trans (But.set3 (S := fun g => g ≤ w.heap.size + 1) _ (g := w.heap.size + 1) (Nat.le_refl _) (.slice pr ([] : List Int).length cr) (.int .i64 (r + c)) (.int .i64 (wr)))
          have P3 := (O3.but KB (fun g hg c => by have := O3.ge hg; omega)).more (base' := w.heap.size) (by omega)
          have END := Lib.hid (And.intro BZ2.ppi (And.intro NN P3))
          clear la a0 a1 a2 f0 f1 f2 lz z0 z1 z2 g0 g1 g2
          obtain ⟨la, a0, a1, a2, f0, f1, f2⟩ := (BA.out.new n4).three'
          obtain ⟨lz, z0, z1, z2, g0, g1, g2⟩ := (BZ.out.new n4).three'
          clear O3 o3 BA2 BZ2 NN KB P3 n4 cB cZ H0 sz4 BA BZ N3 szw n4s
          go_wp2
          obtain ⟨HR, NN, P3⟩ := END.out
          simp only [List.length_nil] at HR
          exact bodyPost_ret (v := .tuple #[.agg #[.slice pr 0 cr, .int .i64 (r + c), .int .i64 (wr)], .nilIface]) (by simp [results, Tryd.results21, asAddr, HR]) rfl ⟨_, rfl, P3.byts, fun g hg => .inl (P3.ge hg), NN⟩
        · have e2 : ptE ⟨l, r, wr⟩ false c = 0 := by unfold ptE; rw [eA, if_neg hz, if_neg (fun c => c hm), if_neg (fun c => c q2)]
          have e1 : ptP ⟨l, r, wr⟩ false c = ⟨l, r + c, wr⟩ := by unfold ptP; rw [if_pos e2, eA, if_neg hz]
          rw [e1, e2, er0']
          have h6 : (r + c == (0 : Int)) = false := by simpa using hz
          generalize hL : l.length = nr at *
          clear e1 e2 eA q2 hm hz
          go_enter Tryd.func21, Tryd.ntmps21
          go_wp2_with fail
          rw [← hE]
          refine X.mono ?_
          rintro e w1 ⟨rfl, n1⟩
          have n2 := n0.trans n1
          have sz := n0.size
          have sz1 := n1.size
          have lE := bZ.lt
          have BA := Lib.hid (bA.new n1)
          have BZ := Lib.hid (bZ.new n1)
          obtain ⟨la, a0, a1, a2, f0, f1, f2⟩ := (bA.new n1).three'
          obtain ⟨lz, z0, z1, z2, g0, g1, g2⟩ := (bZ.new n1).three'
          clear X hE bA bZ n1 n0
          have sz1 : w.heap.size + 1 < w1.heap.size := lz
          have BA := Lib.hid (BA.out.s1 (.int .i64 (r + c)))
          have BZ := Lib.hid (BZ.out.other (p := ⟨w.heap.size, 1, none⟩) (by show w.heap.size ≠ _; omega) (.int .i64 (r + c)))
          have N2 := Lib.hid (n2.setCell (p := ⟨w.heap.size, 1, none⟩) (Nat.le_refl _) (.int .i64 (r + c)))
          clear n2
          go_wp2_with fail
          refine (X2 _ N2.out).mono ?_
          rintro e w3 ⟨rfl, n3⟩
          have N3 := Lib.hid (N2.out.trans n3)
          have BZ := Lib.hid (BZ.out.new n3)
          have BA := Lib.hid (BA.out.new n3)
          clear la a0 a1 a2 f0 f1 f2 lz z0 z1 z2 g0 g1 g2
          obtain ⟨la, a0, a1, a2, f0, f1, f2⟩ := BA.out.three'
          obtain ⟨lz, z0, z1, z2, g0, g1, g2⟩ := BZ.out.three'
          clear n3 X2 N2
          go_wp2_with fail
          refine (cB.out _ N3.out).mono ?_
          rintro e w4 ⟨vr, rfl, o3, n4⟩
          have sz4 := n4.size
          have O3 := o3
          obtain ⟨pr, cr, rfl⟩ := o3.shape
          have BA2 := (BA.out.new n4).s0 (.slice pr l.length cr)
          have BZ2 := ((BZ.out.new n4).other (p := ⟨w.heap.size, 0, none⟩) (by show w.heap.size ≠ _; omega) (.slice pr l.length cr)).set3 (.slice pr l.length cr) (.int .i64 (r + c)) (.int .i64 (wr))
          have NN := ((N3.out.trans n4).setCell (p := ⟨w.heap.size, 0, none⟩) (Nat.le_refl _) (.slice pr l.length cr)).set3 (g := w.heap.size + 1) (by omega) (.slice pr l.length cr) (.int .i64 (r + c)) (.int .i64 (wr))
          have KB := (But.set (S := fun g => g ≤ w.heap.size + 1) w4 (p := ⟨w.heap.size, 0, none⟩) (Nat.le_succ _) (.slice pr l.length cr)).trans (But.set3 (S := fun g => g ≤ w.heap.size + 1) _ (g := w.heap.size + 1) (Nat.le_refl _) (.slice pr l.length cr) (.int .i64 (r + c)) (.int .i64 (wr)))
          have P3 := (O3.but KB (fun g hg c => by have := O3.ge hg; omega)).more (base' := w.heap.size) (by omega)
          have END := Lib.hid (And.intro BZ2.ppi (And.intro NN P3))
          clear la a0 a1 a2 f0 f1 f2 lz z0 z1 z2 g0 g1 g2
          obtain ⟨la, a0, a1, a2, f0, f1, f2⟩ := (BA.out.new n4).three'
          obtain ⟨lz, z0, z1, z2, g0, g1, g2⟩ := (BZ.out.new n4).three'
          simp only [hL] at *
          clear O3 o3 BA2 BZ2 NN KB P3 n4 cB cZ H0 sz4 BA BZ N3 
          go_wp2
          obtain ⟨HR, NN, P3⟩ := END.out
          exact bodyPost_ret (v := .tuple #[.agg #[.slice pr nr cr, .int .i64 (r + c), .int .i64 (wr)], .nilIface]) (by simp [results, Tryd.results21, asAddr, HR]) rfl ⟨_, rfl, P3.byts, fun g hg => .inl (P3.ge hg), NN⟩
      · simp only [decide_eq_false q2, Bool.false_eq_true, ↓reduceIte, er22] at X2
        have e2 : ptE ⟨l, r, wr⟩ false c = 22 := by
          unfold ptE
          rw [eA, if_neg (fun c => c hm), if_pos (fun c => q2 ⟨k1, c.2⟩)]
        have e1 : ptP ⟨l, r, wr⟩ false c = Pp.zero := by unfold ptP; rw [e2]; rfl
        rw [e1, e2, er22]
        clear e1 e2 eA q2 hm
        go_enter Tryd.func21, Tryd.ntmps21
        go_wp2_with fail
        rw [← hE]
        refine X.mono ?_
        rintro e w1 ⟨rfl, n1⟩
        have n2 := n0.trans n1
        have sz := n0.size
        have sz1 := n1.size
        have lE := bZ.lt
        have BA := Lib.hid (bA.new n1)
        have BZ := Lib.hid (bZ.new n1)
        obtain ⟨la, a0, a1, a2, f0, f1, f2⟩ := (bA.new n1).three'
        obtain ⟨lz, z0, z1, z2, g0, g1, g2⟩ := (bZ.new n1).three'
        clear X hE bA bZ n1 n0
        have sz1 : w.heap.size + 1 < w1.heap.size := lz
        have BA := Lib.hid (BA.out.s1 (.int .i64 (r + c)))
        have BZ := Lib.hid (BZ.out.other (p := ⟨w.heap.size, 1, none⟩) (by show w.heap.size ≠ _; omega) (.int .i64 (r + c)))
        have N2 := Lib.hid (n2.setCell (p := ⟨w.heap.size, 1, none⟩) (Nat.le_refl _) (.int .i64 (r + c)))
        clear n2
        go_wp2_with fail
        refine (X2 _ N2.out).mono ?_
        rintro e w3 ⟨rfl, n3⟩
        have N3 := Lib.hid (N2.out.trans n3)
        have BZ := Lib.hid (BZ.out.new n3)
        have BA := Lib.hid (BA.out.new n3)
        clear la a0 a1 a2 f0 f1 f2 lz z0 z1 z2 g0 g1 g2
        obtain ⟨la, a0, a1, a2, f0, f1, f2⟩ := BA.out.three'
        obtain ⟨lz, z0, z1, z2, g0, g1, g2⟩ := BZ.out.three'
        clear n3 X2 N2
        go_wp2
        have HR := (BZ.out.set3 (.slice none 0 0) (.int .i64 0) (.int .i64 0)).ppi
        have HN := N3.out.set3 (g := w.heap.size + 1) (by omega) (.slice none 0 0) (.int .i64 0) (.int .i64 0)
        exact bodyPost_ret (v := .tuple #[.agg #[.slice none 0 0, .int .i64 0, .int .i64 0], .iface 52 (.int .i64 22)]) (by simp [results, Tryd.results21, asAddr, HR]) rfl ⟨_, rfl, Byts.nil _, (fun g hg => by cases hg), HN⟩
    · have eA : ptA ⟨l, r, wr⟩ true c = ⟨if r = 0 then [] else l, r, wr + c⟩ := rfl
      have X2 := fun W (n : New w W) => pcheck_any (w := W) (u := .slice q l.length cap) (p := ⟨l, r, wr + c⟩) (H0.out.new n)
      unfold PpV at X2
      dsimp only at X2
      by_cases q2 : piOk l (r) (wr + c)
      · simp only [decide_eq_true q2, ↓reduceIte, er0'] at X2
        by_cases hz : r = 0
        · have e2 : ptE ⟨l, r, wr⟩ true c = 0 := by unfold ptE; rw [eA, if_pos hz, if_neg (fun c => c hm), if_neg (fun c => c ⟨by simp, q2.2⟩)]
          have e1 : ptP ⟨l, r, wr⟩ true c = ⟨[], r, wr + c⟩ := by unfold ptP; rw [if_pos e2, eA, if_pos hz]
          rw [e1, e2, er0']
          have h6 : (r == (0 : Int)) = true := by simpa using hz
          clear e1 e2 eA q2 hm hz
          go_enter Tryd.func21, Tryd.ntmps21
          go_wp2_with fail
          rw [← hE]
          refine X.mono ?_
          rintro e w1 ⟨rfl, n1⟩
          have n2 := n0.trans n1
          have sz := n0.size
          have sz1 := n1.size
          have lE := bZ.lt
          have BA := Lib.hid (bA.new n1)
          have BZ := Lib.hid (bZ.new n1)
          obtain ⟨la, a0, a1, a2, f0, f1, f2⟩ := (bA.new n1).three'
          obtain ⟨lz, z0, z1, z2, g0, g1, g2⟩ := (bZ.new n1).three'
          clear X hE bA bZ n1 n0
          have sz1 : w.heap.size + 1 < w1.heap.size := lz
          have BA := Lib.hid (BA.out.s2 (.int .i64 (wr + c)))
          have BZ := Lib.hid (BZ.out.other (p := ⟨w.heap.size, 2, none⟩) (by show w.heap.size ≠ _; omega) (.int .i64 (wr + c)))
          have N2 := Lib.hid (n2.setCell (p := ⟨w.heap.size, 2, none⟩) (Nat.le_refl _) (.int .i64 (wr + c)))
          clear n2
          go_wp2_with fail
          refine (X2 _ N2.out).mono ?_
          rintro e w3 ⟨rfl, n3⟩
          have N3 := Lib.hid (N2.out.trans n3)
          have BZ := Lib.hid (BZ.out.new n3)
          have BA := Lib.hid (BA.out.new n3)
          clear la a0 a1 a2 f0 f1 f2 lz z0 z1 z2 g0 g1 g2
          obtain ⟨la, a0, a1, a2, f0, f1, f2⟩ := BA.out.three'
          obtain ⟨lz, z0, z1, z2, g0, g1, g2⟩ := BZ.out.three'
          clear n3 X2 N2
          have BA := Lib.hid (BA.out.s0 (.slice none 0 0))
          have BZ := Lib.hid (BZ.out.other (p := ⟨w.heap.size, 0, none⟩) (by show w.heap.size ≠ _; omega) (.slice none 0 0))
          have N3 := Lib.hid (N3.out.setCell (p := ⟨w.heap.size, 0, none⟩) (Nat.le_refl _) (.slice none 0 0))
          have szw : (w3.setCell ⟨w.heap.size, 0, none⟩ (.slice none 0 0)).heap.size = w3.heap.size := by simp
          go_wp2_with fail
          refine (cZ.out _).mono ?_
          rintro e w4 ⟨vr, rfl, o3, n4⟩
          have n4s := n4.size
          rw [szw] at o3 n4s
          have sz4 := n4.size
          have O3 := o3
          obtain ⟨pr, cr, rfl⟩ := o3.shape
          have BA2 := (BA.out.new n4).s0 (.slice pr ([] : List Int).length cr)
          have BZ2 := ((BZ.out.new n4).other (p := ⟨w.heap.size, 0, none⟩) (by show w.heap.size ≠ _; omega) (.slice pr ([] : List Int).length cr)).set3 (.slice pr ([] : List Int).length cr) (.int .i64 (r)) (.int .i64 (wr + c))
          have NN := ((N3.out.trans n4).setCell (p := ⟨w.heap.size, 0, none⟩) (Nat.le_refl _) (.slice pr ([] : List Int).length cr)).set3 (g := w.heap.size + 1) (by omega) (.slice pr ([] : List Int).length cr) (.int .i64 (r)) (.int .i64 (wr + c))
          have KB := (But.set (S := fun g => g ≤ w.heap.size + 1) w4 (p := ⟨w.heap.size, 0, none⟩) (Nat.le_succ _) (.slice pr ([] : List Int).length cr)).trans (But.set3 (S := fun g => g ≤ w.heap.size + 1) _ (g := w.heap.size + 1) (Nat.le_refl _) (.slice pr ([] : List Int).length cr) (.int .i64 (r)) (.int .i64 (wr + c)))
          have P3 := (O3.but KB (fun g hg c => by have := O3.ge hg; omega)).more (base' := w.heap.size) (by omega)
          have END := Lib.hid (And.intro BZ2.ppi (And.intro NN P3))
          clear la a0 a1 a2 f0 f1 f2 lz z0 z1 z2 g0 g1 g2
          obtain ⟨la, a0, a1, a2, f0, f1, f2⟩ := (BA.out.new n4).three'
          obtain ⟨lz, z0, z1, z2, g0, g1, g2⟩ := (BZ.out.new n4).three'
          clear O3 o3 BA2 BZ2 NN KB P3 n4 cB cZ H0 sz4 BA BZ N3 szw n4s
          go_wp2
          obtain ⟨HR, NN, P3⟩ := END.out
          simp only [List.length_nil] at HR
          exact bodyPost_ret (v := .tuple #[.agg #[.slice pr 0 cr, .int .i64 (r), .int .i64 (wr + c)], .nilIface]) (by simp [results, Tryd.results21, asAddr, HR]) rfl ⟨_, rfl, P3.byts, fun g hg => .inl (P3.ge hg), NN⟩
        · have e2 : ptE ⟨l, r, wr⟩ true c = 0 := by unfold ptE; rw [eA, if_neg hz, if_neg (fun c => c hm), if_neg (fun c => c q2)]
          have e1 : ptP ⟨l, r, wr⟩ true c = ⟨l, r, wr + c⟩ := by unfold ptP; rw [if_pos e2, eA, if_neg hz]
          rw [e1, e2, er0']
          have h6 : (r == (0 : Int)) = false := by simpa using hz
          generalize hL : l.length = nr at *
          clear e1 e2 eA q2 hm hz
          go_enter Tryd.func21, Tryd.ntmps21
          go_wp2_with fail
          rw [← hE]
          refine X.mono ?_
          rintro e w1 ⟨rfl, n1⟩
          have n2 := n0.trans n1
          have sz := n0.size
          have sz1 := n1.size
          have lE := bZ.lt
          have BA := Lib.hid (bA.new n1)
          have BZ := Lib.hid (bZ.new n1)
          obtain ⟨la, a0, a1, a2, f0, f1, f2⟩ := (bA.new n1).three'
          obtain ⟨lz, z0, z1, z2, g0, g1, g2⟩ := (bZ.new n1).three'
          clear X hE bA bZ n1 n0
          have sz1 : w.heap.size + 1 < w1.heap.size := lz
          have BA := Lib.hid (BA.out.s2 (.int .i64 (wr + c)))
          have BZ := Lib.hid (BZ.out.other (p := ⟨w.heap.size, 2, none⟩) (by show w.heap.size ≠ _; omega) (.int .i64 (wr + c)))
          have N2 := Lib.hid (n2.setCell (p := ⟨w.heap.size, 2, none⟩) (Nat.le_refl _) (.int .i64 (wr + c)))
          clear n2
          go_wp2_with fail
          refine (X2 _ N2.out).mono ?_
          rintro e w3 ⟨rfl, n3⟩
          have N3 := Lib.hid (N2.out.trans n3)
          have BZ := Lib.hid (BZ.out.new n3)
          have BA := Lib.hid (BA.out.new n3)
          clear la a0 a1 a2 f0 f1 f2 lz z0 z1 z2 g0 g1 g2
          obtain ⟨la, a0, a1, a2, f0, f1, f2⟩ := BA.out.three'
          obtain ⟨lz, z0, z1, z2, g0, g1, g2⟩ := BZ.out.three'
          clear n3 X2 N2
          go_wp2_with fail
          refine (cB.out _ N3.out).mono ?_
          rintro e w4 ⟨vr, rfl, o3, n4⟩
          have sz4 := n4.size
          have O3 := o3
          obtain ⟨pr, cr, rfl⟩ := o3.shape
          have BA2 := (BA.out.new n4).s0 (.slice pr l.length cr)
          have BZ2 := ((BZ.out.new n4).other (p := ⟨w.heap.size, 0, none⟩) (by show w.heap.size ≠ _; omega) (.slice pr l.length cr)).set3 (.slice pr l.length cr) (.int .i64 (r)) (.int .i64 (wr + c))
          have NN := ((N3.out.trans n4).setCell (p := ⟨w.heap.size, 0, none⟩) (Nat.le_refl _) (.slice pr l.length cr)).set3 (g := w.heap.size + 1) (by omega) (.slice pr l.length cr) (.int .i64 (r)) (.int .i64 (wr + c))
          have KB := (But.set (S := fun g => g ≤ w.heap.size + 1) w4 (p := ⟨w.heap.size, 0, none⟩) (Nat.le_succ _) (.slice pr l.length cr)).trans (But.set3 (S := fun g => g ≤ w.heap.size + 1) _ (g := w.heap.size + 1) (Nat.le_refl _) (.slice pr l.length cr) (.int .i64 (r)) (.int .i64 (wr + c)))
          have P3 := (O3.but KB (fun g hg c => by have := O3.ge hg; omega)).more (base' := w.heap.size) (by omega)
          have END := Lib.hid (And.intro BZ2.ppi (And.intro NN P3))
          clear la a0 a1 a2 f0 f1 f2 lz z0 z1 z2 g0 g1 g2
          obtain ⟨la, a0, a1, a2, f0, f1, f2⟩ := (BA.out.new n4).three'
          obtain ⟨lz, z0, z1, z2, g0, g1, g2⟩ := (BZ.out.new n4).three'
          simp only [hL] at *
          clear O3 o3 BA2 BZ2 NN KB P3 n4 cB cZ H0 sz4 BA BZ N3 
          go_wp2
          obtain ⟨HR, NN, P3⟩ := END.out
          exact bodyPost_ret (v := .tuple #[.agg #[.slice pr nr cr, .int .i64 (r), .int .i64 (wr + c)], .nilIface]) (by simp [results, Tryd.results21, asAddr, HR]) rfl ⟨_, rfl, P3.byts, fun g hg => .inl (P3.ge hg), NN⟩
      · simp only [decide_eq_false q2, Bool.false_eq_true, ↓reduceIte, er22] at X2
        have e2 : ptE ⟨l, r, wr⟩ true c = 22 := by
          unfold ptE
          rw [eA, if_neg (fun c => c hm), if_pos (fun c => q2 ⟨k1, c.2⟩)]
        have e1 : ptP ⟨l, r, wr⟩ true c = Pp.zero := by unfold ptP; rw [e2]; rfl
        rw [e1, e2, er22]
        clear e1 e2 eA q2 hm
        go_enter Tryd.func21, Tryd.ntmps21
        go_wp2_with fail
        rw [← hE]
        refine X.mono ?_
        rintro e w1 ⟨rfl, n1⟩
        have n2 := n0.trans n1
        have sz := n0.size
        have sz1 := n1.size
        have lE := bZ.lt
        have BA := Lib.hid (bA.new n1)
        have BZ := Lib.hid (bZ.new n1)
        obtain ⟨la, a0, a1, a2, f0, f1, f2⟩ := (bA.new n1).three'
        obtain ⟨lz, z0, z1, z2, g0, g1, g2⟩ := (bZ.new n1).three'
        clear X hE bA bZ n1 n0
        have sz1 : w.heap.size + 1 < w1.heap.size := lz
        have BA := Lib.hid (BA.out.s2 (.int .i64 (wr + c)))
        have BZ := Lib.hid (BZ.out.other (p := ⟨w.heap.size, 2, none⟩) (by show w.heap.size ≠ _; omega) (.int .i64 (wr + c)))
        have N2 := Lib.hid (n2.setCell (p := ⟨w.heap.size, 2, none⟩) (Nat.le_refl _) (.int .i64 (wr + c)))
        clear n2
        go_wp2_with fail
        refine (X2 _ N2.out).mono ?_
        rintro e w3 ⟨rfl, n3⟩
        have N3 := Lib.hid (N2.out.trans n3)
        have BZ := Lib.hid (BZ.out.new n3)
        have BA := Lib.hid (BA.out.new n3)
        clear la a0 a1 a2 f0 f1 f2 lz z0 z1 z2 g0 g1 g2
        obtain ⟨la, a0, a1, a2, f0, f1, f2⟩ := BA.out.three'
        obtain ⟨lz, z0, z1, z2, g0, g1, g2⟩ := BZ.out.three'
        clear n3 X2 N2
        go_wp2
        have HR := (BZ.out.set3 (.slice none 0 0) (.int .i64 0) (.int .i64 0)).ppi
        have HN := N3.out.set3 (g := w.heap.size + 1) (by omega) (.slice none 0 0) (.int .i64 0) (.int .i64 0)
        exact bodyPost_ret (v := .tuple #[.agg #[.slice none 0 0, .int .i64 0, .int .i64 0], .iface 52 (.int .i64 22)]) (by simp [results, Tryd.results21, asAddr, HR]) rfl ⟨_, rfl, Byts.nil _, (fun g hg => by cases hg), HN⟩
  · rw [decide_eq_false hm, if_neg (by decide), er22] at X
    have e2 : ptE ⟨l, r, wr⟩ wt c = 22 := by unfold ptE; rw [if_pos hm]
    have e1 : ptP ⟨l, r, wr⟩ wt c = Pp.zero := by unfold ptP; rw [e2]; rfl
    rw [e1, e2, er22]
    clear h hm e1 e2
    go_enter Tryd.func21, Tryd.ntmps21
    go_wp2_with fail
    rw [← hE]
    refine X.mono ?_
    rintro e w1 ⟨rfl, n1⟩
    have n2 := n0.trans n1
    have sz := n0.size
    have sz1 := n1.size
    have lE := bZ.lt
    have BA := Lib.hid (bA.new n1)
    have BZ := Lib.hid (bZ.new n1)
    obtain ⟨la, a0, a1, a2, f0, f1, f2⟩ := (bA.new n1).three'
    obtain ⟨lz, z0, z1, z2, g0, g1, g2⟩ := (bZ.new n1).three'
    clear X hE bA bZ n1 n0
    go_wp2
    have HR := (BZ.out.set3 (.slice none 0 0) (.int .i64 0) (.int .i64 0)).ppi
    have HN := n2.set3 (g := w.heap.size + 1) (by omega) (.slice none 0 0) (.int .i64 0) (.int .i64 0)
    exact bodyPost_ret (v := .tuple #[.agg #[.slice none 0 0, .int .i64 0, .int .i64 0], .iface 52 (.int .i64 22)]) (by simp [results, Tryd.results21, asAddr, HR]) rfl ⟨_, rfl, Byts.nil _, (fun g hg => by cases hg), HN⟩
set_option maxHeartbeats 4000000 in
theorem popen_any (h : Byts w u p.l) (wt : Bool) : Calls Tryd.prog 13 #[PpV u p, .bool wt] w (TurnD u p wt 1 w) := by
  have X := fun W (k : New w W) => pchange_any (h.new k) wt 1 (by omega)
  unfold TurnD at X ⊢
  obtain ⟨q, cap, rfl⟩ := h.shape
  obtain ⟨l, r, wr⟩ := p
  generalize ptP ⟨l, r, wr⟩ wt 1 = P at *
  generalize ptE ⟨l, r, wr⟩ wt 1 = e0 at *
  obtain ⟨l1, r1, s1⟩ := P
  generalize hL : l.length = L at *
  clear hL h
  unfold PpV at X ⊢
  dsimp only at X ⊢
  obtain ⟨E, hE⟩ : ∃ E, E = (w.alloc (.cells #[.slice q L cap, .int .i64 r, .int .i64 wr] 26)).alloc (.cells #[.slice none 0 0, .int .i64 0, .int .i64 0] 26) := ⟨_, rfl⟩
  have n0 : New w E := by rw [hE]; exact ((New.refl w).alloc _ _).alloc _ _
  have bA : Box E w.heap.size #[.slice q L cap, .int .i64 r, .int .i64 wr] 26 := by rw [hE]; exact (Box.here w _ _ _ rfl).alloc _
  have bZ : Box E (w.heap.size + 1) #[.slice none 0 0, .int .i64 0, .int .i64 0] 26 := by rw [hE]; exact Box.here _ _ _ _ (by rw [World.size_alloc])
  have X := X E n0
  go_enter Tryd.func13, Tryd.ntmps13
  go_wp2_with fail
  rw [← hE]
  refine X.mono ?_
  rintro e w1 ⟨vr, rfl, y1, f1, n1⟩
  have n2 := n0.trans n1
  have sz := n0.size
  have lE := bZ.lt
  have BZ := Lib.hid (bZ.new n1)
  have Y1 := Lib.hid y1
  have F1 := Lib.hid f1
  obtain ⟨q1, c1, rfl⟩ := y1.shape
  obtain ⟨lz, z0, z1, z2, g0, g1, g2⟩ := (bZ.new n1).three'
  have END := Lib.hid (And.intro (BZ.out.set3 (.slice q1 l1.length c1) (.int .i64 r1) (.int .i64 s1)).ppi (And.intro (n2.set3 (g := w.heap.size + 1) (by omega) (.slice q1 l1.length c1) (.int .i64 r1) (.int .i64 s1)) (But.set3 (S := fun g => g = w.heap.size + 1) w1 (g := w.heap.size + 1) rfl (.slice q1 l1.length c1) (.int .i64 r1) (.int .i64 s1))))
  clear X hE bA bZ n1 n0 y1 f1
  generalize l1.length = nr at *
  go_wp2
  obtain ⟨HR, NN, KB⟩ := END.out
  exact bodyPost_ret (v := .tuple #[.agg #[.slice q1 nr c1, .int .i64 r1, .int .i64 s1], erN e0]) (by simp [results, Tryd.results13, asAddr, HR]) rfl ⟨_, rfl, Y1.out.box3 BZ.out KB, fun g hg => (F1.out g hg).imp (Nat.le_trans sz) id, NN⟩
set_option maxHeartbeats 4000000 in
theorem pclose_any (h : Byts w u p.l) (wt : Bool) : Calls Tryd.prog 15 #[PpV u p, .bool wt] w (TurnD u p wt (-1) w) := by
  have X := fun W (k : New w W) => pchange_any (h.new k) wt (-1) (by omega)
  unfold TurnD at X ⊢
  obtain ⟨q, cap, rfl⟩ := h.shape
  obtain ⟨l, r, wr⟩ := p
  generalize ptP ⟨l, r, wr⟩ wt (-1) = P at *
  generalize ptE ⟨l, r, wr⟩ wt (-1) = e0 at *
  obtain ⟨l1, r1, s1⟩ := P
  generalize hL : l.length = L at *
  clear hL h
  unfold PpV at X ⊢
  dsimp only at X ⊢
  obtain ⟨E, hE⟩ : ∃ E, E = (w.alloc (.cells #[.slice q L cap, .int .i64 r, .int .i64 wr] 26)).alloc (.cells #[.slice none 0 0, .int .i64 0, .int .i64 0] 26) := ⟨_, rfl⟩
  have n0 : New w E := by rw [hE]; exact ((New.refl w).alloc _ _).alloc _ _
  have bA : Box E w.heap.size #[.slice q L cap, .int .i64 r, .int .i64 wr] 26 := by rw [hE]; exact (Box.here w _ _ _ rfl).alloc _
  have bZ : Box E (w.heap.size + 1) #[.slice none 0 0, .int .i64 0, .int .i64 0] 26 := by rw [hE]; exact Box.here _ _ _ _ (by rw [World.size_alloc])
  have X := X E n0
  go_enter Tryd.func15, Tryd.ntmps15
  go_wp2_with fail
  rw [← hE]
  refine X.mono ?_
  rintro e w1 ⟨vr, rfl, y1, f1, n1⟩
  have n2 := n0.trans n1
  have sz := n0.size
  have lE := bZ.lt
  have BZ := Lib.hid (bZ.new n1)
  have Y1 := Lib.hid y1
  have F1 := Lib.hid f1
  obtain ⟨q1, c1, rfl⟩ := y1.shape
  obtain ⟨lz, z0, z1, z2, g0, g1, g2⟩ := (bZ.new n1).three'
  have END := Lib.hid (And.intro (BZ.out.set3 (.slice q1 l1.length c1) (.int .i64 r1) (.int .i64 s1)).ppi (And.intro (n2.set3 (g := w.heap.size + 1) (by omega) (.slice q1 l1.length c1) (.int .i64 r1) (.int .i64 s1)) (But.set3 (S := fun g => g = w.heap.size + 1) w1 (g := w.heap.size + 1) rfl (.slice q1 l1.length c1) (.int .i64 r1) (.int .i64 s1))))
  clear X hE bA bZ n1 n0 y1 f1
  generalize l1.length = nr at *
  go_wp2
  obtain ⟨HR, NN, KB⟩ := END.out
  exact bodyPost_ret (v := .tuple #[.agg #[.slice q1 nr c1, .int .i64 r1, .int .i64 s1], erN e0]) (by simp [results, Tryd.results15, asAddr, HR]) rfl ⟨_, rfl, Y1.out.box3 BZ.out KB, fun g hg => (F1.out g hg).imp (Nat.le_trans sz) id, NN⟩
end
end Go.Proofs.YtdoppkeaidemgaaDoor