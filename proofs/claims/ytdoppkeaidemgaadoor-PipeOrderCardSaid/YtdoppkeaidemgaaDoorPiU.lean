/- The document's pipes: Read and Write, what is answered. -/
import Derived.Test.YtdoppkeaidemgaaDoorPiT
namespace Go.Proofs.YtdoppkeaidemgaaDoor
open Go.RowKit
set_option linter.unusedVariables false
set_option maxRecDepth 100000
section
variable {w w' : World} {u : Value} {p : Pp}
theorem OwnB.at {b : Nat} {v : Value} {l : List Int} (h : OwnB 0 w v l) (k : ∀ g, v.ownBlock = some g → b ≤ g) : OwnB b w v l := by
  refine ⟨h.1, ?_⟩
  rcases h.2 with hn | ⟨g, cap, cur, rfl, hb, rest⟩
  · exact .inl hn
  · exact .inr ⟨g, cap, cur, rfl, k g rfl, rest⟩
theorem OwnB.ge {b : Nat} {v : Value} {l : List Int} (h : OwnB b w v l) {g : Nat} (hg : v.ownBlock = some g) : b ≤ g := (World.ownsRow.lt h g hg).1
/-- two slices of bytes that the call made, that share nothing -/
def Twob (b : Nat) (w : World) (x y : Value) (l m : List Int) : Prop := OwnB b w x l ∧ OwnB b w y m ∧ ∀ g, x.ownBlock = some g → y.ownBlock ≠ some g
theorem Twob.new {b : Nat} {x y : Value} {l m : List Int} (h : Twob b w x y l m) (n : New w w') : Twob b w' x y l m := ⟨h.1.new n, h.2.1.new n, h.2.2⟩
theorem Twob.swap {b : Nat} {x y : Value} {l m : List Int} (h : Twob b w x y l m) : Twob b w y x m l := ⟨h.2.1, h.1, fun g hy hx => h.2.2 g hx hy⟩
theorem Twob.left {b : Nat} {x y x' : Value} {l m l' : List Int} (h : Twob b w x y l m) (hb : b ≤ w.heap.size) (o : OwnB 0 w' x' l') (k : But (fun g => x.ownBlock = some g) w w') (hx : ∀ g, x'.ownBlock = some g → x.ownBlock = some g ∨ g = w.heap.size) : Twob b w' x' y l' m := by
  refine ⟨o.at fun g hg => ?_, h.2.1.but k (fun g hg c => h.2.2 g c hg), fun g hg hy => ?_⟩
  · rcases hx g hg with e | rfl
    · exact h.1.ge e
    · exact hb
  · rcases hx g hg with e | rfl
    · exact h.2.2 g e hy
    · exact absurd (OwnB.lt h.2.1 hy) (Nat.lt_irrefl _)
theorem Twob.far {b : Nat} {x y : Value} {l m : List Int} {S : Nat → Prop} (h : Twob b w x y l m) (k : But S w w') (hS : ∀ g, S g → g < b) : Twob b w' x y l m :=
  ⟨h.1.but k (fun g hg c => by have := h.1.ge hg; have := hS g c; omega), h.2.1.but k (fun g hg c => by have := h.2.1.ge hg; have := hS g c; omega), h.2.2⟩
theorem Twob.less {b b2 : Nat} {x y : Value} {l m : List Int} (h : Twob b w x y l m) (k : b2 ≤ b) : Twob b2 w x y l m := ⟨h.1.more k, h.2.1.more k, h.2.2⟩
theorem But.set3 {S : Nat → Prop} (w : World) {g : Nat} (k : S g) (x y z : Value) : But S w (((w.setCell ⟨g, 0, none⟩ x).setCell ⟨g, 1, none⟩ y).setCell ⟨g, 2, none⟩ z) :=
  ((But.set w (p := ⟨g, 0, none⟩) k x).trans (But.set _ (p := ⟨g, 1, none⟩) k y)).trans (But.set _ (p := ⟨g, 2, none⟩) k z)
theorem OwnB.step {b : Nat} {x : Value} {l : List Int} (h : OwnB b w x l) {w0 : World} (hb : w0.heap.size ≤ b) (n : New w0 w) (k : But (fun g => x.ownBlock = some g) w w') : New w0 w' :=
  ((But.of_new _ n).trans k).new fun i hi e => by have := h.ge e; omega
theorem Byts.at_ {q : Option Addr} {n cap : Nat} {l : List Int} (h : Byts w (.slice q n cap) l) (j : Nat) (hj : j < l.length) : ∃ a, q = some a ∧ w.cell? (a.add j) = some (.int .u8 (l.getD j 0)) := by
  obtain ⟨p', cap', e, -, hc⟩ := h
  cases e
  exact hc j hj
theorem pr_out (l : List Int) (n j : Nat) (hj : j < n) (hl : j < l.length) : l.take (min (j + 1) n) = l.take (min j n) ++ [l.getD j 0] := by
  rw [Nat.min_eq_left (by omega), Nat.min_eq_left (by omega), List.take_add_one, List.getD_eq_getElem?_getD, List.getElem?_eq_getElem hl]; rfl
theorem pr_out' (l : List Int) (n j : Nat) (hj : ¬ j < n) : l.take (min (j + 1) n) = l.take (min j n) := by
  rw [Nat.min_eq_right (by omega), Nat.min_eq_right (by omega)]
theorem pr_rest (l : List Int) (n j : Nat) (hj : ¬ j < n) (hl : j < l.length) : (l.drop n).take (j + 1 - n) = (l.drop n).take (j - n) ++ [l.getD j 0] := by
  rw [show j + 1 - n = (j - n) + 1 by omega, List.take_add_one, List.getElem?_drop, show n + (j - n) = j by omega, List.getD_eq_getElem?_getD, List.getElem?_eq_getElem hl]; rfl
theorem pr_rest' (l : List Int) (n j : Nat) (hj : j < n) : (l.drop n).take (j + 1 - n) = (l.drop n).take (j - n) := by
  rw [show j + 1 - n = 0 by omega, show j - n = 0 by omega]
def PrdD (p : Pp) (n : Int) (w : World) (e : Ending) (w' : World) : Prop := ∃ vo vr, e = .returned (.tuple #[vo, PpV vr (prP p n), .int .i64 0]) ∧ Twob w.heap.size w' vo vr (prO p n) (prP p n).l ∧ New w w'
set_option maxHeartbeats 4000000 in
theorem rpread_ok (h : Byts w u p.l) (n : Int) (he : prE p n = 0) (hn9 : n ≤ 9223372036854775807) : Calls Tryd.prog 8 #[PpV u p, .int .i64 n] w (PrdD p n w) := by
  have e1 : prO p n = p.l.take n.toNat := by unfold prO; rw [if_pos he]
  have e2 : prP p n = ⟨p.l.drop n.toNat, p.r, p.w⟩ := by unfold prP; rw [if_pos he]
  unfold PrdD
  rw [e1, e2]
  have H0 := Lib.hid h
  obtain ⟨q, cap, rfl⟩ := h.shape
  obtain ⟨l, r, sn⟩ := p
  obtain ⟨E, hE⟩ : ∃ E, E = (w.alloc (.cells #[.slice q l.length cap, .int .i64 r, .int .i64 sn] 24)).alloc (.cells #[.slice none 0 0, .int .i64 0, .int .i64 0] 24) := ⟨_, rfl⟩
  have n0 : New w E := by rw [hE]; exact ((New.refl w).alloc _ _).alloc _ _
  have bA : Box E w.heap.size #[.slice q l.length cap, .int .i64 r, .int .i64 sn] 24 := by rw [hE]; exact (Box.here w _ _ _ rfl).alloc _
  have bZ : Box E (w.heap.size + 1) #[.slice none 0 0, .int .i64 0, .int .i64 0] 24 := by rw [hE]; exact Box.here _ _ _ _ (by rw [World.size_alloc])
  have X := rpmay_any (w := E) (p := ⟨l, r, sn⟩) (h.new n0)
  unfold PpV at X ⊢
  dsimp only at X ⊢
  clear e1 e2
  unfold prE at he
  dsimp only at he
  have hm : piOk l r sn := by
    by_cases c : piOk l r sn
    · exact c
    · rw [if_pos (.inl c)] at he; cases he
  have hn : ¬ n < 0 := fun c => by rw [if_pos (.inr c)] at he; cases he
  have ha : ¬ (0 < n ∧ l = [] ∧ 0 < sn) := fun c => by rw [if_neg (by rintro (q | q); exact q hm; exact hn q), if_pos c] at he; cases he
  rw [decide_eq_true hm] at X
  have hl64 : l.length ≤ 64 := hm.1
  obtain ⟨N, rfl⟩ : ∃ N : Nat, n = (N : Int) := ⟨n.toNat, by omega⟩
  rw [Int.toNat_natCast]
  have d0 : decide ((N : Int) < 0) = false := decide_eq_false hn
  clear he hm hn h
  have WAYS : N = 0 ∨ (0 < N ∧ 0 < l.length) ∨ (0 < N ∧ l.length = 0 ∧ ¬ 0 < sn) := by
    rcases Nat.eq_zero_or_pos N with c | c
    · exact .inl c
    · rcases Nat.eq_zero_or_pos l.length with c2 | c2
      · exact .inr (.inr ⟨c, c2, fun q => ha ⟨by omega, List.eq_nil_of_length_eq_zero c2, q⟩⟩)
      · exact .inr (.inl ⟨c, c2⟩)
  clear ha
  generalize hL : l.length = L at *
  have HL := Lib.hid hL
  clear hL
  rcases WAYS with y1 | ⟨y1, y2⟩ | ⟨y1, y2, y3⟩
  · have z1 : decide (0 < N) = false := decide_eq_false (by omega)
    have z4 : decide ((0 : Int) < (N : Int)) = false := decide_eq_false (by omega)
    clear y1
    go_enter Tryd.func8, Tryd.ntmps8
    go_wp2_with fail
    rw [← hE]
    refine X.mono ?_
    rintro e w1 ⟨rfl, n1⟩
    have n2 := n0.trans n1
    have sz := n0.size
    have sz1 := n1.size
    have lE : w.heap.size + 1 < E.heap.size := bZ.lt
    have BA := Lib.hid (bA.new n1)
    have BZ := Lib.hid (bZ.new n1)
    have N2 := Lib.hid n2
    obtain ⟨la, a0, a1, a2, f0, f1, f2⟩ := (bA.new n1).three'
    clear X hE bA bZ n1 n0
    go_wp2
    clear z1 z4 a0 a1 a2 f0 f1 f2 la
    go_loopg [7, 8, 9] L (fun k o rs i wr => ∃ j : Nat, j + k = L ∧ i = .int .i64 (j : Int) ∧ Twob w1.heap.size wr o rs (l.take (min j N)) ((l.drop N).take (j - N)) ∧ New w1 wr)
    case atStart => exact ⟨0, by omega, rfl, by rw [Nat.zero_min, Nat.zero_sub, List.take_zero, List.take_zero]; exact ⟨OwnB.nil _ _, OwnB.nil _ _, fun g hg => by cases hg⟩, New.refl _⟩
    case round =>
      obtain ⟨j, hj, rfl, hT, hN⟩ := hrel
      have J := Lib.hid hj
      have nw := N2.out.trans hN
      have hs2 := hN.size
      obtain ⟨la, a0, a1, a2, f0, f1, f2⟩ := (BA.out.new hN).three'
      obtain ⟨lz, z0, z1, z2, g0, g1, g2⟩ := (BZ.out.new hN).three'
      have hL := HL.out
      by_cases c : j < L
      · obtain ⟨ad, rfl, cx⟩ := (H0.out.at_ j (by omega))
        have cx := nw.keeps cx
        generalize hy : l.getD j 0 = y at *
        have HY := Lib.hid hy
        have by1 : Byts (wr.alloc (.cells #[.int .u8 y] 5)) (.slice (some ⟨wr.heap.size, 0, none⟩) 1 1) [y] := byts_of_block (l := [y]) (heap_alloc_new wr _) (by simp [maxLen])
        have hT1 := hT.new ((New.refl wr).alloc #[.int .u8 y] 5)
        have hN1 := hN.alloc #[.int .u8 y] 5
        have hb1 : w1.heap.size ≤ (wr.alloc (.cells #[.int .u8 y] 5)).heap.size := hN1.size
        have HT := Lib.hid hT1
        have HN := Lib.hid hN1
        clear hT hT1 hN hj hL hy hN1
        by_cases cn : j < N
        · go_wp2_with (first
            | ((with_reducible refine at_slot 49 ?_); refine wpList_app_b rfl _ _ rfl rfl _ _ rfl (HT.out.1.more (Nat.zero_le _)) _ [y] rfl by1 (by rw [List.length_take, List.length_singleton]; have := HL.out; omega) ?_))
          intro v3 w3 o3 k3 x3
          have hT3 := HT.out.left hb1 o3 k3 (fun g hg => (x3 g hg).imp id (fun e => by rw [e]; simp))
          have hN3 : New w1 w3 := HT.out.1.step (Nat.le_refl _) HN.out k3
          have r1 := pr_out l N j cn (by have := HL.out; omega)
          have r2 := pr_rest' l N j cn
          rw [HY.out] at r1
          rw [← r1, ← r2] at hT3
          have HT3 := Lib.hid hT3
          have HN3 := Lib.hid hN3
          clear hT3 hN3 o3 k3 x3 r1 r2 by1 hb1 a0 a1 a2 f0 f1 f2 z0 z1 z2 g0 g1 g2 cx
          go_wp2
          go_roundg (L - (j + 1))
          case measure => have := J.out; omega
          case rel => exact ⟨j + 1, by have := J.out; omega, by go_num, HT3.out, HN3.out⟩
        · go_wp2_with (first
            | ((with_reducible refine at_slot 57 ?_); refine wpList_app_b rfl _ _ rfl rfl _ _ rfl (HT.out.2.1.more (Nat.zero_le _)) _ [y] rfl by1 (by rw [List.length_take, List.length_drop, List.length_singleton]; have := HL.out; omega) ?_))
          intro v3 w3 o3 k3 x3
          have hT3 := (HT.out.swap.left hb1 o3 k3 (fun g hg => (x3 g hg).imp id (fun e => by rw [e]; simp))).swap
          have hN3 : New w1 w3 := HT.out.2.1.step (Nat.le_refl _) HN.out k3
          have r1 := pr_rest l N j cn (by have := HL.out; omega)
          have r2 := pr_out' l N j cn
          rw [HY.out] at r1
          rw [← r1, ← r2] at hT3
          have HT3 := Lib.hid hT3
          have HN3 := Lib.hid hN3
          clear hT3 hN3 o3 k3 x3 r1 r2 by1 hb1 a0 a1 a2 f0 f1 f2 z0 z1 z2 g0 g1 g2 cx
          go_wp2
          go_roundg (L - (j + 1))
          case measure => have := J.out; omega
          case rel => exact ⟨j + 1, by have := J.out; omega, by go_num, HT3.out, HN3.out⟩
      · have hjl : j = L := by have := J.out; omega
        subst hjl
        have e1 : l.take (min j N) = l.take N := by
          rcases Nat.le_total N j with q | q
          · rw [Nat.min_eq_right q]
          · rw [Nat.min_eq_left q, List.take_of_length_le (by omega), List.take_of_length_le (by omega)]
        have e2 : (l.drop N).take (j - N) = l.drop N := List.take_of_length_le (by rw [List.length_drop]; omega)
        rw [e1, e2] at hT
        have e3 : decide ((j : Int) < (j : Int)) = false := by simp
        obtain ⟨pr, cr, rfl⟩ := hT.2.1.shape
        have BZ2 := ((BZ.out.new hN).other (p := ⟨w.heap.size, 0, none⟩) (by show w.heap.size ≠ _; omega) (.slice pr (l.drop N).length cr)).set3 (.slice pr (l.drop N).length cr) (.int .i64 r) (.int .i64 sn)
        have NN := (nw.setCell (p := ⟨w.heap.size, 0, none⟩) (Nat.le_refl _) (.slice pr (l.drop N).length cr)).set3 (g := w.heap.size + 1) (by omega) (.slice pr (l.drop N).length cr) (.int .i64 r) (.int .i64 sn)
        have TT := ((hT.far (S := fun g => g = w.heap.size) (But.set (S := fun g => g = w.heap.size) _ (p := ⟨w.heap.size, 0, none⟩) rfl (.slice pr (l.drop N).length cr)) (fun g e => by omega)).far (S := fun g => g = w.heap.size + 1) (But.set3 (S := fun g => g = w.heap.size + 1) _ rfl (.slice pr (l.drop N).length cr) (.int .i64 r) (.int .i64 sn)) (fun g e => by omega)).less (b2 := w.heap.size) (by omega)
        have END := Lib.hid (And.intro BZ2 (And.intro NN TT))
        clear BZ2 NN TT hT hN nw J hj e1 e2 hL
        generalize (l.drop N).length = nr at *
        go_wp2
        go_region
        all_goals
          rename_i hret
          refine hret _ _ (wp_ret ?_)
          obtain ⟨Z, NN, TT⟩ := END.out
          have Z := Z.new (New.refl _).drew
          have HR := Z.rpi
          exact bodyPost_ret (v := .tuple #[u7, .agg #[.slice pr nr cr, .int .i64 r, .int .i64 sn], .int .i64 0]) (by simp [results, Tryd.results8, asAddr, HR]) rfl ⟨_, _, rfl, TT.new (New.refl _).drew, NN.drew⟩
  · have z1 : decide (0 < N) = true := decide_eq_true y1
    have z2 : (L == 0) = false := by simp; omega
    have z3 : ((L : Int) == 0) = false := by simp; omega
    have z4 : decide ((0 : Int) < (N : Int)) = true := decide_eq_true (by omega)
    clear y1 y2
    go_enter Tryd.func8, Tryd.ntmps8
    go_wp2_with fail
    rw [← hE]
    refine X.mono ?_
    rintro e w1 ⟨rfl, n1⟩
    have n2 := n0.trans n1
    have sz := n0.size
    have sz1 := n1.size
    have lE : w.heap.size + 1 < E.heap.size := bZ.lt
    have BA := Lib.hid (bA.new n1)
    have BZ := Lib.hid (bZ.new n1)
    have N2 := Lib.hid n2
    obtain ⟨la, a0, a1, a2, f0, f1, f2⟩ := (bA.new n1).three'
    clear X hE bA bZ n1 n0
    go_wp2
    clear z1 z4 a0 a1 a2 f0 f1 f2 la
    go_loopg [7, 8, 9] L (fun k o rs i wr => ∃ j : Nat, j + k = L ∧ i = .int .i64 (j : Int) ∧ Twob w1.heap.size wr o rs (l.take (min j N)) ((l.drop N).take (j - N)) ∧ New w1 wr)
    case atStart => exact ⟨0, by omega, rfl, by rw [Nat.zero_min, Nat.zero_sub, List.take_zero, List.take_zero]; exact ⟨OwnB.nil _ _, OwnB.nil _ _, fun g hg => by cases hg⟩, New.refl _⟩
    case round =>
      obtain ⟨j, hj, rfl, hT, hN⟩ := hrel
      have J := Lib.hid hj
      have nw := N2.out.trans hN
      have hs2 := hN.size
      obtain ⟨la, a0, a1, a2, f0, f1, f2⟩ := (BA.out.new hN).three'
      obtain ⟨lz, z0, z1, z2, g0, g1, g2⟩ := (BZ.out.new hN).three'
      have hL := HL.out
      by_cases c : j < L
      · obtain ⟨ad, rfl, cx⟩ := (H0.out.at_ j (by omega))
        have cx := nw.keeps cx
        generalize hy : l.getD j 0 = y at *
        have HY := Lib.hid hy
        have by1 : Byts (wr.alloc (.cells #[.int .u8 y] 5)) (.slice (some ⟨wr.heap.size, 0, none⟩) 1 1) [y] := byts_of_block (l := [y]) (heap_alloc_new wr _) (by simp [maxLen])
        have hT1 := hT.new ((New.refl wr).alloc #[.int .u8 y] 5)
        have hN1 := hN.alloc #[.int .u8 y] 5
        have hb1 : w1.heap.size ≤ (wr.alloc (.cells #[.int .u8 y] 5)).heap.size := hN1.size
        have HT := Lib.hid hT1
        have HN := Lib.hid hN1
        clear hT hT1 hN hj hL hy hN1
        by_cases cn : j < N
        · go_wp2_with (first
            | ((with_reducible refine at_slot 49 ?_); refine wpList_app_b rfl _ _ rfl rfl _ _ rfl (HT.out.1.more (Nat.zero_le _)) _ [y] rfl by1 (by rw [List.length_take, List.length_singleton]; have := HL.out; omega) ?_))
          intro v3 w3 o3 k3 x3
          have hT3 := HT.out.left hb1 o3 k3 (fun g hg => (x3 g hg).imp id (fun e => by rw [e]; simp))
          have hN3 : New w1 w3 := HT.out.1.step (Nat.le_refl _) HN.out k3
          have r1 := pr_out l N j cn (by have := HL.out; omega)
          have r2 := pr_rest' l N j cn
          rw [HY.out] at r1
          rw [← r1, ← r2] at hT3
          have HT3 := Lib.hid hT3
          have HN3 := Lib.hid hN3
          clear hT3 hN3 o3 k3 x3 r1 r2 by1 hb1 a0 a1 a2 f0 f1 f2 z0 z1 z2 g0 g1 g2 cx
          go_wp2
          go_roundg (L - (j + 1))
          case measure => have := J.out; omega
          case rel => exact ⟨j + 1, by have := J.out; omega, by go_num, HT3.out, HN3.out⟩
        · go_wp2_with (first
            | ((with_reducible refine at_slot 57 ?_); refine wpList_app_b rfl _ _ rfl rfl _ _ rfl (HT.out.2.1.more (Nat.zero_le _)) _ [y] rfl by1 (by rw [List.length_take, List.length_drop, List.length_singleton]; have := HL.out; omega) ?_))
          intro v3 w3 o3 k3 x3
          have hT3 := (HT.out.swap.left hb1 o3 k3 (fun g hg => (x3 g hg).imp id (fun e => by rw [e]; simp))).swap
          have hN3 : New w1 w3 := HT.out.2.1.step (Nat.le_refl _) HN.out k3
          have r1 := pr_rest l N j cn (by have := HL.out; omega)
          have r2 := pr_out' l N j cn
          rw [HY.out] at r1
          rw [← r1, ← r2] at hT3
          have HT3 := Lib.hid hT3
          have HN3 := Lib.hid hN3
          clear hT3 hN3 o3 k3 x3 r1 r2 by1 hb1 a0 a1 a2 f0 f1 f2 z0 z1 z2 g0 g1 g2 cx
          go_wp2
          go_roundg (L - (j + 1))
          case measure => have := J.out; omega
          case rel => exact ⟨j + 1, by have := J.out; omega, by go_num, HT3.out, HN3.out⟩
      · have hjl : j = L := by have := J.out; omega
        subst hjl
        have e1 : l.take (min j N) = l.take N := by
          rcases Nat.le_total N j with q | q
          · rw [Nat.min_eq_right q]
          · rw [Nat.min_eq_left q, List.take_of_length_le (by omega), List.take_of_length_le (by omega)]
        have e2 : (l.drop N).take (j - N) = l.drop N := List.take_of_length_le (by rw [List.length_drop]; omega)
        rw [e1, e2] at hT
        have e3 : decide ((j : Int) < (j : Int)) = false := by simp
        obtain ⟨pr, cr, rfl⟩ := hT.2.1.shape
        have BZ2 := ((BZ.out.new hN).other (p := ⟨w.heap.size, 0, none⟩) (by show w.heap.size ≠ _; omega) (.slice pr (l.drop N).length cr)).set3 (.slice pr (l.drop N).length cr) (.int .i64 r) (.int .i64 sn)
        have NN := (nw.setCell (p := ⟨w.heap.size, 0, none⟩) (Nat.le_refl _) (.slice pr (l.drop N).length cr)).set3 (g := w.heap.size + 1) (by omega) (.slice pr (l.drop N).length cr) (.int .i64 r) (.int .i64 sn)
        have TT := ((hT.far (S := fun g => g = w.heap.size) (But.set (S := fun g => g = w.heap.size) _ (p := ⟨w.heap.size, 0, none⟩) rfl (.slice pr (l.drop N).length cr)) (fun g e => by omega)).far (S := fun g => g = w.heap.size + 1) (But.set3 (S := fun g => g = w.heap.size + 1) _ rfl (.slice pr (l.drop N).length cr) (.int .i64 r) (.int .i64 sn)) (fun g e => by omega)).less (b2 := w.heap.size) (by omega)
        have END := Lib.hid (And.intro BZ2 (And.intro NN TT))
        clear BZ2 NN TT hT hN nw J hj e1 e2 hL
        generalize (l.drop N).length = nr at *
        go_wp2
        go_region
        all_goals
          rename_i hret
          refine hret _ _ (wp_ret ?_)
          obtain ⟨Z, NN, TT⟩ := END.out
          have Z := Z.new (New.refl _).drew
          have HR := Z.rpi
          exact bodyPost_ret (v := .tuple #[u7, .agg #[.slice pr nr cr, .int .i64 r, .int .i64 sn], .int .i64 0]) (by simp [results, Tryd.results8, asAddr, HR]) rfl ⟨_, _, rfl, TT.new (New.refl _).drew, NN.drew⟩
  · have z1 : decide (0 < N) = true := decide_eq_true y1
    have z2 : (L == 0) = true := by simp; omega
    have z3 : ((L : Int) == 0) = true := by simp; omega
    have z4 : decide ((0 : Int) < (N : Int)) = true := decide_eq_true (by omega)
    have z5 : decide (0 < sn) = false := decide_eq_false y3
    clear y1 y2 y3
    go_enter Tryd.func8, Tryd.ntmps8
    go_wp2_with fail
    rw [← hE]
    refine X.mono ?_
    rintro e w1 ⟨rfl, n1⟩
    have n2 := n0.trans n1
    have sz := n0.size
    have sz1 := n1.size
    have lE : w.heap.size + 1 < E.heap.size := bZ.lt
    have BA := Lib.hid (bA.new n1)
    have BZ := Lib.hid (bZ.new n1)
    have N2 := Lib.hid n2
    obtain ⟨la, a0, a1, a2, f0, f1, f2⟩ := (bA.new n1).three'
    clear X hE bA bZ n1 n0
    go_wp2
    clear z1 z4 a0 a1 a2 f0 f1 f2 la
    go_loopg [7, 8, 9] L (fun k o rs i wr => ∃ j : Nat, j + k = L ∧ i = .int .i64 (j : Int) ∧ Twob w1.heap.size wr o rs (l.take (min j N)) ((l.drop N).take (j - N)) ∧ New w1 wr)
    case atStart => exact ⟨0, by omega, rfl, by rw [Nat.zero_min, Nat.zero_sub, List.take_zero, List.take_zero]; exact ⟨OwnB.nil _ _, OwnB.nil _ _, fun g hg => by cases hg⟩, New.refl _⟩
    case round =>
      obtain ⟨j, hj, rfl, hT, hN⟩ := hrel
      have J := Lib.hid hj
      have nw := N2.out.trans hN
      have hs2 := hN.size
      obtain ⟨la, a0, a1, a2, f0, f1, f2⟩ := (BA.out.new hN).three'
      obtain ⟨lz, z0, z1, z2, g0, g1, g2⟩ := (BZ.out.new hN).three'
      have hL := HL.out
      by_cases c : j < L
      · obtain ⟨ad, rfl, cx⟩ := (H0.out.at_ j (by omega))
        have cx := nw.keeps cx
        generalize hy : l.getD j 0 = y at *
        have HY := Lib.hid hy
        have by1 : Byts (wr.alloc (.cells #[.int .u8 y] 5)) (.slice (some ⟨wr.heap.size, 0, none⟩) 1 1) [y] := byts_of_block (l := [y]) (heap_alloc_new wr _) (by simp [maxLen])
        have hT1 := hT.new ((New.refl wr).alloc #[.int .u8 y] 5)
        have hN1 := hN.alloc #[.int .u8 y] 5
        have hb1 : w1.heap.size ≤ (wr.alloc (.cells #[.int .u8 y] 5)).heap.size := hN1.size
        have HT := Lib.hid hT1
        have HN := Lib.hid hN1
        clear hT hT1 hN hj hL hy hN1
        by_cases cn : j < N
        · go_wp2_with (first
            | ((with_reducible refine at_slot 49 ?_); refine wpList_app_b rfl _ _ rfl rfl _ _ rfl (HT.out.1.more (Nat.zero_le _)) _ [y] rfl by1 (by rw [List.length_take, List.length_singleton]; have := HL.out; omega) ?_))
          intro v3 w3 o3 k3 x3
          have hT3 := HT.out.left hb1 o3 k3 (fun g hg => (x3 g hg).imp id (fun e => by rw [e]; simp))
          have hN3 : New w1 w3 := HT.out.1.step (Nat.le_refl _) HN.out k3
          have r1 := pr_out l N j cn (by have := HL.out; omega)
          have r2 := pr_rest' l N j cn
          rw [HY.out] at r1
          rw [← r1, ← r2] at hT3
          have HT3 := Lib.hid hT3
          have HN3 := Lib.hid hN3
          clear hT3 hN3 o3 k3 x3 r1 r2 by1 hb1 a0 a1 a2 f0 f1 f2 z0 z1 z2 g0 g1 g2 cx
          go_wp2
          go_roundg (L - (j + 1))
          case measure => have := J.out; omega
          case rel => exact ⟨j + 1, by have := J.out; omega, by go_num, HT3.out, HN3.out⟩
        · go_wp2_with (first
            | ((with_reducible refine at_slot 57 ?_); refine wpList_app_b rfl _ _ rfl rfl _ _ rfl (HT.out.2.1.more (Nat.zero_le _)) _ [y] rfl by1 (by rw [List.length_take, List.length_drop, List.length_singleton]; have := HL.out; omega) ?_))
          intro v3 w3 o3 k3 x3
          have hT3 := (HT.out.swap.left hb1 o3 k3 (fun g hg => (x3 g hg).imp id (fun e => by rw [e]; simp))).swap
          have hN3 : New w1 w3 := HT.out.2.1.step (Nat.le_refl _) HN.out k3
          have r1 := pr_rest l N j cn (by have := HL.out; omega)
          have r2 := pr_out' l N j cn
          rw [HY.out] at r1
          rw [← r1, ← r2] at hT3
          have HT3 := Lib.hid hT3
          have HN3 := Lib.hid hN3
          clear hT3 hN3 o3 k3 x3 r1 r2 by1 hb1 a0 a1 a2 f0 f1 f2 z0 z1 z2 g0 g1 g2 cx
          go_wp2
          go_roundg (L - (j + 1))
          case measure => have := J.out; omega
          case rel => exact ⟨j + 1, by have := J.out; omega, by go_num, HT3.out, HN3.out⟩
      · have hjl : j = L := by have := J.out; omega
        subst hjl
        have e1 : l.take (min j N) = l.take N := by
          rcases Nat.le_total N j with q | q
          · rw [Nat.min_eq_right q]
          · rw [Nat.min_eq_left q, List.take_of_length_le (by omega), List.take_of_length_le (by omega)]
        have e2 : (l.drop N).take (j - N) = l.drop N := List.take_of_length_le (by rw [List.length_drop]; omega)
        rw [e1, e2] at hT
        have e3 : decide ((j : Int) < (j : Int)) = false := by simp
        obtain ⟨pr, cr, rfl⟩ := hT.2.1.shape
        have BZ2 := ((BZ.out.new hN).other (p := ⟨w.heap.size, 0, none⟩) (by show w.heap.size ≠ _; omega) (.slice pr (l.drop N).length cr)).set3 (.slice pr (l.drop N).length cr) (.int .i64 r) (.int .i64 sn)
        have NN := (nw.setCell (p := ⟨w.heap.size, 0, none⟩) (Nat.le_refl _) (.slice pr (l.drop N).length cr)).set3 (g := w.heap.size + 1) (by omega) (.slice pr (l.drop N).length cr) (.int .i64 r) (.int .i64 sn)
        have TT := ((hT.far (S := fun g => g = w.heap.size) (But.set (S := fun g => g = w.heap.size) _ (p := ⟨w.heap.size, 0, none⟩) rfl (.slice pr (l.drop N).length cr)) (fun g e => by omega)).far (S := fun g => g = w.heap.size + 1) (But.set3 (S := fun g => g = w.heap.size + 1) _ rfl (.slice pr (l.drop N).length cr) (.int .i64 r) (.int .i64 sn)) (fun g e => by omega)).less (b2 := w.heap.size) (by omega)
        have END := Lib.hid (And.intro BZ2 (And.intro NN TT))
        clear BZ2 NN TT hT hN nw J hj e1 e2 hL
        generalize (l.drop N).length = nr at *
        go_wp2
        go_region
        all_goals
          rename_i hret
          refine hret _ _ (wp_ret ?_)
          obtain ⟨Z, NN, TT⟩ := END.out
          have Z := Z.new (New.refl _).drew
          have HR := Z.rpi
          exact bodyPost_ret (v := .tuple #[u7, .agg #[.slice pr nr cr, .int .i64 r, .int .i64 sn], .int .i64 0]) (by simp [results, Tryd.results8, asAddr, HR]) rfl ⟨_, _, rfl, TT.new (New.refl _).drew, NN.drew⟩
end
end Go.Proofs.YtdoppkeaidemgaaDoor
