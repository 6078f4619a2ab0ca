/- The document's pipes: Write, what is answered. -/
import Derived.Test.YtdoppkeaidemgaaDoorPiU
namespace Go.Proofs.YtdoppkeaidemgaaDoor
open Go.RowKit
set_option linter.unusedVariables false
set_option maxRecDepth 100000
section
variable {w w' : World} {u : Value} {p : Pp}
theorem OwnB.asid {b : Nat} {x : Value} {l : List Int} {S : Nat → Prop} (h : OwnB b w x l) (k : But S w w') (hS : ∀ g, S g → g < b) : OwnB b w' x l := h.but k fun g hg c => by have := h.ge hg; have := hS g c; omega
theorem pw_push (b : List Int) (j : Nat) (hj : j < b.length) : b.take (j + 1) = b.take j ++ [b.getD j 0] := by
  rw [List.take_add_one, List.getD_eq_getElem?_getD, List.getElem?_eq_getElem hj]; rfl
def PwrD (p : Pp) (b : List Int) (w : World) (e : Ending) (w' : World) : Prop := ∃ vr, e = .returned (.tuple #[.int .i64 (pwK p b), PpV vr (pwP p b), .int .i64 0]) ∧ OwnB w.heap.size w' vr (pwP p b).l ∧ New w w'
set_option maxHeartbeats 4000000 in
theorem rpwrite_ok (h : Byts w u p.l) {v : Value} {b : List Int} (hb : Byts w v b) (he : pwE p b = 0) (hb9 : b.length ≤ 1000000) : Calls Tryd.prog 10 #[PpV u p, v] w (PwrD p b w) := by
  have e1 : pwK p b = (pwB p b).length := by unfold pwK; rw [if_pos he]
  have e2 : pwP p b = ⟨p.l ++ pwB p b, p.r, p.w⟩ := by unfold pwP; rw [if_pos he]
  unfold PwrD
  rw [e1, e2]
  unfold pwB
  have H0 := Lib.hid h
  have HB := Lib.hid hb
  obtain ⟨q2, cap2, rfl⟩ := hb.shape
  obtain ⟨q, cap, rfl⟩ := h.shape
  obtain ⟨l, r, sn⟩ := p
  obtain ⟨E, hE⟩ : ∃ E, E = (w.alloc (.cells #[.slice q l.length cap, .int .i64 r, .int .i64 sn] 24)).alloc (.cells #[.slice none 0 0, .int .i64 0, .int .i64 0] 24) := ⟨_, rfl⟩
  have n0 : New w E := by rw [hE]; exact ((New.refl w).alloc _ _).alloc _ _
  have bA : Box E w.heap.size #[.slice q l.length cap, .int .i64 r, .int .i64 sn] 24 := by rw [hE]; exact (Box.here w _ _ _ rfl).alloc _
  have bZ : Box E (w.heap.size + 1) #[.slice none 0 0, .int .i64 0, .int .i64 0] 24 := by rw [hE]; exact Box.here _ _ _ _ (by rw [World.size_alloc])
  have X := rpmay_any (w := E) (p := ⟨l, r, sn⟩) (h.new n0)
  unfold PpV at X ⊢
  dsimp only at X ⊢
  clear e1 e2
  unfold pwE at he
  dsimp only at he
  have hm : piOk l r sn := by
    by_cases c : piOk l r sn
    · exact c
    · rw [if_pos c] at he; cases he
  rw [if_neg (fun c => c hm)] at he
  have hr : ¬ r = 0 := fun c => by rw [if_pos c] at he; cases he
  rw [if_neg hr] at he
  have ha : ¬ (b ≠ [] ∧ l.length = 64) := fun c => by rw [if_pos c] at he; cases he
  rw [decide_eq_true hm] at X
  have hl64 : l.length ≤ 64 := hm.1
  have hr2 : (r == (0 : Int)) = false := by simpa using hr
  clear he hm h hb hr
  have WAYS : b.length = 0 ∨ (0 < b.length ∧ ¬ l.length = 64) := by
    rcases Nat.eq_zero_or_pos b.length with c | c
    · exact .inl c
    · exact .inr ⟨c, fun q => ha ⟨fun e => by rw [e] at c; simp at c, q⟩⟩
  clear ha
  obtain ⟨T, hT⟩ : ∃ T, T = b.take (64 - l.length) := ⟨_, rfl⟩
  rw [← hT]
  have HT := Lib.hid hT
  clear hT
  generalize hL : l.length = L at *
  generalize hM : b.length = M at *
  have HL := Lib.hid hL
  have HM := Lib.hid hM
  clear hL hM
  rcases WAYS with y1 | ⟨y1, y2⟩
  · have z1 : decide (0 < M) = false := decide_eq_false (by omega)
    have z4 : decide ((0 : Int) < (M : Int)) = false := decide_eq_false (by omega)
    clear y1
    go_enter Tryd.func10, Tryd.ntmps10
    go_wp2_with fail
    rw [← hE]
    refine X.mono ?_
    rintro e w1 ⟨rfl, n1⟩
    have n2 := n0.trans n1
    have sz := n0.size
    have sz1 := n1.size
    have lE : w.heap.size + 1 < E.heap.size := bZ.lt
    have BA := Lib.hid (bA.new n1)
    have BZ := Lib.hid (bZ.new n1)
    have N2 := Lib.hid n2
    obtain ⟨la, a0, a1, a2, f0, f1, f2⟩ := (bA.new n1).three'
    clear X hE bA bZ n1 n0
    go_wp2_with (first
      | ((with_reducible refine at_slot 30 ?_); refine wpList_app_b rfl _ _ rfl rfl _ [] rfl (OwnB.nil 0 w1) _ l rfl (H0.out.new N2.out) (by have := HL.out; simp; omega) ?_))
    intro v2 w2 o2 k2 x2
    have o3 : OwnB w1.heap.size w2 v2 l := o2.at fun g hg => by rcases x2 g hg with e | e; cases e; omega
    have n3 : New w1 w2 := k2.new fun i hi e => by cases e
    clear o2 k2 x2 z1 z4 a0 a1 a2 f0 f1 f2 la
    go_wp2_with fail
    go_loopg [7, 8] M (fun k o i wr => ∃ j : Nat, j + k = M ∧ i = .int .i64 (j : Int) ∧ L + j ≤ 64 ∧ OwnB w1.heap.size wr o (l ++ b.take j) ∧ New w1 wr)
    case atStart => exact ⟨0, by omega, rfl, by omega, by rw [List.take_zero, List.append_nil]; exact o3, n3⟩
    case round =>
      obtain ⟨j, hj, rfl, hj2, hT, hN⟩ := hrel
      have J := Lib.hid hj
      have nw := N2.out.trans hN
      have hs2 := hN.size
      obtain ⟨la, a0, a1, a2, f0, f1, f2⟩ := (BA.out.new hN).three'
      obtain ⟨lz, z0, z1, z2, g0, g1, g2⟩ := (BZ.out.new hN).three'
      have hL := HL.out
      have hM := HM.out
      have hlen : (l ++ b.take j).length = L + j := by rw [List.length_append, List.length_take]; omega
      obtain ⟨po, co, hv⟩ := hT.shape
      rw [hlen] at hv
      subst hv
      by_cases c : j < M ∧ L + j < 64
      · obtain ⟨c, c2⟩ := c
        obtain ⟨ad, rfl, cx⟩ := (HB.out.at_ j (by omega))
        have cx := nw.keeps cx
        generalize hy : b.getD j 0 = y at *
        have HY := Lib.hid hy
        have by1 : Byts (wr.alloc (.cells #[.int .u8 y] 5)) (.slice (some ⟨wr.heap.size, 0, none⟩) 1 1) [y] := byts_of_block (l := [y]) (heap_alloc_new wr _) (by simp [maxLen])
        have hT1 := hT.new ((New.refl wr).alloc #[.int .u8 y] 5)
        have hN1 := hN.alloc #[.int .u8 y] 5
        have hb1 : w1.heap.size ≤ (wr.alloc (.cells #[.int .u8 y] 5)).heap.size := hN1.size
        have HTT := Lib.hid hT1
        have HN := Lib.hid hN1
        clear hT hT1 hN hj hL hM hy hN1
        have HLEN := Lib.hid hlen
        clear hlen
        have d1 : decide ((L : Int) + (j : Int) < 64) = true := decide_eq_true (by omega)
        have d2 : decide (L + j < 64) = true := decide_eq_true (by omega)
        go_wp2_with (first
          | ((with_reducible refine at_slot 46 ?_); refine wpList_app_b rfl _ _ rfl rfl _ (l ++ b.take j) rfl (HTT.out.more (Nat.zero_le _)) _ [y] rfl by1 (by rw [HLEN.out, List.length_singleton]; omega) ?_))
        intro v3 w3 o3 k3 x3
        have hT3 : OwnB w1.heap.size w3 v3 (l ++ (b.take j ++ [y])) := o3.at fun g hg => by
          rcases x3 g hg with e | e
          · exact HTT.out.ge e
          · rw [e]; omega
        have hN3 : New w1 w3 := HTT.out.step (Nat.le_refl _) HN.out k3
        have r1 := pw_push b j (by have := HM.out; omega)
        rw [HY.out] at r1
        rw [← r1] at hT3
        have HT3 := Lib.hid hT3
        have HN3 := Lib.hid hN3
        clear hT3 hN3 o3 k3 x3 r1 by1 hb1 a0 a1 a2 f0 f1 f2 z0 z1 z2 g0 g1 g2 cx d1 d2
        go_wp2
        go_roundg (M - (j + 1))
        case measure => have := J.out; omega
        case rel => exact ⟨j + 1, by have := J.out; omega, by go_num, by omega, HT3.out, HN3.out⟩
      · have e1 : T = b.take j := by
          rw [HT.out]
          rcases Nat.lt_or_ge j M with q | q
          · rw [show 64 - L = j by omega]
          · rw [List.take_of_length_le (by omega), List.take_of_length_le (by omega)]
        have e2 : (b.take j).length = j := by rw [List.length_take]; omega
        have E1 := Lib.hid e1
        have E2 := Lib.hid e2
        generalize b.take j = tk at *
        have ee : decide (j < M) = false ∨ (decide (j < M) = true ∧ L + j = 64) := by
          rcases Nat.lt_or_ge j M with q | q
          · exact .inr ⟨decide_eq_true q, by omega⟩
          · exact .inl (decide_eq_false (by omega))
        have BZ2 := ((BZ.out.new hN).other (p := ⟨w.heap.size, 0, none⟩) (by show w.heap.size ≠ _; omega) (.slice po (L + j) co)).set3 (.slice po (L + j) co) (.int .i64 r) (.int .i64 sn)
        have NN := (nw.setCell (p := ⟨w.heap.size, 0, none⟩) (Nat.le_refl _) (.slice po (L + j) co)).set3 (g := w.heap.size + 1) (by omega) (.slice po (L + j) co) (.int .i64 r) (.int .i64 sn)
        have TT := ((hT.asid (S := fun g => g = w.heap.size) (But.set (S := fun g => g = w.heap.size) _ (p := ⟨w.heap.size, 0, none⟩) rfl (.slice po (L + j) co)) (fun g e => by omega)).asid (S := fun g => g = w.heap.size + 1) (But.set3 (S := fun g => g = w.heap.size + 1) _ rfl (.slice po (L + j) co) (.int .i64 r) (.int .i64 sn)) (fun g e => by omega)).more (base' := w.heap.size) (by omega)
        have END := Lib.hid (And.intro BZ2 (And.intro NN TT))
        clear BZ2 NN TT hT hN nw J hj e1 e2 hL c hM hlen
        rcases ee with y1 | ⟨y1, y2⟩
        case' inl =>
          have y3 : decide ((j : Int) < (M : Int)) = false := decide_eq_false (by have := of_decide_eq_false y1; omega)
        case' inr =>
          have y3 : decide ((j : Int) < (M : Int)) = true := decide_eq_true (by have := of_decide_eq_true y1; omega)
          have y4 : decide (((L + j : Nat) : Int) < 64) = false := decide_eq_false (by omega)
          have y5 : decide (L + j < 64) = false := decide_eq_false (by omega)
          clear y2
        all_goals
          generalize hnr : L + j = nr at *
          go_wp2
          go_region
          all_goals
            rename_i hret
            refine hret _ _ (wp_ret ?_)
            obtain ⟨Z, NN, TT⟩ := END.out
            have Z := Z.new (New.refl _).drew
            have HR := Z.rpi
            exact bodyPost_ret (v := .tuple #[.int .i64 (j : Int), .agg #[.slice po nr co, .int .i64 r, .int .i64 sn], .int .i64 0]) (by simp [results, Tryd.results10, asAddr, HR]) rfl ⟨_, by rw [E1.out, E2.out], by rw [E1.out]; exact TT.new (New.refl _).drew, NN.drew⟩
  · have z1 : decide (0 < M) = true := decide_eq_true y1
    have z4 : decide ((0 : Int) < (M : Int)) = true := decide_eq_true (by omega)
    have z2 : (L == 64) = false := by simp; omega
    have z3 : ((L : Int) == 64) = false := by simp; omega
    clear y1 y2
    go_enter Tryd.func10, Tryd.ntmps10
    go_wp2_with fail
    rw [← hE]
    refine X.mono ?_
    rintro e w1 ⟨rfl, n1⟩
    have n2 := n0.trans n1
    have sz := n0.size
    have sz1 := n1.size
    have lE : w.heap.size + 1 < E.heap.size := bZ.lt
    have BA := Lib.hid (bA.new n1)
    have BZ := Lib.hid (bZ.new n1)
    have N2 := Lib.hid n2
    obtain ⟨la, a0, a1, a2, f0, f1, f2⟩ := (bA.new n1).three'
    clear X hE bA bZ n1 n0
    go_wp2_with (first
      | ((with_reducible refine at_slot 30 ?_); refine wpList_app_b rfl _ _ rfl rfl _ [] rfl (OwnB.nil 0 w1) _ l rfl (H0.out.new N2.out) (by have := HL.out; simp; omega) ?_))
    intro v2 w2 o2 k2 x2
    have o3 : OwnB w1.heap.size w2 v2 l := o2.at fun g hg => by rcases x2 g hg with e | e; cases e; omega
    have n3 : New w1 w2 := k2.new fun i hi e => by cases e
    clear o2 k2 x2 z1 z4 a0 a1 a2 f0 f1 f2 la
    go_wp2_with fail
    go_loopg [7, 8] M (fun k o i wr => ∃ j : Nat, j + k = M ∧ i = .int .i64 (j : Int) ∧ L + j ≤ 64 ∧ OwnB w1.heap.size wr o (l ++ b.take j) ∧ New w1 wr)
    case atStart => exact ⟨0, by omega, rfl, by omega, by rw [List.take_zero, List.append_nil]; exact o3, n3⟩
    case round =>
      obtain ⟨j, hj, rfl, hj2, hT, hN⟩ := hrel
      have J := Lib.hid hj
      have nw := N2.out.trans hN
      have hs2 := hN.size
      obtain ⟨la, a0, a1, a2, f0, f1, f2⟩ := (BA.out.new hN).three'
      obtain ⟨lz, z0, z1, z2, g0, g1, g2⟩ := (BZ.out.new hN).three'
      have hL := HL.out
      have hM := HM.out
      have hlen : (l ++ b.take j).length = L + j := by rw [List.length_append, List.length_take]; omega
      obtain ⟨po, co, hv⟩ := hT.shape
      rw [hlen] at hv
      subst hv
      by_cases c : j < M ∧ L + j < 64
      · obtain ⟨c, c2⟩ := c
        obtain ⟨ad, rfl, cx⟩ := (HB.out.at_ j (by omega))
        have cx := nw.keeps cx
        generalize hy : b.getD j 0 = y at *
        have HY := Lib.hid hy
        have by1 : Byts (wr.alloc (.cells #[.int .u8 y] 5)) (.slice (some ⟨wr.heap.size, 0, none⟩) 1 1) [y] := byts_of_block (l := [y]) (heap_alloc_new wr _) (by simp [maxLen])
        have hT1 := hT.new ((New.refl wr).alloc #[.int .u8 y] 5)
        have hN1 := hN.alloc #[.int .u8 y] 5
        have hb1 : w1.heap.size ≤ (wr.alloc (.cells #[.int .u8 y] 5)).heap.size := hN1.size
        have HTT := Lib.hid hT1
        have HN := Lib.hid hN1
        clear hT hT1 hN hj hL hM hy hN1
        have HLEN := Lib.hid hlen
        clear hlen
        have d1 : decide ((L : Int) + (j : Int) < 64) = true := decide_eq_true (by omega)
        have d2 : decide (L + j < 64) = true := decide_eq_true (by omega)
        go_wp2_with (first
          | ((with_reducible refine at_slot 46 ?_); refine wpList_app_b rfl _ _ rfl rfl _ (l ++ b.take j) rfl (HTT.out.more (Nat.zero_le _)) _ [y] rfl by1 (by rw [HLEN.out, List.length_singleton]; omega) ?_))
        intro v3 w3 o3 k3 x3
        have hT3 : OwnB w1.heap.size w3 v3 (l ++ (b.take j ++ [y])) := o3.at fun g hg => by
          rcases x3 g hg with e | e
          · exact HTT.out.ge e
          · rw [e]; omega
        have hN3 : New w1 w3 := HTT.out.step (Nat.le_refl _) HN.out k3
        have r1 := pw_push b j (by have := HM.out; omega)
        rw [HY.out] at r1
        rw [← r1] at hT3
        have HT3 := Lib.hid hT3
        have HN3 := Lib.hid hN3
        clear hT3 hN3 o3 k3 x3 r1 by1 hb1 a0 a1 a2 f0 f1 f2 z0 z1 z2 g0 g1 g2 cx d1 d2
        go_wp2
        go_roundg (M - (j + 1))
        case measure => have := J.out; omega
        case rel => exact ⟨j + 1, by have := J.out; omega, by go_num, by omega, HT3.out, HN3.out⟩
      · have e1 : T = b.take j := by
          rw [HT.out]
          rcases Nat.lt_or_ge j M with q | q
          · rw [show 64 - L = j by omega]
          · rw [List.take_of_length_le (by omega), List.take_of_length_le (by omega)]
        have e2 : (b.take j).length = j := by rw [List.length_take]; omega
        have E1 := Lib.hid e1
        have E2 := Lib.hid e2
        generalize b.take j = tk at *
        have ee : decide (j < M) = false ∨ (decide (j < M) = true ∧ L + j = 64) := by
          rcases Nat.lt_or_ge j M with q | q
          · exact .inr ⟨decide_eq_true q, by omega⟩
          · exact .inl (decide_eq_false (by omega))
        have BZ2 := ((BZ.out.new hN).other (p := ⟨w.heap.size, 0, none⟩) (by show w.heap.size ≠ _; omega) (.slice po (L + j) co)).set3 (.slice po (L + j) co) (.int .i64 r) (.int .i64 sn)
        have NN := (nw.setCell (p := ⟨w.heap.size, 0, none⟩) (Nat.le_refl _) (.slice po (L + j) co)).set3 (g := w.heap.size + 1) (by omega) (.slice po (L + j) co) (.int .i64 r) (.int .i64 sn)
        have TT := ((hT.asid (S := fun g => g = w.heap.size) (But.set (S := fun g => g = w.heap.size) _ (p := ⟨w.heap.size, 0, none⟩) rfl (.slice po (L + j) co)) (fun g e => by omega)).asid (S := fun g => g = w.heap.size + 1) (But.set3 (S := fun g => g = w.heap.size + 1) _ rfl (.slice po (L + j) co) (.int .i64 r) (.int .i64 sn)) (fun g e => by omega)).more (base' := w.heap.size) (by omega)
        have END := Lib.hid (And.intro BZ2 (And.intro NN TT))
        clear BZ2 NN TT hT hN nw J hj e1 e2 hL c hM hlen
        rcases ee with y1 | ⟨y1, y2⟩
        case' inl =>
          have y3 : decide ((j : Int) < (M : Int)) = false := decide_eq_false (by have := of_decide_eq_false y1; omega)
        case' inr =>
          have y3 : decide ((j : Int) < (M : Int)) = true := decide_eq_true (by have := of_decide_eq_true y1; omega)
          have y4 : decide (((L + j : Nat) : Int) < 64) = false := decide_eq_false (by omega)
          have y5 : decide (L + j < 64) = false := decide_eq_false (by omega)
          clear y2
        all_goals
          generalize hnr : L + j = nr at *
          go_wp2
          go_region
          all_goals
            rename_i hret
            refine hret _ _ (wp_ret ?_)
            obtain ⟨Z, NN, TT⟩ := END.out
            have Z := Z.new (New.refl _).drew
            have HR := Z.rpi
            exact bodyPost_ret (v := .tuple #[.int .i64 (j : Int), .agg #[.slice po nr co, .int .i64 r, .int .i64 sn], .int .i64 0]) (by simp [results, Tryd.results10, asAddr, HR]) rfl ⟨_, by rw [E1.out, E2.out], by rw [E1.out]; exact TT.new (New.refl _).drew, NN.drew⟩
end
end Go.Proofs.YtdoppkeaidemgaaDoor
