/- The package's pipes: Read, Write, Open, Close. -/
import Derived.Test.YtdoppkeaidemgaaDoorPiN
import Derived.Deep.MidRow
import Derived.BigQuiet
import Derived.RegionTactic
import Derived.Deep.RegionHeld3
import Derived.StillTailTactics
namespace Go.Proofs.YtdoppkeaidemgaaDoor
open Go.RowKit
set_option linter.unusedVariables false
set_option maxRecDepth 100000
section
variable {w : World} {u : Value} {p : Pp}
theorem ppi_info : (Tryd.prog.info? 26).map (·.size) = some 3 := by kernel_rfl
theorem Box.ppi {g : Nat} {x y z : Value} (h : Box w g #[x, y, z] 26) : (loadVar 26 ⟨g, 0, none⟩).run Tryd.prog w = .ok (.agg #[x, y, z]) w :=
  run_loadVar_mid w _ 0 _ [x, y, z] _ (fun j v hv => by rw [Nat.zero_add, h.cell j]; simpa using hv) Tryd.underlying26 rfl ppi_info
theorem OwnB.fra {v : Value} {l : List Int} {E w' : World} (h : OwnB E.heap.size w' v l) (k : w.heap.size ≤ E.heap.size) : Fra w u v := fun g hg => .inl (Nat.le_trans k (h.ge hg))
theorem er22 : erN 22 = .iface 52 (.int .i64 22) := rfl
theorem er11 : erN 11 = .iface 52 (.int .i64 11) := rfl
theorem er32 : erN 32 = .iface 52 (.int .i64 32) := rfl
theorem er0' : erN 0 = .nilIface := rfl
set_option maxHeartbeats 4000000 in
theorem pread_no (h : Byts w u p.l) (n : Int) (he : prE p n ≠ 0) : Calls Tryd.prog 7 #[PpV u p, .int .i64 n] w fun e w' => e = .returned (.tuple #[.slice none 0 0, PpV (.slice none 0 0) Pp.zero, erN (prE p n)]) ∧ New w w' := by
  obtain ⟨q, cap, rfl⟩ := h.shape
  obtain ⟨l, r, wr⟩ := p
  obtain ⟨E, hE⟩ : ∃ E, E = (w.alloc (.cells #[.slice q l.length cap, .int .i64 r, .int .i64 wr] 26)).alloc (.cells #[.slice none 0 0, .int .i64 0, .int .i64 0] 26) := ⟨_, rfl⟩
  have n0 : New w E := by rw [hE]; exact ((New.refl w).alloc _ _).alloc _ _
  have bA : Box E w.heap.size #[.slice q l.length cap, .int .i64 r, .int .i64 wr] 26 := by rw [hE]; exact (Box.here w _ _ _ rfl).alloc _
  have bZ : Box E (w.heap.size + 1) #[.slice none 0 0, .int .i64 0, .int .i64 0] 26 := by rw [hE]; exact Box.here _ _ _ _ (by rw [World.size_alloc])
  have X := pcheck_any (w := E) (p := ⟨l, r, wr⟩) (h.new n0)
  unfold PpV at X ⊢
  dsimp only at X ⊢
  unfold prE at he ⊢
  dsimp only at he ⊢
  by_cases hm : piOk l r wr
  · rw [decide_eq_true hm, if_pos rfl, er0'] at X
    by_cases hn : n < 0
    · rw [if_pos (.inr hn), er22] at *
      clear h hm he
      go_enter Tryd.func7, Tryd.ntmps7
      go_wp2_with fail
      rw [← hE]
      refine X.mono ?_
      rintro e w1 ⟨rfl, n1⟩
      have n2 := n0.trans n1
      have sz := n0.size
      have sz1 := n1.size
      have lE := bZ.lt
      have BA := Lib.hid (bA.new n1)
      have BZ := Lib.hid (bZ.new n1)
      obtain ⟨la, a0, a1, a2, f0, f1, f2⟩ := (bA.new n1).three'
      obtain ⟨lz, z0, z1, z2, g0, g1, g2⟩ := (bZ.new n1).three'
      clear X hE bA bZ n1 n0
      go_wp2
      have HR := (BZ.out.set3 (.slice none 0 0) (.int .i64 0) (.int .i64 0)).ppi
      have HN := n2.set3 (g := w.heap.size + 1) (by omega) (.slice none 0 0) (.int .i64 0) (.int .i64 0)
      exact bodyPost_ret (v := .tuple #[.slice none 0 0, .agg #[.slice none 0 0, .int .i64 0, .int .i64 0], .iface 52 (.int .i64 22)]) (by simp [results, Tryd.results7, asAddr, HR]) rfl ⟨rfl, HN⟩
    · rw [if_neg (by rintro (q | q); exact q hm; exact hn q)] at he ⊢
      by_cases ha : 0 < n ∧ l = [] ∧ 0 < wr
      · rw [if_pos ha, er11] at *
        obtain ⟨h1, rfl, h3⟩ := ha
        simp only [List.length_nil] at *
        clear h hm he
        go_enter Tryd.func7, Tryd.ntmps7
        go_wp2_with fail
        rw [← hE]
        refine X.mono ?_
        rintro e w1 ⟨rfl, n1⟩
        have n2 := n0.trans n1
        have sz := n0.size
        have sz1 := n1.size
        have lE := bZ.lt
        have BA := Lib.hid (bA.new n1)
        have BZ := Lib.hid (bZ.new n1)
        obtain ⟨la, a0, a1, a2, f0, f1, f2⟩ := (bA.new n1).three'
        obtain ⟨lz, z0, z1, z2, g0, g1, g2⟩ := (bZ.new n1).three'
        clear X hE bA bZ n1 n0
        go_wp2
        have HR := (BZ.out.set3 (.slice none 0 0) (.int .i64 0) (.int .i64 0)).ppi
        have HN := n2.set3 (g := w.heap.size + 1) (by omega) (.slice none 0 0) (.int .i64 0) (.int .i64 0)
        exact bodyPost_ret (v := .tuple #[.slice none 0 0, .agg #[.slice none 0 0, .int .i64 0, .int .i64 0], .iface 52 (.int .i64 11)]) (by simp [results, Tryd.results7, asAddr, HR]) rfl ⟨rfl, HN⟩
      · rw [if_neg ha] at he; exact absurd rfl he
  · rw [decide_eq_false hm, if_neg (by decide), er22] at X
    rw [if_pos (.inl hm), er22] at *
    clear h hm he
    go_enter Tryd.func7, Tryd.ntmps7
    go_wp2_with fail
    rw [← hE]
    refine X.mono ?_
    rintro e w1 ⟨rfl, n1⟩
    have n2 := n0.trans n1
    have sz := n0.size
    have sz1 := n1.size
    have lE := bZ.lt
    have BA := Lib.hid (bA.new n1)
    have BZ := Lib.hid (bZ.new n1)
    obtain ⟨la, a0, a1, a2, f0, f1, f2⟩ := (bA.new n1).three'
    obtain ⟨lz, z0, z1, z2, g0, g1, g2⟩ := (bZ.new n1).three'
    clear X hE bA bZ n1 n0
    go_wp2
    have HR := (BZ.out.set3 (.slice none 0 0) (.int .i64 0) (.int .i64 0)).ppi
    have HN := n2.set3 (g := w.heap.size + 1) (by omega) (.slice none 0 0) (.int .i64 0) (.int .i64 0)
    exact bodyPost_ret (v := .tuple #[.slice none 0 0, .agg #[.slice none 0 0, .int .i64 0, .int .i64 0], .iface 52 (.int .i64 22)]) (by simp [results, Tryd.results7, asAddr, HR]) rfl ⟨rfl, HN⟩
set_option maxHeartbeats 4000000 in
theorem pread_ok (h : Byts w u p.l) (n : Int) (he : prE p n = 0) (hn9 : n ≤ 9223372036854775807) : Calls Tryd.prog 7 #[PpV u p, .int .i64 n] w fun e w' => ∃ vo vr, e = .returned (.tuple #[vo, PpV vr (prP p n), .nilIface]) ∧ OwnB w.heap.size w' vo (prO p n) ∧ OwnB w.heap.size w' vr (prP p n).l ∧ New w w' := by
  have e1 : prO p n = p.l.take n.toNat := by unfold prO; rw [if_pos he]
  have e2 : prP p n = ⟨p.l.drop n.toNat, p.r, p.w⟩ := by unfold prP; rw [if_pos he]
  rw [e1, e2]
  have H0 := Lib.hid h
  obtain ⟨q, cap, rfl⟩ := h.shape
  obtain ⟨l, r, wr⟩ := p
  obtain ⟨E, hE⟩ : ∃ E, E = (w.alloc (.cells #[.slice q l.length cap, .int .i64 r, .int .i64 wr] 26)).alloc (.cells #[.slice none 0 0, .int .i64 0, .int .i64 0] 26) := ⟨_, rfl⟩
  have n0 : New w E := by rw [hE]; exact ((New.refl w).alloc _ _).alloc _ _
  have bA : Box E w.heap.size #[.slice q l.length cap, .int .i64 r, .int .i64 wr] 26 := by rw [hE]; exact (Box.here w _ _ _ rfl).alloc _
  have bZ : Box E (w.heap.size + 1) #[.slice none 0 0, .int .i64 0, .int .i64 0] 26 := by rw [hE]; exact Box.here _ _ _ _ (by rw [World.size_alloc])
  have X := pcheck_any (w := E) (p := ⟨l, r, wr⟩) (h.new n0)
  unfold PpV at X ⊢
  dsimp only at X ⊢
  dsimp only at H0
  clear e1 e2
  unfold prE at he
  dsimp only at he
  have hm : piOk l r wr := by
    by_cases c : piOk l r wr
    · exact c
    · rw [if_pos (.inl c)] at he; cases he
  have hn : ¬ n < 0 := fun c => by rw [if_pos (.inr c)] at he; cases he
  have ha : ¬ (0 < n ∧ l = [] ∧ 0 < wr) := fun c => by rw [if_neg (by rintro (q | q); exact q hm; exact hn q), if_pos c] at he; cases he
  rw [decide_eq_true hm, if_pos rfl, er0'] at X
  have hl64 : l.length ≤ 64 := hm.1
  obtain ⟨N, rfl⟩ : ∃ N : Nat, n = (N : Int) := ⟨n.toNat, by omega⟩
  rw [Int.toNat_natCast]
  obtain ⟨hh1, hh2, hh3⟩ := h.caps
  have hh4 := hh3
  unfold maxLen at hh4
  -- what is taken, and what is left
  obtain ⟨K, hK, hKl, hKt, hKd⟩ : ∃ K : Nat, (K = N ∧ N ≤ l.length ∨ K = l.length ∧ l.length < N) ∧ K ≤ l.length ∧ l.take N = l.take K ∧ l.drop N = l.drop K := by
    rcases Nat.lt_or_ge l.length N with c | c
    · exact ⟨l.length, .inr ⟨rfl, c⟩, Nat.le_refl _, by rw [List.take_of_length_le (Nat.le_of_lt c), List.take_of_length_le (Nat.le_refl _)], by rw [List.drop_eq_nil_of_le (Nat.le_of_lt c), List.drop_eq_nil_of_le (Nat.le_refl _)]⟩
    · exact ⟨N, .inl ⟨rfl, c⟩, c, rfl, rfl⟩
  rw [hKt, hKd]
  obtain ⟨LT, hLT⟩ : ∃ x, x = l.take K := ⟨_, rfl⟩
  obtain ⟨LD, hLD⟩ : ∃ x, x = l.drop K := ⟨_, rfl⟩
  have hLD1 : LD.length = l.length - K := by rw [hLD, List.length_drop]
  rw [← hLT, ← hLD]
  have WAYS : (N = 0 ∧ K = N ∧ ¬ l.length < N) ∨ (0 < N ∧ 0 < l.length ∧ K = N ∧ ¬ l.length < N) ∨ (0 < N ∧ 0 < l.length ∧ K = l.length ∧ l.length < N) ∨ (0 < N ∧ l.length = 0 ∧ ¬ 0 < wr ∧ K = 0) := by
    rcases Nat.eq_zero_or_pos N with c | c
    · exact .inl ⟨c, by omega, by omega⟩
    · rcases Nat.eq_zero_or_pos l.length with c2 | c2
      · exact .inr (.inr (.inr ⟨c, c2, fun q => ha ⟨by omega, List.eq_nil_of_length_eq_zero c2, q⟩, by omega⟩))
      · rcases hK with ⟨h1, h2⟩ | ⟨h1, h2⟩
        · exact .inr (.inl ⟨c, c2, h1, by omega⟩)
        · exact .inr (.inr (.inl ⟨c, c2, h1, h2⟩))
  have cF0 := fun W (k : New w W) => bclone_any _ _ W ((H0.out.new k).front K hKl) (by rw [List.length_take]; omega)
  rw [← hLT] at cF0
  have cF := Lib.hid cF0
  clear cF0
  have e3 : (l.drop K).take (l.length - K) = l.drop K := List.take_of_length_le (by rw [List.length_drop]; omega)
  have cD0 := fun W (k : New w W) => bclone_any _ _ W ((H0.out.new k).part K (l.length - K) (by show K + (l.length - K) ≤ l.length; omega)) (by rw [e3, List.length_drop]; omega)
  rw [e3, ← hLD] at cD0
  have cD := Lib.hid cD0
  clear cD0
  have d0 : decide ((N : Int) < 0) = false := decide_eq_false hn
  clear he hm hn h ha hKt hKd e3 hh1 hK hLT
  generalize hL : l.length = L at *
  have HL := Lib.hid hL
  clear hL
  rcases WAYS with ⟨y1, k1, k2⟩ | ⟨y1, y2, k1, k2⟩ | ⟨y1, y2, k1, k2⟩ | ⟨y1, y2, y3, k1⟩
  · have z9 : decide ((0 : Int) < (N : Int)) = false := decide_eq_false (by omega)
    have z8 : decide (0 < N) = false := decide_eq_false (by omega)
    have z5 : ¬ (L : Int) < (N : Int) := by omega
    subst k1
    clear y1
    replace cD := cD.out
    by_cases hck : cap = K
    · subst hck
      obtain rfl : L = cap := by omega
      simp only [↓reduceIte, Nat.sub_self] at cD
      replace cD := Lib.hid cD
      go_enter Tryd.func7, Tryd.ntmps7
      go_wp2_with fail
      rw [← hE]
      refine X.mono ?_
      rintro e w1 ⟨rfl, n1⟩
      have n2 := n0.trans n1
      have sz := n0.size
      have sz1 := n1.size
      have lE := bZ.lt
      have BA := Lib.hid (bA.new n1)
      have BZ := Lib.hid (bZ.new n1)
      obtain ⟨la, a0, a1, a2, f0, f1, f2⟩ := (bA.new n1).three'
      obtain ⟨lz, z0, z1, z2, g0, g1, g2⟩ := (bZ.new n1).three'
      clear X hE bA bZ n1 n0
      go_wp2_with fail
      refine (cF.out _ n2).mono ?_
      rintro e w2 ⟨vt, rfl, o2, n3⟩
      have n4 := n2.trans n3
      have sz2 := n3.size
      have BA := Lib.hid (BA.out.new n3)
      have BZ := Lib.hid (BZ.out.new n3)
      clear la a0 a1 a2 f0 f1 f2 lz z0 z1 z2 g0 g1 g2
      obtain ⟨la, a0, a1, a2, f0, f1, f2⟩ := BA.out.three'
      go_wp2_with fail
      refine (cD.out _ n4).mono ?_
      rintro e w3 ⟨vr, rfl, o3, n5⟩
      have sz3 := n5.size
      have O3 := o3
      obtain ⟨pr, cr, rfl⟩ := o3.shape
      have BA2 := (BA.out.new n5).s0 (.slice pr LD.length cr)
      have BZ2 := ((BZ.out.new n5).other (p := ⟨w.heap.size, 0, none⟩) (by show w.heap.size ≠ _; omega) (.slice pr LD.length cr)).set3 (.slice pr LD.length cr) (.int .i64 r) (.int .i64 wr)
      have NN := ((n4.trans n5).setCell (p := ⟨w.heap.size, 0, none⟩) (Nat.le_refl _) (.slice pr LD.length cr)).set3 (g := w.heap.size + 1) (by omega) (.slice pr LD.length cr) (.int .i64 r) (.int .i64 wr)
      have KB := (But.set (S := fun g => g ≤ w.heap.size + 1) w3 (p := ⟨w.heap.size, 0, none⟩) (Nat.le_succ _) (.slice pr LD.length cr)).trans (But.set3 (S := fun g => g ≤ w.heap.size + 1) _ (g := w.heap.size + 1) (Nat.le_refl _) (.slice pr LD.length cr) (.int .i64 r) (.int .i64 wr))
      have P3 := (O3.but KB (fun g hg c => by have := O3.ge hg; omega)).more (base' := w.heap.size) (by omega)
      have P2 := ((o2.new n5).but KB (fun g hg c => by have := o2.ge hg; omega)).more (base' := w.heap.size) (by omega)
      have END := Lib.hid (And.intro BZ2 (And.intro NN (And.intro P2 P3)))
      obtain ⟨la, a0, a1, a2, f0, f1, f2⟩ := (BA.out.new n5).three'
      obtain ⟨lz, z0, z1, z2, g0, g1, g2⟩ := (BZ.out.new n5).three'
      clear O3 o3 o2 BA2 BZ2 NN KB P2 P3 n5 cF cD HL H0 hLD hLD1 n4 n3 n2 sz2 sz3 BA BZ
      generalize LD.length = nr at *
      go_wp2
      go_region
      all_goals
        rename_i hret
        refine hret _ _ (wp_ret ?_)
        obtain ⟨Z, NN, P2, P3⟩ := END.out
        have Z := Z.new (New.refl _).drew
        have HR := Z.ppi
        exact bodyPost_ret (v := .tuple #[vt, .agg #[.slice pr nr cr, .int .i64 r, .int .i64 wr], .nilIface]) (by simp [results, Tryd.results7, asAddr, HR]) rfl ⟨_, _, rfl, P2.new (New.refl _).drew, P3.new (New.refl _).drew, NN.drew⟩
    · simp only [if_neg hck] at cD
      replace cD := Lib.hid cD
      go_enter Tryd.func7, Tryd.ntmps7
      go_wp2_with fail
      rw [← hE]
      refine X.mono ?_
      rintro e w1 ⟨rfl, n1⟩
      have n2 := n0.trans n1
      have sz := n0.size
      have sz1 := n1.size
      have lE := bZ.lt
      have BA := Lib.hid (bA.new n1)
      have BZ := Lib.hid (bZ.new n1)
      obtain ⟨la, a0, a1, a2, f0, f1, f2⟩ := (bA.new n1).three'
      obtain ⟨lz, z0, z1, z2, g0, g1, g2⟩ := (bZ.new n1).three'
      clear X hE bA bZ n1 n0
      go_wp2_with fail
      refine (cF.out _ n2).mono ?_
      rintro e w2 ⟨vt, rfl, o2, n3⟩
      have n4 := n2.trans n3
      have sz2 := n3.size
      have BA := Lib.hid (BA.out.new n3)
      have BZ := Lib.hid (BZ.out.new n3)
      clear la a0 a1 a2 f0 f1 f2 lz z0 z1 z2 g0 g1 g2
      obtain ⟨la, a0, a1, a2, f0, f1, f2⟩ := BA.out.three'
      go_wp2_with fail
      refine (cD.out _ n4).mono ?_
      rintro e w3 ⟨vr, rfl, o3, n5⟩
      have sz3 := n5.size
      have O3 := o3
      obtain ⟨pr, cr, rfl⟩ := o3.shape
      have BA2 := (BA.out.new n5).s0 (.slice pr LD.length cr)
      have BZ2 := ((BZ.out.new n5).other (p := ⟨w.heap.size, 0, none⟩) (by show w.heap.size ≠ _; omega) (.slice pr LD.length cr)).set3 (.slice pr LD.length cr) (.int .i64 r) (.int .i64 wr)
      have NN := ((n4.trans n5).setCell (p := ⟨w.heap.size, 0, none⟩) (Nat.le_refl _) (.slice pr LD.length cr)).set3 (g := w.heap.size + 1) (by omega) (.slice pr LD.length cr) (.int .i64 r) (.int .i64 wr)
      have KB := (But.set (S := fun g => g ≤ w.heap.size + 1) w3 (p := ⟨w.heap.size, 0, none⟩) (Nat.le_succ _) (.slice pr LD.length cr)).trans (But.set3 (S := fun g => g ≤ w.heap.size + 1) _ (g := w.heap.size + 1) (Nat.le_refl _) (.slice pr LD.length cr) (.int .i64 r) (.int .i64 wr))
      have P3 := (O3.but KB (fun g hg c => by have := O3.ge hg; omega)).more (base' := w.heap.size) (by omega)
      have P2 := ((o2.new n5).but KB (fun g hg c => by have := o2.ge hg; omega)).more (base' := w.heap.size) (by omega)
      have END := Lib.hid (And.intro BZ2 (And.intro NN (And.intro P2 P3)))
      obtain ⟨la, a0, a1, a2, f0, f1, f2⟩ := (BA.out.new n5).three'
      obtain ⟨lz, z0, z1, z2, g0, g1, g2⟩ := (BZ.out.new n5).three'
      clear O3 o3 o2 BA2 BZ2 NN KB P2 P3 n5 cF cD HL H0 hLD hLD1 n4 n3 n2 sz2 sz3 BA BZ
      generalize LD.length = nr at *
      go_wp2
      go_region
      all_goals
        rename_i hret
        refine hret _ _ (wp_ret ?_)
        obtain ⟨Z, NN, P2, P3⟩ := END.out
        have Z := Z.new (New.refl _).drew
        have HR := Z.ppi
        exact bodyPost_ret (v := .tuple #[vt, .agg #[.slice pr nr cr, .int .i64 r, .int .i64 wr], .nilIface]) (by simp [results, Tryd.results7, asAddr, HR]) rfl ⟨_, _, rfl, P2.new (New.refl _).drew, P3.new (New.refl _).drew, NN.drew⟩
  · have z9 : decide ((0 : Int) < (N : Int)) = true := decide_eq_true (by omega)
    have z8 : decide (0 < N) = true := decide_eq_true (by omega)
    have z7 : (L == 0) = false := by simp; omega
    have z6 : ((L : Int) == 0) = false := by simp; omega
    have z5 : ¬ (L : Int) < (N : Int) := by omega
    subst k1
    clear y1 y2
    replace cD := cD.out
    by_cases hck : cap = K
    · subst hck
      obtain rfl : L = cap := by omega
      simp only [↓reduceIte, Nat.sub_self] at cD
      replace cD := Lib.hid cD
      go_enter Tryd.func7, Tryd.ntmps7
      go_wp2_with fail
      rw [← hE]
      refine X.mono ?_
      rintro e w1 ⟨rfl, n1⟩
      have n2 := n0.trans n1
      have sz := n0.size
      have sz1 := n1.size
      have lE := bZ.lt
      have BA := Lib.hid (bA.new n1)
      have BZ := Lib.hid (bZ.new n1)
      obtain ⟨la, a0, a1, a2, f0, f1, f2⟩ := (bA.new n1).three'
      obtain ⟨lz, z0, z1, z2, g0, g1, g2⟩ := (bZ.new n1).three'
      clear X hE bA bZ n1 n0
      go_wp2_with fail
      refine (cF.out _ n2).mono ?_
      rintro e w2 ⟨vt, rfl, o2, n3⟩
      have n4 := n2.trans n3
      have sz2 := n3.size
      have BA := Lib.hid (BA.out.new n3)
      have BZ := Lib.hid (BZ.out.new n3)
      clear la a0 a1 a2 f0 f1 f2 lz z0 z1 z2 g0 g1 g2
      obtain ⟨la, a0, a1, a2, f0, f1, f2⟩ := BA.out.three'
      go_wp2_with fail
      refine (cD.out _ n4).mono ?_
      rintro e w3 ⟨vr, rfl, o3, n5⟩
      have sz3 := n5.size
      have O3 := o3
      obtain ⟨pr, cr, rfl⟩ := o3.shape
      have BA2 := (BA.out.new n5).s0 (.slice pr LD.length cr)
      have BZ2 := ((BZ.out.new n5).other (p := ⟨w.heap.size, 0, none⟩) (by show w.heap.size ≠ _; omega) (.slice pr LD.length cr)).set3 (.slice pr LD.length cr) (.int .i64 r) (.int .i64 wr)
      have NN := ((n4.trans n5).setCell (p := ⟨w.heap.size, 0, none⟩) (Nat.le_refl _) (.slice pr LD.length cr)).set3 (g := w.heap.size + 1) (by omega) (.slice pr LD.length cr) (.int .i64 r) (.int .i64 wr)
      have KB := (But.set (S := fun g => g ≤ w.heap.size + 1) w3 (p := ⟨w.heap.size, 0, none⟩) (Nat.le_succ _) (.slice pr LD.length cr)).trans (But.set3 (S := fun g => g ≤ w.heap.size + 1) _ (g := w.heap.size + 1) (Nat.le_refl _) (.slice pr LD.length cr) (.int .i64 r) (.int .i64 wr))
      have P3 := (O3.but KB (fun g hg c => by have := O3.ge hg; omega)).more (base' := w.heap.size) (by omega)
      have P2 := ((o2.new n5).but KB (fun g hg c => by have := o2.ge hg; omega)).more (base' := w.heap.size) (by omega)
      have END := Lib.hid (And.intro BZ2 (And.intro NN (And.intro P2 P3)))
      obtain ⟨la, a0, a1, a2, f0, f1, f2⟩ := (BA.out.new n5).three'
      obtain ⟨lz, z0, z1, z2, g0, g1, g2⟩ := (BZ.out.new n5).three'
      clear O3 o3 o2 BA2 BZ2 NN KB P2 P3 n5 cF cD HL H0 hLD hLD1 n4 n3 n2 sz2 sz3 BA BZ
      generalize LD.length = nr at *
      go_wp2
      go_region
      all_goals
        rename_i hret
        refine hret _ _ (wp_ret ?_)
        obtain ⟨Z, NN, P2, P3⟩ := END.out
        have Z := Z.new (New.refl _).drew
        have HR := Z.ppi
        exact bodyPost_ret (v := .tuple #[vt, .agg #[.slice pr nr cr, .int .i64 r, .int .i64 wr], .nilIface]) (by simp [results, Tryd.results7, asAddr, HR]) rfl ⟨_, _, rfl, P2.new (New.refl _).drew, P3.new (New.refl _).drew, NN.drew⟩
    · simp only [if_neg hck] at cD
      replace cD := Lib.hid cD
      go_enter Tryd.func7, Tryd.ntmps7
      go_wp2_with fail
      rw [← hE]
      refine X.mono ?_
      rintro e w1 ⟨rfl, n1⟩
      have n2 := n0.trans n1
      have sz := n0.size
      have sz1 := n1.size
      have lE := bZ.lt
      have BA := Lib.hid (bA.new n1)
      have BZ := Lib.hid (bZ.new n1)
      obtain ⟨la, a0, a1, a2, f0, f1, f2⟩ := (bA.new n1).three'
      obtain ⟨lz, z0, z1, z2, g0, g1, g2⟩ := (bZ.new n1).three'
      clear X hE bA bZ n1 n0
      go_wp2_with fail
      refine (cF.out _ n2).mono ?_
      rintro e w2 ⟨vt, rfl, o2, n3⟩
      have n4 := n2.trans n3
      have sz2 := n3.size
      have BA := Lib.hid (BA.out.new n3)
      have BZ := Lib.hid (BZ.out.new n3)
      clear la a0 a1 a2 f0 f1 f2 lz z0 z1 z2 g0 g1 g2
      obtain ⟨la, a0, a1, a2, f0, f1, f2⟩ := BA.out.three'
      go_wp2_with fail
      refine (cD.out _ n4).mono ?_
      rintro e w3 ⟨vr, rfl, o3, n5⟩
      have sz3 := n5.size
      have O3 := o3
      obtain ⟨pr, cr, rfl⟩ := o3.shape
      have BA2 := (BA.out.new n5).s0 (.slice pr LD.length cr)
      have BZ2 := ((BZ.out.new n5).other (p := ⟨w.heap.size, 0, none⟩) (by show w.heap.size ≠ _; omega) (.slice pr LD.length cr)).set3 (.slice pr LD.length cr) (.int .i64 r) (.int .i64 wr)
      have NN := ((n4.trans n5).setCell (p := ⟨w.heap.size, 0, none⟩) (Nat.le_refl _) (.slice pr LD.length cr)).set3 (g := w.heap.size + 1) (by omega) (.slice pr LD.length cr) (.int .i64 r) (.int .i64 wr)
      have KB := (But.set (S := fun g => g ≤ w.heap.size + 1) w3 (p := ⟨w.heap.size, 0, none⟩) (Nat.le_succ _) (.slice pr LD.length cr)).trans (But.set3 (S := fun g => g ≤ w.heap.size + 1) _ (g := w.heap.size + 1) (Nat.le_refl _) (.slice pr LD.length cr) (.int .i64 r) (.int .i64 wr))
      have P3 := (O3.but KB (fun g hg c => by have := O3.ge hg; omega)).more (base' := w.heap.size) (by omega)
      have P2 := ((o2.new n5).but KB (fun g hg c => by have := o2.ge hg; omega)).more (base' := w.heap.size) (by omega)
      have END := Lib.hid (And.intro BZ2 (And.intro NN (And.intro P2 P3)))
      obtain ⟨la, a0, a1, a2, f0, f1, f2⟩ := (BA.out.new n5).three'
      obtain ⟨lz, z0, z1, z2, g0, g1, g2⟩ := (BZ.out.new n5).three'
      clear O3 o3 o2 BA2 BZ2 NN KB P2 P3 n5 cF cD HL H0 hLD hLD1 n4 n3 n2 sz2 sz3 BA BZ
      generalize LD.length = nr at *
      go_wp2
      go_region
      all_goals
        rename_i hret
        refine hret _ _ (wp_ret ?_)
        obtain ⟨Z, NN, P2, P3⟩ := END.out
        have Z := Z.new (New.refl _).drew
        have HR := Z.ppi
        exact bodyPost_ret (v := .tuple #[vt, .agg #[.slice pr nr cr, .int .i64 r, .int .i64 wr], .nilIface]) (by simp [results, Tryd.results7, asAddr, HR]) rfl ⟨_, _, rfl, P2.new (New.refl _).drew, P3.new (New.refl _).drew, NN.drew⟩
  · have z9 : decide ((0 : Int) < (N : Int)) = true := decide_eq_true (by omega)
    have z8 : decide (0 < N) = true := decide_eq_true (by omega)
    have z7 : (L == 0) = false := by simp; omega
    have z6 : ((L : Int) == 0) = false := by simp; omega
    have z5 : (L : Int) < (N : Int) := by omega
    subst k1
    clear y1 y2
    rw [Nat.sub_self] at cD
    replace cD := cD.out
    by_cases hck : cap = K
    · subst hck
      simp only [↓reduceIte, Nat.sub_self] at cD
      replace cD := Lib.hid cD
      go_enter Tryd.func7, Tryd.ntmps7
      go_wp2_with fail
      rw [← hE]
      refine X.mono ?_
      rintro e w1 ⟨rfl, n1⟩
      have n2 := n0.trans n1
      have sz := n0.size
      have sz1 := n1.size
      have lE := bZ.lt
      have BA := Lib.hid (bA.new n1)
      have BZ := Lib.hid (bZ.new n1)
      obtain ⟨la, a0, a1, a2, f0, f1, f2⟩ := (bA.new n1).three'
      obtain ⟨lz, z0, z1, z2, g0, g1, g2⟩ := (bZ.new n1).three'
      clear X hE bA bZ n1 n0
      go_wp2_with fail
      refine (cF.out _ n2).mono ?_
      rintro e w2 ⟨vt, rfl, o2, n3⟩
      have n4 := n2.trans n3
      have sz2 := n3.size
      have BA := Lib.hid (BA.out.new n3)
      have BZ := Lib.hid (BZ.out.new n3)
      clear la a0 a1 a2 f0 f1 f2 lz z0 z1 z2 g0 g1 g2
      obtain ⟨la, a0, a1, a2, f0, f1, f2⟩ := BA.out.three'
      go_wp2_with fail
      refine (cD.out _ n4).mono ?_
      rintro e w3 ⟨vr, rfl, o3, n5⟩
      have sz3 := n5.size
      have O3 := o3
      obtain ⟨pr, cr, rfl⟩ := o3.shape
      have BA2 := (BA.out.new n5).s0 (.slice pr LD.length cr)
      have BZ2 := ((BZ.out.new n5).other (p := ⟨w.heap.size, 0, none⟩) (by show w.heap.size ≠ _; omega) (.slice pr LD.length cr)).set3 (.slice pr LD.length cr) (.int .i64 r) (.int .i64 wr)
      have NN := ((n4.trans n5).setCell (p := ⟨w.heap.size, 0, none⟩) (Nat.le_refl _) (.slice pr LD.length cr)).set3 (g := w.heap.size + 1) (by omega) (.slice pr LD.length cr) (.int .i64 r) (.int .i64 wr)
      have KB := (But.set (S := fun g => g ≤ w.heap.size + 1) w3 (p := ⟨w.heap.size, 0, none⟩) (Nat.le_succ _) (.slice pr LD.length cr)).trans (But.set3 (S := fun g => g ≤ w.heap.size + 1) _ (g := w.heap.size + 1) (Nat.le_refl _) (.slice pr LD.length cr) (.int .i64 r) (.int .i64 wr))
      have P3 := (O3.but KB (fun g hg c => by have := O3.ge hg; omega)).more (base' := w.heap.size) (by omega)
      have P2 := ((o2.new n5).but KB (fun g hg c => by have := o2.ge hg; omega)).more (base' := w.heap.size) (by omega)
      have END := Lib.hid (And.intro BZ2 (And.intro NN (And.intro P2 P3)))
      obtain ⟨la, a0, a1, a2, f0, f1, f2⟩ := (BA.out.new n5).three'
      obtain ⟨lz, z0, z1, z2, g0, g1, g2⟩ := (BZ.out.new n5).three'
      clear O3 o3 o2 BA2 BZ2 NN KB P2 P3 n5 cF cD HL H0 hLD hLD1 n4 n3 n2 sz2 sz3 BA BZ
      generalize LD.length = nr at *
      go_wp2
      go_region
      all_goals
        rename_i hret
        refine hret _ _ (wp_ret ?_)
        obtain ⟨Z, NN, P2, P3⟩ := END.out
        have Z := Z.new (New.refl _).drew
        have HR := Z.ppi
        exact bodyPost_ret (v := .tuple #[vt, .agg #[.slice pr nr cr, .int .i64 r, .int .i64 wr], .nilIface]) (by simp [results, Tryd.results7, asAddr, HR]) rfl ⟨_, _, rfl, P2.new (New.refl _).drew, P3.new (New.refl _).drew, NN.drew⟩
    · simp only [if_neg hck] at cD
      replace cD := Lib.hid cD
      go_enter Tryd.func7, Tryd.ntmps7
      go_wp2_with fail
      rw [← hE]
      refine X.mono ?_
      rintro e w1 ⟨rfl, n1⟩
      have n2 := n0.trans n1
      have sz := n0.size
      have sz1 := n1.size
      have lE := bZ.lt
      have BA := Lib.hid (bA.new n1)
      have BZ := Lib.hid (bZ.new n1)
      obtain ⟨la, a0, a1, a2, f0, f1, f2⟩ := (bA.new n1).three'
      obtain ⟨lz, z0, z1, z2, g0, g1, g2⟩ := (bZ.new n1).three'
      clear X hE bA bZ n1 n0
      go_wp2_with fail
      refine (cF.out _ n2).mono ?_
      rintro e w2 ⟨vt, rfl, o2, n3⟩
      have n4 := n2.trans n3
      have sz2 := n3.size
      have BA := Lib.hid (BA.out.new n3)
      have BZ := Lib.hid (BZ.out.new n3)
      clear la a0 a1 a2 f0 f1 f2 lz z0 z1 z2 g0 g1 g2
      obtain ⟨la, a0, a1, a2, f0, f1, f2⟩ := BA.out.three'
      go_wp2_with fail
      refine (cD.out _ n4).mono ?_
      rintro e w3 ⟨vr, rfl, o3, n5⟩
      have sz3 := n5.size
      have O3 := o3
      obtain ⟨pr, cr, rfl⟩ := o3.shape
      have BA2 := (BA.out.new n5).s0 (.slice pr LD.length cr)
      have BZ2 := ((BZ.out.new n5).other (p := ⟨w.heap.size, 0, none⟩) (by show w.heap.size ≠ _; omega) (.slice pr LD.length cr)).set3 (.slice pr LD.length cr) (.int .i64 r) (.int .i64 wr)
      have NN := ((n4.trans n5).setCell (p := ⟨w.heap.size, 0, none⟩) (Nat.le_refl _) (.slice pr LD.length cr)).set3 (g := w.heap.size + 1) (by omega) (.slice pr LD.length cr) (.int .i64 r) (.int .i64 wr)
      have KB := (But.set (S := fun g => g ≤ w.heap.size + 1) w3 (p := ⟨w.heap.size, 0, none⟩) (Nat.le_succ _) (.slice pr LD.length cr)).trans (But.set3 (S := fun g => g ≤ w.heap.size + 1) _ (g := w.heap.size + 1) (Nat.le_refl _) (.slice pr LD.length cr) (.int .i64 r) (.int .i64 wr))
      have P3 := (O3.but KB (fun g hg c => by have := O3.ge hg; omega)).more (base' := w.heap.size) (by omega)
      have P2 := ((o2.new n5).but KB (fun g hg c => by have := o2.ge hg; omega)).more (base' := w.heap.size) (by omega)
      have END := Lib.hid (And.intro BZ2 (And.intro NN (And.intro P2 P3)))
      obtain ⟨la, a0, a1, a2, f0, f1, f2⟩ := (BA.out.new n5).three'
      obtain ⟨lz, z0, z1, z2, g0, g1, g2⟩ := (BZ.out.new n5).three'
      clear O3 o3 o2 BA2 BZ2 NN KB P2 P3 n5 cF cD HL H0 hLD hLD1 n4 n3 n2 sz2 sz3 BA BZ
      generalize LD.length = nr at *
      go_wp2
      go_region
      all_goals
        rename_i hret
        refine hret _ _ (wp_ret ?_)
        obtain ⟨Z, NN, P2, P3⟩ := END.out
        have Z := Z.new (New.refl _).drew
        have HR := Z.ppi
        exact bodyPost_ret (v := .tuple #[vt, .agg #[.slice pr nr cr, .int .i64 r, .int .i64 wr], .nilIface]) (by simp [results, Tryd.results7, asAddr, HR]) rfl ⟨_, _, rfl, P2.new (New.refl _).drew, P3.new (New.refl _).drew, NN.drew⟩
  · clear cD
    have e4 : l = LD := by rw [hLD, k1]; rfl
    have cD0 := fun W (k : New w W) => bclone_any _ _ W (H0.out.new k) (by have := HL.out; omega)
    simp only [e4] at cD0
    have cD := Lib.hid cD0
    clear cD0 e4
    have z9 : decide ((0 : Int) < (N : Int)) = true := decide_eq_true (by omega)
    have z8 : decide (0 < N) = true := decide_eq_true (by omega)
    have z5 : ((0 : Nat) : Int) < (N : Int) := by omega
    subst y2
    subst k1
    clear y1
    go_enter Tryd.func7, Tryd.ntmps7
    go_wp2_with fail
    rw [← hE]
    refine X.mono ?_
    rintro e w1 ⟨rfl, n1⟩
    have n2 := n0.trans n1
    have sz := n0.size
    have sz1 := n1.size
    have lE := bZ.lt
    have BA := Lib.hid (bA.new n1)
    have BZ := Lib.hid (bZ.new n1)
    obtain ⟨la, a0, a1, a2, f0, f1, f2⟩ := (bA.new n1).three'
    obtain ⟨lz, z0, z1, z2, g0, g1, g2⟩ := (bZ.new n1).three'
    clear X hE bA bZ n1 n0
    go_wp2_with fail
    refine (cF.out _ n2).mono ?_
    rintro e w2 ⟨vt, rfl, o2, n3⟩
    have n4 := n2.trans n3
    have sz2 := n3.size
    have BA := Lib.hid (BA.out.new n3)
    have BZ := Lib.hid (BZ.out.new n3)
    clear la a0 a1 a2 f0 f1 f2 lz z0 z1 z2 g0 g1 g2
    obtain ⟨la, a0, a1, a2, f0, f1, f2⟩ := BA.out.three'
    go_wp2_with fail
    refine (cD.out _ n4).mono ?_
    rintro e w3 ⟨vr, rfl, o3, n5⟩
    have sz3 := n5.size
    have O3 := o3
    obtain ⟨pr, cr, rfl⟩ := o3.shape
    have BA2 := (BA.out.new n5).s0 (.slice pr LD.length cr)
    have BZ2 := ((BZ.out.new n5).other (p := ⟨w.heap.size, 0, none⟩) (by show w.heap.size ≠ _; omega) (.slice pr LD.length cr)).set3 (.slice pr LD.length cr) (.int .i64 r) (.int .i64 wr)
    have NN := ((n4.trans n5).setCell (p := ⟨w.heap.size, 0, none⟩) (Nat.le_refl _) (.slice pr LD.length cr)).set3 (g := w.heap.size + 1) (by omega) (.slice pr LD.length cr) (.int .i64 r) (.int .i64 wr)
    have KB := (But.set (S := fun g => g ≤ w.heap.size + 1) w3 (p := ⟨w.heap.size, 0, none⟩) (Nat.le_succ _) (.slice pr LD.length cr)).trans (But.set3 (S := fun g => g ≤ w.heap.size + 1) _ (g := w.heap.size + 1) (Nat.le_refl _) (.slice pr LD.length cr) (.int .i64 r) (.int .i64 wr))
    have P3 := (O3.but KB (fun g hg c => by have := O3.ge hg; omega)).more (base' := w.heap.size) (by omega)
    have P2 := ((o2.new n5).but KB (fun g hg c => by have := o2.ge hg; omega)).more (base' := w.heap.size) (by omega)
    have END := Lib.hid (And.intro BZ2 (And.intro NN (And.intro P2 P3)))
    obtain ⟨la, a0, a1, a2, f0, f1, f2⟩ := (BA.out.new n5).three'
    obtain ⟨lz, z0, z1, z2, g0, g1, g2⟩ := (BZ.out.new n5).three'
    clear O3 o3 o2 BA2 BZ2 NN KB P2 P3 n5 cF cD HL H0 hLD hLD1 n4 n3 n2 sz2 sz3 BA BZ
    generalize LD.length = nr at *
    go_wp2
    go_region
    all_goals
      rename_i hret
      refine hret _ _ (wp_ret ?_)
      obtain ⟨Z, NN, P2, P3⟩ := END.out
      have Z := Z.new (New.refl _).drew
      have HR := Z.ppi
      exact bodyPost_ret (v := .tuple #[vt, .agg #[.slice pr nr cr, .int .i64 r, .int .i64 wr], .nilIface]) (by simp [results, Tryd.results7, asAddr, HR]) rfl ⟨_, _, rfl, P2.new (New.refl _).drew, P3.new (New.refl _).drew, NN.drew⟩
/-- Read, right or wrong -/
theorem pread_any (h : Byts w u p.l) (n : Int) (hn9 : n ≤ 9223372036854775807) : Calls Tryd.prog 7 #[PpV u p, .int .i64 n] w (ReadD u p n w) := by
  by_cases he : prE p n = 0
  · refine (pread_ok h n he hn9).mono ?_
    rintro e w1 ⟨vo, vr, rfl, o2, o3, k⟩
    refine ⟨vo, vr, by rw [he]; rfl, o2.byts, o3.byts, fun g hg => .inl (o2.ge hg), fun g hg => .inl (o3.ge hg), k⟩
  · refine (pread_no h n he).mono ?_
    rintro e w1 ⟨rfl, k⟩
    have e1 : prO p n = [] := by unfold prO; rw [if_neg he]
    have e2 : prP p n = Pp.zero := by unfold prP; rw [if_neg he]
    unfold ReadD
    rw [e1, e2]
    exact ⟨_, _, rfl, Byts.nil _, Byts.nil _, fun g hg => (by cases hg), fun g hg => (by cases hg), k⟩
set_option maxHeartbeats 4000000 in
theorem pwrite_no (h : Byts w u p.l) {v : Value} {b : List Int} (hb : Byts w v b) (he : pwE p b ≠ 0) : Calls Tryd.prog 9 #[PpV u p, v] w fun e w' => e = .returned (.tuple #[.int .i64 0, PpV (.slice none 0 0) Pp.zero, erN (pwE p b)]) ∧ New w w' := by
  obtain ⟨q2, cap2, rfl⟩ := hb.shape
  obtain ⟨q, cap, rfl⟩ := h.shape
  obtain ⟨l, r, wr⟩ := p
  obtain ⟨E, hE⟩ : ∃ E, E = (w.alloc (.cells #[.slice q l.length cap, .int .i64 r, .int .i64 wr] 26)).alloc (.cells #[.slice none 0 0, .int .i64 0, .int .i64 0] 26) := ⟨_, rfl⟩
  have n0 : New w E := by rw [hE]; exact ((New.refl w).alloc _ _).alloc _ _
  have bA : Box E w.heap.size #[.slice q l.length cap, .int .i64 r, .int .i64 wr] 26 := by rw [hE]; exact (Box.here w _ _ _ rfl).alloc _
  have bZ : Box E (w.heap.size + 1) #[.slice none 0 0, .int .i64 0, .int .i64 0] 26 := by rw [hE]; exact Box.here _ _ _ _ (by rw [World.size_alloc])
  have X := pcheck_any (w := E) (p := ⟨l, r, wr⟩) (h.new n0)
  unfold PpV at X ⊢
  dsimp only at X ⊢
  unfold pwE at he ⊢
  dsimp only at he ⊢
  by_cases hm : piOk l r wr
  · rw [decide_eq_true hm, if_pos rfl, er0'] at X
    rw [if_neg (fun c => c hm)] at he ⊢
    by_cases hn : r = 0
    · rw [if_pos hn, er32] at *
      subst hn
      clear h hm he hb
      go_enter Tryd.func9, Tryd.ntmps9
      go_wp2_with fail
      rw [← hE]
      refine X.mono ?_
      rintro e w1 ⟨rfl, n1⟩
      have n2 := n0.trans n1
      have sz := n0.size
      have sz1 := n1.size
      have lE := bZ.lt
      have BA := Lib.hid (bA.new n1)
      have BZ := Lib.hid (bZ.new n1)
      obtain ⟨la, a0, a1, a2, f0, f1, f2⟩ := (bA.new n1).three'
      obtain ⟨lz, z0, z1, z2, g0, g1, g2⟩ := (bZ.new n1).three'
      clear X hE bA bZ n1 n0
      go_wp2
      have HR := (BZ.out.set3 (.slice none 0 0) (.int .i64 0) (.int .i64 0)).ppi
      have HN := n2.set3 (g := w.heap.size + 1) (by omega) (.slice none 0 0) (.int .i64 0) (.int .i64 0)
      exact bodyPost_ret (v := .tuple #[.int .i64 0, .agg #[.slice none 0 0, .int .i64 0, .int .i64 0], .iface 52 (.int .i64 32)]) (by simp [results, Tryd.results9, asAddr, HR]) rfl ⟨rfl, HN⟩
    · rw [if_neg hn] at he ⊢
      by_cases ha : b ≠ [] ∧ l.length = 64
      · rw [if_pos ha, er11] at *
        obtain ⟨h1, h2⟩ := ha
        have h4 : 0 < b.length := by cases b with | nil => exact absurd rfl h1 | cons => simp
        have h5 : (0 : Int) < (b.length : Int) := by omega
        have h6 : (r == (0 : Int)) = false := by simpa using hn
        generalize l.length = nl at *
        generalize b.length = nb at *
        subst h2
        clear h hm he hb h1
        go_enter Tryd.func9, Tryd.ntmps9
        go_wp2_with fail
        rw [← hE]
        refine X.mono ?_
        rintro e w1 ⟨rfl, n1⟩
        have n2 := n0.trans n1
        have sz := n0.size
        have sz1 := n1.size
        have lE := bZ.lt
        have BA := Lib.hid (bA.new n1)
        have BZ := Lib.hid (bZ.new n1)
        obtain ⟨la, a0, a1, a2, f0, f1, f2⟩ := (bA.new n1).three'
        obtain ⟨lz, z0, z1, z2, g0, g1, g2⟩ := (bZ.new n1).three'
        clear X hE bA bZ n1 n0
        go_wp2
        have HR := (BZ.out.set3 (.slice none 0 0) (.int .i64 0) (.int .i64 0)).ppi
        have HN := n2.set3 (g := w.heap.size + 1) (by omega) (.slice none 0 0) (.int .i64 0) (.int .i64 0)
        exact bodyPost_ret (v := .tuple #[.int .i64 0, .agg #[.slice none 0 0, .int .i64 0, .int .i64 0], .iface 52 (.int .i64 11)]) (by simp [results, Tryd.results9, asAddr, HR]) rfl ⟨rfl, HN⟩
      · rw [if_neg ha] at he; exact absurd rfl he
  · rw [decide_eq_false hm, if_neg (by decide), er22] at X
    rw [if_pos hm, er22] at *
    clear h hm he hb
    go_enter Tryd.func9, Tryd.ntmps9
    go_wp2_with fail
    rw [← hE]
    refine X.mono ?_
    rintro e w1 ⟨rfl, n1⟩
    have n2 := n0.trans n1
    have sz := n0.size
    have sz1 := n1.size
    have lE := bZ.lt
    have BA := Lib.hid (bA.new n1)
    have BZ := Lib.hid (bZ.new n1)
    obtain ⟨la, a0, a1, a2, f0, f1, f2⟩ := (bA.new n1).three'
    obtain ⟨lz, z0, z1, z2, g0, g1, g2⟩ := (bZ.new n1).three'
    clear X hE bA bZ n1 n0
    go_wp2
    have HR := (BZ.out.set3 (.slice none 0 0) (.int .i64 0) (.int .i64 0)).ppi
    have HN := n2.set3 (g := w.heap.size + 1) (by omega) (.slice none 0 0) (.int .i64 0) (.int .i64 0)
    exact bodyPost_ret (v := .tuple #[.int .i64 0, .agg #[.slice none 0 0, .int .i64 0, .int .i64 0], .iface 52 (.int .i64 22)]) (by simp [results, Tryd.results9, asAddr, HR]) rfl ⟨rfl, HN⟩
set_option maxHeartbeats 4000000 in
theorem pwrite_ok (h : Byts w u p.l) {v : Value} {b : List Int} (hb : Byts w v b) (he : pwE p b = 0) (hb9 : b.length ≤ 1000000) : Calls Tryd.prog 9 #[PpV u p, v] w fun e w' => ∃ vr, e = .returned (.tuple #[.int .i64 (pwK p b), PpV vr (pwP p b), .nilIface]) ∧ OwnB w.heap.size w' vr (pwP p b).l ∧ New w w' := by
  have e1 : pwK p b = (pwB p b).length := by unfold pwK; rw [if_pos he]
  have e2 : pwP p b = ⟨p.l ++ pwB p b, p.r, p.w⟩ := by unfold pwP; rw [if_pos he]
  rw [e1, e2]
  have H0 := Lib.hid h
  have HB := Lib.hid hb
  obtain ⟨q2, cap2, rfl⟩ := hb.shape
  obtain ⟨q, cap, rfl⟩ := h.shape
  obtain ⟨l, r, wr⟩ := p
  obtain ⟨E, hE⟩ : ∃ E, E = (w.alloc (.cells #[.slice q l.length cap, .int .i64 r, .int .i64 wr] 26)).alloc (.cells #[.slice none 0 0, .int .i64 0, .int .i64 0] 26) := ⟨_, rfl⟩
  have n0 : New w E := by rw [hE]; exact ((New.refl w).alloc _ _).alloc _ _
  have bA : Box E w.heap.size #[.slice q l.length cap, .int .i64 r, .int .i64 wr] 26 := by rw [hE]; exact (Box.here w _ _ _ rfl).alloc _
  have bZ : Box E (w.heap.size + 1) #[.slice none 0 0, .int .i64 0, .int .i64 0] 26 := by rw [hE]; exact Box.here _ _ _ _ (by rw [World.size_alloc])
  have X := pcheck_any (w := E) (p := ⟨l, r, wr⟩) (h.new n0)
  unfold PpV at X ⊢
  dsimp only at X ⊢
  dsimp only at H0
  clear e1 e2
  unfold pwB
  unfold pwE at he
  dsimp only at he ⊢
  have hm : piOk l r wr := by
    by_cases c : piOk l r wr
    · exact c
    · rw [if_pos c] at he; cases he
  rw [if_neg (fun c => c hm)] at he
  have hn : ¬ r = 0 := fun c => by rw [if_pos c] at he; cases he
  rw [if_neg hn] at he
  have ha : ¬ (b ≠ [] ∧ l.length = 64) := fun c => by rw [if_pos c] at he; cases he
  rw [decide_eq_true hm, if_pos rfl, er0'] at X
  have hl64 : l.length ≤ 64 := hm.1
  obtain ⟨hh1, hh2, hh3⟩ := hb.caps
  have hh4 := hh3
  unfold maxLen at hh4
  obtain ⟨K, hK, hKl, hKt⟩ : ∃ K : Nat, (K = b.length ∧ b.length ≤ 64 - l.length ∨ K = 64 - l.length ∧ 64 - l.length < b.length) ∧ K ≤ b.length ∧ b.take (64 - l.length) = b.take K := by
    rcases Nat.lt_or_ge (64 - l.length) b.length with c | c
    · exact ⟨64 - l.length, .inr ⟨rfl, c⟩, Nat.le_of_lt c, rfl⟩
    · exact ⟨b.length, .inl ⟨rfl, c⟩, Nat.le_refl _, by rw [List.take_of_length_le c, List.take_of_length_le (Nat.le_refl _)]⟩
  rw [hKt]
  obtain ⟨LT, hLT⟩ : ∃ x, x = b.take K := ⟨_, rfl⟩
  have hLT1 : LT.length = K := by rw [hLT, List.length_take]; omega
  obtain ⟨LA, hLA⟩ : ∃ x, x = l ++ LT := ⟨_, rfl⟩
  rw [← hLT, ← hLA, hLT1]
  have hb0 : b = [] ↔ b.length = 0 := ⟨fun c => by rw [c]; rfl, List.eq_nil_of_length_eq_zero⟩
  obtain ⟨R, hR⟩ : ∃ R : Nat, (64 : Int) - (l.length : Int) = (R : Int) := ⟨64 - l.length, by omega⟩
  have WAYS : (b.length = 0 ∧ K = 0 ∧ ¬ R < b.length) ∨ (0 < b.length ∧ ¬ R = 0 ∧ K = b.length ∧ ¬ R < b.length) ∨ (0 < b.length ∧ ¬ R = 0 ∧ K = R ∧ R < b.length) := by
    rcases Nat.eq_zero_or_pos b.length with c | c
    · exact .inl ⟨c, by omega, by omega⟩
    · have : ¬ R = 0 := fun q => ha ⟨fun z => by rw [hb0] at z; omega, by omega⟩
      rcases hK with ⟨h1, h2⟩ | ⟨h1, h2⟩
      · exact .inr (.inl ⟨c, this, h1, by omega⟩)
      · exact .inr (.inr ⟨c, this, by omega, by omega⟩)
  have cF := Lib.hid (fun W g (k : New w W) (c0 : W.cell? ⟨g, 0, none⟩ = some (.slice q l.length cap)) (c1 : W.cell? ⟨g, 1, none⟩ = some (.slice q2 K cap2)) => bconcat_any W g (.slice q l.length cap) (.slice q2 K cap2) l LT c0 c1 (H0.out.new k) (by rw [hLT]; exact (HB.out.new k).front K hKl) (by rw [hLT1]; omega))
  rw [← hLA] at cF
  have hLA1 : LA.length = l.length + K := by rw [hLA, List.length_append, hLT1]
  have h6 : (r == (0 : Int)) = false := by simpa using hn
  clear he hm hn h ha hKt hh1 hK hLT hLA hb hb0 hLT1
  generalize l.length = L at *
  generalize b.length = B at *
  rcases WAYS with ⟨y1, k1, k2⟩ | ⟨y1, y2, k1, k2⟩ | ⟨y1, y2, k1, k2⟩
  · subst y1
    subst k1
    go_enter Tryd.func9, Tryd.ntmps9
    go_wp2_with fail
    rw [← hE]
    refine X.mono ?_
    rintro e w1 ⟨rfl, n1⟩
    have n2 := n0.trans n1
    have sz := n0.size
    have sz1 := n1.size
    have lE := bZ.lt
    have BA := Lib.hid (bA.new n1)
    have BZ := Lib.hid (bZ.new n1)
    obtain ⟨la, a0, a1, a2, f0, f1, f2⟩ := (bA.new n1).three'
    obtain ⟨lz, z0, z1, z2, g0, g1, g2⟩ := (bZ.new n1).three'
    clear X hE bA bZ n1 n0
    go_wp2_with fail
    go_still_tail 5, (by kernel_rfl)
    go_wp2_with fail
    refine (cF.out _ _ ((n2.alloc _ _).drew) (by simp) (by simp)).mono ?_
    rintro e w3 ⟨vr, rfl, o3, n5⟩
    have n6 := ((New.refl w1).alloc #[.slice q L cap, .slice q2 0 cap2] 22).drew.trans n5
    have szd : ((w1.alloc (.cells #[.slice q L cap, .slice q2 0 cap2] 22)).drew).heap.size = w1.heap.size + 1 := World.size_alloc _ _
    rw [szd] at o3
    clear n5 szd
    have sz3 := n6.size
    have O3 := o3
    obtain ⟨pr, cr, rfl⟩ := o3.shape
    have BA2 := (BA.out.new n6).s0 (.slice pr LA.length cr)
    have BZ2 := ((BZ.out.new n6).other (p := ⟨w.heap.size, 0, none⟩) (by show w.heap.size ≠ _; omega) (.slice pr LA.length cr)).set3 (.slice pr LA.length cr) (.int .i64 r) (.int .i64 wr)
    have NN := ((n2.trans n6).setCell (p := ⟨w.heap.size, 0, none⟩) (Nat.le_refl _) (.slice pr LA.length cr)).set3 (g := w.heap.size + 1) (by omega) (.slice pr LA.length cr) (.int .i64 r) (.int .i64 wr)
    have KB := (But.set (S := fun g => g ≤ w.heap.size + 1) w3 (p := ⟨w.heap.size, 0, none⟩) (Nat.le_succ _) (.slice pr LA.length cr)).trans (But.set3 (S := fun g => g ≤ w.heap.size + 1) _ (g := w.heap.size + 1) (Nat.le_refl _) (.slice pr LA.length cr) (.int .i64 r) (.int .i64 wr))
    have P3 := (O3.but KB (fun g hg c => by have := O3.ge hg; omega)).more (base' := w.heap.size) (by omega)
    have END := Lib.hid (And.intro BZ2 (And.intro NN P3))
    clear la a0 a1 a2 f0 f1 f2 lz z0 z1 z2 g0 g1 g2
    obtain ⟨la, a0, a1, a2, f0, f1, f2⟩ := (BA.out.new n6).three'
    obtain ⟨lz, z0, z1, z2, g0, g1, g2⟩ := (BZ.out.new n6).three'
    clear O3 o3 BA2 BZ2 NN KB P3 n6 cF H0 HB hLA1 n2 sz3 BA BZ
    generalize LA.length = nr at *
    go_wp2
    go_region
    all_goals
      rename_i hret
      refine hret _ _ (wp_ret ?_)
      obtain ⟨Z, NN, P3⟩ := END.out
      have Z := Z.new (New.refl _).drew
      have HR := Z.ppi
      exact bodyPost_ret (v := .tuple #[.int .i64 0, .agg #[.slice pr nr cr, .int .i64 r, .int .i64 wr], .nilIface]) (by simp [results, Tryd.results9, asAddr, HR]) rfl ⟨_, rfl, P3.new (New.refl _).drew, NN.drew⟩
  · have z9 : decide ((0 : Int) < (B : Int)) = true := decide_eq_true (by omega)
    have z7 : ((R : Int) == 0) = false := by simpa using y2
    have z5 : ¬ (R : Int) < (B : Int) := by omega
    subst k1
    go_enter Tryd.func9, Tryd.ntmps9
    go_wp2_with fail
    rw [← hE]
    refine X.mono ?_
    rintro e w1 ⟨rfl, n1⟩
    have n2 := n0.trans n1
    have sz := n0.size
    have sz1 := n1.size
    have lE := bZ.lt
    have BA := Lib.hid (bA.new n1)
    have BZ := Lib.hid (bZ.new n1)
    obtain ⟨la, a0, a1, a2, f0, f1, f2⟩ := (bA.new n1).three'
    obtain ⟨lz, z0, z1, z2, g0, g1, g2⟩ := (bZ.new n1).three'
    clear X hE bA bZ n1 n0
    go_wp2_with fail
    go_still_tail 5, (by kernel_rfl)
    go_wp2_with fail
    refine (cF.out _ _ ((n2.alloc _ _).drew) (by simp) (by simp)).mono ?_
    rintro e w3 ⟨vr, rfl, o3, n5⟩
    have n6 := ((New.refl w1).alloc #[.slice q L cap, .slice q2 K cap2] 22).drew.trans n5
    have szd : ((w1.alloc (.cells #[.slice q L cap, .slice q2 K cap2] 22)).drew).heap.size = w1.heap.size + 1 := World.size_alloc _ _
    rw [szd] at o3
    clear n5 szd
    have sz3 := n6.size
    have O3 := o3
    obtain ⟨pr, cr, rfl⟩ := o3.shape
    have BA2 := (BA.out.new n6).s0 (.slice pr LA.length cr)
    have BZ2 := ((BZ.out.new n6).other (p := ⟨w.heap.size, 0, none⟩) (by show w.heap.size ≠ _; omega) (.slice pr LA.length cr)).set3 (.slice pr LA.length cr) (.int .i64 r) (.int .i64 wr)
    have NN := ((n2.trans n6).setCell (p := ⟨w.heap.size, 0, none⟩) (Nat.le_refl _) (.slice pr LA.length cr)).set3 (g := w.heap.size + 1) (by omega) (.slice pr LA.length cr) (.int .i64 r) (.int .i64 wr)
    have KB := (But.set (S := fun g => g ≤ w.heap.size + 1) w3 (p := ⟨w.heap.size, 0, none⟩) (Nat.le_succ _) (.slice pr LA.length cr)).trans (But.set3 (S := fun g => g ≤ w.heap.size + 1) _ (g := w.heap.size + 1) (Nat.le_refl _) (.slice pr LA.length cr) (.int .i64 r) (.int .i64 wr))
    have P3 := (O3.but KB (fun g hg c => by have := O3.ge hg; omega)).more (base' := w.heap.size) (by omega)
    have END := Lib.hid (And.intro BZ2 (And.intro NN P3))
    clear la a0 a1 a2 f0 f1 f2 lz z0 z1 z2 g0 g1 g2
    obtain ⟨la, a0, a1, a2, f0, f1, f2⟩ := (BA.out.new n6).three'
    obtain ⟨lz, z0, z1, z2, g0, g1, g2⟩ := (BZ.out.new n6).three'
    clear O3 o3 BA2 BZ2 NN KB P3 n6 cF H0 HB hLA1 n2 sz3 BA BZ
    generalize LA.length = nr at *
    go_wp2
    go_region
    all_goals
      rename_i hret
      refine hret _ _ (wp_ret ?_)
      obtain ⟨Z, NN, P3⟩ := END.out
      have Z := Z.new (New.refl _).drew
      have HR := Z.ppi
      exact bodyPost_ret (v := .tuple #[.int .i64 (K : Int), .agg #[.slice pr nr cr, .int .i64 r, .int .i64 wr], .nilIface]) (by simp [results, Tryd.results9, asAddr, HR]) rfl ⟨_, rfl, P3.new (New.refl _).drew, NN.drew⟩
  · have z9 : decide ((0 : Int) < (B : Int)) = true := decide_eq_true (by omega)
    have z7 : ((R : Int) == 0) = false := by simpa using y2
    have z5 : (R : Int) < (B : Int) := by omega
    subst k1
    have z4 : K ≤ cap2 := by omega
    go_enter Tryd.func9, Tryd.ntmps9
    go_wp2_with fail
    rw [← hE]
    refine X.mono ?_
    rintro e w1 ⟨rfl, n1⟩
    have n2 := n0.trans n1
    have sz := n0.size
    have sz1 := n1.size
    have lE := bZ.lt
    have BA := Lib.hid (bA.new n1)
    have BZ := Lib.hid (bZ.new n1)
    obtain ⟨la, a0, a1, a2, f0, f1, f2⟩ := (bA.new n1).three'
    obtain ⟨lz, z0, z1, z2, g0, g1, g2⟩ := (bZ.new n1).three'
    clear X hE bA bZ n1 n0
    go_wp2_with fail
    go_still_tail 5, (by kernel_rfl)
    go_wp2_with fail
    refine (cF.out _ _ ((n2.alloc _ _).drew) (by simp) (by simp)).mono ?_
    rintro e w3 ⟨vr, rfl, o3, n5⟩
    have n6 := ((New.refl w1).alloc #[.slice q L cap, .slice q2 K cap2] 22).drew.trans n5
    have szd : ((w1.alloc (.cells #[.slice q L cap, .slice q2 K cap2] 22)).drew).heap.size = w1.heap.size + 1 := World.size_alloc _ _
    rw [szd] at o3
    clear n5 szd
    have sz3 := n6.size
    have O3 := o3
    obtain ⟨pr, cr, rfl⟩ := o3.shape
    have BA2 := (BA.out.new n6).s0 (.slice pr LA.length cr)
    have BZ2 := ((BZ.out.new n6).other (p := ⟨w.heap.size, 0, none⟩) (by show w.heap.size ≠ _; omega) (.slice pr LA.length cr)).set3 (.slice pr LA.length cr) (.int .i64 r) (.int .i64 wr)
    have NN := ((n2.trans n6).setCell (p := ⟨w.heap.size, 0, none⟩) (Nat.le_refl _) (.slice pr LA.length cr)).set3 (g := w.heap.size + 1) (by omega) (.slice pr LA.length cr) (.int .i64 r) (.int .i64 wr)
    have KB := (But.set (S := fun g => g ≤ w.heap.size + 1) w3 (p := ⟨w.heap.size, 0, none⟩) (Nat.le_succ _) (.slice pr LA.length cr)).trans (But.set3 (S := fun g => g ≤ w.heap.size + 1) _ (g := w.heap.size + 1) (Nat.le_refl _) (.slice pr LA.length cr) (.int .i64 r) (.int .i64 wr))
    have P3 := (O3.but KB (fun g hg c => by have := O3.ge hg; omega)).more (base' := w.heap.size) (by omega)
    have END := Lib.hid (And.intro BZ2 (And.intro NN P3))
    clear la a0 a1 a2 f0 f1 f2 lz z0 z1 z2 g0 g1 g2
    obtain ⟨la, a0, a1, a2, f0, f1, f2⟩ := (BA.out.new n6).three'
    obtain ⟨lz, z0, z1, z2, g0, g1, g2⟩ := (BZ.out.new n6).three'
    clear O3 o3 BA2 BZ2 NN KB P3 n6 cF H0 HB hLA1 n2 sz3 BA BZ
    generalize LA.length = nr at *
    go_wp2
    go_region
    all_goals
      rename_i hret
      refine hret _ _ (wp_ret ?_)
      obtain ⟨Z, NN, P3⟩ := END.out
      have Z := Z.new (New.refl _).drew
      have HR := Z.ppi
      exact bodyPost_ret (v := .tuple #[.int .i64 (K : Int), .agg #[.slice pr nr cr, .int .i64 r, .int .i64 wr], .nilIface]) (by simp [results, Tryd.results9, asAddr, HR]) rfl ⟨_, rfl, P3.new (New.refl _).drew, NN.drew⟩
/-- Write, right or wrong -/
theorem pwrite_any (h : Byts w u p.l) {v : Value} {b : List Int} (hb : Byts w v b) (hb9 : b.length ≤ 1000000) : Calls Tryd.prog 9 #[PpV u p, v] w (WriteD u v p b w) := by
  by_cases he : pwE p b = 0
  · refine (pwrite_ok h hb he hb9).mono ?_
    rintro e w1 ⟨vr, rfl, o2, k⟩
    exact ⟨vr, by rw [he]; rfl, o2.byts, fun g hg => .inl (o2.ge hg), k⟩
  · refine (pwrite_no h hb he).mono ?_
    rintro e w1 ⟨rfl, k⟩
    have e1 : pwK p b = 0 := by unfold pwK; rw [if_neg he]
    have e2 : pwP p b = Pp.zero := by unfold pwP; rw [if_neg he]
    unfold WriteD
    rw [e1, e2]
    exact ⟨_, rfl, Byts.nil _, fun g hg => (by cases hg), k⟩
end
end Go.Proofs.YtdoppkeaidemgaaDoor
