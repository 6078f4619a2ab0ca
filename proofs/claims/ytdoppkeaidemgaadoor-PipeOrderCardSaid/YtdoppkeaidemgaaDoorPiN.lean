/- Parts of slices of bytes; the library's Clone, Grow and Concat at bytes; the package's Check. -/
import Derived.Test.YtdoppkeaidemgaaDoorPiC
import Derived.Deep.LoopGhost
import Derived.Lib.AppendZeros
namespace Go.Proofs.YtdoppkeaidemgaaDoor
open Go.RowKit
set_option linter.unusedVariables false
set_option maxRecDepth 100000
section
variable {w w' : World} {u : Value} {p : Pp}
/-- a part of a slice of bytes -/
theorem Byts.part {p : Option Addr} {n cap : Nat} {l : List Int} (h : Byts w (.slice p n cap) l) (o k : Nat) (hok : o + k ≤ l.length) : Byts w (.slice (if cap = o then p else Option.map (fun x => x.add o) p) k (cap - o)) ((l.drop o).take k) := by
  obtain ⟨p', c', e, h2, h3⟩ := h
  cases e
  have hl : ((l.drop o).take k).length = k := by simp; omega
  refine ⟨_, cap - o, by rw [hl], ⟨by rw [hl]; omega, by omega⟩, fun i hi => ?_⟩
  rw [hl] at hi
  obtain ⟨a, rfl, hc⟩ := h3 (o + i) (by omega)
  rw [if_neg (by omega)]
  refine ⟨a.add o, rfl, ?_⟩
  have e2 : ((l.drop o).take k).getD i 0 = l.getD (o + i) 0 := by
    simp only [List.getD_eq_getElem?_getD, List.getElem?_take, if_pos hi, List.getElem?_drop]
  rw [e2, ← hc, Go.Deep.add_add]
theorem Byts.front {p : Option Addr} {n cap : Nat} {l : List Int} (h : Byts w (.slice p n cap) l) (k : Nat) (hok : k ≤ l.length) : Byts w (.slice p k cap) (l.take k) := by
  obtain ⟨p', c', e, h2, h3⟩ := h
  cases e
  have hl : (l.take k).length = k := by simp; omega
  refine ⟨_, cap, by rw [hl], ⟨by rw [hl]; omega, h2.2⟩, fun i hi => ?_⟩
  rw [hl] at hi
  obtain ⟨a, rfl, hc⟩ := h3 i (by omega)
  refine ⟨a, rfl, ?_⟩
  rw [hc]
  simp only [List.getD_eq_getElem?_getD, List.getElem?_take, if_pos hi]
theorem Byts.caps {p : Option Addr} {n cap : Nat} {l : List Int} (h : Byts w (.slice p n cap) l) : n = l.length ∧ l.length ≤ cap ∧ cap ≤ maxLen := by
  obtain ⟨p', c', e, h2, h3⟩ := h
  cases e
  exact ⟨rfl, h2⟩
theorem bclone_any (u : Value) (l : List Int) (w : World) (hu : Byts w u l) (hl : l.length ≤ 100000) : Calls Tryd.prog 18 #[u] w fun e w' => ∃ v, e = .returned v ∧ OwnB w.heap.size w' v l ∧ New w w' := by
  obtain ⟨p, cap, rfl, h2, h3⟩ := id hu
  rcases p with _ | a
  · have hl0 : l = [] := by
      rcases l with _ | ⟨x, r⟩
      · rfl
      · obtain ⟨a, e, -⟩ := h3 0 (by simp); cases e
    subst hl0
    have e0 := fun W => Go.Lib.run_eql_slice_nil (P := Tryd.prog) W 22 5 none 0 cap 0 0 Tryd.underlying22
    go_enter Tryd.func18, Tryd.ntmps18
    go_wp2
    go_ret
    exact ⟨_, rfl, OwnB.nil _ _, New.refl _⟩
  · have e0 := fun W => Go.Lib.run_eql_slice_nil (P := Tryd.prog) W 22 5 (some a) l.length cap 0 0 Tryd.underlying22
    have n1 := (New.refl w).alloc #[] 5
    have hu' := hu.new n1
    have ho : OwnB w.heap.size (w.alloc (.cells #[] 5)) (.slice (some ⟨w.heap.size, 0, none⟩) 0 0) [] := World.ownsRow_made w #[] 0 (Nat.le_refl _) (Nat.zero_le _) rfl
    go_enter Tryd.func18, Tryd.ntmps18
    go_wp2_with (at_builtin; refine wpList_append_bytes rfl _ _ rfl rfl w.heap.size _ [] rfl ho _ l rfl hu' (by simp; omega) (by simp) ?_; intro v' w2 o2 g2)
    go_ret
    exact ⟨_, rfl, o2, g2 w (Nat.le_refl _) n1⟩
set_option maxHeartbeats 1000000 in
/-- room for so many more, of nil -/
theorem bgrow_any (w : World) (n : Nat) (hn : n ≤ 1000000) : Calls Tryd.prog 23 #[.slice none 0 0, .int .i64 (n : Int)] w fun e w' => ∃ v, e = .returned v ∧ OwnB w.heap.size w' v [] ∧ New w w' := by
  obtain ⟨i0, hi, hz0, hz1, hz2⟩ := info_parts byte_info
  by_cases c : n = 0
  · subst c
    go_enter Tryd.func23, Tryd.ntmps23
    go_wp2
    go_ret
    exact ⟨_, rfl, OwnB.nil _ _, New.refl _⟩
  · have d : decide ((n : Int) > 0) = true := by simp; omega
    have hr := Lib.run_append_nil_zeros (P := Tryd.prog) w 22 3 22 5 i0 _ .i64 .i64 Tryd.underlying22 Tryd.underlying3 hi hz0 n (by omega) (by omega) (by omega) (by rw [hz2]; omega)
    have hge := grownCap_ge w n 0 5
    have hcm := grownCap_le_maxLen w n 0 5 (by unfold maxLen; omega)
    generalize grownCap w n 0 5 = cp at *
    go_enter Tryd.func23, Tryd.ntmps23
    go_wp2_with (at_builtin; refine Lib.wpList_append_run _ rfl _ _ _ _ rfl _ _ rfl rfl _ _ hr ?_)
    go_ret
    generalize hC : (Builtin.zeroCells #[Value.int .u8 0] n ++ Builtin.zeroCells #[Value.int .u8 0] (cp - n)) = C
    have hs : C.size = cp * 1 := by
      rw [← hC, Array.size_append, size_zeroCells, size_zeroCells]
      show n * 1 + (cp - n) * 1 = cp * 1
      omega
    exact ⟨_, rfl, OwnB.new (World.ownsRow_made w C cp (Nat.le_refl _) hcm hs) (New.refl _).drew, ((New.refl w).alloc _ _).drew⟩
set_option maxHeartbeats 1000000 in
/-- two slices of bytes, one behind the other, in one that the call makes -/
theorem bconcat_any (w : World) (b : Nat) (u v : Value) (l m : List Int) (h0 : w.cell? ⟨b, 0, none⟩ = some u) (h1 : w.cell? ⟨b, 1, none⟩ = some v) (hu : Byts w u l) (hv : Byts w v m) (hlen : l.length + m.length ≤ 100000) :
    Calls Tryd.prog 19 #[.slice (some ⟨b, 0, none⟩) 2 2] w fun e w' => ∃ v, e = .returned v ∧ OwnB w.heap.size w' v (l ++ m) ∧ New w w' := by
  obtain ⟨q, cap, rfl⟩ := hu.shape
  obtain ⟨q2, cap2, rfl⟩ := hv.shape
  have HU := Lib.hid hu
  have HV := Lib.hid hv
  have q := bgrow_any w (l.length + m.length) (by omega)
  have B0 := Lib.hid h0
  have B1 := Lib.hid h1
  clear hu hv
  go_enter Tryd.func19, Tryd.ntmps19
  go_wp2
  go_loopg [3, 11] 2 (fun k s i wr => ∃ j : Nat, j + k = 2 ∧ i = .int .i64 (j : Int) ∧ s = .int .i64 ((if j = 0 then 0 else if j = 1 then l.length else l.length + m.length : Nat) : Int) ∧ w = wr)
  case atStart => exact ⟨0, by omega, rfl, rfl, rfl⟩
  case round =>
    obtain ⟨j, hj, rfl, rfl, rfl⟩ := hrel
    have E : j = 0 ∨ j = 1 ∨ j = 2 := by omega
    have J := Lib.hid hj
    clear hj
    rcases E with rfl | rfl | rfl
    · go_wp2
      go_roundg 1
      case measure => have := J.out; omega
      case rel => exact ⟨1, rfl, rfl, by simp, rfl⟩
    · simp only [if_neg (show ¬ (1 : Nat) = 0 by omega), if_pos] at *
      go_wp2
      go_roundg 0
      case measure => have := J.out; omega
      case rel => exact ⟨2, rfl, rfl, by simp, rfl⟩
    · simp only [if_neg (show ¬ (2 : Nat) = 0 by omega), if_neg (show ¬ (2 : Nat) = 1 by omega)] at *
      have Q := Lib.hid q
      generalize hT : l.length + m.length = T at *
      have HT := Lib.hid hT
      clear hT
      go_wp2_with fail
      refine Q.out.mono ?_
      rintro e w1 ⟨v1, rfl, o1, n1⟩
      clear q
      go_wp2
      go_loopg [6, 27] 2 (fun k acc i wr => ∃ j : Nat, j + k = 2 ∧ i = .int .i64 (j : Int) ∧ OwnB w.heap.size wr acc (if j = 0 then [] else if j = 1 then l else l ++ m) ∧ New w wr)
      case atStart => exact ⟨0, by omega, rfl, o1, n1⟩
      case round =>
        obtain ⟨j, hj, rfl, ho, hn⟩ := hrel
        have E : j = 0 ∨ j = 1 ∨ j = 2 := by omega
        have K := Lib.hid hj
        have h0 := Lib.hid (hn.keeps B0.out)
        have h1 := Lib.hid (hn.keeps B1.out)
        have hu := Lib.hid (HU.out.new hn)
        have hv := Lib.hid (HV.out.new hn)
        have HN := Lib.hid hn
        have sz := hn.size
        clear hj hn o1 n1 Q
        rcases E with rfl | rfl | rfl
        · simp only [if_pos] at ho
          have c0 := h0.out
          have HO := Lib.hid ho
          obtain ⟨p3, c3, rfl⟩ := ho.shape
          clear ho
          go_wp2_with (at_builtin; refine wpList_append_bytes rfl _ _ rfl rfl w.heap.size _ [] rfl HO.out _ l rfl hu.out (by have := HT.out; simp; omega) sz ?_; intro v' w2 o2 g2)
          have O2 := Lib.hid o2
          have G2 := Lib.hid (g2 w (Nat.le_refl _) HN.out)
          obtain ⟨p4, c4, rfl⟩ := o2.shape
          clear o2 g2
          go_wp2
          go_roundg 1
          case measure => have := K.out; omega
          case rel => exact ⟨1, rfl, rfl, by simpa using O2.out, G2.out⟩
        · simp only [if_neg (show ¬ (1 : Nat) = 0 by omega), if_pos] at ho
          have c0 := h1.out
          have HO := Lib.hid ho
          obtain ⟨p3, c3, rfl⟩ := ho.shape
          clear ho
          go_wp2_with (at_builtin; refine wpList_append_bytes rfl _ _ rfl rfl w.heap.size _ l rfl HO.out _ m rfl hv.out (by have := HT.out; omega) sz ?_; intro v' w2 o2 g2)
          have O2 := Lib.hid o2
          have G2 := Lib.hid (g2 w (Nat.le_refl _) HN.out)
          obtain ⟨p4, c4, rfl⟩ := o2.shape
          clear o2 g2
          go_wp2
          go_roundg 0
          case measure => have := K.out; omega
          case rel => exact ⟨2, rfl, rfl, by simpa using O2.out, G2.out⟩
        · simp only [if_neg (show ¬ (2 : Nat) = 0 by omega), if_neg (show ¬ (2 : Nat) = 1 by omega)] at ho
          have HO := Lib.hid ho
          obtain ⟨p3, c3, rfl⟩ := ho.shape
          clear ho
          go_wp2
          go_ret
          exact ⟨_, rfl, HO.out, HN.out⟩
theorem pnum_any (n : Int) (w : World) : Calls Tryd.prog 22 #[.int .i64 n] w fun e w' => e = .returned (.bool (decide (0 ≤ n ∧ n ≤ 1048576))) ∧ w' = w := by
  by_cases h : 0 ≤ n
  · by_cases h2 : n ≤ 1048576
    · rw [decide_eq_true ⟨h, h2⟩]
      go_enter Tryd.func22, Tryd.ntmps22
      go_wp2
      go_ret
      exact ⟨rfl, rfl⟩
    · rw [decide_eq_false (fun c => h2 c.2)]
      go_enter Tryd.func22, Tryd.ntmps22
      go_wp2
      go_ret
      exact ⟨rfl, rfl⟩
  · rw [decide_eq_false (fun c => h c.1)]
    go_enter Tryd.func22, Tryd.ntmps22
    go_wp2
    go_ret
    exact ⟨rfl, rfl⟩
set_option maxHeartbeats 1000000 in
theorem pcheck_any (h : Byts w u p.l) : Calls Tryd.prog 16 #[PpV u p] w fun e w' => e = .returned (erN (if decide (piOk p.l p.r p.w) = true then 0 else 22)) ∧ New w w' := by
  obtain ⟨q, cap, rfl⟩ := h.shape
  obtain ⟨l, r, wr⟩ := p
  unfold PpV
  dsimp only
  have nn := (New.refl w).alloc #[.slice q l.length cap, .int .i64 r, .int .i64 wr] 26
  by_cases h1 : l.length ≤ 64
  · have h1' : (l.length : Int) ≤ 64 := by omega
    have cr := fun W => pnum_any r W
    have cw := fun W => pnum_any wr W
    by_cases h2 : 0 ≤ r ∧ r ≤ 1048576
    · simp only [decide_eq_true h2] at cr
      by_cases h3 : 0 ≤ wr ∧ wr ≤ 1048576
      · simp only [decide_eq_true h3] at cw
        rw [decide_eq_true (show piOk l r wr from ⟨h1, h2.1, h2.2, h3.1, h3.2⟩), if_pos rfl]
        clear h h1
        generalize l.length = n at *
        go_enter Tryd.func16, Tryd.ntmps16
        go_wp2_with fail
        refine (cr _).mono ?_
        rintro e w1 ⟨rfl, rfl⟩
        go_wp2_with fail
        refine (cw _).mono ?_
        rintro e w1 ⟨rfl, rfl⟩
        go_wp2
        go_ret
        exact ⟨rfl, nn⟩
      · simp only [decide_eq_false h3] at cw
        rw [decide_eq_false (show ¬ piOk l r wr from fun c => h3 ⟨c.2.2.2.1, c.2.2.2.2⟩), if_neg (by decide)]
        clear h h1
        generalize l.length = n at *
        go_enter Tryd.func16, Tryd.ntmps16
        go_wp2_with fail
        refine (cr _).mono ?_
        rintro e w1 ⟨rfl, rfl⟩
        go_wp2_with fail
        refine (cw _).mono ?_
        rintro e w1 ⟨rfl, rfl⟩
        go_wp2
        go_ret
        exact ⟨rfl, nn⟩
    · simp only [decide_eq_false h2] at cr
      rw [decide_eq_false (show ¬ piOk l r wr from fun c => h2 ⟨c.2.1, c.2.2.1⟩), if_neg (by decide)]
      clear h h1 cw
      generalize l.length = n at *
      go_enter Tryd.func16, Tryd.ntmps16
      go_wp2_with fail
      refine (cr _).mono ?_
      rintro e w1 ⟨rfl, rfl⟩
      go_wp2
      go_ret
      exact ⟨rfl, nn⟩
  · have h1' : ¬ (l.length : Int) ≤ 64 := by omega
    rw [decide_eq_false (show ¬ piOk l r wr from fun c => h1 c.1), if_neg (by decide)]
    clear h h1
    generalize l.length = n at *
    go_enter Tryd.func16, Tryd.ntmps16
    go_wp2
    go_ret
    exact ⟨rfl, nn⟩
end
end Go.Proofs.YtdoppkeaidemgaaDoor
