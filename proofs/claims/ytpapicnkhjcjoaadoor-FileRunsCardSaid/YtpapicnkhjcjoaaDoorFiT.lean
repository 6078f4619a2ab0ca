/- The package's table of open files in memory: a struct with a row of places; New, and the file at a number. -/
import Derived.Test.YtpapicnkhjcjoaaDoorFiP
import Derived.Laws.MakeOwn
namespace Go.Proofs.YtpapicnkhjcjoaaDoor
open Go.RowKit
set_option linter.unusedVariables false
set_option maxRecDepth 100000
/-- a row of m places -/
def Rof (w : World) (rb m : Nat) (L : Ft) : Prop := ∃ cs : List Value, Box w rb cs.toArray 29 ∧ cs.length = m * 7 ∧ ∀ j, j < m → ∀ f x, (flC (fgF L (j : Int)))[f]? = some x → cs[j * 7 + f]? = some x
/-- a table in memory -/
structure Ftq (w : World) (tb rb m : Nat) (L : Ft) : Prop where
  m1 : 1 ≤ m
  m32 : m ≤ 32
  ne : tb ≠ rb
  head : Box w tb #[.slice (some ⟨rb, 0, none⟩) m m] 70
  row : Rof w rb m L
  ok : FtOk m L
def Ftb (S : Nat → Prop) (w : World) (tb : Nat) (most : Int) (L : Ft) : Prop := ∃ m rb : Nat, most = (m : Int) ∧ Ftq w tb rb m L ∧ ∀ g, S g ↔ (g = tb ∨ g = rb)
section
variable {w w' : World} {tb rb m : Nat} {L : Ft}
theorem Rof.lt (h : Rof w rb m L) : rb < w.heap.size := by obtain ⟨cs, h1, -⟩ := h; exact h1.lt
theorem Rof.but {T : Nat → Prop} (h : Rof w rb m L) (k : But T w w') (hn : ¬ T rb) : Rof w' rb m L := by
  obtain ⟨cs, h1, h2⟩ := h
  exact ⟨cs, h1.but k hn, h2⟩
theorem Ftq.but {T : Nat → Prop} (h : Ftq w tb rb m L) (k : But T w w') (h1 : ¬ T tb) (h2 : ¬ T rb) : Ftq w' tb rb m L := ⟨h.m1, h.m32, h.ne, h.head.but k h1, h.row.but k h2, h.ok⟩
theorem Ftq.new (h : Ftq w tb rb m L) (k : New w w') : Ftq w' tb rb m L := h.but (But.of_new (fun _ => False) k) id id
theorem Rof.cells (h : Rof w rb m L) (j : Nat) (hj : j < m) : ∀ f x, (flC (fgF L (j : Int)))[f]? = some x → w.cell? ⟨rb, j * 7 + f, none⟩ = some x ∧ w.frozen? ⟨rb, j * 7 + f, none⟩ = false := by
  obtain ⟨cs, h1, h2, h3⟩ := h
  intro f x hx
  refine ⟨?_, h1.unfrozen _⟩
  rw [h1.cell, List.getElem?_toArray]
  exact h3 j hj f x hx
/-- the seven of a place -/
theorem Rof.seven (h : Rof w rb m L) (j : Nat) (hj : j < m) (g : Fl) (hg : g = fgF L (j : Int)) : rb < w.heap.size ∧ (w.cell? ⟨rb, j * 7, none⟩ = some (.int .i64 g.k) ∧ w.cell? ⟨rb, j * 7 + 1, none⟩ = some (.int .i64 g.id) ∧ w.cell? ⟨rb, j * 7 + 2, none⟩ = some (.int .i64 g.off) ∧ w.cell? ⟨rb, j * 7 + 3, none⟩ = some (.bool g.rd) ∧ w.cell? ⟨rb, j * 7 + 4, none⟩ = some (.bool g.wt) ∧ w.cell? ⟨rb, j * 7 + 5, none⟩ = some (.string (ba g.nm)) ∧ w.cell? ⟨rb, j * 7 + 6, none⟩ = some (.int .i64 g.rf)) ∧
    (w.frozen? ⟨rb, j * 7, none⟩ = false ∧ w.frozen? ⟨rb, j * 7 + 1, none⟩ = false ∧ w.frozen? ⟨rb, j * 7 + 2, none⟩ = false ∧ w.frozen? ⟨rb, j * 7 + 3, none⟩ = false ∧ w.frozen? ⟨rb, j * 7 + 4, none⟩ = false ∧ w.frozen? ⟨rb, j * 7 + 5, none⟩ = false ∧ w.frozen? ⟨rb, j * 7 + 6, none⟩ = false) := by
  subst hg
  have c := h.cells j hj
  have c0 := c 0 _ rfl
  have c1 := c 1 _ rfl
  have c2 := c 2 _ rfl
  have c3 := c 3 _ rfl
  have c4 := c 4 _ rfl
  have c5 := c 5 _ rfl
  have c6 := c 6 _ rfl
  exact ⟨h.lt, ⟨c0.1, c1.1, c2.1, c3.1, c4.1, c5.1, c6.1⟩, c0.2, c1.2, c2.2, c3.2, c4.2, c5.2, c6.2⟩
/-- another file at one place -/
theorem Rof.step {L' : Ft} {g : Fl} {n : Nat} {cs' : List Value} (h : Rof w rb m L) (hb : Box w' rb cs'.toArray 29) (hl : cs'.length = m * 7)
    (hn : ∀ f x, (flC g)[f]? = some x → cs'[n * 7 + f]? = some x) (ho : ∀ i, i < n * 7 ∨ n * 7 + 7 ≤ i → w'.cell? ⟨rb, i, none⟩ = w.cell? ⟨rb, i, none⟩)
    (hL : ∀ j : Int, fgF L' j = if j = (n : Int) then g else fgF L j) : Rof w' rb m L' := by
  obtain ⟨cs, h1, h2, h3⟩ := h
  refine ⟨cs', hb, hl, fun j hj f x hx => ?_⟩
  rw [hL] at hx
  by_cases c : j = n
  · subst c; rw [if_pos rfl] at hx; exact hn f x hx
  · rw [if_neg (by omega)] at hx
    have hf : f < 7 := (List.getElem?_eq_some_iff.1 hx).1
    have := ho (j * 7 + f) (by omega)
    rw [hb.cell, h1.cell, List.getElem?_toArray, List.getElem?_toArray] at this
    rw [this]; exact h3 j hj f x hx
/-- one field stored -/
theorem Rof.one {L' : Ft} {g : Fl} {n i0 : Nat} {v : Value} (h : Rof w rb m L) (hn : n < m) (hi : i0 < 7) (hg : flC g = (flC (fgF L (n : Int))).set i0 v)
    (hL : ∀ j : Int, fgF L' j = if j = (n : Int) then g else fgF L j) : Rof (w.setCell ⟨rb, n * 7 + i0, none⟩ v) rb m L' := by
  have h' := h
  obtain ⟨cs, h1, h2, h3⟩ := h'
  have hb : Box (w.setCell ⟨rb, n * 7 + i0, none⟩ v) rb (cs.set (n * 7 + i0) v).toArray 29 := by
    have := h1.set (n * 7 + i0) v
    rwa [List.setIfInBounds_toArray] at this
  refine h.step (n := n) (g := g) hb (by rw [List.length_set]; exact h2) (fun f x hx => ?_) (fun i hi' => ?_) hL
  · rw [hg, List.getElem?_set] at hx
    rw [List.getElem?_set]
    by_cases c : i0 = f
    · subst c
      rw [if_pos rfl] at hx ⊢
      rw [if_pos (by rw [h2]; omega)]
      rw [if_pos (by simp [flC]; omega)] at hx; exact hx
    · rw [if_neg c] at hx
      rw [if_neg (by omega)]
      exact h3 n hn f x hx
  · rw [hb.cell, h1.cell, List.getElem?_toArray, List.getElem?_toArray, List.getElem?_set_ne (by omega)]
/-- all seven stored -/
theorem Rof.all {L' : Ft} (g : Fl) {n : Nat} (h : Rof w rb m L) (hn : n < m)
    (hL : ∀ j : Int, fgF L' j = if j = (n : Int) then g else fgF L j) : Rof (((((((w.setCell ⟨rb, n * 7, none⟩ (.int .i64 g.k)).setCell ⟨rb, n * 7 + 1, none⟩ (.int .i64 g.id)).setCell ⟨rb, n * 7 + 2, none⟩ (.int .i64 g.off)).setCell ⟨rb, n * 7 + 3, none⟩ (.bool g.rd)).setCell ⟨rb, n * 7 + 4, none⟩ (.bool g.wt)).setCell ⟨rb, n * 7 + 5, none⟩ (.string (ba g.nm))).setCell ⟨rb, n * 7 + 6, none⟩ (.int .i64 g.rf)) rb m L' := by
  have h' := h
  obtain ⟨cs, h1, h2, h3⟩ := h'
  have hb := ((((((h1.set (n * 7) (.int .i64 g.k)).set (n * 7 + 1) (.int .i64 g.id)).set (n * 7 + 2) (.int .i64 g.off)).set (n * 7 + 3) (.bool g.rd)).set (n * 7 + 4) (.bool g.wt)).set (n * 7 + 5) (.string (ba g.nm))).set (n * 7 + 6) (.int .i64 g.rf)
  simp only [List.setIfInBounds_toArray] at hb
  refine h.step (n := n) (g := g) hb (by simp only [List.length_set]; exact h2) (fun f x hx => ?_) (fun i hi' => ?_) hL
  · have hf : f < 7 := (List.getElem?_eq_some_iff.1 hx).1
    have : f = 0 ∨ f = 1 ∨ f = 2 ∨ f = 3 ∨ f = 4 ∨ f = 5 ∨ f = 6 := by omega
    rcases this with rfl | rfl | rfl | rfl | rfl | rfl | rfl <;> simp [flC] at hx <;> subst hx <;> simp [List.getElem?_set, h2] <;> omega
  · rw [hb.cell, h1.cell, List.getElem?_toArray, List.getElem?_toArray]
    rw [List.getElem?_set_ne (by omega), List.getElem?_set_ne (by omega), List.getElem?_set_ne (by omega), List.getElem?_set_ne (by omega), List.getElem?_set_ne (by omega), List.getElem?_set_ne (by omega), List.getElem?_set_ne (by omega)]
/-! ### what a call leaves -/
variable {S : Nat → Prop} {most : Int}
theorem Ftb.keep {T : Nat → Prop} (h : Ftb S w tb most L) (k : But T w w') (hT : ∀ g, S g → ¬ T g) : Ftb S w' tb most L := by
  obtain ⟨m, rb, h1, h2, h3⟩ := h
  exact ⟨m, rb, h1, h2.but k (hT _ ((h3 _).2 (.inl rfl))) (hT _ ((h3 _).2 (.inr rfl))), h3⟩
theorem Ftb.lt (h : Ftb S w tb most L) : ∀ g, S g → g < w.heap.size := by
  obtain ⟨m, rb, h1, h2, h3⟩ := h
  intro g hg
  rcases (h3 g).1 hg with rfl | rfl
  · exact h2.head.lt
  · exact h2.row.lt
theorem Ftb.inv (h : Ftb S w tb most L) : L.length ≤ 32 ∧ ∀ q ∈ L, 1 ≤ q.2.rf ∧ q.2.rf ≤ 1048576 := by
  obtain ⟨m, rb, h1, h2, h3⟩ := h
  exact ⟨Nat.le_trans h2.ok.len h2.m32, h2.ok.rf⟩
def FtD (S : Nat → Prop) (w w' : World) (tb : Nat) (most : Int) (L' : Ft) : Prop := ∃ S', Ftb S' w' tb most L' ∧ But S w w' ∧ ∀ g, S' g → S g ∨ w.heap.size ≤ g
theorem FtD.same {L' : Ft} (hS : ∀ g, S g ↔ (g = tb ∨ g = rb)) (hm : most = (m : Int)) (h : Ftq w' tb rb m L') (k : But (fun g => g = rb) w w') : FtD S w w' tb most L' :=
  ⟨S, ⟨m, rb, hm, h, hS⟩, k.mono fun i _ e => (hS i).2 (.inr e), fun g hg => .inl hg⟩
theorem FtD.new (h : Ftb S w tb most L) (k : New w w') : FtD S w w' tb most L := ⟨S, h.keep (But.of_new (fun _ => False) k) (fun _ _ c => c), But.of_new S k, fun g hg => .inl hg⟩
end
/-! ### New -/
theorem files_info : (Tryd.prog.info? 29).map (fun i => (i.zero, i.size, i.bytes)) = some (some (.agg #[.int .i64 0, .int .i64 0, .int .i64 0, .bool false, .bool false, .string ByteArray.empty, .int .i64 0]), 7, 56) := by kernel_rfl
theorem zero_cells (m j f : Nat) (hj : j < m) (x : Value) (hx : (flC Fl.zero)[f]? = some x) : (madeCells #[.int .i64 0, .int .i64 0, .int .i64 0, .bool false, .bool false, .string ByteArray.empty, .int .i64 0] (m * 7)).toList[j * 7 + f]? = some x := by
  have hf : f < 7 := (List.getElem?_eq_some_iff.1 hx).1
  rw [Array.getElem?_toList]
  have e : (j * 7 + f) % 7 = f := by omega
  have hr : (Array.range (m * 7))[j * 7 + f]? = some (j * 7 + f) := by rw [Array.getElem?_range, if_pos (by omega)]
  unfold madeCells
  rw [Array.getElem?_map, hr]
  have : f = 0 ∨ f = 1 ∨ f = 2 ∨ f = 3 ∨ f = 4 ∨ f = 5 ∨ f = 6 := by omega
  rcases this with rfl | rfl | rfl | rfl | rfl | rfl | rfl <;> (simp [flC, Fl.zero] at hx; subst hx) <;> simp [e] <;> rfl
theorem make_files (m : Nat) (hm : m ≤ 32) (w : World) : (Instr.makeSlice 68 (.int .i64 (m : Int)) (.int .i64 (m : Int))).run Tryd.prog w =
    .ok (.slice (some ⟨w.heap.size, 0, none⟩) m m) (w.alloc (.cells (madeCells #[.int .i64 0, .int .i64 0, .int .i64 0, .bool false, .bool false, .string ByteArray.empty, .int .i64 0] (m * 7)) 29)) := by
  obtain ⟨i, hi, hz, hs, hb⟩ := info_partsN files_info
  have hr := run_make (P := Tryd.prog) w 68 29 i _ Tryd.underlying68 hi hz .i64 .i64 m m (by omega) (Int.le_refl _) (by rw [hb]; omega) (by omega)
  simp only [Int.toNat_natCast, hs] at hr
  rw [hr]
  rfl
theorem fnew_ok (most : Int) (w : World) (h : 1 ≤ most ∧ most ≤ 32) : Calls Tryd.prog 13 #[.int .i64 most] w fun e w' => ∃ tb S, e = .returned (.tuple #[.pointer (some ⟨tb, 0, none⟩), .nilIface]) ∧ Ftb S w' tb most [] ∧ (∀ g, S g → w.heap.size ≤ g) ∧ New w w' := by
  obtain ⟨m, rfl⟩ : ∃ m : Nat, most = (m : Int) := ⟨most.toNat, by omega⟩
  have hmk := make_files m (by omega)
  have f1 : decide ((m : Int) < 1) = false := by simp; omega
  have f2 : decide ((32 : Int) < (m : Int)) = false := by simp; omega
  have hz := zero_cells m
  have hzl : (madeCells #[.int .i64 0, .int .i64 0, .int .i64 0, .bool false, .bool false, .string ByteArray.empty, .int .i64 0] (m * 7)).size = m * 7 := by simp [madeCells]
  generalize (madeCells #[.int .i64 0, .int .i64 0, .int .i64 0, .bool false, .bool false, .string ByteArray.empty, .int .i64 0] (m * 7)) = Z at *
  have HM := Lib.hid h
  have HZ := Lib.hid hz
  have HZL := Lib.hid hzl
  clear h hz hzl
  go_enter Tryd.func13, Tryd.ntmps13
  go_wp2
  refine bodyPost_ret (v := .tuple #[.pointer (some ⟨w.heap.size + 1, 0, none⟩), .nilIface]) (by simp [results, Tryd.results13, go_sem]) rfl ⟨w.heap.size + 1, fun g => g = w.heap.size + 1 ∨ g = w.heap.size, rfl, ⟨m, w.heap.size, rfl, ?_, fun g => Iff.rfl⟩, fun g hg => by omega, ((New.refl _).alloc _ _).alloc _ _⟩
  have H := HM.out
  refine ⟨by omega, by omega, by omega, Box.here _ _ _ _ (by rw [World.size_alloc]), ⟨Z.toList, (Box.here w _ _ _ rfl).alloc _, by rw [Array.length_toList]; exact HZL.out, fun j hj f x hx => ?_⟩, FtOk.nil _⟩
  exact HZ.out j f hj x hx
theorem fnew_no (most : Int) (w : World) (h : most < 1 ∨ 32 < most) : Calls Tryd.prog 13 #[.int .i64 most] w fun e w' => e = .returned (.tuple #[.pointer none, erN 22]) ∧ New w w' := by
  have e3 : erN 22 = .iface 66 (.int .i64 22) := rfl
  rw [e3]
  by_cases c : most < 1
  · clear h
    go_enter Tryd.func13, Tryd.ntmps13
    go_wp2
    go_ret2
    exact ⟨rfl, New.refl _⟩
  · have d : 32 < most := by omega
    clear h
    go_enter Tryd.func13, Tryd.ntmps13
    go_wp2
    go_ret2
    exact ⟨rfl, New.refl _⟩
/-! ### the file at a number -/
section
variable {w w' : World} {tb rb m : Nat} {L : Ft}
theorem ffile_nil (n : Int) (w : World) : Calls Tryd.prog 26 #[.pointer none, .int .i64 n] w fun e w' => e = .returned (.tuple #[.pointer none, erN 22]) ∧ New w w' := by
  have e3 : erN 22 = .iface 66 (.int .i64 22) := rfl
  rw [e3]
  go_enter Tryd.func26, Tryd.ntmps26
  go_wp2
  go_ret2
  exact ⟨rfl, New.refl _⟩
set_option maxHeartbeats 2000000 in
theorem ffile_no (h : Ftq w tb rb m L) (n : Int) (hn : lget L n = none) : Calls Tryd.prog 26 #[.pointer (some ⟨tb, 0, none⟩), .int .i64 n] w fun e w' => e = .returned (.tuple #[.pointer none, erN 9]) ∧ New w w' := by
  have e3 : erN 9 = .iface 66 (.int .i64 9) := rfl
  rw [e3]
  have hh := h.head.one
  have b1 := h.m32
  by_cases c : n < 0
  · clear h hn
    go_enter Tryd.func26, Tryd.ntmps26
    go_wp2
    go_ret2
    exact ⟨rfl, New.refl _⟩
  · by_cases d : (m : Int) ≤ n
    · clear h hn
      go_enter Tryd.func26, Tryd.ntmps26
      go_wp2
      go_ret2
      exact ⟨rfl, New.refl _⟩
    · obtain ⟨j, rfl⟩ : ∃ j : Nat, n = (j : Int) := ⟨n.toNat, by omega⟩
      have hj : j < m := by omega
      obtain ⟨lr, ⟨c0, c1, c2, c3, c4, c5, c6⟩, -⟩ := h.row.seven j hj Fl.zero (fgF_zero hn).symm
      have q := fun W => fnone_any Fl.zero W
      unfold FlV Fl.zero at *
      dsimp only at *
      clear h hn
      go_enter Tryd.func26, Tryd.ntmps26
      go_wp2_with fail
      refine (q _).mono ?_
      rintro e w1 ⟨rfl, n1⟩
      go_wp2
      go_ret2
      exact ⟨rfl, n1⟩
set_option maxHeartbeats 2000000 in
theorem ffile_ok (h : Ftq w tb rb m L) (j : Nat) (hn : lget L (j : Int) ≠ none) : Calls Tryd.prog 26 #[.pointer (some ⟨tb, 0, none⟩), .int .i64 (j : Int)] w fun e w' => e = .returned (.tuple #[.pointer (some ⟨rb, j * 7, none⟩), .nilIface]) ∧ New w w' := by
  have hh := h.head
  have b1 := h.m32
  have hj : j < m := by
    rcases Nat.lt_or_ge j m with c | c
    · exact c
    · exact absurd (h.ok.range (j : Int) (.inr (by omega))) hn
  have hr : (fgF L (j : Int)).rf ≠ 0 := fun c => hn ((h.ok.rf_zero _).1 c)
  obtain ⟨f, hf⟩ : ∃ f, f = fgF L (j : Int) := ⟨_, rfl⟩
  obtain ⟨lr, ⟨c0, c1, c2, c3, c4, c5, c6⟩, -⟩ := h.row.seven j hj f hf
  have q := fun W => fnone_any f W
  rw [← hf] at hr
  rw [decide_eq_false hr] at q
  unfold FlV at *
  obtain ⟨k, id, off, rd, wt, nm, rf⟩ := f
  dsimp only at *
  have hc := hh.one
  have HH := Lib.hid hh
  have HR := Lib.hid hr
  clear h hn hf hh hr
  go_enter Tryd.func26, Tryd.ntmps26
  go_wp2_with fail
  refine (q _).mono ?_
  rintro e w1 ⟨rfl, n1⟩
  have hc := (HH.out.new n1).one
  clear q c0 c1 c2 c3 c4 c5 c6
  go_wp2
  go_ret2
  exact ⟨rfl, n1⟩
end
end Go.Proofs.YtpapicnkhjcjoaaDoor
