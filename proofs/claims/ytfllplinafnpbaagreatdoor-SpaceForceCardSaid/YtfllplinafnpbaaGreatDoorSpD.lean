/- Spaces of pages in memory: the library's IndexFunc and DeleteFunc over numbers, and the pages of a range that have frames. Contracts, in any world; behind each there are only new blocks. -/
import Derived.Test.YtfllplinafnpbaaGreatDoorSpC
namespace Go.Proofs.YtfllplinafnpbaaGreatDoor
open Go.RowKit
set_option linter.unusedVariables false
set_option maxRecDepth 100000
/-- not within the range -/
def outR (a b x : Int) : Bool := decide (x < a) || decide (b ≤ x)
theorem fill_clo (W : World) (x a b : Int) (ab bb : Nat) (ha : W.cell? ⟨ab, 0, none⟩ = some (.int .i64 a)) (hb : W.cell? ⟨bb, 0, none⟩ = some (.int .i64 b)) :
    Calls Tryz.prog 83 #[.int .i64 x, .pointer (some ⟨ab, 0, none⟩), .pointer (some ⟨bb, 0, none⟩)] W fun e w' => e = .returned (.bool (outR a b x)) ∧ W = w' := by
  unfold outR
  by_cases c : x < a
  · have d : decide (x < a) = true := by simpa using c
    rw [d]
    go_enter Tryz.func83, Tryz.ntmps83
    go_wp2
    go_ret
    exact ⟨rfl, rfl⟩
  · have d : decide (x < a) = false := by simpa using c
    rw [d]
    go_enter Tryz.func83, Tryz.ntmps83
    go_wp2
    go_ret
    exact ⟨rfl, rfl⟩
/-- the first one's place that meets a condition -/
def FstI (g : Int → Bool) (l : List Int) (i : Nat) : Prop := i < l.length ∧ g (l.getD i 0) = true ∧ ∀ j, j < i → g (l.getD j 0) = false
section
variable {w1 w : World} {v ca cb : Value} {l : List Int} {g : Int → Bool}
set_option maxHeartbeats 1000000 in
theorem idx_fill (h : Ints w v l) (hB : l.length ≤ 9223372036854775807)
    (HF : ∀ x : Int, Calls Tryz.prog 83 #[.int .i64 x, ca, cb] w (fun e w' => e = .returned (.bool (g x)) ∧ w = w')) :
    Calls Tryz.prog 122 #[v, .func (.func 83) #[] #[ca, cb]] w fun e w' => w = w' ∧ ((e = .returned (.int .i64 (-1)) ∧ ∀ j, j < l.length → g (l.getD j 0) = false) ∨ ∃ i : Nat, FstI g l i ∧ e = .returned (.int .i64 i)) := by
  obtain ⟨p, cap, rfl⟩ := h.len
  have HI := Lib.hid h
  clear h
  go_enter Tryz.func122, Tryz.ntmps122
  go_wp2
  go_loopg [8] l.length (fun k i wr => ∃ j : Nat, j + k = l.length ∧ i = .int .i64 (j : Int) ∧ w = wr ∧ ∀ i, i < j → g (l.getD i 0) = false)
  case atStart => exact ⟨0, by omega, rfl, rfl, fun i h => absurd h (Nat.not_lt_zero _)⟩
  case round =>
    obtain ⟨j, hj, rfl, rfl, hok⟩ := hrel
    by_cases c : j < l.length
    · have hcell : ∃ b, p = some ⟨b, 0, none⟩ ∧ w.cell? ⟨b, j, none⟩ = some (.int .i64 (l.getD j 0)) := by
        rcases HI.out with ⟨e, e2⟩ | ⟨b, cap', e, _, _, _, hh⟩
        · rw [e2] at c; exact absurd c (Nat.not_lt_zero _)
        · cases e; exact ⟨b, rfl, hh j c⟩
      obtain ⟨b, rfl, c0⟩ := hcell
      have X := HF (l.getD j 0)
      have HO := Lib.hid hok
      have J := Lib.hid hj
      have C := Lib.hid c
      cases hg : g (l.getD j 0) with
      | true =>
        rw [hg] at X
        obtain ⟨x, hx⟩ : ∃ x, l.getD j 0 = x := ⟨_, rfl⟩
        have XE := Lib.hid hx
        rw [hx] at X c0 hg
        have HG := Lib.hid hg
        clear hg hok hj hx
        go_wp2_with (go_at_call 83; (with_reducible refine X.mono ?_); rintro e w' ⟨rfl, rfl⟩)
        go_ret
        exact ⟨rfl, .inr ⟨j, ⟨C.out, by rw [XE.out]; exact HG.out, HO.out⟩, rfl⟩⟩
      | false =>
        rw [hg] at X
        obtain ⟨x, hx⟩ : ∃ x, l.getD j 0 = x := ⟨_, rfl⟩
        have XE := Lib.hid hx
        rw [hx] at X c0 hg
        have HG := Lib.hid hg
        clear hg hok hj hx
        go_wp2_with (go_at_call 83; (with_reducible refine X.mono ?_); rintro e w' ⟨rfl, rfl⟩)
        go_roundg (l.length - (j + 1))
        case measure => have := J.out; omega
        case rel => exact ⟨j + 1, by have := J.out; omega, by go_num, rfl, fun i hi => by
          rcases Nat.lt_or_ge i j with h | h
          · exact HO.out i h
          · obtain rfl : i = j := by omega
            rw [XE.out]; exact HG.out⟩
    · obtain rfl : j = l.length := by omega
      go_wp2
      go_ret
      exact ⟨rfl, .inl ⟨rfl, hok⟩⟩
/-- behind so many of a list: those that are kept, and the rest as it was -/
structure Kp (g : Int → Bool) (l X : List Int) (a b : Nat) : Prop where
  len : X.length = l.length
  lt : a < b
  le : b ≤ l.length
  fst : X.take a = (l.take b).filter fun x => !g x
  snd : X.drop b = l.drop b
theorem getD_drop (l : List Int) (b i : Nat) : (l.drop b).getD i 0 = l.getD (b + i) 0 := by simp [List.getD_eq_getElem?_getD]
theorem Kp.at_ {X : List Int} {a b : Nat} (h : Kp g l X a b) : X.getD b 0 = l.getD b 0 := by
  have e := getD_drop X b 0
  rw [h.snd, getD_drop] at e
  simpa using e.symm
theorem Kp.start {i : Nat} (h : FstI g l i) : Kp g l l i (i + 1) := by
  refine ⟨rfl, by omega, h.1, ?_, rfl⟩
  rw [take_snoc_int l i h.1, List.filter_append, List.filter_eq_self.2 ?_]
  · have e := h.2.1
    generalize l.getD i 0 = y at e ⊢
    simp [e]
  · intro x hx
    obtain ⟨j, hj, rfl⟩ := List.mem_iff_getElem.1 hx
    have hj' : j < i := by rw [List.length_take] at hj; omega
    have := h.2.2 j hj'
    rw [List.getElem_take]
    rw [List.getD_eq_getElem?_getD, List.getElem?_eq_getElem (by have := h.1; omega)] at this
    simpa using this
theorem Kp.skip {X : List Int} {a b : Nat} (h : Kp g l X a b) (hb : b < l.length) (hg : g (l.getD b 0) = true) : Kp g l X a (b + 1) := by
  refine ⟨h.len, by have := h.lt; omega, hb, ?_, ?_⟩
  · rw [take_snoc_int l b hb, List.filter_append, h.fst]
    generalize l.getD b 0 = y at hg ⊢
    simp [hg]
  · rw [← List.drop_drop, h.snd, List.drop_drop]
theorem Kp.keep {X : List Int} {a b : Nat} (h : Kp g l X a b) (hb : b < l.length) (hg : g (l.getD b 0) = false) : Kp g l (X.set a (l.getD b 0)) (a + 1) (b + 1) := by
  have hl := h.len
  have ha := h.lt
  refine ⟨by rw [List.length_set]; exact hl, by omega, hb, ?_, ?_⟩
  · rw [take_snoc_int l b hb, List.filter_append, ← h.fst, take_snoc_int _ a (by rw [List.length_set]; omega), List.take_set_of_le (Nat.le_refl _), getD_set _ _ _ _ (by omega), if_pos rfl]
    generalize l.getD b 0 = y at hg ⊢
    simp [hg]
  · rw [List.drop_set_of_lt (by omega), ← List.drop_drop, h.snd, List.drop_drop]
theorem filter_of_none (h : ∀ j, j < l.length → g (l.getD j 0) = false) : l.filter (fun x => !g x) = l := List.filter_eq_self.2 fun x hx => by
  obtain ⟨j, hj, rfl⟩ := List.mem_iff_getElem.1 hx
  have := h j hj
  rw [List.getD_eq_getElem?_getD, List.getElem?_eq_getElem hj] at this
  simpa using this
theorem Own.form {base : Nat} (h : Own base w v l) : ∃ p k c, v = .slice p k c := by
  rcases h.2 with ⟨rfl, _⟩ | ⟨g, cap, cur, rfl, _⟩
  · exact ⟨_, _, _, rfl⟩
  · exact ⟨_, _, _, rfl⟩
/-- a row of numbers whose cells are known whole: numbers, then what else is there -/
def IRw (w : World) (gb : Nat) (X : List Int) (R : List Value) : Prop := Box w gb (X.map (Value.int .i64) ++ R).toArray 3
theorem IRw.cell {gb : Nat} {X : List Int} {R : List Value} (h : IRw w gb X R) (i : Nat) (hi : i < X.length) : w.cell? ⟨gb, i, none⟩ = some (.int .i64 (X.getD i 0)) ∧ w.frozen? ⟨gb, i, none⟩ = false := by
  refine ⟨?_, Box.unfrozen h i⟩
  rw [Box.cell h i, List.getElem?_toArray, List.getElem?_append_left (by simpa using hi), List.getElem?_map, List.getElem?_eq_getElem hi, List.getD_eq_getElem?_getD, List.getElem?_eq_getElem hi]; rfl
theorem IRw.set {gb : Nat} {X : List Int} {R : List Value} (h : IRw w gb X R) (i : Nat) (hi : i < X.length) (x : Int) : IRw (w.setCell ⟨gb, i, none⟩ (.int .i64 x)) gb (X.set i x) R := by
  have := Box.set h i (.int .i64 x)
  unfold IRw
  rw [List.map_set, ← List.set_append_left _ _ (by simpa using hi)]
  simpa using this
set_option maxHeartbeats 2000000 in
theorem del_fill (n : New w1 w) (h : Own w1.heap.size w v l)
    (HF : ∀ W, New w1 W → ∀ x : Int, Calls Tryz.prog 83 #[.int .i64 x, ca, cb] W (fun e w' => e = .returned (.bool (g x)) ∧ W = w')) :
    Calls Tryz.prog 82 #[v, .func (.func 83) #[] #[ca, cb]] w fun e w' => ∃ v', e = .returned v' ∧ Own w1.heap.size w' v' (l.filter fun x => !g x) ∧ New w1 w' := by
  have hB : l.length ≤ 9223372036854775807 := by
    rcases h.2 with ⟨rfl, hn⟩ | ⟨gb, cap, cur, rfl, hb, hg, h1, h2, h3, h4⟩
    · omega
    · unfold maxLen at h2; omega
  have X := idx_fill (g := g) h.ints hB (fun x => HF w n x)
  obtain ⟨p, k, c, rfl⟩ := Own.form h
  have HW := Lib.hid h
  go_enter Tryz.func82, Tryz.ntmps82
  go_wp2_with fail
  refine X.mono ?_
  rintro e w' ⟨rfl, ⟨rfl, hno⟩ | ⟨i, hi, rfl⟩⟩
  · have HN := Lib.hid hno
    have N1 := Lib.hid n
    clear hno h X
    go_wp2
    go_ret
    exact ⟨_, rfl, by rw [filter_of_none HN.out]; exact HW.out, N1.out⟩
  · have hil := hi.1
    obtain ⟨gb, cap, cur, e0, hb, hg, h1, h2, h3, h4⟩ : ∃ g cap cur, Value.slice p k c = .slice (some ⟨g, 0, none⟩) l.length cap ∧ w1.heap.size ≤ g ∧ w.heap[g]? = some (.cells cur 3 (0, 0)) ∧ l.length ≤ cap ∧ cap ≤ maxLen ∧ cur.size = cap * 1 ∧ cur.toList.take (l.length * 1) = l.map (Value.int .i64) :=
      h.2.resolve_left fun x => by have := x.2; omega
    obtain ⟨rfl, rfl, rfl⟩ : p = some ⟨gb, 0, none⟩ ∧ k = l.length ∧ c = cap := by injection e0 with a b c; exact ⟨a, b, c⟩
    obtain ⟨R, hR, hRl⟩ : ∃ R, cur = (l.map (Value.int .i64) ++ R).toArray ∧ l.length + R.length = c := ⟨cur.toList.drop l.length, by
      have := List.take_append_drop l.length cur.toList
      rw [Nat.mul_one] at h4
      rw [h4] at this
      rw [this], by have : cur.toList.length = c := by simpa using h3
                    rw [List.length_drop]; omega⟩
    subst hR
    have W0 : IRw w gb l R := hg
    have HK := Lib.hid (Kp.start hi)
    have HC := Lib.hid (show l.length ≤ c ∧ c ≤ maxLen ∧ l.length + R.length = c from ⟨h1, h2, hRl⟩)
    have HBs := Lib.hid hb
    have HN := Lib.hid n
    clear h hi X hg h3 h4 e0
    go_wp2_with fail
    go_loopg [5, 6] (l.length - (i + 1)) (fun k x y wr => ∃ a b : Nat, ∃ X : List Int, b + k = l.length ∧ x = .int .i64 (a : Int) ∧ y = .int .i64 (b : Int) ∧ Kp g l X a b ∧ IRw wr gb X R ∧ New w1 wr)
    case atStart => exact ⟨i, i + 1, l, by omega, rfl, by go_num, HK.out, W0, HN.out⟩
    case round =>
      obtain ⟨a, b, X, hj, rfl, rfl, hk, hw, hn⟩ := hrel
      have hlt := hk.lt
      have hlen := hk.len
      obtain ⟨_, _, hz0, hz1, hz2⟩ := info_parts int_info
      by_cases c0 : b < l.length
      · have c1 := (hw.cell b (by omega)).1
        rw [hk.at_] at c1
        have Y := HF wr hn (l.getD b 0)
        have HKp := Lib.hid hk
        have HW2 := Lib.hid hw
        have HN2 := Lib.hid hn
        have J := Lib.hid hj
        have C := Lib.hid c0
        obtain ⟨x, hx⟩ : ∃ x, l.getD b 0 = x := ⟨_, rfl⟩
        have XE := Lib.hid hx
        rw [hx] at Y c1
        have c2 := hw.cell a (by omega)
        cases hg : g x with
        | true =>
          rw [hg] at Y
          have HG := Lib.hid hg
          clear hg hk hw hn hj hx
          go_wp2_with (go_at_call 83; (with_reducible refine Y.mono ?_); rintro e w' ⟨rfl, rfl⟩)
          go_roundg (l.length - (b + 1))
          case measure => have := J.out; omega
          case rel => exact ⟨a, b + 1, X, by have := J.out; omega, rfl, by go_num, HKp.out.skip C.out (by rw [XE.out]; exact HG.out), HW2.out, HN2.out⟩
        | false =>
          rw [hg] at Y
          have HG := Lib.hid hg
          have hla : a < l.length := by omega
          have n2 := Lib.hid (hn.setCell (p := ⟨gb, a, none⟩) HBs.out (.int .i64 x))
          have w2 := Lib.hid (hw.set a (by omega) x)
          obtain ⟨c3, c4⟩ := c2
          clear hg hk hw hn hj hx
          go_wp2_with (go_at_call 83; (with_reducible refine Y.mono ?_); rintro e w' ⟨rfl, rfl⟩)
          go_roundg (l.length - (b + 1))
          case measure => have := J.out; omega
          case rel => exact ⟨a + 1, b + 1, X.set a x, by have := J.out; omega, by go_num, by go_num, by have := HKp.out.keep C.out (by rw [XE.out]; exact HG.out); rwa [XE.out] at this, w2.out, n2.out⟩
      · have hbl : b = l.length := by have := hk.le; omega
        subst hbl
        have hc := HC.out
        have hcl : ∀ ty, (Builtin.clear_ #[43] ty #[.slice (some ⟨gb, a, none⟩) (l.length - a) (c - a)]).run Tryz.prog wr = .ok (.tuple #[]) (wr.setCells gb a (List.replicate (l.length - a) (.int .i64 0))) :=
          fun ty => by
            have := Lib.run_clear_slice wr 43 3 ty (.int .i64 0) (P := Tryz.prog) (by kernel_rfl) (fun w => by kernel_rfl) rfl rfl gb a (l.length - a) (c - a) (by omega) (fun j hj => by rw [(hw.cell (a + j) (by omega)).1]; rfl) (fun j hj => (hw.cell (a + j) (by omega)).2)
            exact this
        have hrow := setCells_row (t := 3) (List.replicate (l.length - a) (.int .i64 0)) a (X.map (Value.int .i64) ++ R) wr hw (by simp; omega)
        have HO : Own w1.heap.size (wr.setCells gb a (List.replicate (l.length - a) (.int .i64 0))) (.slice (some ⟨gb, 0, none⟩) a c) (l.filter fun x => !g x) := by
          have e := hk.fst
          rw [List.take_length] at e
          rw [← e]
          have hla : (X.take a).length = a := by rw [List.length_take]; omega
          refine ⟨by simp, .inr ⟨gb, c, _, by rw [hla], HBs.out, hrow.1, by omega, hc.2.1, ?_, ?_⟩⟩
          · simp only [List.size_toArray, Nat.mul_one]
            simp [splice]; omega
          · rw [hla, Nat.mul_one]
            show (splice (X.map (Value.int .i64) ++ R) a _).take a = _
            unfold splice
            rw [List.take_append_of_le_length (by simp; omega), List.take_append_of_le_length (by simp; omega), List.take_take, Nat.min_self, List.map_take]
        have N3 : New w1 (wr.setCells gb a (List.replicate (l.length - a) (.int .i64 0))) := hrow.2.new hn HBs.out
        have H3 := Lib.hid HO
        have H4 := Lib.hid N3
        have f1 : a < l.length := by omega
        have f2 : a ≤ c := by omega
        have f3 : ¬ c = a := by omega
        have f4 : l.length ≤ c := by omega
        clear hk hw hn hj HO N3 hrow c0
        go_wp2
        go_ret
        exact ⟨_, rfl, H3.out, H4.out⟩
set_option maxHeartbeats 1000000 in
/-- the pages of a range -/
theorem filled_any {w : World} {k fb rb mb qb : Nat} {rs bs : List Int} {S : List Sq} (h : GM w k fb rb mb qb rs bs S) {i : Nat} (hi : i < S.length) (ho : S[i].on = true) {a : Nat → Prop} (gd : Good k a bs S[i].t) (x y : Int) :
    Calls Tryz.prog 39 #[.pointer (some ⟨S[i].sb, 0, none⟩), .int .i64 x, .int .i64 y] w (Lists ((pgs (pgn bs S[i].t) 4096).filter fun p => !outR x y p) w) := by
  obtain ⟨v, hb, _⟩ := (h.has hi ho).box
  have ht := (h.has hi ho).tab
  obtain ⟨c0, c1, c2, c3⟩ := Box.four hb
  have hlt := Box.lt hb
  have n0 := ((New.refl w).alloc #[.int .i64 x] 3).alloc #[.int .i64 y] 3
  have B1 := (Box.here w _ #[.int .i64 x] 3 rfl).alloc (.cells #[.int .i64 y] 3)
  have B2 := Box.here (w.alloc (.cells #[.int .i64 x] 3)) _ #[.int .i64 y] 3 rfl
  have X := tpages_any (ht.new n0) (h.ph.new n0) gd (Nat.le_refl _)
  generalize pgs (pgn bs S[i].t) 4096 = L at *
  clear h hb ht gd
  go_enter Tryz.func39, Tryz.ntmps39
  go_wp2_with fail
  refine X.mono ?_
  rintro e w1 ⟨v1, rfl, o1, n1⟩
  have Y := del_fill (g := outR x y) n1 o1 (fun W n z => fill_clo W z x y _ _ (B1.new n).one (B2.new n).one)
  rw [World.size_alloc] at Y
  clear X o1
  go_wp2_with fail
  with_reducible refine Y.mono ?_
  rintro e w2 ⟨v2, rfl, o2, n2⟩
  go_wp2
  go_ret
  exact ⟨_, rfl, o2.more n0.size, n0.trans n2⟩
end
end Go.Proofs.YtfllplinafnpbaaGreatDoor
