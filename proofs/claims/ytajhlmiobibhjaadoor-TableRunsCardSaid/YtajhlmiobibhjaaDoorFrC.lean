/- What the document's own answers on frames make of a list of frames, one for each time that one is taken: contracts, for any list, in any world, behind which there are only new blocks. -/
import Derived.Test.YtajhlmiobibhjaaDoorFrB
namespace Go.Proofs.YtajhlmiobibhjaaDoor
open Go.RowKit
set_option linter.unusedVariables false
/-- append of one number to a slice of numbers whose capacity is its length: a new row -/
theorem run_append_clip (w : World) (base : Nat) (L : List Int) (p : Option Addr) (hcl : (p = none ∧ L = []) ∨ ∃ b, p = some ⟨b, 0, none⟩ ∧ ∀ i, i < L.length → w.cell? ⟨b, i, none⟩ = some (.int .i64 (L.getD i 0)))
    (ad : Addr) (n : Int) (hn : w.cell? ad = some (.int .i64 n)) (hlen : L.length ≤ 1000000) (hbase : base ≤ w.heap.size) :
    ∃ v' w', (Builtin.append_ #[33, 33] 33 #[.slice p L.length L.length, .slice (some ad) 1 1]).run Tryd.prog w = .ok v' w' ∧ Own base w' v' (L ++ [n]) ∧ w.grownBy w' none := by
  obtain ⟨i0, hi, hz0, hz1, hz2⟩ := info_parts int_info
  have hnews : ∀ j u, ([.int .i64 n] : List Value)[j]? = some u → w.cell? (ad.add j) = some u := by
    intro j u hu; rcases j with _ | j <;> simp at hu; subst hu; simpa [Addr.add] using hn
  rcases hcl with ⟨rfl, rfl⟩ | ⟨b, rfl, hc⟩
  · obtain ⟨v', w', h1, h2, h3, _⟩ := run_append_own (P := Tryd.prog) w base 33 33 3 i0 (.int .i64 0) 1 8 Tryd.underlying33 hi hz0 hz1 hz2 rfl (by decide) (.slice none 0 0) 0 [] (World.ownsRow_nil w base _ 1) ad 1 1 [.int .i64 n] rfl hnews (by intro u hu; simp at hu; subst hu; rfl) (by unfold maxLen; omega) (by omega) hbase
    exact ⟨v', w', h1, h2, h3⟩
  · have holds : ∀ j v, (L.map (Value.int .i64))[j]? = some v → w.cell? ((⟨b, 0, none⟩ : Addr).add j) = some v := by
      intro j v hv
      rw [List.getElem?_map] at hv
      rcases hj : L[j]? with _ | y
      · rw [hj] at hv; cases hv
      · rw [hj] at hv
        have hjl : j < L.length := by
          rcases Nat.lt_or_ge j L.length with k | k
          · exact k
          · rw [List.getElem?_eq_none k] at hj; cases hj
        have e := hc j hjl
        rw [List.getD_eq_getElem?_getD, hj] at e
        have hadd : (⟨b, 0, none⟩ : Addr).add j = ⟨b, j, none⟩ := by unfold Addr.add; split <;> simp_all
        rw [hadd, e]
        simpa using hv
    have hr := run_append_grow (P := Tryd.prog) w 33 33 3 i0 (.int .i64 0) Tryd.underlying33 hi hz0 ⟨b, 0, none⟩ L.length L.length (L.map (Value.int .i64)) (by rw [List.length_map, hz1]; omega) holds ad 1 1 [.int .i64 n] (by rw [hz1]; rfl) hnews (by omega) (by omega) (by rw [hz2]; exact growslice_fits (by omega) (by omega))
    refine ⟨_, _, hr, ?_, ⟨rfl, rfl, rfl, by simp, fun k hk _ => Below.heap_alloc w.drew _ k hk⟩⟩
    have hge := grownCap_ge w (L.length + 1) L.length 3
    have hcm := grownCap_le_maxLen w (L.length + 1) L.length 3 (by unfold maxLen; omega)
    unfold Own World.ownsRow
    rw [List.length_append, List.length_singleton]
    refine ⟨by simp, .inr ⟨w.heap.size, _, _, rfl, hbase, heap_alloc_new w.drew _, hge, hcm, ?_, ?_⟩⟩
    · simp only [Array.size_append, List.size_toArray, size_zeroCells, List.length_map, List.length_singleton, show (Value.int IntKind.i64 0).cells.size = 1 from rfl]
      omega
    · simp only [Array.toList_append, Nat.mul_one, List.map_append, List.map_singleton]
      exact List.take_left' (by simp)
theorem wpList_append_clip {w : World} {ops : Array Oper} {rest : List Oper} {o : Oper} {a : Act} {Q : Exit → Act → World → Prop} (hgd : o.guard = none) (s x : Operand)
    (ho : o.op = .call { callee := .builtin .append, args := #[s, x], argTypes := #[33, 33] }) (hty : o.type = 33)
    (base : Nat) (L : List Int) (p : Option Addr) (hcl : (p = none ∧ L = []) ∨ ∃ b, p = some ⟨b, 0, none⟩ ∧ ∀ i, i < L.length → w.cell? ⟨b, i, none⟩ = some (.int .i64 (L.getD i 0)))
    (hs : a.eval s = .slice p L.length L.length) (ad : Addr) (n : Int) (hx : a.eval x = .slice (some ad) 1 1) (hn : w.cell? ad = some (.int .i64 n)) (hlen : L.length ≤ 1000000) (hbase : base ≤ w.heap.size)
    (h : ∀ v' w', Own base w' v' (L ++ [n]) → w.grownBy w' none → wpList Tryd.prog ops Q rest (a.put o.dst v') w') : wpList Tryd.prog ops Q (o :: rest) a w := by
  obtain ⟨v', w', hr, h2, h3⟩ := run_append_clip w base L p hcl ad n hn hlen hbase
  refine wpList_plain hgd fun _ hK => ?_
  unfold Oper.wp execOp
  rw [← hty] at hr
  simp only [ho, resolve, invoke, builtin, Sem.run_bind, Sem.run_pure, Result.andThen_ok, List.map_toArray, List.map_cons, List.map_nil, hs, hx]
  rw [hty] at hr ⊢
  simp only [hr]
  exact hK _ _ (h v' w' h2 h3)
theorem New.grownNone {a b c : World} (h : New a b) (hg : b.grownBy c none) : New a c := h.grown hg fun k hk => by cases hk
set_option maxHeartbeats 1000000 in
/-- how often a frame stands in the list -/
theorem rrefs_some (many m : Int) (b cap : Nat) (L : List Int) (w : World) (h1 : L.length ≤ cap) (h2 : L.length ≤ 1000000) (h3 : cap ≤ maxLen) (hbl : b < w.heap.size)
    (hc : ∀ i, i < L.length → w.cell? ⟨b, i, none⟩ = some (.int .i64 (L.getD i 0))) :
    Calls Tryd.prog 42 #[.agg #[.int .i64 many, .slice (some ⟨b, 0, none⟩) L.length cap], .int .i64 m] w fun e w' => e = .returned (.int .i64 (cn L m)) ∧ w' = w.alloc (.cells #[.int .i64 many, .slice (some ⟨b, 0, none⟩) L.length cap] 49) := by
  unfold maxLen at h3
  have HC := Lib.hid hc
  clear hc
  go_enter Tryd.func42, Tryd.ntmps42
  go_wp2
  go_loopg [5, 6] L.length (fun k c i wr => ∃ j : Nat, j + k = L.length ∧ i = .int .i64 (j : Int) ∧ c = .int .i64 (cn (L.take j) m) ∧ w.alloc (.cells #[.int .i64 many, .slice (some ⟨b, 0, none⟩) L.length cap] 49) = wr)
  case atStart => exact ⟨0, by omega, rfl, rfl, rfl⟩
  case round =>
    obtain ⟨j, hj, rfl, rfl, rfl⟩ := hrel
    have hcb := cn_bd (L.take j) m
    have hle : (L.take j).length ≤ 1000000 := by rw [List.length_take]; omega
    by_cases c : j < L.length
    · have hcell := HC.out j c
      have E := Lib.hid (cn_take L j m c)
      have J := Lib.hid hj
      clear hj
      generalize L.getD j 0 = x at *
      generalize cn (L.take j) m = y at *
      by_cases d : x = m
      · subst d
        go_wp2
        go_roundg (L.length - (j + 1))
        case measure => have := J.out; omega
        case rel => exact ⟨j + 1, by have := J.out; omega, by go_num, by rw [E.out]; simp, rfl⟩
      · have f : (x == m) = false := by simpa using d
        go_wp2
        go_roundg (L.length - (j + 1))
        case measure => have := J.out; omega
        case rel => exact ⟨j + 1, by have := J.out; omega, by go_num, by rw [E.out, if_neg (fun e => d e.symm)]; go_num, rfl⟩
    · have hjl : j = L.length := by omega
      have T := Lib.hid (show L.take L.length = L from List.take_length)
      clear hj c hle hcb
      subst hjl
      go_wp2
      go_ret
      exact ⟨ret_int (by first | rw [T.out] | rfl), rfl⟩
theorem rrefs_nil (many m : Int) (w : World) :
    Calls Tryd.prog 42 #[.agg #[.int .i64 many, .slice none 0 0], .int .i64 m] w fun e w' => e = .returned (.int .i64 0) ∧ w' = w.alloc (.cells #[.int .i64 many, .slice none 0 0] 49) := by
  go_enter Tryd.func42, Tryd.ntmps42
  go_wp2
  refine wp_loop_rounds 1 ?_
  rw [rounds_succ]
  go_wp2
  go_ret
  exact ⟨rfl, rfl⟩
theorem rrefs_any (many m : Int) (v : Value) (L : List Int) (w : World) (h : Ints w v L) (hl : L.length ≤ 1000000) :
    Calls Tryd.prog 42 #[.agg #[.int .i64 many, v], .int .i64 m] w fun e w' => e = .returned (.int .i64 (cn L m)) ∧ w' = w.alloc (.cells #[.int .i64 many, v] 49) := by
  rcases h with ⟨rfl, rfl⟩ | ⟨b, cap, rfl, h1, h2, h3, h4⟩
  · exact rrefs_nil many m w
  · exact rrefs_some many m b cap L w h1 hl h2 h3 h4
/-- what the document's Alloc, Ref and Unref answer: frames with a list, beside other values, and only new blocks -/
def Frm (base : Nat) (many : Int) (l : List Int) (xs : List Value) (w : World) (e : Ending) (w' : World) : Prop :=
  ∃ v, e = .returned (.tuple (#[.agg #[.int .i64 many, v]] ++ xs.toArray)) ∧ Own base w' v l ∧ New w w'
theorem New.box {w wr : World} {a b c d : Value} {t : TypeId} (h : New ((w.alloc (.cells #[a, b] t)).alloc (.cells #[c, d] t)) wr) :
    New w wr ∧ wr.heap.size ≥ w.heap.size + 2 ∧ wr.cell? ⟨w.heap.size, 0, none⟩ = some a ∧ wr.cell? ⟨w.heap.size, 1, none⟩ = some b ∧ wr.frozen? ⟨w.heap.size, 0, none⟩ = false ∧ wr.frozen? ⟨w.heap.size, 1, none⟩ = false ∧
    wr.cell? ⟨w.heap.size + 1, 0, none⟩ = some c ∧ wr.cell? ⟨w.heap.size + 1, 1, none⟩ = some d ∧ wr.frozen? ⟨w.heap.size + 1, 0, none⟩ = false ∧ wr.frozen? ⟨w.heap.size + 1, 1, none⟩ = false := by
  have hs := h.size
  simp only [World.size_alloc] at hs
  refine ⟨(((New.refl w).alloc _ _).alloc _ _).trans h, by omega, ?_, ?_, ?_, ?_, ?_, ?_, ?_, ?_⟩
  all_goals first
    | (rw [h.cell (by simp <;> omega)]; simp)
    | (rw [h.frozen (by simp <;> omega)]; simp)
theorem rrefs_n (many m : Int) (v : Value) (L : List Int) (w : World) (h : Ints w v L) (hl : L.length ≤ 1000000) :
    Calls Tryd.prog 42 #[.agg #[.int .i64 many, v], .int .i64 m] w (IntN (cn L m) w) := by
  refine (rrefs_any many m v L w h hl).mono ?_
  rintro e w' ⟨rfl, rfl⟩
  exact ⟨rfl, (New.refl _).alloc _ _⟩
theorem pair_set {w : World} {n : Nat} {x y : Value} (h0 : w.cell? ⟨n, 0, none⟩ = some x) (h1 : w.cell? ⟨n, 1, none⟩ = some y) (a b : Value) :
    (w.setCell ⟨n, 0, none⟩ a).cell? ⟨n, 0, none⟩ = some a ∧ ((w.setCell ⟨n, 0, none⟩ a).setCell ⟨n, 1, none⟩ b).cell? ⟨n, 1, none⟩ = some b :=
  ⟨World.cell?_setCell_same _ _ _ h0, World.cell?_setCell_same _ _ _ ((World.cell?_setCell_other _ _ _ _ (by simp)).trans h1)⟩
theorem pair_set2 {w : World} {n m i : Nat} {x y v : Value} (hne : m ≠ n) (h0 : w.cell? ⟨n, 0, none⟩ = some x) (h1 : w.cell? ⟨n, 1, none⟩ = some y) (a b : Value) :
    ((w.setCell ⟨m, i, none⟩ v).setCell ⟨n, 0, none⟩ a).cell? ⟨n, 0, none⟩ = some a ∧ (((w.setCell ⟨m, i, none⟩ v).setCell ⟨n, 0, none⟩ a).setCell ⟨n, 1, none⟩ b).cell? ⟨n, 1, none⟩ = some b :=
  pair_set ((World.cell?_setCell_other _ _ _ _ (fun e => hne (congrArg Addr.block e))).trans h0) ((World.cell?_setCell_other _ _ _ _ (fun e => hne (congrArg Addr.block e))).trans h1) a b
theorem Own.far {base : Nat} {w : World} {v : Value} {l : List Int} (h : Own base w v l) {p : Addr} (hp : p.block < base) (u : Value) : Own base (w.setCell p u) v l := by
  refine ⟨h.1, ?_⟩
  rcases h.2 with hn | ⟨g, cap, cur, rfl, hb, hg, rest⟩
  · exact .inl hn
  · exact .inr ⟨g, cap, cur, rfl, hb, by rw [Below.heap_setCell _ _ _ _ (by omega)]; exact hg, rest⟩
theorem Own.shape {base : Nat} {w : World} {v : Value} {l : List Int} (h : Own base w v l) : ∃ p k c, v = .slice p k c := by
  rcases h.2 with ⟨rfl, _⟩ | ⟨g, cap, cur, rfl, _⟩
  · exact ⟨_, _, _, rfl⟩
  · exact ⟨_, _, _, rfl⟩
theorem Ints.clip {w : World} {v : Value} {L : List Int} (h : Ints w v L) : ∃ p cap, v = .slice p L.length cap ∧ L.length ≤ cap ∧ cap ≤ maxLen ∧ ((p = none ∧ L = []) ∨ ∃ b, p = some ⟨b, 0, none⟩ ∧ b < w.heap.size ∧ ∀ i, i < L.length → w.cell? ⟨b, i, none⟩ = some (.int .i64 (L.getD i 0))) := by
  rcases h with ⟨rfl, rfl⟩ | ⟨b, cap, rfl, h1, h2, h3, h4⟩
  · exact ⟨none, 0, rfl, Nat.le_refl _, by unfold maxLen; omega, .inl ⟨rfl, rfl⟩⟩
  · exact ⟨_, cap, rfl, h1, h2, .inr ⟨b, rfl, h3, h4⟩⟩
set_option maxHeartbeats 2000000 in
theorem ralloc_hit (many : Int) (v : Value) (L : List Int) (i : Nat) (w : World) (h : Ints w v L) (hl : L.length ≤ 1000000) (hi : (i : Int) < many) (hm : many ≤ 1024) (hn : ∀ j : Nat, j < i → cn L (j : Int) ≠ 0) (hz : cn L (i : Int) = 0) :
    Calls Tryd.prog 17 #[.agg #[.int .i64 many, v]] w (Frm w.heap.size many (L ++ [(i : Int)]) [.int .i64 i, .int .i64 0] w) := by
  have HN := Lib.hid hn
  have HZ := Lib.hid hz
  have HI := Lib.hid h
  obtain ⟨p, cap, rfl, h1, h2, h3⟩ := h.clip
  have H3 := Lib.hid h3
  unfold maxLen at h2
  clear h hn hz h3
  go_enter Tryd.func17, Tryd.ntmps17
  go_wp2
  go_loopg [5] (i + 1) (fun k a wr => ∃ j : Nat, j + k = i + 1 ∧ j ≤ i ∧ a = .int .i64 (j : Int) ∧ New ((w.alloc (.cells #[.int .i64 many, .slice p L.length cap] 49)).alloc (.cells #[.int .i64 0, .slice none 0 0] 49)) wr)
  case atStart => exact ⟨0, by omega, by omega, rfl, New.refl _⟩
  case round =>
    obtain ⟨j, hj, hji, rfl, hN⟩ := hrel
    obtain ⟨n0, n1, b0, b1, b2, b3, b4, b5, b6, b7⟩ := hN.box
    have J := Lib.hid hj
    clear hj
    have X := rrefs_n many j (.slice p L.length cap) L wr (HI.out.new n0) hl
    by_cases c : j = i
    · subst c
      rw [HZ.out] at X
      rcases H3.out with ⟨rfl, rfl⟩ | ⟨b, rfl, hbl, hbc⟩
      · have X' : Calls Tryd.prog 42 #[.agg #[.int .i64 many, .slice none 0 cap], .int .i64 j] wr (IntN 0 wr) := X
        clear hl h1 h2 X
        go_wp2_with (first
          | (go_at_call 42; (with_reducible refine X'.mono ?_); rintro e w1 ⟨rfl, hn1⟩; have hM := hN.trans hn1; obtain ⟨m0, m1, k0, k1, k2, k3, k4, k5, k6, k7⟩ := hM.box; clear X' hn1 hN n0 n1 b0 b1 b2 b3 b4 b5 b6 b7 HI H3)
          | (at_builtin; refine wpList_append_clip rfl (.tmp 24) (.tmp 26) rfl rfl w1.heap.size [] none (.inl ⟨rfl, rfl⟩) rfl ⟨w1.heap.size, 0, none⟩ (j : Int) rfl ?c1 (by simp) ?c2 ?_))
        case c1 => exact World.cell?_alloc_at _ _ _ _ rfl
        case c2 => simp
        intro v' w2 hown hgrow
        obtain ⟨p2, kk, cp2, rfl⟩ := hown.shape
        obtain ⟨n2, s2, q0, q1, f0, f1, q2, q3, f2, f3⟩ := (hM.trans (((New.refl w1).allocO _).grownNone hgrow)).box
        have HO := Lib.hid (((hown.far (p := ⟨w.heap.size, 1, none⟩) (by simp; omega) (.slice p2 kk cp2)).far (p := ⟨w.heap.size + 1, 0, none⟩) (by simp; omega) (.int .i64 many)).far (p := ⟨w.heap.size + 1, 1, none⟩) (by simp; omega) (.slice p2 kk cp2))
        clear k0 k1 k2 k3 k4 k5 k6 k7 hown hgrow hM
        go_wp2
        refine bodyPost_ret (v := .tuple #[.agg #[.int .i64 many, .slice p2 kk cp2], .int .i64 j, .int .i64 0]) (by obtain ⟨e1, e2⟩ := pair_set2 (i := 1) (v := .slice p2 kk cp2) (by omega : w.heap.size ≠ w.heap.size + 1) q2 q3 (.int .i64 many) (.slice p2 kk cp2); simp [results, Tryd.results17, go_sem, e1, e2]) rfl ⟨_, rfl, ?_, ?_⟩
        · exact HO.out.more (by omega)
        · exact ((n2.setAt _ _ (by omega) _).setAt _ _ (by omega) _).setAt _ _ (by omega) _
      · have HB := Lib.hid hbc
        clear hbc
        go_wp2_with (first
          | (go_at_call 42; (with_reducible refine X.mono ?_); rintro e w1 ⟨rfl, hn1⟩; have hM := hN.trans hn1; obtain ⟨m0, m1, k0, k1, k2, k3, k4, k5, k6, k7⟩ := hM.box; clear X hn1 hN n0 n1 b0 b1 b2 b3 b4 b5 b6 b7 HI H3)
          | (at_builtin; refine wpList_append_clip rfl (.tmp 24) (.tmp 26) rfl rfl w1.heap.size L (some ⟨b, 0, none⟩) (.inr ⟨b, rfl, ?c0⟩) rfl ⟨w1.heap.size, 0, none⟩ (j : Int) rfl ?c1 hl ?c2 ?_))
        case c0 => intro i hi; rw [World.cell?_alloc_lt _ _ _ (by have := m0.size; simp; omega), m0.cell (p := ⟨b, i, none⟩) hbl]; exact HB.out i hi
        case c1 => exact World.cell?_alloc_at _ _ _ _ rfl
        case c2 => simp
        intro v' w2 hown hgrow
        obtain ⟨p2, kk, cp2, rfl⟩ := hown.shape
        obtain ⟨n2, s2, q0, q1, f0, f1, q2, q3, f2, f3⟩ := (hM.trans (((New.refl w1).allocO _).grownNone hgrow)).box
        have HO := Lib.hid (((hown.far (p := ⟨w.heap.size, 1, none⟩) (by simp; omega) (.slice p2 kk cp2)).far (p := ⟨w.heap.size + 1, 0, none⟩) (by simp; omega) (.int .i64 many)).far (p := ⟨w.heap.size + 1, 1, none⟩) (by simp; omega) (.slice p2 kk cp2))
        clear k0 k1 k2 k3 k4 k5 k6 k7 hown hgrow hM
        go_wp2
        refine bodyPost_ret (v := .tuple #[.agg #[.int .i64 many, .slice p2 kk cp2], .int .i64 j, .int .i64 0]) (by obtain ⟨e1, e2⟩ := pair_set2 (i := 1) (v := .slice p2 kk cp2) (by omega : w.heap.size ≠ w.heap.size + 1) q2 q3 (.int .i64 many) (.slice p2 kk cp2); simp [results, Tryd.results17, go_sem, e1, e2]) rfl ⟨_, rfl, ?_, ?_⟩
        · exact HO.out.more (by omega)
        · exact ((n2.setAt _ _ (by omega) _).setAt _ _ (by omega) _).setAt _ _ (by omega) _
    · have d := HN.out j (by omega)
      have f : (cn L (j : Int) == 0) = false := by simpa using d
      generalize cn L (j : Int) = x at *
      clear d
      go_wp2_with (go_at_call 42; (with_reducible refine X.mono ?_); rintro e w1 ⟨rfl, hn1⟩; have hN1 := hN.trans hn1)
      go_roundg (i - j)
      case measure => have := J.out; omega
      case rel => exact ⟨j + 1, by have := J.out; omega, by omega, by go_num, hN1⟩
end Go.Proofs.YtajhlmiobibhjaaDoor
