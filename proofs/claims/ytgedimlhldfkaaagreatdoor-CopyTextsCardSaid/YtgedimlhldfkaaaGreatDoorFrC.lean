/- What the document's own answers on frames make of a list of frames, one for each time that one is taken: contracts, for any list, in any world, behind which there are only new blocks. -/
import Derived.Test.YtgedimlhldfkaaaGreatDoorFrB
namespace Go.Proofs.YtgedimlhldfkaaaGreatDoor
open Go.RowKit
set_option linter.unusedVariables false
/-- append of one number to a slice of numbers whose capacity is its length: a new row -/
theorem run_append_clip (w : World) (base : Nat) (L : List Int) (p : Option Addr) (hcl : (p = none ∧ L = []) ∨ ∃ b, p = some ⟨b, 0, none⟩ ∧ ∀ i, i < L.length → w.cell? ⟨b, i, none⟩ = some (.int .i64 (L.getD i 0)))
    (ad : Addr) (n : Int) (hn : w.cell? ad = some (.int .i64 n)) (hlen : L.length ≤ 1000000) (hbase : base ≤ w.heap.size) :
    ∃ v' w', (Builtin.append_ #[43, 43] 43 #[.slice p L.length L.length, .slice (some ad) 1 1]).run Tryz.prog w = .ok v' w' ∧ Own base w' v' (L ++ [n]) ∧ w.grownBy w' none := by
  obtain ⟨i0, hi, hz0, hz1, hz2⟩ := info_parts int_info
  have hnews : ∀ j u, ([.int .i64 n] : List Value)[j]? = some u → w.cell? (ad.add j) = some u := by
    intro j u hu; rcases j with _ | j <;> simp at hu; subst hu; simpa [Addr.add] using hn
  rcases hcl with ⟨rfl, rfl⟩ | ⟨b, rfl, hc⟩
  · obtain ⟨v', w', h1, h2, h3, _⟩ := run_append_own (P := Tryz.prog) w base 43 43 3 i0 (.int .i64 0) 1 8 Tryz.underlying43 hi hz0 hz1 hz2 rfl (by decide) (.slice none 0 0) 0 [] (World.ownsRow_nil w base _ 1) ad 1 1 [.int .i64 n] rfl hnews (by intro u hu; simp at hu; subst hu; rfl) (by unfold maxLen; omega) (by omega) hbase
    exact ⟨v', w', h1, h2, h3⟩
  · have holds : ∀ j v, (L.map (Value.int .i64))[j]? = some v → w.cell? ((⟨b, 0, none⟩ : Addr).add j) = some v := by
      intro j v hv
      rw [List.getElem?_map] at hv
      rcases hj : L[j]? with _ | y
      · rw [hj] at hv; cases hv
      · rw [hj] at hv
        have hjl : j < L.length := by
          rcases Nat.lt_or_ge j L.length with k | k
          · exact k
          · rw [List.getElem?_eq_none k] at hj; cases hj
        have e := hc j hjl
        rw [List.getD_eq_getElem?_getD, hj] at e
        have hadd : (⟨b, 0, none⟩ : Addr).add j = ⟨b, j, none⟩ := by unfold Addr.add; split <;> simp_all
        rw [hadd, e]
        simpa using hv
    have hr := run_append_grow (P := Tryz.prog) w 43 43 3 i0 (.int .i64 0) Tryz.underlying43 hi hz0 ⟨b, 0, none⟩ L.length L.length (L.map (Value.int .i64)) (by rw [List.length_map, hz1]; omega) holds ad 1 1 [.int .i64 n] (by rw [hz1]; rfl) hnews (by omega) (by omega) (by rw [hz2]; exact growslice_fits (by omega) (by omega))
    refine ⟨_, _, hr, ?_, ⟨rfl, rfl, rfl, by simp, fun k hk _ => Below.heap_alloc w.drew _ k hk⟩⟩
    have hge := grownCap_ge w (L.length + 1) L.length 3
    have hcm := grownCap_le_maxLen w (L.length + 1) L.length 3 (by unfold maxLen; omega)
    unfold Own World.ownsRow
    rw [List.length_append, List.length_singleton]
    refine ⟨by simp, .inr ⟨w.heap.size, _, _, rfl, hbase, heap_alloc_new w.drew _, hge, hcm, ?_, ?_⟩⟩
    · simp only [Array.size_append, List.size_toArray, size_zeroCells, List.length_map, List.length_singleton, show (Value.int IntKind.i64 0).cells.size = 1 from rfl]
      omega
    · simp only [Array.toList_append, Nat.mul_one, List.map_append, List.map_singleton]
      exact List.take_left' (by simp)
theorem wpList_append_clip {w : World} {ops : Array Oper} {rest : List Oper} {o : Oper} {a : Act} {Q : Exit → Act → World → Prop} (hgd : o.guard = none) (s x : Operand)
    (ho : o.op = .call { callee := .builtin .append, args := #[s, x], argTypes := #[43, 43] }) (hty : o.type = 43)
    (base : Nat) (L : List Int) (p : Option Addr) (hcl : (p = none ∧ L = []) ∨ ∃ b, p = some ⟨b, 0, none⟩ ∧ ∀ i, i < L.length → w.cell? ⟨b, i, none⟩ = some (.int .i64 (L.getD i 0)))
    (hs : a.eval s = .slice p L.length L.length) (ad : Addr) (n : Int) (hx : a.eval x = .slice (some ad) 1 1) (hn : w.cell? ad = some (.int .i64 n)) (hlen : L.length ≤ 1000000) (hbase : base ≤ w.heap.size)
    (h : ∀ v' w', Own base w' v' (L ++ [n]) → w.grownBy w' none → wpList Tryz.prog ops Q rest (a.put o.dst v') w') : wpList Tryz.prog ops Q (o :: rest) a w := by
  obtain ⟨v', w', hr, h2, h3⟩ := run_append_clip w base L p hcl ad n hn hlen hbase
  refine wpList_plain hgd fun _ hK => ?_
  unfold Oper.wp execOp
  rw [← hty] at hr
  simp only [ho, resolve, invoke, builtin, Sem.run_bind, Sem.run_pure, Result.andThen_ok, List.map_toArray, List.map_cons, List.map_nil, hs, hx]
  rw [hty] at hr ⊢
  simp only [hr]
  exact hK _ _ (h v' w' h2 h3)
theorem New.grownNone {a b c : World} (h : New a b) (hg : b.grownBy c none) : New a c := h.grown hg fun k hk => by cases hk
/-- what the document's Alloc, Ref and Unref answer: frames with a list, beside other values, and only new blocks -/
def Frm (base : Nat) (many : Int) (l : List Int) (xs : List Value) (w : World) (e : Ending) (w' : World) : Prop :=
  ∃ v, e = .returned (.tuple (#[.agg #[.int .i64 many, v]] ++ xs.toArray)) ∧ Own base w' v l ∧ New w w'
theorem New.box {w wr : World} {a b c d : Value} {t : TypeId} (h : New ((w.alloc (.cells #[a, b] t)).alloc (.cells #[c, d] t)) wr) :
    New w wr ∧ wr.heap.size ≥ w.heap.size + 2 ∧ wr.cell? ⟨w.heap.size, 0, none⟩ = some a ∧ wr.cell? ⟨w.heap.size, 1, none⟩ = some b ∧ wr.frozen? ⟨w.heap.size, 0, none⟩ = false ∧ wr.frozen? ⟨w.heap.size, 1, none⟩ = false ∧
    wr.cell? ⟨w.heap.size + 1, 0, none⟩ = some c ∧ wr.cell? ⟨w.heap.size + 1, 1, none⟩ = some d ∧ wr.frozen? ⟨w.heap.size + 1, 0, none⟩ = false ∧ wr.frozen? ⟨w.heap.size + 1, 1, none⟩ = false := by
  have hs := h.size
  simp only [World.size_alloc] at hs
  refine ⟨(((New.refl w).alloc _ _).alloc _ _).trans h, by omega, ?_, ?_, ?_, ?_, ?_, ?_, ?_, ?_⟩
  all_goals first
    | (rw [h.cell (by simp <;> omega)]; simp)
    | (rw [h.frozen (by simp <;> omega)]; simp)
theorem pair_set {w : World} {n : Nat} {x y : Value} (h0 : w.cell? ⟨n, 0, none⟩ = some x) (h1 : w.cell? ⟨n, 1, none⟩ = some y) (a b : Value) :
    (w.setCell ⟨n, 0, none⟩ a).cell? ⟨n, 0, none⟩ = some a ∧ ((w.setCell ⟨n, 0, none⟩ a).setCell ⟨n, 1, none⟩ b).cell? ⟨n, 1, none⟩ = some b :=
  ⟨World.cell?_setCell_same _ _ _ h0, World.cell?_setCell_same _ _ _ ((World.cell?_setCell_other _ _ _ _ (by simp)).trans h1)⟩
theorem pair_set2 {w : World} {n m i : Nat} {x y v : Value} (hne : m ≠ n) (h0 : w.cell? ⟨n, 0, none⟩ = some x) (h1 : w.cell? ⟨n, 1, none⟩ = some y) (a b : Value) :
    ((w.setCell ⟨m, i, none⟩ v).setCell ⟨n, 0, none⟩ a).cell? ⟨n, 0, none⟩ = some a ∧ (((w.setCell ⟨m, i, none⟩ v).setCell ⟨n, 0, none⟩ a).setCell ⟨n, 1, none⟩ b).cell? ⟨n, 1, none⟩ = some b :=
  pair_set ((World.cell?_setCell_other _ _ _ _ (fun e => hne (congrArg Addr.block e))).trans h0) ((World.cell?_setCell_other _ _ _ _ (fun e => hne (congrArg Addr.block e))).trans h1) a b
theorem Own.far {base : Nat} {w : World} {v : Value} {l : List Int} (h : Own base w v l) {p : Addr} (hp : p.block < base) (u : Value) : Own base (w.setCell p u) v l := by
  refine ⟨h.1, ?_⟩
  rcases h.2 with hn | ⟨g, cap, cur, rfl, hb, hg, rest⟩
  · exact .inl hn
  · exact .inr ⟨g, cap, cur, rfl, hb, by rw [Below.heap_setCell _ _ _ _ (by omega)]; exact hg, rest⟩
theorem Own.shape {base : Nat} {w : World} {v : Value} {l : List Int} (h : Own base w v l) : ∃ p k c, v = .slice p k c := by
  rcases h.2 with ⟨rfl, _⟩ | ⟨g, cap, cur, rfl, _⟩
  · exact ⟨_, _, _, rfl⟩
  · exact ⟨_, _, _, rfl⟩
theorem Ints.clip {w : World} {v : Value} {L : List Int} (h : Ints w v L) : ∃ p cap, v = .slice p L.length cap ∧ L.length ≤ cap ∧ cap ≤ maxLen ∧ ((p = none ∧ L = []) ∨ ∃ b, p = some ⟨b, 0, none⟩ ∧ b < w.heap.size ∧ ∀ i, i < L.length → w.cell? ⟨b, i, none⟩ = some (.int .i64 (L.getD i 0))) := by
  rcases h with ⟨rfl, rfl⟩ | ⟨b, cap, rfl, h1, h2, h3, h4⟩
  · exact ⟨none, 0, rfl, Nat.le_refl _, by unfold maxLen; omega, .inl ⟨rfl, rfl⟩⟩
  · exact ⟨_, cap, rfl, h1, h2, .inr ⟨b, rfl, h3, h4⟩⟩
end Go.Proofs.YtgedimlhldfkaaaGreatDoor
