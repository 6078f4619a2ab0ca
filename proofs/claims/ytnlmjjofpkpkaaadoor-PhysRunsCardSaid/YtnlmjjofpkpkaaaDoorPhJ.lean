/- What the document's own answers on frames of bytes make of a list of notes: one more of them, or an error. Contracts, for any list of notes, in any world, behind which there are only new blocks. -/
import Derived.Test.YtnlmjjofpkpkaaaDoorPhI
import Derived.Deep.DeepCutAuto
import Derived.Deep.CutBlock
namespace Go.Proofs.YtnlmjjofpkpkaaaDoor
open Go.RowKit
set_option linter.unusedVariables false
set_option maxRecDepth 100000
theorem box_two {w wr : World} {a b c d : Value} {t : TypeId} (h : New ((w.alloc (.cells #[a, b] t)).alloc (.cells #[c, d] t)) wr) :
    New w wr ∧ wr.heap.size ≥ w.heap.size + 2 ∧ wr.cell? ⟨w.heap.size, 0, none⟩ = some a ∧ wr.cell? ⟨w.heap.size, 1, none⟩ = some b ∧ wr.frozen? ⟨w.heap.size, 0, none⟩ = false ∧ wr.frozen? ⟨w.heap.size, 1, none⟩ = false ∧
    wr.cell? ⟨w.heap.size + 1, 0, none⟩ = some c ∧ wr.cell? ⟨w.heap.size + 1, 1, none⟩ = some d ∧ wr.frozen? ⟨w.heap.size + 1, 0, none⟩ = false ∧ wr.frozen? ⟨w.heap.size + 1, 1, none⟩ = false := by
  have hs := h.size
  simp only [World.size_alloc] at hs
  refine ⟨(((New.refl w).alloc _ _).alloc _ _).trans h, by omega, ?_, ?_, ?_, ?_, ?_, ?_, ?_, ?_⟩
  all_goals first
    | (rw [h.cell (by simp <;> omega)]; simp)
    | (rw [h.frozen (by simp <;> omega)]; simp)
theorem set_two {w : World} {n : Nat} {x y : Value} (h0 : w.cell? ⟨n, 0, none⟩ = some x) (h1 : w.cell? ⟨n, 1, none⟩ = some y) (a b : Value) :
    (w.setCell ⟨n, 0, none⟩ a).cell? ⟨n, 0, none⟩ = some a ∧ ((w.setCell ⟨n, 0, none⟩ a).setCell ⟨n, 1, none⟩ b).cell? ⟨n, 1, none⟩ = some b :=
  ⟨World.cell?_setCell_same _ _ _ h0, World.cell?_setCell_same _ _ _ ((World.cell?_setCell_other _ _ _ _ (by simp)).trans h1)⟩
theorem set_three {w : World} {n m i : Nat} {x y v : Value} (hne : m ≠ n) (h0 : w.cell? ⟨n, 0, none⟩ = some x) (h1 : w.cell? ⟨n, 1, none⟩ = some y) (a b : Value) :
    ((w.setCell ⟨m, i, none⟩ v).setCell ⟨n, 0, none⟩ a).cell? ⟨n, 0, none⟩ = some a ∧ (((w.setCell ⟨m, i, none⟩ v).setCell ⟨n, 0, none⟩ a).setCell ⟨n, 1, none⟩ b).cell? ⟨n, 1, none⟩ = some b :=
  set_two ((World.cell?_setCell_other _ _ _ _ (fun e => hne (congrArg Addr.block e))).trans h0) ((World.cell?_setCell_other _ _ _ _ (fun e => hne (congrArg Addr.block e))).trans h1) a b
/-- append of one note to notes whose capacity is their number -/
theorem wpList_append_note {w : World} {ops : Array Oper} {rest : List Oper} {o : Oper} {a : Act} {Q : Exit → Act → World → Prop} (hgd : o.guard = none) (s x : Operand)
    (ho : o.op = .call { callee := .builtin .append, args := #[s, x], argTypes := #[37, 37] }) (hty : o.type = 37)
    (S : Nat → Prop) (L : List Nt) (p : Option Addr) (cap : Nat) (h : Notes S w (.slice p L.length cap) L) (n : Nt) (u : Value) (ad : Addr) (hs : a.eval s = .slice p L.length L.length) (hx : a.eval x = .slice (some ad) 1 1)
    (hc : ∀ j x, ([.int .i64 n.fr, .int .i64 n.off, u] : List Value)[j]? = some x → w.cell? (ad.add j) = some x) (hu1 : u.oneCell' = true) (hu : BytsO S w u n.bs) (hlen : L.length ≤ 1000000) (hbase : ∀ k, w.heap.size ≤ k → S k)
    (hK : ∀ v' w', Notes S w' v' (L ++ [n]) → New w w' → wpList Tryd.prog ops Q rest (a.put o.dst v') w') : wpList Tryd.prog ops Q (o :: rest) a w := by
  obtain ⟨v', w', hr, h2, h3⟩ := run_append_note S w L p cap h n u ad hc hu1 hu hlen hbase
  refine wpList_plain hgd fun _ hK' => ?_
  unfold Oper.wp execOp
  rw [← hty] at hr
  simp only [ho, resolve, invoke, builtin, Sem.run_bind, Sem.run_pure, Result.andThen_ok, List.map_toArray, List.map_cons, List.map_nil, hs, hx]
  rw [hty] at hr ⊢
  simp only [hr]
  exact hK' _ _ (hK v' w' h2 h3)
/-- the document's memory, and more; only new blocks -/
def FrmN (S : Nat → Prop) (many : Int) (L : List Nt) (xs : List Value) (w : World) (e : Ending) (w' : World) : Prop :=
  ∃ v, e = .returned (.tuple (#[.agg #[.int .i64 many, v]] ++ xs.toArray)) ∧ Notes S w' v L ∧ New w w'
section
variable {S : Nat → Prop} {w : World}
set_option maxHeartbeats 2000000 in
theorem rwrite_arg (many : Nat) (v u : Value) (L : List Nt) (m o : Int) (h : Notes S w v L) (hm : ¬ (0 ≤ m ∧ m < many)) :
    Calls Tryd.prog 14 #[.agg #[.int .i64 many, v], .int .i64 m, .int .i64 o, u] w (FrmN S many L [.int .i64 22] w) := by
  have HN := Lib.hid h
  obtain ⟨p, cap, rfl, hlc, hcm⟩ := h.shape
  have X := rhas_no many m (.slice p L.length cap) ((w.alloc (.cells #[.int .i64 many, .slice p L.length cap] 39)).alloc (.cells #[.int .i64 0, .slice none 0 0] 39)) hm
  clear h hm
  go_enter Tryd.func14, Tryd.ntmps14
  go_wp2_with (go_at_call 21; (with_reducible refine X.mono ?_); rintro e w1 ⟨rfl, n1⟩; obtain ⟨n0, s0, b0, b1, b2, b3, b4, b5, b6, b7⟩ := box_two n1)
  refine bodyPost_ret (v := .tuple #[.agg #[.int .i64 many, .slice p L.length cap], .int .i64 22]) (by obtain ⟨e1, e2⟩ := set_two b4 b5 (.int .i64 many) (.slice p L.length cap); simp [results, Tryd.results14, go_sem, e1, e2]) rfl ⟨_, rfl, ?_, ?_⟩
  · exact HN.out.new ((n0.setAt _ _ (by omega) _).setAt _ _ (by omega) _)
  · exact (n0.setAt _ _ (by omega) _).setAt _ _ (by omega) _
set_option maxHeartbeats 4000000 in
theorem rwrite_fault (many j : Nat) (v : Value) (L : List Nt) (o : Int) (pu : Option Addr) (nu cu : Nat) (h : Notes S w v L) (hj : j < many) (hnu : nu ≤ maxLen) (ho : o < 0 ∨ 256 < o + nu) (b1 : o ≤ 9223372036854775807) :
    Calls Tryd.prog 14 #[.agg #[.int .i64 many, v], .int .i64 j, .int .i64 o, .slice pu nu cu] w (FrmN S many L [.int .i64 14] w) := by
  have HN := Lib.hid h
  obtain ⟨p, cap, rfl, hlc, hcm⟩ := h.shape
  unfold maxLen at hnu
  have X := rhas_yes many j (.slice p L.length cap) ((w.alloc (.cells #[.int .i64 many, .slice p L.length cap] 39)).alloc (.cells #[.int .i64 0, .slice none 0 0] 39)) hj
  clear h
  by_cases c1 : o < 0
  · clear ho hj b1
    go_enter Tryd.func14, Tryd.ntmps14
    go_wp2_with (go_at_call 21; (with_reducible refine X.mono ?_); rintro e w1 ⟨rfl, n1⟩; obtain ⟨n0, s0, b0, b1, b2, b3, b4, b5, b6, b7⟩ := box_two n1)
    refine bodyPost_ret (v := .tuple #[.agg #[.int .i64 many, .slice p L.length cap], .int .i64 14]) (by obtain ⟨e1, e2⟩ := set_two b4 b5 (.int .i64 many) (.slice p L.length cap); simp [results, Tryd.results14, go_sem, e1, e2]) rfl ⟨_, rfl, ?_, ?_⟩
    · exact HN.out.new ((n0.setAt _ _ (by omega) _).setAt _ _ (by omega) _)
    · exact (n0.setAt _ _ (by omega) _).setAt _ _ (by omega) _
  · have d1 : decide (o < 0) = false := decide_eq_false c1
    by_cases c2 : 256 < o
    · have d2 : decide (256 < o) = true := decide_eq_true c2
      clear ho hj b1 c1
      go_enter Tryd.func14, Tryd.ntmps14
      go_wp2_with (go_at_call 21; (with_reducible refine X.mono ?_); rintro e w1 ⟨rfl, n1⟩; obtain ⟨n0, s0, b0, b1, b2, b3, b4, b5, b6, b7⟩ := box_two n1)
      refine bodyPost_ret (v := .tuple #[.agg #[.int .i64 many, .slice p L.length cap], .int .i64 14]) (by obtain ⟨e1, e2⟩ := set_two b4 b5 (.int .i64 many) (.slice p L.length cap); simp [results, Tryd.results14, go_sem, e1, e2]) rfl ⟨_, rfl, ?_, ?_⟩
      · exact HN.out.new ((n0.setAt _ _ (by omega) _).setAt _ _ (by omega) _)
      · exact (n0.setAt _ _ (by omega) _).setAt _ _ (by omega) _
    · have d2 : decide (256 < o) = false := decide_eq_false c2
      by_cases c3 : 256 < nu
      · have d3 : decide (256 < (nu : Int)) = true := decide_eq_true (by omega)
        have d4 : decide (256 < nu) = true := decide_eq_true c3
        clear ho hj b1 c1 c2
        go_enter Tryd.func14, Tryd.ntmps14
        go_wp2_with (go_at_call 21; (with_reducible refine X.mono ?_); rintro e w1 ⟨rfl, n1⟩; obtain ⟨n0, s0, b0, b1, b2, b3, b4, b5, b6, b7⟩ := box_two n1)
        refine bodyPost_ret (v := .tuple #[.agg #[.int .i64 many, .slice p L.length cap], .int .i64 14]) (by obtain ⟨e1, e2⟩ := set_two b4 b5 (.int .i64 many) (.slice p L.length cap); simp [results, Tryd.results14, go_sem, e1, e2]) rfl ⟨_, rfl, ?_, ?_⟩
        · exact HN.out.new ((n0.setAt _ _ (by omega) _).setAt _ _ (by omega) _)
        · exact (n0.setAt _ _ (by omega) _).setAt _ _ (by omega) _
      · have d3 : decide (256 < (nu : Int)) = false := decide_eq_false (by omega)
        have d4 : decide (256 < nu) = false := decide_eq_false c3
        have e1 : 0 ≤ o := by omega
        have e2 : o ≤ 256 := by omega
        have e3 : (nu : Int) ≤ 256 := by omega
        have d5 : decide (256 < o + (nu : Int)) = true := decide_eq_true (by omega)
        clear ho hj b1 c1 c2 c3
        go_enter Tryd.func14, Tryd.ntmps14
        go_wp2_with (go_at_call 21; (with_reducible refine X.mono ?_); rintro e w1 ⟨rfl, n1⟩; obtain ⟨n0, s0, b0, b1, b2, b3, b4, b5, b6, b7⟩ := box_two n1)
        refine bodyPost_ret (v := .tuple #[.agg #[.int .i64 many, .slice p L.length cap], .int .i64 14]) (by obtain ⟨e1, e2⟩ := set_two b4 b5 (.int .i64 many) (.slice p L.length cap); simp [results, Tryd.results14, go_sem, e1, e2]) rfl ⟨_, rfl, ?_, ?_⟩
        · exact HN.out.new ((n0.setAt _ _ (by omega) _).setAt _ _ (by omega) _)
        · exact (n0.setAt _ _ (by omega) _).setAt _ _ (by omega) _
set_option maxHeartbeats 4000000 in
theorem rwrite_ok (many f o : Nat) (v u : Value) (L : List Nt) (l : List Int) (h : Notes S w v L) (hS : ∀ k, w.heap.size ≤ k → S k) (hu : BytsO S w u l) (hf : f < many) (hm : many ≤ 1024) (ho : o + l.length ≤ 256) (hl : L.length ≤ 1000000) :
    Calls Tryd.prog 14 #[.agg #[.int .i64 many, v], .int .i64 f, .int .i64 o, u] w (FrmN S many (L ++ [nt f o l]) [.int .i64 0] w) := by
  obtain ⟨p, cap, rfl, hlc, hcm⟩ := h.shape
  obtain ⟨pu, cu, eu⟩ : ∃ pu cu, u = .slice pu l.length cu := by obtain ⟨_, pu, cu, e, _⟩ := hu; exact ⟨pu, cu, e⟩
  subst eu
  have X := rhas_yes many f (.slice p L.length cap) ((w.alloc (.cells #[.int .i64 many, .slice p L.length cap] 39)).alloc (.cells #[.int .i64 0, .slice none 0 0] 39)) hf
  obtain ⟨T, hT⟩ : ∃ T : Nat → Prop, T = fun k => S k ∧ (k < w.heap.size ∨ w.heap.size + 2 ≤ k) := ⟨_, rfl⟩
  have HN := Lib.hid (h.mono (T := T) (fun i h1 h2 => by rw [hT]; exact ⟨h2, .inl h1⟩))
  have HU := Lib.hid (hu.mono (T := T) (fun i h1 h2 => by rw [hT]; exact ⟨h2, .inl h1⟩))
  have HT1 := Lib.hid (show ∀ k, w.heap.size + 2 ≤ k → T k from fun k hk => by rw [hT]; exact ⟨hS k (by omega), .inr hk⟩)
  have HT2 := Lib.hid (show ¬ T w.heap.size ∧ ¬ T (w.heap.size + 1) by rw [hT]; exact ⟨fun q => by omega, fun q => by omega⟩)
  have HT3 := Lib.hid (show ∀ k, T k → S k from fun k hk => by rw [hT] at hk; exact hk.1)
  unfold maxLen at hcm
  have d1 : decide ((o : Int) < 0) = false := decide_eq_false (by omega)
  have d2 : decide (256 < (o : Int)) = false := decide_eq_false (by omega)
  have d3 : decide (256 < (l.length : Int)) = false := decide_eq_false (by omega)
  have d4 : decide (256 < l.length) = false := decide_eq_false (by omega)
  have d5 : decide (256 < (o : Int) + (l.length : Int)) = false := decide_eq_false (by omega)
  clear h hu hT hS
  go_enter Tryd.func14, Tryd.ntmps14
  go_wp2_with (first
    | (go_at_call 21; (with_reducible refine X.mono ?_); rintro e w1 ⟨rfl, n1⟩; obtain ⟨n0, s0, b0, b1, b2, b3, b4, b5, b6, b7⟩ := box_two n1; clear X)
    | ((with_reducible refine at_slot 48 ?_); refine wpList_append_note rfl _ _ rfl rfl T L p cap (HN.out.new (n0.alloc _ _)) (nt f o l) (.slice pu l.length cu) ⟨w1.heap.size, 0, none⟩ rfl rfl ?c1 rfl (HU.out.gap (Gap.of_new T (n0.alloc _ _))) hl ?c2 ?_))
  case c1 =>
    intro j x hx
    rw [Addr.add_mid, Nat.zero_add, cell_of_row _ _ j _ _ _ (heap_alloc_new w1 _)]
    simpa [nt_fr, nt_off] using hx
  case c2 => exact fun k hk => HT1.out k (by simp at hk; omega)
  intro v2 w2 o2 n2
  obtain ⟨p2, c2, e2, _, hc2⟩ := o2.shape
  generalize (L ++ [nt f o l]).length = k2 at *
  subst e2
  unfold maxLen at hc2
  obtain ⟨m0, t0, q0, q1, q2, q3, q4, q5, q6, q7⟩ := box_two ((n1.trans ((New.refl w1).alloc _ _)).trans n2)
  have O2 := Lib.hid o2
  clear o2 b0 b1 b2 b3 b4 b5 b6 b7
  go_wp2
  refine bodyPost_ret (v := .tuple #[.agg #[.int .i64 many, .slice p2 k2 c2], .int .i64 0]) (by obtain ⟨e1, e2⟩ := set_three (i := 1) (v := .slice p2 k2 c2) (by omega : w.heap.size ≠ w.heap.size + 1) q4 q5 (.int .i64 many) (.slice p2 k2 c2); simp [results, Tryd.results14, go_sem, e1, e2]) rfl ⟨_, rfl, ?_, ?_⟩
  · refine Notes.mono (S := T) ?_ (fun i _ hi => HT3.out i hi)
    exact ((O2.out.gap (Gap.of_far (Far.set _ _ _ _) HT2.out.1)).gap (Gap.of_far (Far.set _ _ _ _) HT2.out.2)).gap (Gap.of_far (Far.set _ _ _ _) HT2.out.2)
  · exact ((m0.setAt _ _ (by omega) _).setAt _ _ (by omega) _).setAt _ _ (by omega) _
end
end Go.Proofs.YtnlmjjofpkpkaaaDoor
