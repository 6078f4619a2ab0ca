/- Programs as bytes: what makes one that may be none (ImageRuns); one field stored into rows of the call's own. -/
import Derived.Test.YtealjgfijlencaaDoorImF
namespace Go.Proofs.YtealjgfijlencaaDoor
open Go.RowKit
set_option linter.unusedVariables false
set_option maxRecDepth 100000
theorem im_two {e : Int} {L : List Sg} (h : imOk e L = true) : imOk (e + 2) L = false := by
  have hp := imOk_parts h
  unfold imOk
  rw [decide_eq_false (show ¬ (e + 2) % 4 = 0 by omega)]
  simp
theorem runs_not (pg : Int) : ∀ (L : List Sg), (∀ s ∈ L, s.p < 4 ∨ s.t ≤ pg) → runsB pg L = false
  | [], _ => rfl
  | s :: r, h => by
    have hs := h s List.mem_cons_self
    show ((decide (4 ≤ s.p) && decide (s.f ≤ pg) && decide (pg < s.t)) || runsB pg r) = false
    rw [runs_not pg r (fun x hx => h x (List.mem_cons_of_mem _ hx)), Bool.or_false]
    rcases hs with hs | hs
    · rw [decide_eq_false (show ¬ 4 ≤ s.p by omega)]; rfl
    · rw [decide_eq_false (show ¬ pg < s.t by omega), Bool.and_false]
theorem im_top {e : Int} {L : List Sg} (h : imOk e L = true) : imOk 1044480 L = false := by
  have hp := imOk_parts h
  have hm := chOk_mem (Int.le_refl 0) hp.2.2.2.1
  unfold imOk
  rw [runs_not (1044480 / 256) L (fun s hs => .inr (by have := (hm s hs).2.2.1; omega))]
  simp
theorem im_perm (e : Int) (L : List Sg) (h : ∀ s ∈ L, 0 ≤ s.p) : imOk e (L.map fun s => { s with p := s.p % 4 }) = false := by
  unfold imOk
  rw [runs_not (e / 256) _ (fun s hs => by
    obtain ⟨x, hx, rfl⟩ := List.mem_map.1 hs
    exact .inl (by show x.p % 4 < 4; omega))]
  simp
theorem im_last (e : Int) (L : List Sg) (h : 0 < L.length) : imOk e (L.set (L.length - 1) { L[L.length - 1] with t := 4081 }) = false := by
  refine imOk_bad (chOk_bad (L.length - 1) (by rw [List.length_set]; omega) ?_)
  rw [List.getElem_set_self]
  unfold sgOk
  simp
/-- one field of one row stored -/
theorem flat_set {c : Nat} : ∀ (l : List (List Value)) (i f : Nat) (x : Value), (∀ r ∈ l, r.length = c) → (h : i < l.length) → f < c → (l.set i ((l[i]).set f x)).flatten = l.flatten.set (i * c + f) x
  | [], i, f, x, _, h, _ => absurd h (Nat.not_lt_zero _)
  | r :: l, 0, f, x, hr, h, hf => by
    have := hr r List.mem_cons_self
    simp only [List.set_cons_zero, List.flatten_cons, Nat.zero_mul, Nat.zero_add, List.getElem_cons_zero]
    rw [List.set_append_left _ _ (by omega)]
  | r :: l, i + 1, f, x, hr, h, hf => by
    have h0 := hr r List.mem_cons_self
    simp only [List.set_cons_succ, List.flatten_cons, List.getElem_cons_succ]
    rw [flat_set l i f x (fun y hy => hr y (List.mem_cons_of_mem _ hy)) (by simpa using h) hf, List.set_append_right _ _ (by rw [h0, Nat.succ_mul]; omega)]
    congr 2
    rw [h0, Nat.succ_mul]; omega
theorem OwnW.setf {R : RTy} {base : Nat} {w : World} {l : List (List Value)} {g n cap : Nat} (h : OwnW R base w (.slice (some ⟨g, 0, none⟩) n cap) l) (i f : Nat) (hi : i < l.length) (hf : f < R.c) (x : Value) (hx : x.oneCell' = true) :
    OwnW R base (w.setCell ⟨g, i * R.c + f, none⟩ x) (.slice (some ⟨g, 0, none⟩) n cap) (l.set i ((l[i]).set f x)) := by
  have hwf := h.2
  have hfl := flat_set l i f x (fun r hr => (hwf r hr).1) hi hf
  have hw2 : Wf R (l.set i ((l[i]).set f x)) := fun r hr => by
    rcases List.mem_or_eq_of_mem_set hr with hr | hr
    · exact hwf r hr
    · subst hr
      have h0 := hwf _ (List.getElem_mem hi)
      refine ⟨by rw [List.length_set]; exact h0.1, fun y hy => ?_⟩
      rcases List.mem_or_eq_of_mem_set hy with hy | hy
      · exact h0.2 y hy
      · subst hy; exact hx
  refine ⟨⟨by rw [hfl, List.length_set, List.length_set]; exact h.1.1, ?_⟩, hw2⟩
  rcases h.1.2 with ⟨hn, -⟩ | ⟨g', cap', cur, e, hb, hg, h1, h2, h3, h4⟩
  · cases hn
  · cases e
    have hB : Box w g cur R.T := hg
    have hB2 := hB.set (i * R.c + f) x
    refine .inr ⟨g, cap, cur.setIfInBounds (i * R.c + f) x, by rw [List.length_set], hb, hB2, by rw [List.length_set]; exact h1, h2, by rw [Array.size_setIfInBounds]; exact h3, ?_⟩
    rw [hfl, ← h4, List.length_set, Array.toList_setIfInBounds, List.take_set]
theorem OwSg.row {R : RTy} {w : World} {base : Nat} {wr : World} {v : Value} {L : List Sg} (h : OwSg R w base wr v L) (hL : 0 < L.length) : ∃ g cap, v = .slice (some ⟨g, 0, none⟩) L.length cap ∧ base ≤ g ∧ g < wr.heap.size ∧ L.length ≤ cap := by
  obtain ⟨rows, h1, h2, h3⟩ := h
  rcases h1.1.2 with ⟨-, hn⟩ | ⟨g, cap, cur, e, hb, hg, k1, k2, k3, k4⟩
  · omega
  · exact ⟨g, cap, by rw [e, h2], hb, (Array.getElem?_eq_some_iff.1 hg).1, by omega⟩
/-- a row with another field -/
theorem OwSg.setT {w : World} {base : Nat} {wr : World} {g n cap : Nat} {L : List Sg} (h : OwSg RSp w base wr (.slice (some ⟨g, 0, none⟩) n cap) L) (k : Nat) (hk : k < L.length) (t : Int) :
    OwSg RSp w base (wr.setCell ⟨g, k * 4 + 1, none⟩ (.int .i64 t)) (.slice (some ⟨g, 0, none⟩) n cap) (L.set k { L[k] with t := t }) := by
  obtain ⟨rows, h1, h2, h3⟩ := h
  have hr : k < rows.length := by omega
  refine ⟨_, h1.setf k 1 hr (by decide) (.int .i64 t) rfl, by rw [List.length_set, List.length_set]; exact h2, fun i hi hi' => ?_⟩
  by_cases c : i = k
  · subst c
    rw [List.getElem_set_self, List.getElem_set_self]
    obtain ⟨dv, e, hb⟩ := h3 i hr hk
    exact ⟨dv, by rw [e]; rfl, hb⟩
  · rw [List.getElem_set_ne (fun e => c e.symm), List.getElem_set_ne (fun e => c e.symm)]
    exact h3 i (by rw [List.length_set] at hi; exact hi) (by rw [List.length_set] at hi'; exact hi')
theorem OwSg.setP {w : World} {base : Nat} {wr : World} {g n cap : Nat} {L : List Sg} (h : OwSg RSp w base wr (.slice (some ⟨g, 0, none⟩) n cap) L) (k : Nat) (hk : k < L.length) (p : Int) :
    OwSg RSp w base (wr.setCell ⟨g, k * 4 + 2, none⟩ (.int .u8 p)) (.slice (some ⟨g, 0, none⟩) n cap) (L.set k { L[k] with p := p }) := by
  obtain ⟨rows, h1, h2, h3⟩ := h
  have hr : k < rows.length := by omega
  refine ⟨_, h1.setf k 2 hr (by decide) (.int .u8 p) rfl, by rw [List.length_set, List.length_set]; exact h2, fun i hi hi' => ?_⟩
  by_cases c : i = k
  · subst c
    rw [List.getElem_set_self, List.getElem_set_self]
    obtain ⟨dv, e, hb⟩ := h3 i hr hk
    exact ⟨dv, by rw [e]; rfl, hb⟩
  · rw [List.getElem_set_ne (fun e => c e.symm), List.getElem_set_ne (fun e => c e.symm)]
    exact h3 i (by rw [List.length_set] at hi; exact hi) (by rw [List.length_set] at hi'; exact hi')
end Go.Proofs.YtealjgfijlencaaDoor
