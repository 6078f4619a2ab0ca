/- Programs as bytes: one that came in. -/
import Derived.Test.YtealjgfijlencaaDoorImB
import Derived.Test.YtealjgfijlencaaDoorFkIn
namespace Go.Proofs.YtealjgfijlencaaDoor
open Go.RowKit
set_option linter.unusedVariables false
set_option maxRecDepth 100000
theorem sg_one {w : World} {a : Option Addr} {len : Nat} (hr : ∀ j, j < len → ∃ x, a = some x ∧ ∀ f c, [Fk.num .i64, .num .i64, .num .u8, .bys][f]? = some c → ∃ u, w.cell? (x.add (j * 4 + f)) = some u ∧ FkIs w c u) (j : Nat) (hj : j < len) :
    ∃ (r : List Value) (s : Sg), (r.length = 4 ∧ ∀ x ∈ r, x.oneCell' = true) ∧ SgR w r s ∧ SgsB [s] ∧ ∀ f u, r[f]? = some u → ∃ x, a = some x ∧ w.cell? (x.add (j * 4 + f)) = some u := by
  obtain ⟨x, rfl, hx⟩ := hr j hj
  obtain ⟨u0, c0, n0, rfl, b0⟩ := hx 0 (.num .i64) rfl
  obtain ⟨u1, c1, n1, rfl, b1⟩ := hx 1 (.num .i64) rfl
  obtain ⟨u2, c2, n2, rfl, b2⟩ := hx 2 (.num .u8) rfl
  obtain ⟨u3, c3, d, hd⟩ := hx 3 .bys rfl
  obtain ⟨pd, cd, e3, -⟩ := id hd
  refine ⟨[.int .i64 n0, .int .i64 n1, .int .u8 n2, u3], ⟨n0, n1, n2, d⟩, ⟨rfl, fun y hy => ?_⟩, ⟨u3, rfl, hd.byts⟩, fun s hs => ?_, fun f u hf => ⟨x, rfl, ?_⟩⟩
  · simp only [List.mem_cons, List.not_mem_nil, or_false] at hy
    rcases hy with rfl | rfl | rfl | rfl
    · rfl
    · rfl
    · rfl
    · rw [e3]; rfl
  · rw [List.mem_singleton] at hs
    subst hs
    exact ⟨i64_bd b0, i64_bd b1, u8_bd b2, hd.oct⟩
  · match f, hf with
    | 0, hf => cases hf; exact c0
    | 1, hf => cases hf; exact c1
    | 2, hf => cases hf; exact c2
    | 3, hf => cases hf; exact c3
    | f + 4, hf => simp at hf
theorem sgs_in {w : World} {v : Value} (h : FvIs w (.rows [.num .i64, .num .i64, .num .u8, .bys]) v) : ∃ L, Sgs RSd w v L ∧ SgsB L := by
  obtain ⟨a, len, cap, rfl, hcap, hm, hn, hr⟩ := h
  have one := sg_one hr
  have all : ∀ n, n ≤ len → ∃ (rows : List (List Value)) (L : List Sg), rows.length = n ∧ L.length = n ∧ Wf RSd rows ∧ SgsB L ∧ (∀ i (h : i < rows.length) (h' : i < L.length), SgR w rows[i] L[i]) ∧ ∀ i (h : i < rows.length) f u, rows[i][f]? = some u → ∃ x, a = some x ∧ w.cell? (x.add (i * 4 + f)) = some u := by
    intro n
    induction n with
    | zero => intro _; exact ⟨[], [], rfl, rfl, Wf.nil, fun s hs => (by cases hs), fun i h => absurd h (Nat.not_lt_zero _), fun i h => absurd h (Nat.not_lt_zero _)⟩
    | succ n ih =>
      intro hle
      obtain ⟨rows, L, h1, h2, h3, h4, h5, h6⟩ := ih (by omega)
      obtain ⟨r, s, k1, k2, k3, k4⟩ := one n (by omega)
      refine ⟨rows ++ [r], L ++ [s], by simp [h1], by simp [h2], h3.app (fun x hx => ?_), fun x hx => ?_, fun i hi hi' => ?_, fun i hi f u hf => ?_⟩
      · rw [List.mem_singleton] at hx; subst hx; exact k1
      · rcases List.mem_append.1 hx with hx | hx
        · exact h4 x hx
        · exact k3 x hx
      · by_cases c : i < n
        · rw [List.getElem_append_left (by omega), List.getElem_append_left (by omega)]; exact h5 i (by omega) (by omega)
        · have : i = n := by simp at hi; omega
          subst this
          rw [List.getElem_append_right (by omega), List.getElem_append_right (by omega)]
          simp only [h1, h2, Nat.sub_self, List.getElem_cons_zero]
          exact k2
      · by_cases c : i < n
        · rw [List.getElem_append_left (by omega)] at hf; exact h6 i (by omega) f u hf
        · have : i = n := by simp at hi; omega
          subst this
          rw [List.getElem_append_right (by omega)] at hf
          simp only [h1, Nat.sub_self, List.getElem_cons_zero] at hf
          exact k4 f u hf
  obtain ⟨rows, L, h1, h2, h3, h4, h5, h6⟩ := all len (Nat.le_refl _)
  refine ⟨L, ⟨rows, ⟨a, cap, by rw [h1], by rw [h1]; exact ⟨hcap, hm⟩, h3, fun j x hx => ?_⟩, by omega, h5⟩, h4⟩
  have hj : j < rows.flatten.length := (List.getElem?_eq_some_iff.1 hx).1
  rw [h3.flat] at hj
  have hj4 : j < rows.length * 4 := hj
  have e : j / 4 * 4 + j % 4 = j := by omega
  have hi : j / 4 < rows.length := by omega
  have g := h3.get (j / 4) (j % 4) hi (show j % 4 < 4 by omega)
  have e2 : j / 4 * RSd.c + j % 4 = j := e
  rw [e2, hx] at g
  obtain ⟨y, ya, yc⟩ := h6 (j / 4) hi (j % 4) x g.symm
  exact ⟨y, ya, by rw [e] at yc; exact yc⟩
theorem img_in {w : World} {v : Value} (h : FvVal [.one (.num .u32), .rows [.num .i64, .num .i64, .num .u8, .bys]] w v) : ∃ (e : Int) (u : Value) (L : List Sg), v = .agg #[.int .u32 e, u] ∧ (0 ≤ e ∧ e ≤ 4294967295) ∧ Sgs RSd w u L ∧ SgsB L := by
  obtain ⟨x0, x1, rfl, h0, h1⟩ := fvval2 h
  obtain ⟨n, rfl, hn⟩ := h0
  obtain ⟨L, h2, h3⟩ := sgs_in h1
  exact ⟨n, x1, L, rfl, u32_bd hn, h2, h3⟩
theorem byts_row {w : World} {a : Option Addr} {len cap : Nat} {zs : List Int} (h : (a = none ∧ len = 0 ∧ cap = 0 ∧ zs = []) ∨
    ∃ x, a = some x ∧ len ≤ cap ∧ cap ≤ maxLen ∧ zs.length = cap ∧ (∀ i, i < zs.length → w.cell? (x.add i) = some (.int .u8 (zs.getD i 0))) ∧ ∀ n ∈ zs, (Lit.int .u8 n).wf = true) : ∃ b, Byts w (.slice a len cap) b ∧ ∀ x ∈ b, 0 ≤ x ∧ x ≤ 255 := by
  rcases h with ⟨rfl, rfl, rfl, -⟩ | ⟨x, rfl, hl, hm, hz, hc, hw⟩
  · exact ⟨[], Byts.nil _, fun x hx => (by cases hx)⟩
  · have hlen : (zs.take len).length = len := by rw [List.length_take]; omega
    refine ⟨zs.take len, ⟨some x, cap, by rw [hlen], by rw [hlen]; exact ⟨hl, hm⟩, fun i hi => ⟨x, rfl, ?_⟩⟩, fun n hn => u8_bd (hw n (List.mem_of_mem_take hn))⟩
    rw [hlen] at hi
    rw [hc i (by omega), List.getD_eq_getElem?_getD, List.getD_eq_getElem?_getD, List.getElem?_take, if_pos hi]
end Go.Proofs.YtealjgfijlencaaDoor
