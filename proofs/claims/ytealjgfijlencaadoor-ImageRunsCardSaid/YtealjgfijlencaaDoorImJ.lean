/- Programs as bytes: what the laws ask of both sides, in one form. -/
import Derived.Test.YtealjgfijlencaaDoorImH
import Derived.Test.YtealjgfijlencaaDoorImI
namespace Go.Proofs.YtealjgfijlencaaDoor
open Go.RowKit
set_option linter.unusedVariables false
theorem Byts.frontk {w : World} {p : Option Addr} {n cap : Nat} {l : List Int} (h : Byts w (.slice p n cap) l) (k : Nat) (hok : k ≤ l.length) : Byts w (.slice p k cap) (l.take k) := by
  obtain ⟨p', c', e, h2, h3⟩ := h
  cases e
  have hl : (l.take k).length = k := by simp; omega
  refine ⟨_, cap, by rw [hl], ⟨by rw [hl]; omega, h2.2⟩, fun i hi => ?_⟩
  rw [hl] at hi
  obtain ⟨a, rfl, hc⟩ := h3 i (by omega)
  refine ⟨a, rfl, ?_⟩
  rw [hc]
  simp only [List.getD_eq_getElem?_getD, List.getElem?_take, if_pos hi]
theorem renc_im {w : World} {v : Value} {L : List Sg} (h : Sgs RSd w v L) (hb : SgsB L) (e : Int) (he : 0 ≤ e ∧ e ≤ 4294967295) : Calls Tryd.prog 9 #[.agg #[.int .u32 e, v]] w fun en w' => ∃ u, en = .returned (.tuple #[u, .int .i64 (imE e L)]) ∧ Byts w' u (imT e L) ∧ New w w' := by
  unfold imE imT
  cases hok : imOk e L with
  | true =>
    rw [if_pos rfl, if_pos rfl]
    refine (renc_ok h hb e he hok).mono ?_
    rintro en w' ⟨u, rfl, o, n⟩
    exact ⟨u, rfl, o.byts, n⟩
  | false =>
    rw [if_neg (by simp), if_neg (by simp)]
    refine (renc_no h hb e he hok).mono ?_
    rintro en w' ⟨rfl, n⟩
    exact ⟨_, rfl, Byts.nil _, n⟩
theorem dL_len {b : List Int} (hb : ∀ x ∈ b, 0 ≤ x ∧ x ≤ 255) : (dL b).length ≤ 8 := by
  unfold dL
  cases h : imD b with
  | none => exact Nat.zero_le _
  | some p => obtain ⟨e, L⟩ := p; exact (imOk_parts (imB_imD hb h).2.1).2.1
theorem imE_or (e : Int) (L : List Sg) : imE e L = 0 ∨ imE e L = 8 := by unfold imE; split; exact .inl rfl; exact .inr rfl
theorem decS_bd : ∀ (k : Nat) (r : List Int) (L : List Sg) (q : List Int), (∀ x ∈ r, 0 ≤ x ∧ x ≤ 255) → decS k r = some (L, q) → SgsB L
  | 0, r, L, q, hb, h => by unfold decS at h; cases h; intro s hs; cases hs
  | k + 1, r, L, q, hb, h => by
    have g : ∀ i, 0 ≤ r.getD i 0 ∧ r.getD i 0 ≤ 255 := fun i => by
      rw [List.getD_eq_getElem?_getD]
      cases c : r[i]? with
      | none => simp
      | some x => exact hb x (List.mem_of_getElem? c)
    unfold decS at h
    by_cases c1 : r.length < 7
    · rw [if_pos c1] at h; cases h
    · rw [if_neg c1] at h
      by_cases c2 : (r.length : Int) - 7 < r.getD 5 0 + 256 * r.getD 6 0
      · rw [if_pos c2] at h; cases h
      · rw [if_neg c2] at h
        cases hd : decS k (List.drop (7 + (r.getD 5 0 + 256 * r.getD 6 0).toNat) r) with
        | none => rw [hd] at h; cases h
        | some Lq =>
          obtain ⟨L1, q1⟩ := Lq
          rw [hd] at h
          have ih := decS_bd k _ L1 q1 (fun x hx => hb x (List.mem_of_mem_drop hx)) hd
          cases h
          intro s hs
          rcases List.mem_cons.1 hs with rfl | hs
          · have g0 := g 0; have g1 := g 1; have g2 := g 2; have g3 := g 3; have g4 := g 4
            refine ⟨⟨by show _ ≤ r.getD 0 0 + 256 * r.getD 1 0; omega, by show r.getD 0 0 + 256 * r.getD 1 0 ≤ _; omega⟩, ⟨by show _ ≤ r.getD 2 0 + 256 * r.getD 3 0; omega, by show r.getD 2 0 + 256 * r.getD 3 0 ≤ _; omega⟩, g4, fun x hx => hb x (List.mem_of_mem_drop (List.mem_of_mem_take hx))⟩
          · exact ih s hs
theorem imD_bd {b : List Int} {e : Int} {L : List Sg} (hb : ∀ x ∈ b, 0 ≤ x ∧ x ≤ 255) (h : imD b = some (e, L)) : SgsB L := by
  unfold imD at h
  split at h
  · cases h
  · cases hd : decS (b.getD 8 0).toNat (b.drop 9) with
    | none => rw [hd] at h; cases h
    | some Lq =>
      obtain ⟨L1, q1⟩ := Lq
      rw [hd] at h
      have h3 : (if q1 = [] ∧ imOk (wh4 b) L1 = true then some (wh4 b, L1) else none) = some (e, L) := h
      split at h3
      · cases h3
        exact decS_bd _ _ _ _ (fun x hx => hb x (List.mem_of_mem_drop hx)) hd
      · cases h3
end Go.Proofs.YtealjgfijlencaaDoor
