/- Open files as a row of m places: a valid table as a list of numbers with files, and what a place holds. No program stands in this text. -/
import Derived.Test.YtpapicnkhjcjoaaDoorFiC
namespace Go.Proofs.YtpapicnkhjcjoaaDoor
set_option linter.unusedVariables false
/-- a table that may be, with room for m -/
structure FtOk (m : Nat) (L : Ft) : Prop where
  key : ∀ q ∈ L, 0 ≤ q.1 ∧ q.1 < m
  apart : L.Pairwise (fun a b => a.1 ≠ b.1)
  rf : ∀ q ∈ L, 1 ≤ q.2.rf ∧ q.2.rf ≤ 1048576
  nm : ∀ q ∈ L, q.2.nm.length ≤ 256
theorem FtOk.nil (m : Nat) : FtOk m [] := ⟨by simp, by simp, by simp, by simp⟩
theorem lget_mem {L : Ft} {i : Int} {f : Fl} (h : lget L i = some f) : (i, f) ∈ L := by
  obtain ⟨L1, L2, rfl, _⟩ := lget_some h
  simp
theorem lget_of_mem {L : Ft} {q : Int × Fl} (h : q ∈ L) : lget L q.1 ≠ none := fun c => lget_none c q h rfl
theorem fgF_zero {L : Ft} {i : Int} (h : lget L i = none) : fgF L i = Fl.zero := by unfold fgF; rw [h]; rfl
theorem fgF_some {L : Ft} {i : Int} {f : Fl} (h : lget L i = some f) : fgF L i = f := by unfold fgF; rw [h]; rfl
theorem FtOk.rf_zero {m : Nat} {L : Ft} (h : FtOk m L) (i : Int) : (fgF L i).rf = 0 ↔ lget L i = none := by
  cases hg : lget L i with
  | none => rw [fgF_zero hg]; simp [Fl.zero]
  | some f =>
    rw [fgF_some hg]
    have := (h.rf _ (lget_mem hg)).1
    simp; dsimp only at this; omega
theorem FtOk.name {m : Nat} {L : Ft} (h : FtOk m L) (i : Int) : (fgF L i).nm.length ≤ 256 := by
  cases hg : lget L i with
  | none => rw [fgF_zero hg]; simp [Fl.zero]
  | some f => rw [fgF_some hg]; exact h.nm _ (lget_mem hg)
theorem FtOk.range {m : Nat} {L : Ft} (h : FtOk m L) (i : Int) (hi : i < 0 ∨ (m : Int) ≤ i) : lget L i = none := by
  cases hg : lget L i with
  | none => rfl
  | some f => have := h.key _ (lget_mem hg); dsimp only at this; omega
/-- those that are taken, of the first m -/
def fiL (L : Ft) (m : Nat) : List Int := List.filter (fun n : Int => (lget L n).isSome) ((List.range m).map (fun j : Nat => (j : Int)))
theorem fiL_succ (L : Ft) (m : Nat) : fiL L (m + 1) = fiL L m ++ (if (lget L (m : Int)).isSome = true then [(m : Int)] else []) := by
  unfold fiL
  rw [List.range_succ, List.map_append, List.filter_append]
  congr 1
  show List.filter _ [(m : Int)] = _
  cases hg : (lget L (m : Int)).isSome
  · rw [if_neg (by simp)]; simp [hg]
  · rw [if_pos rfl]; simp [hg]
theorem fiL_mem {L : Ft} {m : Nat} (h : FtOk m L) (n : Int) : n ∈ fiL L m ↔ lget L n ≠ none := by
  unfold fiL
  rw [List.mem_filter]
  constructor
  · rintro ⟨_, h2⟩ c
    rw [c] at h2; cases h2
  · intro hn
    cases hg : lget L n with
    | none => exact absurd hg hn
    | some f =>
      have := h.key _ (lget_mem hg)
      dsimp only at this
      refine ⟨List.mem_map.2 ⟨n.toNat, List.mem_range.2 (by omega), by omega⟩, rfl⟩
theorem fiL_skip {m : Nat} (A B : Ft) (q : Int × Fl) (hq : (m : Int) ≤ q.1) : fiL (A ++ q :: B) m = fiL (A ++ B) m := by
  unfold fiL
  refine List.filter_congr fun x hx => ?_
  obtain ⟨j, hj, rfl⟩ := List.mem_map.1 hx
  have := List.mem_range.1 hj
  rw [lget_skip A B q _ (by omega)]
theorem fiL_len : ∀ (m : Nat) (L : Ft), (∀ q ∈ L, 0 ≤ q.1 ∧ q.1 < m) → L.Pairwise (fun a b => a.1 ≠ b.1) → (fiL L m).length = L.length
  | 0, L, h, _ => by
    have : L = [] := by
      cases L with
      | nil => rfl
      | cons q r => have := h q List.mem_cons_self; omega
    subst this; rfl
  | m + 1, L, h, hp => by
    rw [fiL_succ, List.length_append]
    cases hg : lget L (m : Int) with
    | none =>
      have hn := lget_none hg
      rw [fiL_len m L (fun q hq => by have := h q hq; have := hn q hq; omega) hp]
      simp
    | some f =>
      obtain ⟨A, B, rfl, hA⟩ := lget_some hg
      rw [fiL_skip A B _ (by simp)]
      have hp2 := List.pairwise_append.1 hp
      have hp3 := List.pairwise_cons.1 hp2.2.1
      rw [fiL_len m (A ++ B) (fun q hq => by
        have e : q.1 ≠ (m : Int) := by
          rcases List.mem_append.1 hq with c | c
          · exact hA q c
          · exact fun e => hp3.1 q c e.symm
        have := h q (by rcases List.mem_append.1 hq with c | c; exact List.mem_append_left _ c; exact List.mem_append_right _ (List.mem_cons_of_mem _ c))
        omega) (List.pairwise_append.2 ⟨hp2.1, hp3.2, fun a ha b hb => hp2.2.2 a ha b (List.mem_cons_of_mem _ hb)⟩)]
      simp only [Option.isSome_some, if_true, List.length_append, List.length_cons, List.length_nil]
      omega
theorem fiL_le (L : Ft) (m : Nat) : (fiL L m).length ≤ m := by
  unfold fiL
  refine Nat.le_trans (List.length_filter_le _ _) (by simp)
theorem FtOk.len {m : Nat} {L : Ft} (h : FtOk m L) : L.length ≤ m := by rw [← fiL_len m L h.key h.apart]; exact fiL_le L m
/-- where no place is free there is no room -/
theorem FtOk.full {m : Nat} {L : Ft} (h : FtOk m L) (hf : ∀ j : Nat, j < m → lget L (j : Int) ≠ none) : (m : Int) ≤ (L.length : Int) := by
  have := pigeonZ m L hf
  omega
/-- where there is no room no place is free -/
theorem FtOk.room {m : Nat} {L : Ft} (h : FtOk m L) (j : Nat) (hj : j < m) (hn : lget L (j : Int) = none) : ¬ (m : Int) ≤ (L.length : Int) := by
  have h1 := fiL_len m L h.key h.apart
  have : (fiL L m).length < m := by
    obtain ⟨k, rfl⟩ : ∃ k, m = j + 1 + k := ⟨m - j - 1, by omega⟩
    clear h h1 hj
    induction k with
    | zero =>
      rw [Nat.add_zero, fiL_succ, List.length_append, hn]
      have := fiL_le L j
      simp; omega
    | succ k ih =>
      rw [show j + 1 + (k + 1) = j + 1 + k + 1 by omega, fiL_succ, List.length_append]
      split <;> simp <;> omega
  omega
/-! one more -/
theorem fgF_add {L : Ft} {n : Int} (hn : lget L n = none) (f : Fl) (j : Int) : fgF (L ++ [(n, f)]) j = if j = n then f else fgF L j := by
  by_cases c : j = n
  · subst c
    rw [if_pos rfl]
    unfold fgF
    rw [lget_append j L _ (lget_none hn)]
    show ((if j = j then some f else none).getD _) = f
    rw [if_pos rfl]; rfl
  · rw [if_neg c]
    unfold fgF
    rw [show L ++ [(n, f)] = L ++ (n, f) :: [] from rfl, lget_skip L [] (n, f) j (fun e => c e.symm), List.append_nil]
theorem FtOk.add {m : Nat} {L : Ft} (h : FtOk m L) {n : Nat} (hn : lget L (n : Int) = none) (hm : n < m) {f : Fl} (h1 : 1 ≤ f.rf ∧ f.rf ≤ 1048576) (h2 : f.nm.length ≤ 256) : FtOk m (L ++ [((n : Int), f)]) := by
  have one : ∀ {P : Int × Fl → Prop}, (∀ q ∈ L, P q) → P ((n : Int), f) → ∀ q ∈ L ++ [((n : Int), f)], P q := fun a b q hq => by
    rcases List.mem_append.1 hq with c | c
    · exact a q c
    · rw [List.mem_singleton] at c; subst c; exact b
  refine ⟨one h.key ⟨by simp, by simp; omega⟩, ?_, one h.rf h1, one h.nm h2⟩
  refine List.pairwise_append.2 ⟨h.apart, by simp, fun a ha b hb => ?_⟩
  rw [List.mem_singleton] at hb; subst hb
  exact lget_none hn a ha
/-! another one in its place, or none -/
theorem lwith_other (L : Ft) (n : Int) (f : Fl) (j : Int) (hj : j ≠ n) : lget (lwith L n f) j = lget L j := by
  induction L with
  | nil => rfl
  | cons q r ih =>
    show lget (if _ then _ else _) j = (if _ then _ else _)
    by_cases c : q.1 = n
    · rw [if_pos c, if_neg (show ¬ q.1 = j by omega), ← ih]
      split
      · show (if _ then _ else _) = _
        rw [if_neg (show ¬ n = j by omega)]
      · rfl
    · rw [if_neg c]
      show (if _ then _ else _) = _
      rw [ih]
theorem lwith_none (L : Ft) (n : Int) (f : Fl) (hf : ¬ 0 < f.rf) : lget (lwith L n f) n = none := by
  induction L with
  | nil => rfl
  | cons q r ih =>
    show lget (if _ then _ else _) n = none
    by_cases c : q.1 = n
    · rw [if_pos c, if_neg hf]; exact ih
    · rw [if_neg c]
      show (if _ then _ else _) = none
      rw [if_neg c]; exact ih
theorem lwith_here (L : Ft) (n : Int) (f : Fl) (hf : 0 < f.rf) (hn : lget L n ≠ none) : lget (lwith L n f) n = some f := by
  induction L with
  | nil => exact absurd rfl hn
  | cons q r ih =>
    show lget (if _ then _ else _) n = some f
    by_cases c : q.1 = n
    · rw [if_pos c, if_pos hf]
      show (if _ then _ else _) = _
      rw [if_pos rfl]
    · rw [if_neg c]
      show (if _ then _ else _) = _
      rw [if_neg c]
      refine ih fun e => hn ?_
      show (if _ then _ else _) = _
      rw [if_neg c]; exact e
theorem fgF_with {L : Ft} {n : Int} {f : Fl} (hf : 0 < f.rf) (hn : lget L n ≠ none) (j : Int) : fgF (lwith L n f) j = if j = n then f else fgF L j := by
  by_cases c : j = n
  · subst c; rw [if_pos rfl, fgF_some (lwith_here L j f hf hn)]
  · rw [if_neg c]; unfold fgF; rw [lwith_other L n f j c]
theorem fgF_gone {L : Ft} {n : Int} {f : Fl} (hf : ¬ 0 < f.rf) (j : Int) : fgF (lwith L n f) j = if j = n then Fl.zero else fgF L j := by
  by_cases c : j = n
  · subst c; rw [if_pos rfl, fgF_zero (lwith_none L j f hf)]
  · rw [if_neg c]; unfold fgF; rw [lwith_other L n f j c]
theorem lwith_mem {L : Ft} {n : Int} {f : Fl} {q : Int × Fl} (h : q ∈ lwith L n f) : q ∈ L ∨ (q = (n, f) ∧ 0 < f.rf ∧ ∃ p ∈ L, p.1 = n) := by
  induction L with
  | nil => cases h
  | cons x r ih =>
    have h : q ∈ (if x.1 = n then (if 0 < f.rf then (n, f) :: lwith r n f else lwith r n f) else x :: lwith r n f) := h
    by_cases c : x.1 = n
    · rw [if_pos c] at h
      have tl : q ∈ lwith r n f → q ∈ x :: r ∨ (q = (n, f) ∧ 0 < f.rf ∧ ∃ p ∈ x :: r, p.1 = n) := fun h => by
        rcases ih h with d | ⟨d1, d2, d3⟩
        · exact .inl (List.mem_cons_of_mem _ d)
        · exact .inr ⟨d1, d2, x, List.mem_cons_self, c⟩
      split at h
      · rename_i hf
        rcases List.mem_cons.1 h with d | d
        · exact .inr ⟨d, hf, x, List.mem_cons_self, c⟩
        · exact tl d
      · exact tl h
    · rw [if_neg c] at h
      rcases List.mem_cons.1 h with d | d
      · exact .inl (by rw [d]; exact List.mem_cons_self)
      · rcases ih d with e | ⟨e1, e2, p, e3, e4⟩
        · exact .inl (List.mem_cons_of_mem _ e)
        · exact .inr ⟨e1, e2, p, List.mem_cons_of_mem _ e3, e4⟩
theorem lwith_apart {L : Ft} {n : Int} {f : Fl} (h : L.Pairwise (fun a b => a.1 ≠ b.1)) : (lwith L n f).Pairwise (fun a b => a.1 ≠ b.1) := by
  induction L with
  | nil => exact List.Pairwise.nil
  | cons x r ih =>
    obtain ⟨h1, h2⟩ := List.pairwise_cons.1 h
    have ih := ih h2
    show List.Pairwise _ (if _ then _ else _)
    by_cases c : x.1 = n
    · rw [if_pos c]
      have hn : ∀ q ∈ lwith r n f, n ≠ q.1 := fun q hq => by
        rcases lwith_mem hq with d | ⟨_, _, p, d3, d4⟩
        · have := h1 q d; omega
        · exact absurd (d4.trans c.symm) (fun e => h1 p d3 e.symm)
      split
      · exact List.pairwise_cons.2 ⟨hn, ih⟩
      · exact ih
    · rw [if_neg c]
      refine List.pairwise_cons.2 ⟨fun q hq => ?_, ih⟩
      rcases lwith_mem hq with d | ⟨d, _, _⟩
      · exact h1 q d
      · subst d; exact c
theorem FtOk.put {m : Nat} {L : Ft} (h : FtOk m L) (n : Int) {f : Fl} (h1 : f.rf ≤ 1048576) (h2 : f.nm.length ≤ 256) : FtOk m (lwith L n f) := by
  refine ⟨fun q hq => ?_, lwith_apart h.apart, fun q hq => ?_, fun q hq => ?_⟩
  · rcases lwith_mem hq with c | ⟨rfl, _, p, d3, d4⟩
    · exact h.key q c
    · rw [← d4]; exact h.key p d3
  · rcases lwith_mem hq with c | ⟨rfl, c, _⟩
    · exact h.rf q c
    · exact ⟨by dsimp only; omega, h1⟩
  · rcases lwith_mem hq with c | ⟨rfl, c, _⟩
    · exact h.nm q c
    · exact h2
end Go.Proofs.YtpapicnkhjcjoaaDoor
