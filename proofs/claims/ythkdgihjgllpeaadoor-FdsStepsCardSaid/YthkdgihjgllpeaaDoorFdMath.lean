/- Numbers of files as a list of eight: what each function answers. No program stands in this text. -/
import Derived.Test.YthkdgihjgllpeaaDoorBase
namespace Go.Proofs.YthkdgihjgllpeaaDoor
set_option linter.unusedVariables false
/-- may a table be? -/
def fdOk (l : List Int) : Bool := l.all fun x => decide (0 ≤ x) && decide (x ≤ 32)
theorem fdOk_iff {l : List Int} : fdOk l = true ↔ ∀ x ∈ l, 0 ≤ x ∧ x ≤ 32 := by unfold fdOk; simp
/-- the first place that is free; so many as there are: none -/
def fdF : List Int → Nat
  | [] => 0
  | x :: r => if x = 0 then 0 else fdF r + 1
theorem fdF_le (l : List Int) : fdF l ≤ l.length := by
  induction l with
  | nil => exact Nat.le_refl _
  | cons x r ih => show (if _ then _ else _) ≤ _; split <;> simp <;> omega
theorem fdF_at : ∀ (l : List Int) (j : Nat), j < l.length → l.getD j 0 = 0 → (∀ i, i < j → l.getD i 0 ≠ 0) → fdF l = j
  | [], j, h, _, _ => absurd h (Nat.not_lt_zero _)
  | x :: r, 0, _, h, _ => by show (if _ then _ else _) = _; rw [if_pos (by simpa using h)]
  | x :: r, j + 1, hl, h, hn => by
    have h0 := hn 0 (by omega)
    show (if _ then _ else _) = _
    rw [if_neg (by simpa using h0), fdF_at r j (by simpa using hl) (by simpa using h) (fun i hi => by have := hn (i + 1) (by omega); simpa using this)]
theorem fdF_none : ∀ (l : List Int), (∀ i, i < l.length → l.getD i 0 ≠ 0) → fdF l = l.length
  | [], _ => rfl
  | x :: r, h => by
    have h0 := h 0 (by simp)
    show (if _ then _ else _) = _
    rw [if_neg (by simpa using h0), fdF_none r (fun i hi => by have := h (i + 1) (by simpa using hi); simpa using this)]; rfl
theorem fdF_zero : ∀ (l : List Int), fdF l < l.length → l.getD (fdF l) 0 = 0
  | [], h => by simp at h
  | x :: r, h => by
    unfold fdF at h ⊢
    split
    · rename_i c; simpa using c
    · rename_i c
      rw [if_neg c] at h
      have := fdF_zero r (by simpa using h)
      simpa using this
theorem fdF_first : ∀ (l : List Int) (i : Nat), i < fdF l → l.getD i 0 ≠ 0
  | [], i, h => by simp [fdF] at h
  | x :: r, i, h => by
    unfold fdF at h
    split at h
    · omega
    · rename_i c
      cases i with
      | zero => simpa using c
      | succ i => have := fdF_first r i (by omega); simpa using this
def z8 : List Int := [0, 0, 0, 0, 0, 0, 0, 0]
def faE (l : List Int) (fd : Int) : Int := if fdOk l = false then 22 else if 0 ≤ fd ∧ fd < 8 ∧ l.getD fd.toNat 0 ≠ 0 then 0 else 9
def faN (l : List Int) (fd : Int) : Int := if faE l fd = 0 then l.getD fd.toNat 0 - 1 else 0
def fpE (l : List Int) (f : Int) : Int := if fdOk l = false ∨ f < 0 ∨ 31 < f then 22 else if fdF l = 8 then 24 else 0
def fpN (l : List Int) (f : Int) : Int := if fpE l f = 0 then (fdF l : Int) else 0
def fpL (l : List Int) (f : Int) : List Int := if fpE l f = 0 then l.set (fdF l) (f + 1) else z8
def fdL (l : List Int) (fd : Int) : List Int := if faE l fd = 0 then l.set fd.toNat 0 else z8
def fuE (l : List Int) (fd : Int) : Int := if faE l fd ≠ 0 then faE l fd else fpE l (faN l fd)
def fuN (l : List Int) (fd : Int) : Int := if fuE l fd = 0 then (fdF l : Int) else 0
def fuL (l : List Int) (fd : Int) : List Int := if fuE l fd = 0 then l.set (fdF l) (faN l fd + 1) else z8
def fiS (l : List Int) : List Int := (l.filter fun x => decide (x ≠ 0)).map (· - 1)
def fiO (l : List Int) : List Int := if fdOk l = true then fiS l else []
def frN (l : List Int) : Int := if fdOk l = true then 8 - ((fiS l).length : Int) else 0
theorem fiS_take (l : List Int) (j : Nat) (hj : j < l.length) : fiS (l.take (j + 1)) = fiS (l.take j) ++ (if l.getD j 0 = 0 then [] else [l.getD j 0 - 1]) := by
  unfold fiS
  rw [List.take_add_one, List.getElem?_eq_getElem hj, List.getD_eq_getElem?_getD, List.getElem?_eq_getElem hj]
  simp only [Option.toList_some, Option.getD_some, List.filter_append, List.map_append]
  congr 1
  by_cases c : l[j] = 0
  · rw [if_pos c]; simp [c]
  · rw [if_neg c]; simp [c]
theorem fiS_len (l : List Int) : (fiS l).length ≤ l.length := by unfold fiS; rw [List.length_map]; exact List.length_filter_le _ _
/-- what is told of one at a place -/
theorem faE_ok {l : List Int} (h : fdOk l = true) (j : Nat) (hj : j < 8) (hn : l.getD j 0 ≠ 0) : faE l (j : Int) = 0 := by
  unfold faE; rw [h, if_neg (by simp), if_pos ⟨by omega, by omega, by simpa using hn⟩]
theorem faE_free {l : List Int} (h : fdOk l = true) (j : Nat) (hn : l.getD j 0 = 0) : faE l (j : Int) = 9 := by
  unfold faE; rw [h, if_neg (by simp), if_neg (fun c => c.2.2 (by simpa using hn))]
theorem faE_out {l : List Int} (h : fdOk l = true) (fd : Int) (hn : fd < 0 ∨ 8 ≤ fd) : faE l fd = 9 := by
  unfold faE; rw [h, if_neg (by simp), if_neg (fun c => by omega)]
theorem faE_bad {l : List Int} (h : fdOk l = false) (fd : Int) : faE l fd = 22 := by unfold faE; rw [if_pos h]
theorem fdOk_set {l : List Int} (h : fdOk l = true) (i : Nat) (x : Int) (hx : 0 ≤ x ∧ x ≤ 32) : fdOk (l.set i x) = true := by
  rw [fdOk_iff] at h ⊢
  intro y hy
  rcases List.mem_or_eq_of_mem_set hy with c | c
  · exact h y c
  · subst c; exact hx
theorem fdOk_get {l : List Int} (h : fdOk l = true) (i : Nat) : 0 ≤ l.getD i 0 ∧ l.getD i 0 ≤ 32 := by
  rw [List.getD_eq_getElem?_getD]
  cases c : l[i]? with
  | none => simp
  | some x => exact (fdOk_iff.1 h) x (List.mem_of_getElem? c)
/-- the bound of a file's number -/
theorem faN_in {l : List Int} {fd : Int} (h : faE l fd = 0) : 0 ≤ faN l fd ∧ faN l fd ≤ 31 := by
  unfold faN
  rw [if_pos h]
  unfold faE at h
  by_cases c : fdOk l = false
  · rw [if_pos c] at h; omega
  · rw [if_neg c] at h
    have c2 : fdOk l = true := by simpa using c
    have := fdOk_get c2 fd.toNat
    split at h
    · rename_i d; have := d.2.2; omega
    · omega
end Go.Proofs.YthkdgihjgllpeaaDoor
