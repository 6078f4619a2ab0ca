/- Plain facts of no program: a list of frames, how often each is taken (a row of numbers); a list of frames, one for each time that one is taken. -/
import Derived.RowKit
namespace Go.Proofs.YtgedimlhldfkaaaGreatDoor
open Go.RowKit
set_option linter.unusedVariables false
theorem getD_set (l : List Int) (i j : Nat) (v : Int) (h : i < l.length) : (l.set i v).getD j 0 = if j = i then v else l.getD j 0 := by
  rw [List.getD_eq_getElem?_getD, List.getElem?_set, List.getD_eq_getElem?_getD]
  by_cases c : j = i
  · subst c; simp [h]
  · rw [if_neg (fun e => c e.symm), if_neg c]
/-- how often frame m is taken; 0 of one that there is not -/
def rfs (rs : List Int) (m : Int) : Int := if 0 ≤ m ∧ m < rs.length then rs.getD m.toNat 0 else 0
theorem rfs_in (rs : List Int) (j : Nat) (h : j < rs.length) : rfs rs (j : Int) = rs.getD j 0 := by
  unfold rfs; rw [if_pos ⟨by omega, by omega⟩]; rfl
theorem rfs_out (rs : List Int) (m : Int) (h : ¬ (0 ≤ m ∧ m < rs.length)) : rfs rs m = 0 := by unfold rfs; rw [if_neg h]
theorem rfs_set (rs : List Int) (i : Nat) (v m : Int) (h : i < rs.length) : rfs (rs.set i v) m = if m = (i : Int) then v else rfs rs m := by
  unfold rfs
  rw [List.length_set]
  by_cases c : 0 ≤ m ∧ m < rs.length
  · rw [if_pos c, if_pos c, getD_set _ _ _ _ h]
    by_cases d : m = (i : Int)
    · subst d; simp
    · rw [if_neg d, if_neg (by omega)]
  · rw [if_neg c, if_neg c, if_neg (by omega)]
/-- numbers that may be -/
def Fits (rs : List Int) : Prop := 1 ≤ rs.length ∧ rs.length ≤ 1024 ∧ ∀ j, 0 ≤ rs.getD j 0 ∧ rs.getD j 0 ≤ 1073741824
theorem Fits.set {rs : List Int} (h : Fits rs) (i : Nat) (v : Int) (h0 : 0 ≤ v) (h1 : v ≤ 1073741824) : Fits (rs.set i v) := by
  refine ⟨by rw [List.length_set]; exact h.1, by rw [List.length_set]; exact h.2.1, fun j => ?_⟩
  by_cases c : i < rs.length
  · rw [getD_set _ _ _ _ c]
    split
    · exact ⟨h0, h1⟩
    · exact h.2.2 j
  · rw [List.set_eq_of_length_le (by omega)]; exact h.2.2 j
theorem Fits.rfs {rs : List Int} (h : Fits rs) (m : Int) : 0 ≤ rfs rs m ∧ rfs rs m ≤ 1073741824 := by
  unfold Proofs.YtgedimlhldfkaaaGreatDoor.rfs
  split
  · exact h.2.2 _
  · omega
theorem Fits.zeros (n : Nat) (h : 1 ≤ n) (h' : n ≤ 1024) : Fits (List.replicate n 0) := by
  refine ⟨by simpa using h, by simpa using h', fun j => ?_⟩
  rw [List.getD_eq_getElem?_getD, List.getElem?_replicate]
  split <;> simp
/-- none of the first k is free -/
def NoFree (rs : List Int) (k : Nat) : Prop := ∀ j, j < k → rs.getD j 0 ≠ 0
theorem NoFree.zero (rs : List Int) : NoFree rs 0 := fun j h => by omega
theorem NoFree.succ {rs : List Int} {k : Nat} (h : NoFree rs k) (e : rs.getD k 0 ≠ 0) : NoFree rs (k + 1) := by
  intro j hj
  by_cases c : j = k
  · subst c; exact e
  · exact h j (by omega)
theorem free_or (rs : List Int) (k : Nat) : NoFree rs k ∨ ∃ i, i < k ∧ NoFree rs i ∧ rs.getD i 0 = 0 := by
  induction k with
  | zero => exact .inl (NoFree.zero _)
  | succ k ih =>
    rcases ih with h | ⟨i, h1, h2, h3⟩
    · by_cases c : rs.getD k 0 = 0
      · exact .inr ⟨k, by omega, h, c⟩
      · exact .inl (h.succ c)
    · exact .inr ⟨i, by omega, h2, h3⟩
/-- those of the first k that are taken, ascending -/
def tk (rs : List Int) : Nat → List Int
  | 0 => []
  | k + 1 => if 0 < rs.getD k 0 then tk rs k ++ [(k : Int)] else tk rs k
theorem tk_len (rs : List Int) (k : Nat) : (tk rs k).length ≤ k := by
  induction k with
  | zero => exact Nat.le_refl _
  | succ k ih =>
    unfold tk
    split
    · rw [List.length_append]; simp; omega
    · omega
theorem tk_push (rs : List Int) (k : Nat) (h : 0 < rs.getD k 0) : tk rs (k + 1) = tk rs k ++ [(k : Int)] := by
  show (if _ then _ else _) = _; rw [if_pos h]
theorem tk_skip (rs : List Int) (k : Nat) (h : ¬ 0 < rs.getD k 0) : tk rs (k + 1) = tk rs k := by
  show (if _ then _ else _) = _; rw [if_neg h]
theorem tk_congr {rs qs : List Int} (k : Nat) (h : ∀ j, j < k → (0 < rs.getD j 0 ↔ 0 < qs.getD j 0)) : tk rs k = tk qs k := by
  induction k with
  | zero => rfl
  | succ k ih =>
    have e := ih fun j hj => h j (by omega)
    by_cases c : 0 < rs.getD k 0
    · rw [tk_push _ _ c, tk_push _ _ ((h k (by omega)).1 c), e]
    · rw [tk_skip _ _ c, tk_skip _ _ (fun d => c ((h k (by omega)).2 d)), e]
/-- a frame more is taken: one more of them -/
theorem tk_len_set (rs : List Int) (i : Nat) (v : Int) (k : Nat) (h : i < rs.length) :
    ((tk (rs.set i v) k).length : Int) = (tk rs k).length + (if i < k then (if 0 < v then 1 else 0) - (if 0 < rs.getD i 0 then 1 else 0) else 0) := by
  induction k with
  | zero => simp [tk]
  | succ k ih =>
    have g := getD_set rs i k v h
    by_cases c : k = i
    · subst c
      rw [if_pos rfl] at g
      rw [if_neg (by omega)] at ih
      rw [if_pos (by omega)]
      unfold tk
      rw [g]
      by_cases a : 0 < v <;> by_cases b : 0 < rs.getD k 0 <;> simp only [a, b, if_true, if_false, List.length_append, List.length_singleton] <;> omega
    · rw [if_neg c] at g
      have e : (if i < k + 1 then ((if 0 < v then 1 else 0) - (if 0 < rs.getD i 0 then 1 else 0) : Int) else 0) = (if i < k then ((if 0 < v then 1 else 0) - (if 0 < rs.getD i 0 then 1 else 0) : Int) else 0) := by
        by_cases d : i < k
        · rw [if_pos d, if_pos (by omega)]
        · rw [if_neg d, if_neg (by omega)]
      rw [e]
      unfold tk
      rw [g]
      by_cases b : 0 < rs.getD k 0 <;> simp only [b, if_true, if_false, List.length_append, List.length_singleton] <;> omega
theorem tk_zeros (n k : Nat) : tk (List.replicate n 0) k = [] := by
  induction k with
  | zero => rfl
  | succ k ih =>
    rw [tk_skip, ih]
    rw [List.getD_eq_getElem?_getD, List.getElem?_replicate]
    split <;> simp
/-- how often a frame stands in a list -/
def cn (l : List Int) (m : Int) : Int := (l.count m : Int)
theorem cn_nil (m : Int) : cn [] m = 0 := rfl
theorem cn_bd (l : List Int) (m : Int) : 0 ≤ cn l m ∧ cn l m ≤ l.length := by
  unfold cn; have := List.count_le_length (a := m) (l := l); omega
theorem cn_push (l : List Int) (n m : Int) : cn (l ++ [n]) m = cn l m + if m = n then 1 else 0 := by
  unfold cn
  rw [List.count_append, List.count_singleton]
  by_cases c : m = n
  · subst c; simp
  · rw [if_neg c, if_neg (by simpa using fun e => c e.symm)]; simp
theorem take_snoc_int (l : List Int) (k : Nat) (h : k < l.length) : l.take (k + 1) = l.take k ++ [l.getD k 0] := by
  rw [List.take_add_one, List.getElem?_eq_getElem h, List.getD_eq_getElem?_getD, List.getElem?_eq_getElem h]; rfl
theorem cn_take (l : List Int) (k : Nat) (m : Int) (h : k < l.length) : cn (l.take (k + 1)) m = cn (l.take k) m + if m = l.getD k 0 then 1 else 0 := by
  rw [take_snoc_int l k h, cn_push]
theorem cn_cut (l : List Int) (i : Nat) (m : Int) (h : i < l.length) : cn (l.take i ++ l.drop (i + 1)) m = cn l m - if m = l.getD i 0 then 1 else 0 := by
  have e : l = l.take i ++ ([l.getD i 0] ++ l.drop (i + 1)) := by
    rw [← List.append_assoc, ← take_snoc_int l i h, List.take_append_drop]
  have c1 : cn l m = cn (l.take i) m + ((if m = l.getD i 0 then 1 else 0) + cn (l.drop (i + 1)) m) := by
    conv => lhs; rw [e]
    unfold cn
    rw [List.count_append, List.count_append, List.count_singleton]
    by_cases c : m = l.getD i 0
    · rw [if_pos c, if_pos (by simpa using c.symm)]; simp
    · rw [if_neg c, if_neg (by simpa using fun k => c k.symm)]; simp
  have c2 : cn (l.take i ++ l.drop (i + 1)) m = cn (l.take i) m + cn (l.drop (i + 1)) m := by
    unfold cn; rw [List.count_append]; simp
  rw [c2, c1]; omega
/-- frame n does not stand among the first k of a list -/
def Before (l : List Int) (n : Int) (i : Nat) : Prop := ∀ m, m < i → l.getD m 0 ≠ n
theorem Before.zero (l : List Int) (n : Int) : Before l n 0 := fun m h => by omega
theorem Before.succ {l : List Int} {n : Int} {i : Nat} (h : Before l n i) (e : l.getD i 0 ≠ n) : Before l n (i + 1) := by
  intro m hm
  by_cases c : m = i
  · subst c; exact e
  · exact h m (by omega)
theorem getD_mem {l : List Int} {i : Nat} (h : i < l.length) {n : Int} (e : l.getD i 0 = n) : n ∈ l := by
  rw [List.getD_eq_getElem?_getD, List.getElem?_eq_getElem h] at e
  rw [← e]; exact List.getElem_mem h
theorem before_none {l : List Int} {n : Int} (h : Before l n l.length) : cn l n = 0 := by
  have : ¬ n ∈ l := by
    intro c
    obtain ⟨m, hm, e⟩ := List.getElem_of_mem c
    exact h m hm (by rw [List.getD_eq_getElem?_getD, List.getElem?_eq_getElem hm]; exact e)
  unfold cn; rw [List.count_eq_zero_of_not_mem this]; rfl
theorem before_some {l : List Int} {n : Int} {i : Nat} (h : i < l.length) (e : l.getD i 0 = n) : 0 < cn l n := by
  unfold cn; have := List.count_pos_iff.2 (getD_mem h e); omega
/-- a row and a list tell the same -/
def Same (rs : List Int) (l : List Int) : Prop := ∀ m, cn l m = rfs rs m
theorem Same.zeros (n : Nat) : Same (List.replicate n 0) [] := by
  intro m
  unfold rfs
  rw [cn_nil]
  split
  · rw [List.getD_eq_getElem?_getD, List.getElem?_replicate]; split <;> simp
  · rfl
theorem Same.take {rs l : List Int} (h : Same rs l) (i : Nat) (hi : i < rs.length) (v : Int) (hv : v = rfs rs i + 1) : Same (rs.set i v) (l ++ [(i : Int)]) := by
  intro m
  rw [cn_push, rfs_set _ _ _ _ hi, h m]
  by_cases c : m = (i : Int)
  · subst c; rw [if_pos rfl, if_pos rfl, hv]
  · rw [if_neg c, if_neg c]; omega
theorem Same.give {rs l : List Int} (h : Same rs l) (i : Nat) (hi : i < rs.length) (v : Int) (hv : v = rfs rs i - 1) (k : Nat) (hk : k < l.length) (e : l.getD k 0 = (i : Int)) : Same (rs.set i v) (l.take k ++ l.drop (k + 1)) := by
  intro m
  rw [cn_cut _ _ _ hk, rfs_set _ _ _ _ hi, h m, e]
  by_cases c : m = (i : Int)
  · subst c; rw [if_pos rfl, if_pos rfl, hv]
  · rw [if_neg c, if_neg c]; omega
theorem Same.at_ {rs l : List Int} (h : Same rs l) (j : Nat) (hj : j < rs.length) : cn l (j : Int) = rs.getD j 0 := by rw [h, rfs_in _ _ hj]
/-- what a list takes of k frames, ascending -/
def ltk (l : List Int) : Nat → List Int
  | 0 => []
  | k + 1 => if 0 < cn l (k : Int) then ltk l k ++ [(k : Int)] else ltk l k
theorem ltk_push (l : List Int) (k : Nat) (h : 0 < cn l (k : Int)) : ltk l (k + 1) = ltk l k ++ [(k : Int)] := by
  show (if _ then _ else _) = _; rw [if_pos h]
theorem ltk_skip (l : List Int) (k : Nat) (h : ¬ 0 < cn l (k : Int)) : ltk l (k + 1) = ltk l k := by
  show (if _ then _ else _) = _; rw [if_neg h]
theorem ltk_len (l : List Int) (k : Nat) : (ltk l k).length ≤ k := by
  induction k with
  | zero => exact Nat.le_refl _
  | succ k ih =>
    unfold ltk
    split
    · rw [List.length_append]; simp; omega
    · omega
theorem Same.taken {rs l : List Int} (h : Same rs l) (k : Nat) (hk : k ≤ rs.length) : ltk l k = tk rs k := by
  induction k with
  | zero => rfl
  | succ k ih =>
    have e := h.at_ k (by omega)
    by_cases c : 0 < rs.getD k 0
    · rw [tk_push _ _ c, ltk_push _ _ (by rw [e]; exact c), ih (by omega)]
    · rw [tk_skip _ _ c, ltk_skip _ _ (by rw [e]; exact c), ih (by omega)]
/-- the sum of the first k -/
def sm (rs : List Int) : Nat → Int
  | 0 => 0
  | k + 1 => sm rs k + rs.getD k 0
theorem sm_set (rs : List Int) (i : Nat) (v : Int) (k : Nat) (h : i < rs.length) : sm (rs.set i v) k = sm rs k + if i < k then v - rs.getD i 0 else 0 := by
  induction k with
  | zero => simp [sm]
  | succ k ih =>
    show sm _ k + _ = sm _ k + _ + _
    rw [ih, getD_set _ _ _ _ h]
    by_cases c : k = i
    · subst c; rw [if_pos rfl, if_neg (by omega), if_pos (by omega)]; omega
    · rw [if_neg c]
      by_cases d : i < k
      · rw [if_pos d, if_pos (by omega)]; omega
      · rw [if_neg d, if_neg (by omega)]; omega
theorem sm_zeros (n k : Nat) : sm (List.replicate n 0) k = 0 := by
  induction k with
  | zero => rfl
  | succ k ih =>
    show sm _ k + _ = 0
    rw [ih, List.getD_eq_getElem?_getD, List.getElem?_replicate]
    split <;> simp
theorem sm_bd {rs : List Int} (h : Fits rs) (k : Nat) : 0 ≤ sm rs k ∧ sm rs k ≤ 1073741824 * k := by
  induction k with
  | zero => simp [sm]
  | succ k ih =>
    have := h.2.2 k
    show 0 ≤ sm rs k + _ ∧ sm rs k + _ ≤ _
    omega
end Go.Proofs.YtgedimlhldfkaaaGreatDoor
