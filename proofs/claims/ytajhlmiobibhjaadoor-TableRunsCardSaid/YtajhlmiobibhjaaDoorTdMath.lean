/- Plain facts on the document's list of pages and entries, of no program: the list of what a function tells of each page, ascending; with one page less, with one more. -/
import Derived.Test.YtajhlmiobibhjaaDoorTbMath
import Derived.Test.YtajhlmiobibhjaaDoorFrMath
namespace Go.Proofs.YtajhlmiobibhjaaDoor
open Go.RowKit
set_option linter.unusedVariables false
/-- the first k pages that have entries, and their numbers -/
def can (f : Nat → Int) : Nat → List (Int × Int)
  | 0 => []
  | k + 1 => if f k = 0 then can f k else can f k ++ [((k : Int), f k)]
theorem can_skip {f : Nat → Int} {k : Nat} (h : f k = 0) : can f (k + 1) = can f k := by rw [can, if_pos h]
theorem can_push {f : Nat → Int} {k : Nat} (h : f k ≠ 0) : can f (k + 1) = can f k ++ [((k : Int), f k)] := by rw [can, if_neg h]
theorem can_len (f : Nat → Int) (k : Nat) : (can f k).length ≤ k := by
  induction k with
  | zero => exact Nat.le_refl _
  | succ k ih =>
    unfold can
    split
    · omega
    · rw [List.length_append, List.length_singleton]; omega
theorem can_pages (f : Nat → Int) (k : Nat) : (can f k).map (·.1) = pgs f k := by
  induction k with
  | zero => rfl
  | succ k ih =>
    by_cases d : f k = 0
    · rw [can_skip d, pgs_skip d, ih]
    · rw [can_push d, pgs_push d, List.map_append, ih]; rfl
theorem can_mem {f : Nat → Int} {k : Nat} {x : Int × Int} (h : x ∈ can f k) : ∃ j : Nat, j < k ∧ f j ≠ 0 ∧ x = ((j : Int), f j) := by
  induction k with
  | zero => cases h
  | succ k ih =>
    by_cases d : f k = 0
    · rw [can_skip d] at h; obtain ⟨j, h1, h2⟩ := ih h; exact ⟨j, by omega, h2⟩
    · rw [can_push d] at h
      rcases List.mem_append.1 h with h | h
      · obtain ⟨j, h1, h2⟩ := ih h; exact ⟨j, by omega, h2⟩
      · rw [List.mem_singleton] at h; exact ⟨k, by omega, d, h⟩
theorem can_in {f : Nat → Int} {k j : Nat} (hj : j < k) (hf : f j ≠ 0) : ((j : Int), f j) ∈ can f k := by
  induction k with
  | zero => omega
  | succ k ih =>
    by_cases d : f k = 0
    · rw [can_skip d]; exact ih (by by_cases e : j = k; (subst e; exact absurd d hf); omega)
    · rw [can_push d, List.mem_append]
      by_cases e : j = k
      · subst e; exact .inr (by simp)
      · exact .inl (ih (by omega))
theorem can_congr {f g : Nat → Int} (k : Nat) (h : ∀ j, j < k → f j = g j) : can f k = can g k := by
  induction k with
  | zero => rfl
  | succ k ih => unfold can; rw [h k (by omega), ih fun j hj => h j (by omega)]
theorem can_more {f : Nat → Int} (k m : Nat) (h : ∀ j, k ≤ j → j < k + m → f j = 0) : can f (k + m) = can f k := by
  induction m with
  | zero => rfl
  | succ m ih => rw [← Nat.add_assoc, can_skip (h _ (by omega) (by omega)), ih fun j h1 h2 => h j h1 (by omega)]
/-- one page less -/
def less (p : Int) (l : List (Int × Int)) : List (Int × Int) := l.filter fun x => x.1 != p
theorem less_push (p : Int) (l : List (Int × Int)) (x : Int × Int) : less p (l ++ [x]) = if x.1 = p then less p l else less p l ++ [x] := by
  unfold less
  rw [List.filter_append]
  by_cases c : x.1 = p
  · rw [if_pos c]; simp [c]
  · rw [if_neg c]; simp [c]
theorem less_len (p : Int) (l : List (Int × Int)) : (less p l).length ≤ l.length := List.length_filter_le _ _
theorem can_less {f g : Nat → Int} (p k : Nat) (h : ∀ j, j < k → g j = if j = p then 0 else f j) : less p (can f k) = can g k := by
  induction k with
  | zero => rfl
  | succ k ih =>
    have e := h k (by omega)
    have i := ih fun j hj => h j (by omega)
    by_cases d : f k = 0
    · rw [can_skip d, can_skip (by rw [e, d]; split <;> rfl), i]
    · rw [can_push d, less_push, i]
      by_cases c : k = p
      · rw [if_pos (by simp [c]), can_skip (by rw [e, if_pos c])]
      · rw [if_neg (by simp; omega), can_push (by rw [e, if_neg c]; exact d), e, if_neg c]
/-- a page laid in ahead of the first greater one: what has been told so far, and whether it has been laid in -/
def ins1 (p v : Int) (s : List (Int × Int) × Bool) (x : Int × Int) : List (Int × Int) × Bool := if p < x.1 ∧ s.2 = false then (s.1 ++ [(p, v)] ++ [x], true) else (s.1 ++ [x], s.2)
def ins (p v : Int) (l : List (Int × Int)) : List (Int × Int) × Bool := l.foldl (ins1 p v) ([], false)
theorem ins_push (p v : Int) (l : List (Int × Int)) (x : Int × Int) : ins p v (l ++ [x]) = ins1 p v (ins p v l) x := by simp [ins]
theorem ins_len (p v : Int) (l : List (Int × Int)) : (ins p v l).1.length ≤ l.length + 1 := by
  have key : ∀ (l : List (Int × Int)) (s : List (Int × Int) × Bool) (n : Nat), s.1.length ≤ n + 1 → (s.2 = false → s.1.length ≤ n) → (l.foldl (ins1 p v) s).1.length ≤ n + l.length + 1 := by
    intro l
    induction l with
    | nil => intro s n h _; simpa using h
    | cons x l ih =>
      intro s n h k
      have := ih (ins1 p v s x) (n + 1) (by
        unfold ins1
        split
        · rename_i c
          have := k c.2
          simp; omega
        · simp; omega) (by
        unfold ins1
        split
        · intro h; cases h
        · intro h; have := k h; simp; omega)
      simp only [List.foldl_cons, List.length_cons]
      omega
  have := key l ([], false) 0 (by simp) (by simp)
  simpa [ins] using this
/-- .. and at the end -/
def lay (p v : Int) (l : List (Int × Int)) : List (Int × Int) := if (ins p v l).2 then (ins p v l).1 else (ins p v l).1 ++ [(p, v)]
theorem can_ins {f g : Nat → Int} (p : Nat) (v : Int) (hv : v ≠ 0) (hp : f p = 0) (hg : ∀ j, g j = if j = p then v else f j) (k : Nat) :
    (k ≤ p → ins p v (can f k) = (can f k, false)) ∧ (p < k → ((ins p v (can f k)).2 = true → (ins p v (can f k)).1 = can g k) ∧ ((ins p v (can f k)).2 = false → (ins p v (can f k)).1 = can f p ∧ ∀ j, p < j → j < k → f j = 0)) := by
  induction k with
  | zero => exact ⟨fun _ => rfl, fun h => by omega⟩
  | succ k ih =>
    obtain ⟨ih1, ih2⟩ := ih
    constructor
    · intro hk
      have i := ih1 (by omega)
      by_cases d : f k = 0
      · rw [can_skip d, i]
      · rw [can_push d, ins_push, i]
        unfold ins1
        rw [if_neg (by simp; omega)]
    · intro hk
      by_cases c : k = p
      · subst c
        have i := ih1 (Nat.le_refl _)
        rw [can_skip hp, i]
        exact ⟨fun h => (by cases h), fun _ => ⟨rfl, fun j h1 h2 => by omega⟩⟩
      · obtain ⟨i1, i2⟩ := ih2 (by omega)
        have gk : g k = f k := by rw [hg, if_neg c]
        by_cases d : f k = 0
        · rw [can_skip d, can_skip (by rw [gk]; exact d)]
          refine ⟨i1, fun h => ⟨(i2 h).1, fun j h1 h2 => ?_⟩⟩
          by_cases e : j = k
          · subst e; exact d
          · exact (i2 h).2 j h1 (by omega)
        · rw [can_push d, can_push (f := g) (by rw [gk]; exact d), ins_push, gk]
          by_cases b : (ins p v (can f k)).2 = true
          · unfold ins1
            rw [if_neg (by rw [b]; simp)]
            refine ⟨fun _ => by rw [i1 b], fun h => ?_⟩
            simp only at h
            rw [b] at h; cases h
          · have b' : (ins p v (can f k)).2 = false := by simpa using b
            obtain ⟨j1, j2⟩ := i2 b'
            unfold ins1
            rw [if_pos ⟨by simp; omega, b'⟩]
            refine ⟨fun _ => ?_, fun h => by cases h⟩
            show (ins p v (can f k)).1 ++ [((p : Int), v)] ++ [((k : Int), f k)] = can g k ++ [((k : Int), f k)]
            have e1 : can g k = can g (p + 1) := by
              have := can_more (f := g) (p + 1) (k - (p + 1)) (fun j h1 h2 => by rw [hg, if_neg (by omega)]; exact j2 j (by omega) (by omega))
              rwa [show p + 1 + (k - (p + 1)) = k by omega] at this
            have e2 : can g p = can f p := can_congr p (fun j hj => by rw [hg, if_neg (by omega)])
            have e3 : g p = v := by rw [hg, if_pos rfl]
            rw [e1, can_push (f := g) (by rw [e3]; exact hv), e2, e3, j1]
theorem can_lay {f g : Nat → Int} (p k : Nat) (v : Int) (hk : p < k) (hv : v ≠ 0) (hp : f p = 0) (hg : ∀ j, j < k → g j = if j = p then v else f j) : lay p v (can f k) = can g k := by
  have G : can g k = can (fun j => if j = p then v else f j) k := can_congr k fun j hj => hg j hj
  obtain ⟨_, h2⟩ := can_ins p v hv hp (g := fun j => if j = p then v else f j) (fun j => rfl) k
  obtain ⟨i1, i2⟩ := h2 hk
  rw [G]
  unfold lay
  by_cases b : (ins p v (can f k)).2 = true
  · rw [if_pos b, i1 b]
  · have b' : (ins p v (can f k)).2 = false := by simpa using b
    rw [if_neg b]
    obtain ⟨j1, j2⟩ := i2 b'
    rw [j1]
    have := can_more (f := fun j => if j = p then v else f j) (p + 1) (k - (p + 1)) (fun j h1 h2 => by
      show (if j = p then v else f j) = 0
      rw [if_neg (by omega)]; exact j2 j (by omega) (by omega))
    rw [show p + 1 + (k - (p + 1)) = k by omega] at this
    rw [this, can_push (by show (if p = p then v else f p) ≠ 0; rw [if_pos rfl]; exact hv), if_pos rfl]
    congr 1
    exact can_congr p (fun j hj => by show f j = if j = p then v else f j; rw [if_neg (by omega)])
/-- where a page stands -/
theorem page_at {l : List (Int × Int)} {p : Int} (h : ∃ x ∈ l, x.1 = p) : ∃ i, i < l.length ∧ (∀ j (hj : j < l.length), j < i → (l[j]).1 ≠ p) ∧ ∃ hi : i < l.length, (l[i]).1 = p := by
  induction l with
  | nil => obtain ⟨x, hx, _⟩ := h; cases hx
  | cons y l ih =>
    by_cases c : y.1 = p
    · exact ⟨0, by simp, fun j _ hj => by omega, by simp, c⟩
    · obtain ⟨x, hx, e⟩ := h
      have hx' : x ∈ l := by
        rcases List.mem_cons.1 hx with rfl | hx
        · exact absurd e c
        · exact hx
      obtain ⟨i, h1, h2, h3, h4⟩ := ih ⟨x, hx', e⟩
      refine ⟨i + 1, by simp; omega, fun j hj hji => ?_, by simp; omega, by simpa using h4⟩
      match j, hj, hji with
      | 0, _, _ => exact c
      | j + 1, hj, hji => simpa using h2 j (by simpa using hj) (by omega)
end Go.Proofs.YtajhlmiobibhjaaDoor
