/- Registers as one list of 22 cells. -/
import Derived.Test.YtbjpflomibcenaaDoorWhole
import Derived.Test.YtbjpflomibcenaaDoorRgMath
namespace Go.Proofs.YtbjpflomibcenaaDoor
open Go.RowKit
set_option linter.unusedVariables false
def rc (x f : Nat → Int) : List Value := (List.range 18).map (fun i => Value.int .u32 (x i)) ++ (List.range 4).map (fun i => Value.int .u64 (f i))
theorem rc_len (x f : Nat → Int) : (rc x f).length = 22 := by simp [rc]
theorem rc_get (x f : Nat → Int) (i : Nat) : (rc x f)[i]? = if i < 18 then some (.int .u32 (x i)) else if i < 22 then some (.int .u64 (f (i - 18))) else none := by
  unfold rc
  by_cases h : i < 18
  · rw [if_pos h, List.getElem?_append_left (by simpa using h), List.getElem?_map, List.getElem?_range h]; rfl
  · rw [if_neg h, List.getElem?_append_right (by simpa using h), List.getElem?_map]
    simp only [List.length_map, List.length_range]
    by_cases h2 : i < 22
    · rw [if_pos h2, List.getElem?_range (by omega)]; rfl
    · rw [if_neg h2, List.getElem?_eq_none (by simp; omega)]; rfl
theorem rc_x (x f : Nat → Int) {i : Nat} (h : i < 18) : (rc x f)[i]? = some (.int .u32 (x i)) := by rw [rc_get, if_pos h]
theorem rc_f (x f : Nat → Int) {k : Nat} (h : k < 4) : (rc x f)[18 + k]? = some (.int .u64 (f k)) := by
  rw [rc_get, if_neg (by omega), if_pos (by omega), Nat.add_sub_cancel_left]
theorem rc_set_x (x f : Nat → Int) (i : Nat) (v : Int) (h : i < 18) : (rc x f).set i (.int .u32 v) = rc (upd x i v) f := by
  apply List.ext_getElem?
  intro j
  rw [List.getElem?_set, rc_get, rc_get, rc_len]
  unfold upd
  by_cases e : i = j
  · subst e; rw [if_pos rfl, if_pos (by omega), if_pos h, if_pos rfl]
  · rw [if_neg e]
    by_cases hj : j < 18
    · rw [if_pos hj, if_pos hj, if_neg (fun h => e h.symm)]
    · rw [if_neg hj, if_neg hj]
theorem rc_set_f (x f : Nat → Int) (k : Nat) (v : Int) (h : k < 4) : (rc x f).set (18 + k) (.int .u64 v) = rc x (upd f k v) := by
  apply List.ext_getElem?
  intro j
  rw [List.getElem?_set, rc_get, rc_get, rc_len]
  unfold upd
  by_cases e : 18 + k = j
  · subst e; rw [if_pos rfl, if_pos (by omega), if_neg (by omega), if_pos (by omega), Nat.add_sub_cancel_left, if_pos rfl]
  · rw [if_neg e]
    by_cases hj : j < 18
    · rw [if_pos hj, if_pos hj]
    · rw [if_neg hj, if_neg hj]
      by_cases h2 : j < 22
      · rw [if_pos h2, if_pos h2, if_neg (by omega)]
      · rw [if_neg h2, if_neg h2]
theorem rc_one (x f : Nat → Int) : ∀ v ∈ rc x f, v.oneCell' = true := by
  intro v hv
  unfold rc at hv
  rcases List.mem_append.1 hv with h | h <;> (obtain ⟨i, _, rfl⟩ := List.mem_map.1 h; rfl)
theorem rc_zero : (#[.int .u32 0, .int .u32 0, .int .u32 0, .int .u32 0, .int .u32 0, .int .u32 0, .int .u32 0, .int .u32 0, .int .u32 0, .int .u32 0, .int .u32 0, .int .u32 0, .int .u32 0, .int .u32 0, .int .u32 0, .int .u32 0, .int .u32 0, .int .u32 0, .int .u64 0, .int .u64 0, .int .u64 0, .int .u64 0] : Array Value) = (rc (fun _ => 0) (fun _ => 0)).toArray := rfl
/-- registers whose words are these are equal just where all places are -/
theorem rc_inj {x f x' f' : Nat → Int} (h1 : ∀ k, k < 18 → x k = x' k) (h2 : ∀ k, k < 4 → f k = f' k) : rc x f = rc x' f' := by
  apply List.ext_getElem?
  intro j
  rw [rc_get, rc_get]
  by_cases hj : j < 18
  · rw [if_pos hj, if_pos hj, h1 j hj]
  · rw [if_neg hj, if_neg hj]
    by_cases h2' : j < 22
    · rw [if_pos h2', if_pos h2', h2 _ (by omega)]
    · rw [if_neg h2', if_neg h2']
end Go.Proofs.YtbjpflomibcenaaDoor
