/- What the document's own whole number of any binary64 number is; a contract, for all bits, in any world, behind which there are new blocks. -/
import Derived.Test.YtgkonjgalpchoaaDoorSoftX
namespace Go.Proofs.YtgkonjgalpchoaaDoor
open Go.RowKit
set_option linter.unusedVariables false
theorem tw_of {base : World} {s : Bool} {c : Obj} {x x' p p' : Int} (hx : x = x') (hp : p = p') :
    ((base.alloc (.cells #[.bool s, .int .u64 x, .int .i64 p, .bool false] 92)).alloc c) =
    ((base.alloc (.cells #[.bool s, .int .u64 x', .int .i64 p', .bool false] 92)).alloc c) := by
  rw [hx, hp]
/-- so many halvings -/
def tJ (a : Nat) : Nat := if 0 < mg a then min (-(pl a)).toNat ((mg a).log2 + 1) else 0
def tf (a : Nat) : Nat := fy (mg a) (tJ a)
theorem tf_pos (a : Nat) (h : 0 ≤ pl a) : tJ a = 0 ∧ tf a = mg a := by
  have : tJ a = 0 := by unfold tJ; split <;> omega
  unfold tf; rw [this, fy_zero]; exact ⟨rfl, rfl⟩
theorem tf_neg (a : Nat) (h : pl a ≤ 0) : tf a = tq (mg a) (pl a) := by
  have e : tq (mg a) (pl a) = mg a / 2 ^ (-(pl a)).toNat := by
    unfold tq; split
    · rw [show (pl a).toNat = 0 from by omega, show (-(pl a)).toNat = 0 from by omega]; simp
    · rfl
  rw [e]; unfold tf tJ fy
  split
  · rcases Nat.le_total (-(pl a)).toNat ((mg a).log2 + 1) with c | c
    · rw [Nat.min_eq_left c]
    · rw [Nat.min_eq_right c]
      have hl : mg a < 2 ^ ((mg a).log2 + 1) := Nat.lt_log2_self
      have h2 : 2 ^ ((mg a).log2 + 1) ≤ 2 ^ (-(pl a)).toNat := Nat.pow_le_pow_right (by decide) c
      rw [Nat.div_eq_of_lt hl, Nat.div_eq_of_lt (by omega)]
  · rename_i c
    rw [show mg a = 0 from by omega]; simp
theorem tf_clamp (a : Nat) : clampw (sgn a) (tf a) = clampw (sgn a) (tq (mg a) (pl a)) := by
  rcases Int.lt_or_le 0 (pl a) with c | c
  · have h1 := pl_norm a (by omega)
    rw [(tf_pos a (by omega)).2]
    have h2 : mg a ≤ tq (mg a) (pl a) := by
      unfold tq; rw [if_pos (by omega)]
      exact Nat.le_mul_of_pos_right _ (Nat.two_pow_pos _)
    unfold clampw
    rw [if_pos (show 2147483648 ≤ mg a by omega), if_pos (show 2147483648 ≤ mg a by omega), if_pos (show 2147483648 ≤ tq (mg a) (pl a) by omega), if_pos (show 2147483648 ≤ tq (mg a) (pl a) by omega)]
  · rw [tf_neg a c]
theorem tJ_iff (a j : Nat) (hj : j ≤ tJ a) : (pl a + j < 0 ∧ 0 < fy (mg a) j) ↔ j < tJ a := by
  unfold tJ at *
  by_cases h : 0 < mg a
  · rw [if_pos h] at *
    rw [fy_pos _ _ h]; omega
  · rw [if_neg h] at *
    have h2 := fy_le (mg a) j
    omega
theorem tJ_le (a : Nat) : tJ a ≤ 1074 ∨ pl a < -1074 := by unfold tJ; split <;> omega
end Go.Proofs.YtgkonjgalpchoaaDoor
