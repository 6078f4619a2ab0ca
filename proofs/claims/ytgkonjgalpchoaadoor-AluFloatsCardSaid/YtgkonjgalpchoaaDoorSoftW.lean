/- What the document's own product, quotient and root of binary64 numbers do in part: products of whole numbers by pieces; contracts, in any world, which stays. -/
import Derived.Test.YtgkonjgalpchoaaDoorSoftT
import Derived.Test.YtgkonjgalpchoaaDoorSoftMore
import Derived.Deep.DeepCutAuto
import Derived.Deep.CutBlock
import Derived.Deep.LoopGhost
namespace Go.Proofs.YtgkonjgalpchoaaDoor
open Go.RowKit
set_option linter.unusedVariables false
theorem ret_uu {a b c d : Int} (h : a = b) (h' : c = d) : Ending.returned (.tuple #[.int .u64 a, .int .u64 c]) = .returned (.tuple #[.int .u64 b, .int .u64 d]) := by rw [h, h']
def phi (x y : Nat) : Nat := x * y / 18014398509481984
def plo (x y : Nat) : Nat := x * y % 18014398509481984
theorem rproduct_any (x y : Nat) (w : World) (hx : x < 9007199254740992) (hy : y < 9007199254740992) :
    Calls Tryd.prog 67 #[.int .u64 x, .int .u64 y] w fun e w' => e = .returned (.tuple #[.int .u64 (phi x y), .int .u64 (plo x y)]) ∧ w = w' := by
  obtain ⟨p1, p2⟩ := mul_parts x y hx hy
  obtain ⟨b1, b2, b3, b4⟩ := mul_bds x y hx hy
  have P1 := Lib.hid p1
  have P2 := Lib.hid p2
  obtain ⟨ll, hll⟩ : ∃ l : Int, l = ((x % 134217728) * (y % 134217728) : Nat) := ⟨_, rfl⟩
  clear p1 p2
  have c1 : (0 : Int) ≤ (x : Int) % 134217728 * ((y : Int) % 134217728) ∧ (x : Int) % 134217728 * ((y : Int) % 134217728) ≤ 18014398509481984 := by
    have e : (x : Int) % 134217728 * ((y : Int) % 134217728) = (((x % 134217728) * (y % 134217728) : Nat) : Int) := by simp
    rw [e]; omega
  have c2 : (0 : Int) ≤ (x : Int) / 134217728 * ((y : Int) % 134217728) ∧ (x : Int) / 134217728 * ((y : Int) % 134217728) ≤ 18014398509481984 := by
    have e : (x : Int) / 134217728 * ((y : Int) % 134217728) = (((x / 134217728) * (y % 134217728) : Nat) : Int) := by simp
    rw [e]; omega
  have c3 : (0 : Int) ≤ (x : Int) % 134217728 * ((y : Int) / 134217728) ∧ (x : Int) % 134217728 * ((y : Int) / 134217728) ≤ 18014398509481984 := by
    have e : (x : Int) % 134217728 * ((y : Int) / 134217728) = (((x % 134217728) * (y / 134217728) : Nat) : Int) := by simp
    rw [e]; omega
  have c4 : (0 : Int) ≤ (x : Int) / 134217728 * ((y : Int) / 134217728) ∧ (x : Int) / 134217728 * ((y : Int) / 134217728) ≤ 18014398509481984 := by
    have e : (x : Int) / 134217728 * ((y : Int) / 134217728) = (((x / 134217728) * (y / 134217728) : Nat) : Int) := by simp
    rw [e]; omega
  clear hll b1 b2 b3 b4
  obtain ⟨c1a, c1b⟩ := c1
  obtain ⟨c2a, c2b⟩ := c2
  obtain ⟨c3a, c3b⟩ := c3
  obtain ⟨c4a, c4b⟩ := c4
  go_enter Tryd.func67, Tryd.ntmps67
  go_wp2
  go_ret2
  exact ⟨ret_uu (by unfold phi; rw [← P1.out]; simp only [Int.natCast_add, Int.natCast_mul, Int.natCast_ediv, Int.natCast_emod]; rfl) (by unfold plo; rw [← P2.out]; simp only [Int.natCast_add, Int.natCast_mul, Int.natCast_ediv, Int.natCast_emod]; rfl), rfl⟩
end Go.Proofs.YtgkonjgalpchoaaDoor
