/- What every statement of the layer of binary64 numbers goes through: differences by sums, the so_one closed test that each ends with, whole numbers held within 32 bits; contracts, in any world, behind which there are new blocks. -/
import Derived.Test.YtgkonjgalpchoaaDoorSoftV
import Derived.Test.YtgkonjgalpchoaaDoorSoftY
import Derived.Test.YtgkonjgalpchoaaDoorSoftZ
import Derived.Test.YtgkonjgalpchoaaDoorSoftI
namespace Go.Proofs.YtgkonjgalpchoaaDoor
open Go.RowKit
set_option linter.unusedVariables false
theorem so_u64_bd {a : Int} (h : (Lit.int .u64 a).wf = true) : ∃ n : Nat, a = n ∧ U n := by
  simp only [Lit.wf, Bool.and_eq_true, decide_eq_true_eq] at h
  have h1 : IntKind.u64.min = 0 := rfl
  have h2 : IntKind.u64.max = 18446744073709551615 := rfl
  obtain ⟨n, rfl⟩ := Int.eq_ofNat_of_zero_le (show 0 ≤ a by omega)
  exact ⟨n, rfl, by unfold U; omega⟩
theorem so_u32_bd {a : Int} (h : (Lit.int .u32 a).wf = true) : ∃ n : Nat, a = n ∧ n ≤ 4294967295 := by
  simp only [Lit.wf, Bool.and_eq_true, decide_eq_true_eq] at h
  have h1 : IntKind.u32.min = 0 := rfl
  have h2 : IntKind.u32.max = 4294967295 := rfl
  obtain ⟨n, rfl⟩ := Int.eq_ofNat_of_zero_le (show 0 ≤ a by omega)
  exact ⟨n, rfl, by omega⟩
def minusv (b : Nat) : Nat := if cls b = 4 then b else flip b
theorem flip_parts (b : Nat) (h : U b) : ex (flip b) = ex b ∧ fr (flip b) = fr b ∧ sgn (flip b) = !sgn b := by
  unfold flip ex fr sgn; unfold U at h
  by_cases c : 9223372036854775808 ≤ b
  · simp only [c, decide_true, if_true]
    refine ⟨by omega, by omega, by simp; omega⟩
  · simp only [c, decide_false, Bool.false_eq_true, if_false]
    refine ⟨by omega, by omega, by simp⟩
theorem minusv_u (b : Nat) (h : U b) : U (minusv b) := by unfold minusv; split; exact h; exact flip_u b h
theorem read_flip (b : Nat) (h : U b) : Ieee.double.read (flip b) = (Ieee.double.read b).opposite := by
  obtain ⟨e1, e2, e3⟩ := flip_parts b h
  rw [read_eq b h, read_eq (flip b) (flip_u b h)]
  unfold fin mg pl
  rw [e1, e2, e3]
  by_cases c : ex b = 2047
  · by_cases d : fr b = 0 <;> simp [c, d, Ieee.Datum.opposite]
  · simp [c, Ieee.Datum.opposite]
theorem sub_add (a b : Nat) (ha : U a) (hb : U b) : opv (Ieee.double.sub a b) = opv (Ieee.double.add a (minusv b)) := by
  unfold minusv
  by_cases c : cls b = 4
  · rw [if_pos c, add_nan a b ha hb (by unfold nn; simp [c])]
    unfold Ieee.Format.sub
    rw [read_nan b hb c]; cases Ieee.double.read a <;> rfl
  · rw [if_neg c]
    unfold Ieee.Format.sub Ieee.Format.add
    rw [read_flip b hb]
def so_one : Nat := 4607182418800017408
def dbl : Nat := 4611686018427387904
theorem k_add : opv (Ieee.double.add so_one so_one) = 4611686018427387904 := by decide +kernel
theorem k_div : opv (Ieee.double.div so_one 0) = 9218868437227405312 := by decide +kernel
theorem k_sqrt : opv (Ieee.double.sqrt 9223372036854775808) = 9223372036854775808 := by decide +kernel
theorem k_cmp : cmpv so_one dbl = -1 := by decide +kernel
theorem k_toi : toi dbl = 2 := by decide +kernel
theorem k_ofi : ofi (sg32 4294967295) = 13830554455654793216 := by decide +kernel
theorem k_cls : cls 1 = 1 := by decide +kernel
theorem k_mul : opv (Ieee.double.mul dbl dbl) = 4616189618054758400 := by decide +kernel
end Go.Proofs.YtgkonjgalpchoaaDoor
