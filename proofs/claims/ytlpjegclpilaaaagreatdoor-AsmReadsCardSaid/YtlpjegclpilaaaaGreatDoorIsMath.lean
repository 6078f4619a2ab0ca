/- Plain facts on the numbers of instructions, of no program. -/
import Derived.Test.YtlpjegclpilaaaaGreatDoorPlain
import Derived.RowKit
import Derived.IntWalk
namespace Go.Proofs.YtlpjegclpilaaaaGreatDoor
open Go.RowKit
set_option linter.unusedVariables false
/-- an instruction that may be -/
def InOk (o a b m : Int) : Prop := 0 ≤ o ∧ o ≤ 41 ∧ 0 ≤ a ∧ a ≤ 15 ∧ 0 ≤ b ∧ b ≤ 15 ∧ -32768 ≤ m ∧ m ≤ 32767
/-- its number -/
def innum (o a b m : Int) : Int := o * 16777216 + a * 1048576 + b * 65536 + m % 65536
/-- the number that stands in the lowest 16 bits, with its sign -/
def imv (v : Int) : Int := if v % 65536 < 32768 then v % 65536 else v % 65536 - 65536
theorem innum_is (o a b m : Int) (h : InOk o a b m) : 0 ≤ innum o a b m ∧ innum o a b m ≤ 704643071 ∧ innum o a b m / 16777216 = o ∧ innum o a b m / 1048576 % 16 = a ∧ innum o a b m / 65536 % 16 = b ∧ imv (innum o a b m) = m := by
  obtain ⟨h1, h2, h3, h4, h5, h6, h7, h8⟩ := h
  unfold imv innum
  refine ⟨by omega, by omega, by omega, by omega, by omega, ?_⟩
  split <;> omega
theorem imv_bd (v : Int) : -32768 ≤ imv v ∧ imv v ≤ 32767 := by
  unfold imv; split <;> omega
theorem u16_wr (m : Int) : IntKind.u16.wrap m = m % 65536 := rfl
theorem i16_wr (v : Int) : IntKind.i16.wrap v = imv v := by
  unfold imv
  simp only [IntKind.wrap, IntKind.bits, IntKind.signed, Bool.true_and]
  by_cases c : v % 65536 < 32768
  · rw [if_pos c, if_neg (by simp; omega)]; rfl
  · rw [if_neg c, if_pos (by simp; omega)]; rfl
theorem half_wr (n : Int) : wrap64 (wrap64 ((IntKind.u64.wrap n).tmod 65536) - 32768) = n % 65536 - 32768 := by
  have e : IntKind.u64.wrap n = n % 18446744073709551616 := rfl
  rw [e, Int.tmod_eq_emod_of_nonneg (by omega)]
  unfold wrap64; omega
theorem innum_back (v : Int) (h0 : 0 ≤ v) (h1 : v ≤ 4294967295) : innum (v / 16777216) (v / 1048576 % 16) (v / 65536 % 16) (imv v) = v := by
  unfold imv innum; split <;> omega
/-- what encoding answers: the number, the error's number -/
noncomputable def icv (o a b m : Int) : Int := by classical exact if InOk o a b m then innum o a b m else 0
noncomputable def ice (o a b m : Int) : Int := by classical exact if InOk o a b m then 0 else 22
/-- what decoding answers -/
def idn (v x : Int) : Int := if v / 16777216 ≤ 41 then x else 0
def ide (v : Int) : Int := if v / 16777216 ≤ 41 then 0 else 22
end Go.Proofs.YtlpjegclpilaaaaGreatDoor
