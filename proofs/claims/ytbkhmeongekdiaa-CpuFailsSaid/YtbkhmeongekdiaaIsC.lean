/- Plain facts on the numbers of instructions, of no program. -/
import Derived.Test.YtbkhmeongekdiaaNum
import Derived.RowKit
import Derived.IntWalk
namespace Go.Proofs.Ytbkhmeongekdiaa
open Go.RowKit
set_option linter.unusedVariables false
/-- an instruction that may be -/
def InOk (o a b m : Int) : Prop := 0 ≤ o ∧ o ≤ 41 ∧ 0 ≤ a ∧ a ≤ 15 ∧ 0 ≤ b ∧ b ≤ 15 ∧ -32768 ≤ m ∧ m ≤ 32767
/-- its number -/
def innum (o a b m : Int) : Int := o * 16777216 + a * 1048576 + b * 65536 + m % 65536
/-- the number that stands in the lowest 16 bits, with its sign -/
def imv (v : Int) : Int := if v % 65536 < 32768 then v % 65536 else v % 65536 - 65536
theorem innum_is (o a b m : Int) (h : InOk o a b m) : 0 ≤ innum o a b m ∧ innum o a b m ≤ 704643071 ∧ innum o a b m / 16777216 = o ∧ innum o a b m / 1048576 % 16 = a ∧ innum o a b m / 65536 % 16 = b ∧ imv (innum o a b m) = m := by
  obtain ⟨h1, h2, h3, h4, h5, h6, h7, h8⟩ := h
  unfold imv innum
  refine ⟨by omega, by omega, by omega, by omega, by omega, ?_⟩
  split <;> omega
theorem imv_bd (v : Int) : -32768 ≤ imv v ∧ imv v ≤ 32767 := by
  unfold imv; split <;> omega
theorem u16_wr (m : Int) : IntKind.u16.wrap m = m % 65536 := rfl
theorem i16_wr (v : Int) : IntKind.i16.wrap v = imv v := by
  unfold imv
  simp only [IntKind.wrap, IntKind.bits, IntKind.signed, Bool.true_and]
  by_cases c : v % 65536 < 32768
  · rw [if_pos c, if_neg (by simp; omega)]; rfl
  · rw [if_neg c, if_pos (by simp; omega)]; rfl
theorem half_wr (n : Int) : wrap64 (wrap64 ((IntKind.u64.wrap n).tmod 65536) - 32768) = n % 65536 - 32768 := by
  have e : IntKind.u64.wrap n = n % 18446744073709551616 := rfl
  rw [e, Int.tmod_eq_emod_of_nonneg (by omega)]
  unfold wrap64; omega
theorem innum_back (v : Int) (h0 : 0 ≤ v) (h1 : v ≤ 4294967295) : innum (v / 16777216) (v / 1048576 % 16) (v / 65536 % 16) (imv v) = v := by
  unfold imv innum; split <;> omega
/-- what encoding answers: the number, the error's number -/
noncomputable def icv (o a b m : Int) : Int := by classical exact if InOk o a b m then innum o a b m else 0
noncomputable def ice (o a b m : Int) : Int := by classical exact if InOk o a b m then 0 else 22
/-- what decoding answers -/
def idn (v x : Int) : Int := if v / 16777216 ≤ 41 then x else 0
def ide (v : Int) : Int := if v / 16777216 ≤ 41 then 0 else 22
end Go.Proofs.Ytbkhmeongekdiaa
namespace Go.Proofs.Ytbkhmeongekdiaa
open Go.RowKit
set_option linter.unusedVariables false
section
variable (o a b m : Int) (w : World)
end
theorem idecode_no (v : Int) (w : World) (h0 : 0 ≤ v) (h1 : v ≤ 4294967295) (h : 41 < v / 16777216) :
    Calls Try.prog 27 #[.int .u32 v] w fun e w' => e = .returned (.tuple #[.agg #[.int .i64 0, .int .i64 0, .int .i64 0, .int .i64 0], .iface 64 (.int .i64 22)]) ∧ New w w' := by
  go_enter Try.func27, Try.ntmps27
  go_wp2
  exact bodyPost_ret (v := .tuple #[.agg #[.int .i64 0, .int .i64 0, .int .i64 0, .int .i64 0], .iface 64 (.int .i64 22)]) (by simp [results, Try.results27, go_sem]) rfl ⟨rfl, (New.refl _).alloc _ _⟩
theorem idecode_ok (v : Int) (w : World) (h0 : 0 ≤ v) (h1 : v ≤ 4294967295) (h : v / 16777216 ≤ 41) :
    Calls Try.prog 27 #[.int .u32 v] w fun e w' => e = .returned (.tuple #[.agg #[.int .i64 (v / 16777216), .int .i64 (v / 1048576 % 16), .int .i64 (v / 65536 % 16), .int .i64 (imv v)], .nilIface]) ∧ New w w' := by
  go_enter Try.func27, Try.ntmps27
  go_wp2
  exact bodyPost_ret (v := .tuple #[.agg #[.int .i64 (v / 16777216), .int .i64 (v / 1048576 % 16), .int .i64 (v / 65536 % 16), .int .i64 (imv v)], .nilIface]) (by have := imv_bd v; simp [results, Try.results27, go_sem, i16_wr]; exact IntWalk.wrap64_in _ (by omega)) rfl ⟨rfl, (New.refl _).alloc _ _⟩
end Go.Proofs.Ytbkhmeongekdiaa
namespace Go.Proofs.Ytbkhmeongekdiaa
open Go.RowKit
set_option linter.unusedVariables false
theorem ic_cases (o a b m : Int) : (InOk o a b m ∧ icv o a b m = innum o a b m ∧ ice o a b m = 0) ∨ (¬ InOk o a b m ∧ icv o a b m = 0 ∧ ice o a b m = 22) := by
  unfold icv ice
  by_cases h : InOk o a b m
  · exact .inl ⟨h, if_pos h, if_pos h⟩
  · exact .inr ⟨h, if_neg h, if_neg h⟩
section
variable (o a b m : Int) (w : World)
end
theorem idecode_any (v : Int) (w : World) (h0 : 0 ≤ v) (h1 : v ≤ 4294967295) :
    Calls Try.prog 27 #[.int .u32 v] w fun e w' => e = .returned (.tuple #[.agg #[.int .i64 (idn v (v / 16777216)), .int .i64 (idn v (v / 1048576 % 16)), .int .i64 (idn v (v / 65536 % 16)), .int .i64 (idn v (imv v))], erN (ide v)]) ∧ New w w' := by
  unfold idn ide
  by_cases k : v / 16777216 ≤ 41
  · simp only [if_pos k]; rw [erN_zero]; exact idecode_ok v w h0 h1 k
  · simp only [if_neg k]; rw [erN_pos (by decide)]; exact idecode_no v w h0 h1 (by omega)
end Go.Proofs.Ytbkhmeongekdiaa
