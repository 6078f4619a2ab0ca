/- The package of the entries of page tables and the document's own answers, in one form for right and wrong entries and numbers: the same numbers on both sides. -/
import Derived.Test.YtpjmcdlkockbdaaEnB
import Derived.Test.YtpjmcdlkockbdaaEnC
namespace Go.Proofs.Ytpjmcdlkockbdaa
open Go.RowKit
set_option linter.unusedVariables false
/-- what encoding answers: the number, the error's number -/
def ecv (f p : Int) (c : Bool) : Int := if 0 ≤ f ∧ f < 1024 ∧ p ≤ 7 then ennum f p c else 0
def ece (f p : Int) : Int := if 0 ≤ f ∧ f < 1024 ∧ p ≤ 7 then 0 else 22
/-- what decoding answers: frame, uses, shared, whether there is one, the error's number -/
noncomputable def dcf (v : Int) : Int := by classical exact if v ≠ 0 ∧ EnNum v then v / 256 else 0
noncomputable def dcp (v : Int) : Int := by classical exact if v ≠ 0 ∧ EnNum v then v % 8 else 0
noncomputable def dcc (v : Int) : Bool := by classical exact if v ≠ 0 ∧ EnNum v then cwb v else false
noncomputable def dcb (v : Int) : Bool := by classical exact if v ≠ 0 ∧ EnNum v then true else false
noncomputable def dce (v : Int) : Int := by classical exact if v ≠ 0 ∧ ¬ EnNum v then 22 else 0
/-- whether it may be used so -/
def usd (f p u : Int) : Bool := if 0 ≤ f ∧ f < 1024 ∧ p ≤ 7 then (if u = 1 ∨ u = 2 ∨ u = 4 then usb p u else false) else false
section
variable (f p : Int) (c : Bool) (u : Int) (w : World)
theorem echeck_any (h : 0 ≤ p) : Calls Try.prog 18 #[.agg #[.int .i64 f, .int .u8 p, .bool c]] w fun e w' => e = .returned (erN (ece f p)) ∧ New w w' := by
  by_cases k : 0 ≤ f ∧ f < 1024 ∧ p ≤ 7
  · rw [ece, if_pos k, erN_zero]; exact echeck_ok f p c w k.1 k.2.1 h k.2.2
  · rw [ece, if_neg k, erN_pos (by decide)]; exact echeck_no f p c w h k
theorem encode_any (h : 0 ≤ p) : Calls Try.prog 28 #[.agg #[.int .i64 f, .int .u8 p, .bool c]] w fun e w' => e = .returned (.tuple #[.int .u32 (ecv f p c), erN (ece f p)]) ∧ New w w' := by
  by_cases k : 0 ≤ f ∧ f < 1024 ∧ p ≤ 7
  · rw [ece, if_pos k, ecv, if_pos k, erN_zero]; exact encode_ok f p c w k.1 k.2.1 h k.2.2
  · rw [ece, if_neg k, ecv, if_neg k, erN_pos (by decide)]; exact encode_no f p c w h k
end
theorem dc_cases (v : Int) (h : 0 ≤ v) : (v = 0 ∧ dcf v = 0 ∧ dcp v = 0 ∧ dcc v = false ∧ dcb v = false ∧ dce v = 0) ∨ (1 ≤ v ∧ EnNum v ∧ dcf v = v / 256 ∧ dcp v = v % 8 ∧ dcc v = cwb v ∧ dcb v = true ∧ dce v = 0) ∨
    (1 ≤ v ∧ ¬ EnNum v ∧ dcf v = 0 ∧ dcp v = 0 ∧ dcc v = false ∧ dcb v = false ∧ dce v = 22) := by
  unfold dcf dcp dcc dcb dce
  by_cases h0 : v = 0
  · exact .inl (by simp [h0])
  · by_cases h1 : EnNum v
    · exact .inr (.inl (by simp [h0, h1]; omega))
    · exact .inr (.inr (by simp [h0, h1]; omega))
theorem decode_any (v : Int) (w : World) (h0 : 0 ≤ v) (h1 : v ≤ 4294967295) :
    Calls Try.prog 35 #[.int .u32 v] w fun e w' => e = .returned (.tuple #[.agg #[.int .i64 (dcf v), .int .u8 (dcp v), .bool (dcc v)], .bool (dcb v), erN (dce v)]) ∧ New w w' := by
  rcases dc_cases v h0 with ⟨rfl, e1, e2, e3, e4, e5⟩ | ⟨g, k, e1, e2, e3, e4, e5⟩ | ⟨g, k, e1, e2, e3, e4, e5⟩
  · rw [e1, e2, e3, e4, e5, erN_zero]; exact decode_zero w
  · rw [e1, e2, e3, e4, e5, erN_zero]; exact decode_ok v w g h1 k
  · rw [e1, e2, e3, e4, e5, erN_pos (by decide)]; exact decode_no v w g h1 k
end Go.Proofs.Ytpjmcdlkockbdaa
