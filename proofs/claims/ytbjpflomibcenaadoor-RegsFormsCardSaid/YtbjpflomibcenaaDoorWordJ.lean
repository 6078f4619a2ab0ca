/- What loading and storing bytes do, in the package of numbers of 32 bits and in the document's own answers: contracts, for all slices of bytes and all sizes, right or wrong; in any world, behind which there are only new blocks. -/
import Derived.Test.YtbjpflomibcenaaDoorWordA
import Derived.Test.YtbjpflomibcenaaDoorWordC
import Derived.Test.YtbjpflomibcenaaDoorNum
import Derived.Laws.BytesArg
namespace Go.Proofs.YtbjpflomibcenaaDoor
open Go.RowKit
set_option linter.unusedVariables false
theorem ret_iv {k : IntKind} {a b : Int} {v : Value} (h : a = b) : Ending.returned (.tuple #[.int k a, v]) = .returned (.tuple #[.int k b, v]) := by rw [h]
/-- a right size -/
def okSize (n : Int) : Bool := n == 1 || n == 2 || n == 4
/-- the error of it -/
def erOf : Bool → Value
  | true => .nilIface
  | false => .iface 53 (.int .i64 22)
/-- the document's number of it -/
def ecOf : Bool → Int
  | true => 0
  | false => 22
theorem num_of (ok : Bool) (w : World) (hl : Laid w) : Calls Tryd.prog 10 #[erOf ok] w fun e w' => e = .returned (.int .i64 (ecOf ok)) ∧ New w w' := by
  cases ok
  · exact num_err 22 w hl
  · exact num_nil w
theorem issize_any (n : Int) (w : World) : Calls Tryd.prog 23 #[.int .i64 n] w fun e w' => e = .returned (.bool (okSize n)) ∧ w = w' := by
  by_cases c1 : n = 1
  · subst c1
    go_enter Tryd.func23, Tryd.ntmps23
    go_wp2
    go_ret
    exact ⟨rfl, rfl⟩
  · by_cases c2 : n = 2
    · subst c2
      go_enter Tryd.func23, Tryd.ntmps23
      go_wp2
      go_ret
      exact ⟨rfl, rfl⟩
    · have e1 : (n == 1) = false := by simpa using c1
      have e2 : (n == 2) = false := by simpa using c2
      have e : okSize n = (n == 4) := by unfold okSize; rw [e1, e2]; simp
      have E := Lib.hid e
      clear e c1 c2
      go_enter Tryd.func23, Tryd.ntmps23
      go_wp2
      go_ret
      exact ⟨ret_bool (by rw [E.out]), rfl⟩
/-- the number of some bytes -/
def ldv (n : Nat) (z : List Int) : Int := if n = 1 then z.getD 0 0 else if n = 2 then z.getD 0 0 + 256 * z.getD 1 0 else if n = 4 then z.getD 0 0 + 256 * z.getD 1 0 + 65536 * z.getD 2 0 + 16777216 * z.getD 3 0 else 0
theorem or2 (b0 b1 : Int) (h0 : 0 ≤ b0) (h0' : b0 ≤ 255) (h1 : 0 ≤ b1) (h1' : b1 ≤ 255) :
    bits .or .u32 (bits .or .u32 0 b0) (b1 * 256) = b0 + 256 * b1 ∧ bits .or .u32 0 b0 = b0 := by
  have h := or4 b0 b1 0 0 h0 h0' h1 h1' (by omega) (by omega) (by omega) (by omega)
  have e8 : (256 : Int) = pw 8 := by decide +kernel
  have f0 : bits .or .u32 0 b0 = b0 := by
    have h := or_up 0 b0 0 (by omega) (by rw [pw_zero]; omega) h0 (by rw [pw_zero]; omega)
    rw [pw_zero] at h; simpa using h
  have f1 : bits .or .u32 b0 (b1 * 256) = b0 + b1 * 256 := by rw [e8]; exact or_up _ _ _ h0 (by rw [← e8]; omega) h1 (by rw [← e8]; omega)
  refine ⟨by rw [f0, f1]; omega, f0⟩
theorem load_no (a : Option Addr) (n cap : Nat) (w : World) (hn : n ≤ maxLen) (h : okSize n = false) :
    Calls Tryd.prog 18 #[.slice a n cap] w fun e w' => e = .returned (.tuple #[.int .u32 0, erOf false]) ∧ w = w' := by
  unfold maxLen at hn
  go_enter Tryd.func18, Tryd.ntmps18
  go_wp2_with (go_at_call 23; (with_reducible refine (issize_any _ _).mono ?_); rintro e w' ⟨rfl, rfl⟩)
  go_ret2
  exact ⟨rfl, rfl⟩
theorem load_1 (b0 : Int) (a : Addr) (cap : Nat) (w : World) (h0 : 0 ≤ b0) (h0' : b0 ≤ 255) (c0 : w.cell? a = some (.int .u8 b0)) :
    Calls Tryd.prog 18 #[.slice (some a) 1 cap] w fun e w' => e = .returned (.tuple #[.int .u32 b0, .nilIface]) ∧ w = w' := by
  have F := Lib.hid (or2 b0 0 h0 h0' (by omega) (by omega)).2
  have k : okSize 1 = true := rfl
  go_enter Tryd.func18, Tryd.ntmps18
  go_wp2_with (go_at_call 23; (with_reducible refine (issize_any _ _).mono ?_); rintro e w' ⟨rfl, rfl⟩)
  go_rounds 2
  go_ret2
  exact ⟨ret_iv F.out, rfl⟩
theorem load_2 (b0 b1 : Int) (a : Addr) (cap : Nat) (w : World) (h0 : 0 ≤ b0) (h0' : b0 ≤ 255) (h1 : 0 ≤ b1) (h1' : b1 ≤ 255) (c0 : w.cell? a = some (.int .u8 b0)) (c1 : w.cell? ⟨a.block, a.off + 1, none⟩ = some (.int .u8 b1)) :
    Calls Tryd.prog 18 #[.slice (some a) 2 cap] w fun e w' => e = .returned (.tuple #[.int .u32 (b0 + 256 * b1), .nilIface]) ∧ w = w' := by
  have F := Lib.hid (or2 b0 b1 h0 h0' h1 h1').1
  have k : okSize 2 = true := rfl
  go_enter Tryd.func18, Tryd.ntmps18
  go_wp2_with (go_at_call 23; (with_reducible refine (issize_any _ _).mono ?_); rintro e w' ⟨rfl, rfl⟩)
  go_rounds 3
  go_ret2
  exact ⟨ret_iv F.out, rfl⟩
theorem load_4 (b0 b1 b2 b3 : Int) (a : Addr) (cap : Nat) (w : World) (h0 : 0 ≤ b0) (h0' : b0 ≤ 255) (h1 : 0 ≤ b1) (h1' : b1 ≤ 255) (h2 : 0 ≤ b2) (h2' : b2 ≤ 255) (h3 : 0 ≤ b3) (h3' : b3 ≤ 255)
    (c0 : w.cell? a = some (.int .u8 b0)) (c1 : w.cell? ⟨a.block, a.off + 1, none⟩ = some (.int .u8 b1)) (c2 : w.cell? ⟨a.block, a.off + 2, none⟩ = some (.int .u8 b2)) (c3 : w.cell? ⟨a.block, a.off + 3, none⟩ = some (.int .u8 b3)) :
    Calls Tryd.prog 18 #[.slice (some a) 4 cap] w fun e w' => e = .returned (.tuple #[.int .u32 (b0 + 256 * b1 + 65536 * b2 + 16777216 * b3), .nilIface]) ∧ w = w' := by
  have F := Lib.hid (or4 b0 b1 b2 b3 h0 h0' h1 h1' h2 h2' h3 h3')
  have k : okSize 4 = true := rfl
  go_enter Tryd.func18, Tryd.ntmps18
  go_wp2_with (go_at_call 23; (with_reducible refine (issize_any _ _).mono ?_); rintro e w' ⟨rfl, rfl⟩)
  go_rounds 5
  go_ret2
  exact ⟨ret_iv F.out, rfl⟩
end Go.Proofs.YtbjpflomibcenaaDoor
