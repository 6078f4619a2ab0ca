/- What the package of frames of bytes does, further: which error comes first; bytes read, written, made 0, and copied. Contracts, for any number of frames and any bytes in them, in any world. -/
import Derived.Test.YtpjmcdlkockbdaaPhA
namespace Go.Proofs.Ytpjmcdlkockbdaa
open Go.RowKit
set_option linter.unusedVariables false
section
variable {w : World} {mb rb many : Nat} {bs : List Int}
theorem check_arg (m o n : Int) (h : Ph w mb rb many bs) (hm : ¬ (0 ≤ m ∧ m < many)) :
    Calls Try.prog 37 #[.pointer (some ⟨mb, 0, none⟩), .int .i64 m, .int .i64 o, .int .i64 n] w fun e w' => e = .returned (.iface 43 (.int .i64 22)) ∧ w = w' := by
  have X := has_no m h hm
  clear h hm
  go_enter Try.func37, Try.ntmps37
  go_wp2_with (go_at_call 32; (with_reducible refine (X).mono ?_); rintro e w' ⟨rfl, rfl⟩)
  go_ret
  exact ⟨rfl, rfl⟩
theorem check_nil (m o n : Int) (w : World) :
    Calls Try.prog 37 #[.pointer none, .int .i64 m, .int .i64 o, .int .i64 n] w fun e w' => e = .returned (.iface 43 (.int .i64 22)) ∧ w = w' := by
  go_enter Try.func37, Try.ntmps37
  go_wp2_with (go_at_call 32; (with_reducible refine (has_nil m _).mono ?_); rintro e w' ⟨rfl, rfl⟩)
  go_ret
  exact ⟨rfl, rfl⟩
theorem check_fault (j : Nat) (o n : Int) (h : Ph w mb rb many bs) (hj : j < many) (ho : o < 0 ∨ n < 0 ∨ 256 < o + n) (b1 : o ≤ 9223372036854775807) :
    Calls Try.prog 37 #[.pointer (some ⟨mb, 0, none⟩), .int .i64 j, .int .i64 o, .int .i64 n] w fun e w' => e = .returned (.iface 43 (.int .i64 14)) ∧ w = w' := by
  have X := has_yes j h hj
  clear h
  by_cases c1 : o < 0
  · clear ho b1
    go_enter Try.func37, Try.ntmps37
    go_wp2_with (go_at_call 32; (with_reducible refine (X).mono ?_); rintro e w' ⟨rfl, rfl⟩)
    go_ret
    exact ⟨rfl, rfl⟩
  · by_cases c2 : n < 0
    · have d1 : decide (o < 0) = false := by simpa using c1
      clear ho
      go_enter Try.func37, Try.ntmps37
      go_wp2_with (go_at_call 32; (with_reducible refine (X).mono ?_); rintro e w' ⟨rfl, rfl⟩)
      go_ret
      exact ⟨rfl, rfl⟩
    · have d1 : decide (o < 0) = false := by simpa using c1
      have d2 : decide (n < 0) = false := by simpa using c2
      have e1 : 0 ≤ o := by omega
      have e3 : 256 - o < n := by omega
      have d3 : decide (256 - o < n) = true := by simp; omega
      clear ho c1 c2
      go_enter Try.func37, Try.ntmps37
      go_wp2_with (go_at_call 32; (with_reducible refine (X).mono ?_); rintro e w' ⟨rfl, rfl⟩)
      go_ret
      exact ⟨rfl, rfl⟩
theorem check_ok (j o n : Nat) (h : Ph w mb rb many bs) (hj : j < many) (ho : o + n ≤ 256) :
    Calls Try.prog 37 #[.pointer (some ⟨mb, 0, none⟩), .int .i64 j, .int .i64 o, .int .i64 n] w fun e w' => e = .returned .nilIface ∧ w = w' := by
  have X := has_yes j h hj
  have d1 : decide ((o : Int) < 0) = false := by simp
  have d2 : decide ((n : Int) < 0) = false := by simp
  have d3 : decide (256 - (o : Int) < (n : Int)) = false := by simp; omega
  have e1 : (o : Int) ≤ 256 := by omega
  have e3 : (n : Int) ≤ 256 - (o : Int) := by omega
  clear h ho hj
  go_enter Try.func37, Try.ntmps37
  go_wp2_with (go_at_call 32; (with_reducible refine (X).mono ?_); rintro e w' ⟨rfl, rfl⟩)
  go_ret
  exact ⟨rfl, rfl⟩
theorem read_arg (m o n : Int) (h : Ph w mb rb many bs) (hm : ¬ (0 ≤ m ∧ m < many)) :
    Calls Try.prog 33 #[.pointer (some ⟨mb, 0, none⟩), .int .i64 m, .int .i64 o, .int .i64 n] w fun e w' => e = .returned (.tuple #[.slice none 0 0, .iface 43 (.int .i64 22)]) ∧ w = w' := by
  have X := check_arg m o n h hm
  clear h hm
  go_enter Try.func33, Try.ntmps33
  go_wp2_with (go_at_call 37; (with_reducible refine (X).mono ?_); rintro e w' ⟨rfl, rfl⟩)
  go_ret2
  exact ⟨rfl, rfl⟩
theorem read_nil (m o n : Int) (w : World) :
    Calls Try.prog 33 #[.pointer none, .int .i64 m, .int .i64 o, .int .i64 n] w fun e w' => e = .returned (.tuple #[.slice none 0 0, .iface 43 (.int .i64 22)]) ∧ w = w' := by
  go_enter Try.func33, Try.ntmps33
  go_wp2_with (go_at_call 37; (with_reducible refine (check_nil m o n _).mono ?_); rintro e w' ⟨rfl, rfl⟩)
  go_ret2
  exact ⟨rfl, rfl⟩
theorem read_fault (j : Nat) (o n : Int) (h : Ph w mb rb many bs) (hj : j < many) (ho : o < 0 ∨ n < 0 ∨ 256 < o + n) (b1 : o ≤ 9223372036854775807) :
    Calls Try.prog 33 #[.pointer (some ⟨mb, 0, none⟩), .int .i64 j, .int .i64 o, .int .i64 n] w fun e w' => e = .returned (.tuple #[.slice none 0 0, .iface 43 (.int .i64 14)]) ∧ w = w' := by
  have X := check_fault j o n h hj ho b1
  clear h hj ho
  go_enter Try.func33, Try.ntmps33
  go_wp2_with (go_at_call 37; (with_reducible refine (X).mono ?_); rintro e w' ⟨rfl, rfl⟩)
  go_ret2
  exact ⟨rfl, rfl⟩
theorem write_arg (m o : Int) (p : Option Addr) (n cap : Nat) (hn : n ≤ maxLen) (h : Ph w mb rb many bs) (hm : ¬ (0 ≤ m ∧ m < many)) :
    Calls Try.prog 30 #[.pointer (some ⟨mb, 0, none⟩), .int .i64 m, .int .i64 o, .slice p n cap] w fun e w' => e = .returned (.iface 43 (.int .i64 22)) ∧ w = w' := by
  have X := check_arg m o n h hm
  unfold maxLen at hn
  clear h hm
  go_enter Try.func30, Try.ntmps30
  go_wp2_with (go_at_call 37; (with_reducible refine (X).mono ?_); rintro e w' ⟨rfl, rfl⟩)
  go_ret
  exact ⟨rfl, rfl⟩
theorem write_nil (m o : Int) (p : Option Addr) (n cap : Nat) (hn : n ≤ maxLen) (w : World) :
    Calls Try.prog 30 #[.pointer none, .int .i64 m, .int .i64 o, .slice p n cap] w fun e w' => e = .returned (.iface 43 (.int .i64 22)) ∧ w = w' := by
  have X := check_nil m o n w
  unfold maxLen at hn
  go_enter Try.func30, Try.ntmps30
  go_wp2_with (go_at_call 37; (with_reducible refine (X).mono ?_); rintro e w' ⟨rfl, rfl⟩)
  go_ret
  exact ⟨rfl, rfl⟩
theorem write_fault (j : Nat) (o : Int) (p : Option Addr) (n cap : Nat) (hn : n ≤ maxLen) (h : Ph w mb rb many bs) (hj : j < many) (ho : o < 0 ∨ 256 < o + n) (b1 : o ≤ 9223372036854775807) :
    Calls Try.prog 30 #[.pointer (some ⟨mb, 0, none⟩), .int .i64 j, .int .i64 o, .slice p n cap] w fun e w' => e = .returned (.iface 43 (.int .i64 14)) ∧ w = w' := by
  have X := check_fault j o n h hj (by omega) b1
  unfold maxLen at hn
  clear h hj ho
  go_enter Try.func30, Try.ntmps30
  go_wp2_with (go_at_call 37; (with_reducible refine (X).mono ?_); rintro e w' ⟨rfl, rfl⟩)
  go_ret
  exact ⟨rfl, rfl⟩
theorem zero_arg (m : Int) (h : Ph w mb rb many bs) (hm : ¬ (0 ≤ m ∧ m < many)) :
    Calls Try.prog 26 #[.pointer (some ⟨mb, 0, none⟩), .int .i64 m] w fun e w' => e = .returned (.iface 43 (.int .i64 22)) ∧ w = w' := by
  have X := has_no m h hm
  clear h hm
  go_enter Try.func26, Try.ntmps26
  go_wp2_with (go_at_call 32; (with_reducible refine (X).mono ?_); rintro e w' ⟨rfl, rfl⟩)
  go_ret
  exact ⟨rfl, rfl⟩
theorem zero_nil (m : Int) (w : World) :
    Calls Try.prog 26 #[.pointer none, .int .i64 m] w fun e w' => e = .returned (.iface 43 (.int .i64 22)) ∧ w = w' := by
  go_enter Try.func26, Try.ntmps26
  go_wp2_with (go_at_call 32; (with_reducible refine (has_nil m _).mono ?_); rintro e w' ⟨rfl, rfl⟩)
  go_ret
  exact ⟨rfl, rfl⟩
end
end Go.Proofs.Ytpjmcdlkockbdaa
