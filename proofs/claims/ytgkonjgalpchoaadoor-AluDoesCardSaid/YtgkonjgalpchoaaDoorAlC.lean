/- What the document's own answers of what instructions reckon are, of numbers of 32 bits: contracts, for any operation, any numbers and any flags, in any world; behind each there are only new blocks. -/
import Derived.Test.YtgkonjgalpchoaaDoorWordH
import Derived.Test.YtgkonjgalpchoaaDoorAlB
import Derived.Deep.LoopGhost
import Derived.Deep.QuietTactic
import Derived.BigQuiet
namespace Go.Proofs.YtgkonjgalpchoaaDoor
open Go.RowKit
set_option linter.unusedVariables false
theorem rflags_any (v : Int) (c o : Bool) (old : Int) (w : World) (h0 : 0 ≤ v) (h1 : v ≤ 4294967295) (g0 : 0 ≤ old) (g1 : old ≤ 4294967295) :
    Calls Tryd.prog 29 #[.int .u32 v, .bool c, .bool o, .int .u32 old] w fun e w' => e = .returned (.int .u32 (fl v c o old)) ∧ New w w' := by
  have E1 := Lib.hid (show ∀ a b : Int, fl v c o old = flg (v == 0) 1 + flg (decide (2147483648 ≤ v)) 2 + flg c 4 + flg o 8 + old / 16 % 2 * 16 from fun _ _ => rfl)
  obtain ⟨s, hs⟩ : ∃ s, old / 16 % 2 = s := ⟨_, rfl⟩
  have s0 : 0 ≤ s := by omega
  have s1 : s ≤ 1 := by omega
  by_cases z : v = 0
  · subst z
    cases c <;> cases o
    all_goals
      go_enter Tryd.func29, Tryd.ntmps29
      go_wp2
      go_ret
      exact ⟨ret_int (by rw [E1.out 0 0, hs]; simp [flg]; omega), New.refl _⟩
  · have z' : (v == 0) = false := by simpa using z
    by_cases m : 2147483648 ≤ v
    · cases c <;> cases o
      all_goals
        go_enter Tryd.func29, Tryd.ntmps29
        go_wp2
        go_ret
        exact ⟨ret_int (by rw [E1.out 0 0, hs]; simp [flg, z, m]; omega), New.refl _⟩
    · cases c <;> cases o
      all_goals
        go_enter Tryd.func29, Tryd.ntmps29
        go_wp2
        go_ret
        exact ⟨ret_int (by rw [E1.out 0 0, hs]; simp [flg, z]; omega), New.refl _⟩
theorem bit_of (x n : Nat) : (x : Int) / pw n % 2 = ((x / 2 ^ n % 2 : Nat) : Int) := by rw [pw_cast]; push_cast; rfl
-- BITS
set_option maxHeartbeats 2000000 in
theorem bit_0 (A B : Nat) (w : World) (hA : A < 4294967296) (hB : B < 4294967296) :
    Calls Tryd.prog 25 #[.int .u32 A, .int .u32 B, .int .i64 0] w fun e w' => e = .returned (.int .u32 (bw 0 A B : Nat)) ∧ New w w' := by
  go_enter Tryd.func25, Tryd.ntmps25
  go_wp2
  go_loopg [7, 8] 32 (fun k v i wr => ∃ (q : Nat) (j : Int), q = k ∧ j + 1 = q ∧ q ≤ 32 ∧ i = .int .i64 j ∧ v = .int .u32 (bwn 0 A B q : Nat) ∧ New w wr)
  case atStart => exact ⟨32, 31, rfl, rfl, by omega, rfl, by rw [bwn_top _ _ _ hA hB]; rfl, New.refl _⟩
  case round =>
    obtain ⟨q, j, hq, hj, hk, rfl, rfl, hn⟩ := hrel
    by_cases h : 0 ≤ j
    · obtain ⟨m, rfl⟩ := Int.eq_ofNat_of_zero_le h
      obtain rfl : q = m + 1 := by omega
      have hs := bwn_succ 0 A B m
      have hl := bwn_lt 0 A B m hA hB
      have e1 := bit_of A m
      have e2 := bit_of B m
      have hp := pw_pos m
      have d1 := div_bd A m (by omega)
      have d2 := div_bd B m (by omega)
      have qp : ∀ w, Calls Tryd.prog 27 #[.int .i64 m] w fun e w' => e = .returned (.int .i64 (pw m)) ∧ w' = w := fun w => (rpower' m w (by omega)).mono fun _ _ h => ⟨h.1, h.2.symm⟩
      have p0 : (pw m == 0) = false := by simp; omega
      have hx : A / 2 ^ m % 2 = 0 ∨ A / 2 ^ m % 2 = 1 := by omega
      have hy : B / 2 ^ m % 2 = 0 ∨ B / 2 ^ m % 2 = 1 := by omega
      generalize bwn 0 A B (m + 1) = V at *
      have HQ := Lib.hid hq
      obtain ⟨U, hU⟩ : ∃ U, bwn 0 A B m = U := ⟨_, rfl⟩
      rw [hU] at hs hl
      have HU := Lib.hid hU
      have ha : (A : Int) ≤ 4294967295 := by omega
      have hb : (B : Int) ≤ 4294967295 := by omega
      clear hA hB hj h hq hU
      rcases hx with k1 | k1 <;> rcases hy with k2 | k2
      all_goals
        rw [k1] at e1
        rw [k2] at e2
        rw [k1, k2] at hs
        first
          | rw [show bw 0 0 0 = 0 from rfl] at hs
          | rw [show bw 0 0 1 = 0 from rfl] at hs
          | rw [show bw 0 1 0 = 0 from rfl] at hs
          | rw [show bw 0 1 1 = 1 from rfl] at hs
        clear k1 k2
        go_wp2
        go_quiet ((go_at_call 27; exact Calls.quiet_of_same (qp _)))
        go_wp2
        go_roundg m
        case measure => have := HQ.out; omega
        case rel => exact ⟨m, (m : Int) - 1, rfl, by omega, by omega, by go_num, by rw [HU.out]; first | rfl | (congr 1; omega), by first | exact hn | exact New.drewN hn _⟩
    · obtain rfl : j = -1 := by omega
      obtain rfl : q = 0 := by omega
      clear hq hj hk
      go_wp2
      go_ret
      exact ⟨ret_int (by rw [bwn_low]), hn⟩
set_option maxHeartbeats 2000000 in
theorem bit_1 (A B : Nat) (w : World) (hA : A < 4294967296) (hB : B < 4294967296) :
    Calls Tryd.prog 25 #[.int .u32 A, .int .u32 B, .int .i64 1] w fun e w' => e = .returned (.int .u32 (bw 1 A B : Nat)) ∧ New w w' := by
  go_enter Tryd.func25, Tryd.ntmps25
  go_wp2
  go_loopg [7, 8] 32 (fun k v i wr => ∃ (q : Nat) (j : Int), q = k ∧ j + 1 = q ∧ q ≤ 32 ∧ i = .int .i64 j ∧ v = .int .u32 (bwn 1 A B q : Nat) ∧ New w wr)
  case atStart => exact ⟨32, 31, rfl, rfl, by omega, rfl, by rw [bwn_top _ _ _ hA hB]; rfl, New.refl _⟩
  case round =>
    obtain ⟨q, j, hq, hj, hk, rfl, rfl, hn⟩ := hrel
    by_cases h : 0 ≤ j
    · obtain ⟨m, rfl⟩ := Int.eq_ofNat_of_zero_le h
      obtain rfl : q = m + 1 := by omega
      have hs := bwn_succ 1 A B m
      have hl := bwn_lt 1 A B m hA hB
      have e1 := bit_of A m
      have e2 := bit_of B m
      have hp := pw_pos m
      have d1 := div_bd A m (by omega)
      have d2 := div_bd B m (by omega)
      have qp : ∀ w, Calls Tryd.prog 27 #[.int .i64 m] w fun e w' => e = .returned (.int .i64 (pw m)) ∧ w' = w := fun w => (rpower' m w (by omega)).mono fun _ _ h => ⟨h.1, h.2.symm⟩
      have p0 : (pw m == 0) = false := by simp; omega
      have hx : A / 2 ^ m % 2 = 0 ∨ A / 2 ^ m % 2 = 1 := by omega
      have hy : B / 2 ^ m % 2 = 0 ∨ B / 2 ^ m % 2 = 1 := by omega
      generalize bwn 1 A B (m + 1) = V at *
      have HQ := Lib.hid hq
      obtain ⟨U, hU⟩ : ∃ U, bwn 1 A B m = U := ⟨_, rfl⟩
      rw [hU] at hs hl
      have HU := Lib.hid hU
      have ha : (A : Int) ≤ 4294967295 := by omega
      have hb : (B : Int) ≤ 4294967295 := by omega
      clear hA hB hj h hq hU
      rcases hx with k1 | k1 <;> rcases hy with k2 | k2
      all_goals
        rw [k1] at e1
        rw [k2] at e2
        rw [k1, k2] at hs
        first
          | rw [show bw 1 0 0 = 0 from rfl] at hs
          | rw [show bw 1 0 1 = 1 from rfl] at hs
          | rw [show bw 1 1 0 = 1 from rfl] at hs
          | rw [show bw 1 1 1 = 1 from rfl] at hs
        clear k1 k2
        go_wp2
        go_quiet ((go_at_call 27; exact Calls.quiet_of_same (qp _)))
        go_wp2
        go_roundg m
        case measure => have := HQ.out; omega
        case rel => exact ⟨m, (m : Int) - 1, rfl, by omega, by omega, by go_num, by rw [HU.out]; first | rfl | (congr 1; omega), by first | exact hn | exact New.drewN hn _⟩
    · obtain rfl : j = -1 := by omega
      obtain rfl : q = 0 := by omega
      clear hq hj hk
      go_wp2
      go_ret
      exact ⟨ret_int (by rw [bwn_low]), hn⟩
set_option maxHeartbeats 2000000 in
theorem bit_2 (A B : Nat) (w : World) (hA : A < 4294967296) (hB : B < 4294967296) :
    Calls Tryd.prog 25 #[.int .u32 A, .int .u32 B, .int .i64 2] w fun e w' => e = .returned (.int .u32 (bw 2 A B : Nat)) ∧ New w w' := by
  go_enter Tryd.func25, Tryd.ntmps25
  go_wp2
  go_loopg [7, 8] 32 (fun k v i wr => ∃ (q : Nat) (j : Int), q = k ∧ j + 1 = q ∧ q ≤ 32 ∧ i = .int .i64 j ∧ v = .int .u32 (bwn 2 A B q : Nat) ∧ New w wr)
  case atStart => exact ⟨32, 31, rfl, rfl, by omega, rfl, by rw [bwn_top _ _ _ hA hB]; rfl, New.refl _⟩
  case round =>
    obtain ⟨q, j, hq, hj, hk, rfl, rfl, hn⟩ := hrel
    by_cases h : 0 ≤ j
    · obtain ⟨m, rfl⟩ := Int.eq_ofNat_of_zero_le h
      obtain rfl : q = m + 1 := by omega
      have hs := bwn_succ 2 A B m
      have hl := bwn_lt 2 A B m hA hB
      have e1 := bit_of A m
      have e2 := bit_of B m
      have hp := pw_pos m
      have d1 := div_bd A m (by omega)
      have d2 := div_bd B m (by omega)
      have qp : ∀ w, Calls Tryd.prog 27 #[.int .i64 m] w fun e w' => e = .returned (.int .i64 (pw m)) ∧ w' = w := fun w => (rpower' m w (by omega)).mono fun _ _ h => ⟨h.1, h.2.symm⟩
      have p0 : (pw m == 0) = false := by simp; omega
      have hx : A / 2 ^ m % 2 = 0 ∨ A / 2 ^ m % 2 = 1 := by omega
      have hy : B / 2 ^ m % 2 = 0 ∨ B / 2 ^ m % 2 = 1 := by omega
      generalize bwn 2 A B (m + 1) = V at *
      have HQ := Lib.hid hq
      obtain ⟨U, hU⟩ : ∃ U, bwn 2 A B m = U := ⟨_, rfl⟩
      rw [hU] at hs hl
      have HU := Lib.hid hU
      have ha : (A : Int) ≤ 4294967295 := by omega
      have hb : (B : Int) ≤ 4294967295 := by omega
      clear hA hB hj h hq hU
      rcases hx with k1 | k1 <;> rcases hy with k2 | k2
      all_goals
        rw [k1] at e1
        rw [k2] at e2
        rw [k1, k2] at hs
        first
          | rw [show bw 2 0 0 = 0 from rfl] at hs
          | rw [show bw 2 0 1 = 1 from rfl] at hs
          | rw [show bw 2 1 0 = 1 from rfl] at hs
          | rw [show bw 2 1 1 = 0 from rfl] at hs
        clear k1 k2
        go_wp2
        go_quiet ((go_at_call 27; exact Calls.quiet_of_same (qp _)))
        go_wp2
        go_roundg m
        case measure => have := HQ.out; omega
        case rel => exact ⟨m, (m : Int) - 1, rfl, by omega, by omega, by go_num, by rw [HU.out]; first | rfl | (congr 1; omega), by first | exact hn | exact New.drewN hn _⟩
    · obtain rfl : j = -1 := by omega
      obtain rfl : q = 0 := by omega
      clear hq hj hk
      go_wp2
      go_ret
      exact ⟨ret_int (by rw [bwn_low]), hn⟩
-- BITS END
end Go.Proofs.YtgkonjgalpchoaaDoor
