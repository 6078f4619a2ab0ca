/- What the package of what instructions reckon does with numbers of 32 bits: contracts, for any operation, any numbers and any flags, in any world; behind each there are only new blocks. -/
import Derived.Test.YtgkonjgalpchoaaWordE
import Derived.Test.YtgkonjgalpchoaaWordI
import Derived.Test.YtgkonjgalpchoaaAlMath
namespace Go.Proofs.Ytgkonjgalpchoaa
open Go.RowKit
set_option linter.unusedVariables false
theorem flag_any (c : Bool) (k : Int) (w : World) : Calls Try.prog 18 #[.bool c, .int .u32 k] w fun e w' => e = .returned (.int .u32 (flg c k)) ∧ w = w' := by
  cases c
  all_goals
    go_enter Try.func18, Try.ntmps18
    go_wp2
    go_ret
    exact ⟨rfl, rfl⟩
theorem after_any (v : Int) (c o : Bool) (old : Int) (w : World) (h0 : 0 ≤ v) (h1 : v ≤ 4294967295) (g0 : 0 ≤ old) (g1 : old ≤ 4294967295) :
    Calls Try.prog 9 #[.int .u32 v, .bool c, .bool o, .int .u32 old] w fun e w' => e = .returned (.int .u32 (fl v c o old)) ∧ New w w' := by
  have E1 := Lib.hid (and16 old g0 g1)
  have e2 := and_top v h0 h1
  have e3 := Lib.hid (show (bits .and .u32 v 2147483648 != 0) = decide (2147483648 ≤ v) by rw [e2]; by_cases h : 2147483648 ≤ v <;> simp [h])
  clear e2
  go_enter Try.func9, Try.ntmps9
  go_wp2_with (go_at_call 18; (with_reducible refine (flag_any _ _ _).mono ?_); rintro e w' ⟨rfl, rfl⟩)
  go_ret
  refine ⟨ret_int ?_, by first | exact New.refl _ | exact (New.refl _).drew | exact New.drewN (New.refl _) _⟩
  unfold fl
  rw [E1.out, ← or_flags _ _ _ _ _ (step_two old), e3.out]
/-- the quotient, or what is left -/
theorem divide_any (op a b : Int) (ho : op = 7 ∨ op = 8) (w : World) (h0 : 0 ≤ a) (h1 : a ≤ 4294967295) (g0 : 0 ≤ b) (g1 : b ≤ 4294967295) :
    Calls Try.prog 20 #[.int .i64 op, .int .u32 a, .int .u32 b] w fun e w' => e = .returned (.tuple #[.int .u32 (dov op a b), erN (doe op b)]) ∧ New w w' := by
  by_cases hz : b = 0
  · subst hz
    have hd : dov op a 0 = 0 := by rcases ho with rfl | rfl <;> rfl
    have he : erN (doe op 0) = .iface 40 (.int .i64 14) := by rcases ho with rfl | rfl <;> rfl
    rw [hd, he]
    go_enter Try.func20, Try.ntmps20
    go_wp2_with (go_at_call 29; (with_reducible refine (wdiv_zero _ _).mono ?_); rintro e w' ⟨rfl, rfl⟩)
    go_ret2
    exact ⟨rfl, by first | exact New.refl _ | exact (New.refl _).drew⟩
  · have hp : 1 ≤ b := by omega
    have he : erN (doe op b) = .nilIface := by rcases ho with rfl | rfl <;> (unfold doe; simp [hz]; rfl)
    rw [he]
    have q := fun w => wdiv_any a b w h0 h1 hp g1
    rcases ho with rfl | rfl
    · rw [dov_7]
      go_enter Try.func20, Try.ntmps20
      go_wp2_with (go_at_call 29; (with_reducible refine (q _).mono ?_); rintro e w' ⟨rfl, n, rfl⟩)
      go_ret2
      exact ⟨rfl, by first | exact New.refl _ | exact (New.refl _).drew | exact New.drewN (New.refl _) _⟩
    · rw [dov_8 a b hz]
      go_enter Try.func20, Try.ntmps20
      go_wp2_with (go_at_call 29; (with_reducible refine (q _).mono ?_); rintro e w' ⟨rfl, n, rfl⟩)
      go_ret2
      exact ⟨rfl, by first | exact New.refl _ | exact (New.refl _).drew | exact New.drewN (New.refl _) _⟩
theorem shift_dn (v : Int) (k : Nat) (w : World) (h0 : 0 ≤ v) (h1 : v ≤ 4294967295) (hk : k < 32) :
    Calls Try.prog 21 #[.int .u32 v, .int .i64 (-(k : Int))] w fun e w' => e = .returned (.int .u32 (v / pw k)) ∧ w = w' := by
  by_cases h : 1 ≤ k
  · exact shift_down' v k w h0 h1 h hk
  · obtain rfl : k = 0 := by omega
    rw [← shr_zero v h0 h1]
    exact shift_up' v 0 w h0 h1 (by omega)
/-- bits of two numbers, as the program has them -/
theorem bits_bw (a b : Int) (h0 : 0 ≤ a) (h1 : a ≤ 4294967295) (g0 : 0 ≤ b) (g1 : b ≤ 4294967295) :
    bits .and .u32 a b = dov 9 a b ∧ bits .or .u32 a b = dov 10 a b ∧ bits .xor .u32 a b = dov 11 a b := by
  obtain ⟨m, rfl⟩ := Int.eq_ofNat_of_zero_le h0
  obtain ⟨n, rfl⟩ := Int.eq_ofNat_of_zero_le g0
  rw [dov_9, dov_10, dov_11, Int.toNat_natCast, Int.toNat_natCast]
  exact ⟨u32_and_nat m n (by omega) (by omega), u32_or_nat m n (by omega) (by omega), u32_xor_nat m n (by omega) (by omega)⟩
set_option maxHeartbeats 1000000 in
theorem plain_any (op a b : Int) (ho : op ≠ 4 ∧ op ≠ 5 ∧ op ≠ 6 ∧ op ≠ 16) (w : World) (h0 : 0 ≤ a) (h1 : a ≤ 4294967295) (g0 : 0 ≤ b) (g1 : b ≤ 4294967295) :
    Calls Try.prog 12 #[.int .i64 op, .int .u32 a, .int .u32 b] w fun e w' => e = .returned (.tuple #[.int .u32 (dov op a b), erN (doe op b)]) ∧ New w w' := by
  have hA := and31_u32 b g0 g1
  have hk := lo_lt b
  obtain ⟨x1, x2, x3⟩ := bits_bw a b h0 h1 g0 g1
  obtain ⟨o4, o5, o6, o16⟩ := ho
  rcases op_cases op with rfl | rfl | rfl | rfl | rfl | rfl | rfl | rfl | rfl | rfl | rfl | rfl | h
  · exact absurd rfl o4
  · exact absurd rfl o5
  · exact absurd rfl o6
  · have q := fun w => divide_any 7 a b (.inl rfl) w h0 h1 g0 g1
    generalize dov 7 a b = V at *
    generalize erN (doe 7 b) = E at *
    generalize lo b = k at *
    go_enter Try.func12, Try.ntmps12
    go_wp2_with (go_at_call 20; (with_reducible refine (q _).mono ?_); rintro e w' ⟨rfl, n1⟩)
    go_ret2
    exact ⟨rfl, n1⟩
  · have q := fun w => divide_any 8 a b (.inr rfl) w h0 h1 g0 g1
    generalize dov 8 a b = V at *
    generalize erN (doe 8 b) = E at *
    generalize lo b = k at *
    go_enter Try.func12, Try.ntmps12
    go_wp2_with (go_at_call 20; (with_reducible refine (q _).mono ?_); rintro e w' ⟨rfl, n1⟩)
    go_ret2
    exact ⟨rfl, n1⟩
  · rw [show erN (doe 9 b) = .nilIface from rfl]
    generalize dov 9 a b = V at *
    generalize lo b = k at *
    go_enter Try.func12, Try.ntmps12
    go_wp2
    go_ret2
    exact ⟨rfl, New.refl _⟩
  · rw [show erN (doe 10 b) = .nilIface from rfl]
    generalize dov 10 a b = V at *
    generalize lo b = k at *
    go_enter Try.func12, Try.ntmps12
    go_wp2
    go_ret2
    exact ⟨rfl, New.refl _⟩
  · rw [show erN (doe 11 b) = .nilIface from rfl]
    generalize dov 11 a b = V at *
    generalize lo b = k at *
    go_enter Try.func12, Try.ntmps12
    go_wp2
    go_ret2
    exact ⟨rfl, New.refl _⟩
  · rw [show erN (doe 12 b) = .nilIface from rfl, dov_12]
    generalize lo b = k at *
    go_enter Try.func12, Try.ntmps12
    go_wp2_with (go_at_call 21; (with_reducible refine (shift_up' _ _ _ h0 h1 hk).mono ?_); rintro e w' ⟨rfl, rfl⟩)
    go_ret2
    exact ⟨rfl, New.refl _⟩
  · rw [show erN (doe 13 b) = .nilIface from rfl, dov_13]
    generalize lo b = k at *
    go_enter Try.func12, Try.ntmps12
    go_wp2_with (go_at_call 21; (with_reducible refine (shift_dn _ _ _ h0 h1 hk).mono ?_); rintro e w' ⟨rfl, rfl⟩)
    go_ret2
    exact ⟨rfl, New.refl _⟩
  · rw [show erN (doe 14 b) = .nilIface from rfl, dov_14]
    generalize lo b = k at *
    go_enter Try.func12, Try.ntmps12
    go_wp2_with (go_at_call 22; (with_reducible refine (sar' _ _ _ h0 h1 hk).mono ?_); rintro e w' ⟨rfl, rfl⟩)
    go_ret2
    exact ⟨rfl, New.refl _⟩
  · exact absurd rfl o16
  · have e1 := dov_no op a b h
    have e2 : doe op b = 22 := by unfold doe; rw [if_neg (by omega)]
    rw [e1, e2, show erN 22 = .iface 40 (.int .i64 22) from rfl]
    obtain ⟨h1, h2, h3, h4, h5, h6, h7, h8, h9, h10, h11, h12⟩ := h
    generalize lo b = k at *
    clear e1 e2 x1 x2 x3
    go_enter Try.func12, Try.ntmps12
    go_wp2
    go_ret2
    exact ⟨rfl, New.refl _⟩
end Go.Proofs.Ytgkonjgalpchoaa
