/- What the document's own Do and Taken answer: contracts, for any operation, any numbers and any flags, in any world; behind each there are only new blocks. -/
import Derived.Test.YtgkonjgalpchoaaDoorAlC
namespace Go.Proofs.YtgkonjgalpchoaaDoor
open Go.RowKit
set_option linter.unusedVariables false
set_option maxRecDepth 100000
section
variable (a b old : Int) (w : World) (h0 : 0 ≤ a) (h1 : a ≤ 4294967295) (g0 : 0 ≤ b) (g1 : b ≤ 4294967295) (k0 : 0 ≤ old) (k1 : old ≤ 4294967295)
theorem rdo_one (op : Int) (h0 : 0 ≤ a) (h1 : a ≤ 4294967295) (g0 : 0 ≤ b) (g1 : b ≤ 4294967295) (k0 : 0 ≤ old) (k1 : old ≤ 4294967295) (ho : op = 4 ∨ op = 5 ∨ op = 6 ∨ op = 16) :
    Calls Tryd.prog 8 #[.int .i64 op, .int .u32 a, .int .u32 b, .int .u32 old] w fun e w' => e = .returned (.tuple #[.int .u32 (dov op a b), .int .u32 (dof op a b old), .int .i64 (doe op b)]) ∧ New w w' := by
  have qf := fun v c o w (p : 0 ≤ v) (q : v ≤ 4294967295) => rflags_any v c o old w p q k0 k1
  rcases ho with rfl | rfl | rfl | rfl
  · have b1 := dov_bd 4 a b h0 h1 g0 g1
    rw [show doe 4 b = 0 from rfl, show dof 4 a b old = fl (dov 4 a b) (doc 4 a b) (doo 4 a b) old from rfl]
    have q : ∀ w, Calls Tryd.prog 22 #[.int .u32 a, .int .u32 b, .bool false] w fun e w' => e = .returned (.tuple #[.int .u32 (dov 4 a b), .bool (doc 4 a b), .bool (doo 4 a b)]) ∧ w = w' := fun w => radd_any a b false w h0 h1 g0 g1
    generalize dov 4 a b = V at *
    generalize doc 4 a b = C at *
    generalize doo 4 a b = O at *
    go_enter Tryd.func8, Tryd.ntmps8
    go_wp2_with (first | (go_at_call 22; (with_reducible refine (q _).mono ?_); rintro e w' ⟨rfl, rfl⟩) | (go_at_call 29; (with_reducible refine (qf _ _ _ _ b1.1 b1.2).mono ?_); rintro e w' ⟨rfl, n1⟩))
    go_ret3
    exact ⟨rfl, n1⟩
  · have b1 := dov_bd 5 a b h0 h1 g0 g1
    rw [show doe 5 b = 0 from rfl, show dof 5 a b old = fl (dov 5 a b) (doc 5 a b) (doo 5 a b) old from rfl]
    have q : ∀ w, Calls Tryd.prog 23 #[.int .u32 a, .int .u32 b] w fun e w' => e = .returned (.tuple #[.int .u32 (dov 5 a b), .bool (doc 5 a b), .bool (doo 5 a b)]) ∧ w = w' := fun w => rsub_any a b w h0 h1 g0 g1
    generalize dov 5 a b = V at *
    generalize doc 5 a b = C at *
    generalize doo 5 a b = O at *
    go_enter Tryd.func8, Tryd.ntmps8
    go_wp2_with (first | (go_at_call 23; (with_reducible refine (q _).mono ?_); rintro e w' ⟨rfl, rfl⟩) | (go_at_call 29; (with_reducible refine (qf _ _ _ _ b1.1 b1.2).mono ?_); rintro e w' ⟨rfl, n1⟩))
    go_ret3
    exact ⟨rfl, n1⟩
  · have b1 := dov_bd 6 a b h0 h1 g0 g1
    have hp := Go.prod_bound a b h0 h1 g0 g1
    rw [show doe 6 b = 0 from rfl, show dof 6 a b old = fl (dov 6 a b) (a * b / 4294967296 != 0) false old from rfl]
    have q : ∀ w, Calls Tryd.prog 24 #[.int .u32 a, .int .u32 b] w fun e w' => e = .returned (.tuple #[.int .u32 (dov 6 a b), .int .u32 (a * b / 4294967296)]) ∧ w = w' := fun w => rmul_any a b w h0 h1 g0 g1
    have hH : 0 ≤ a * b / 4294967296 := by omega
    have E := Lib.hid (show (a * b / 4294967296 != 0) = decide (0 < a * b / 4294967296) by rw [Bool.eq_iff_iff]; simp; omega)
    rw [E.out]
    clear hp E
    generalize dov 6 a b = V at *
    generalize a * b / 4294967296 = H at *
    go_enter Tryd.func8, Tryd.ntmps8
    go_wp2_with (first | (go_at_call 24; (with_reducible refine (q _).mono ?_); rintro e w' ⟨rfl, rfl⟩) | (go_at_call 29; (with_reducible refine (qf _ _ _ _ b1.1 b1.2).mono ?_); rintro e w' ⟨rfl, n1⟩))
    go_ret3
    exact ⟨rfl, n1⟩
  · have b1 : 0 ≤ dod 16 a b ∧ dod 16 a b ≤ 4294967295 := m32_bd (a - b)
    rw [show doe 16 b = 0 from rfl, show dof 16 a b old = fl (dod 16 a b) (doc 16 a b) (doo 16 a b) old from rfl, dov_16]
    have q : ∀ w, Calls Tryd.prog 23 #[.int .u32 a, .int .u32 b] w fun e w' => e = .returned (.tuple #[.int .u32 (dod 16 a b), .bool (doc 16 a b), .bool (doo 16 a b)]) ∧ w = w' := fun w => rsub_any a b w h0 h1 g0 g1
    generalize dod 16 a b = V at *
    generalize doc 16 a b = C at *
    generalize doo 16 a b = O at *
    go_enter Tryd.func8, Tryd.ntmps8
    go_wp2_with (first | (go_at_call 23; (with_reducible refine (q _).mono ?_); rintro e w' ⟨rfl, rfl⟩) | (go_at_call 29; (with_reducible refine (qf _ _ _ _ b1.1 b1.2).mono ?_); rintro e w' ⟨rfl, n1⟩))
    go_ret3
    exact ⟨rfl, n1⟩
set_option maxHeartbeats 1000000 in
theorem rdo_two (op : Int) (h0 : 0 ≤ a) (h1 : a ≤ 4294967295) (g0 : 0 ≤ b) (g1 : b ≤ 4294967295) (k0 : 0 ≤ old) (k1 : old ≤ 4294967295) (ho : op = 7 ∨ op = 8) :
    Calls Tryd.prog 8 #[.int .i64 op, .int .u32 a, .int .u32 b, .int .u32 old] w fun e w' => e = .returned (.tuple #[.int .u32 (dov op a b), .int .u32 (dof op a b old), .int .i64 (doe op b)]) ∧ New w w' := by
  have qf := fun v c o w (p : 0 ≤ v) (q : v ≤ 4294967295) => rflags_any v c o old w p q k0 k1
  by_cases hz : b = 0
  · subst hz
    have hd : dov op a 0 = 0 := by rcases ho with rfl | rfl <;> rfl
    have he : doe op 0 = 14 := by rcases ho with rfl | rfl <;> rfl
    have hf : dof op a 0 old = 0 := by unfold dof; rw [he]; rfl
    rw [hd, he, hf]
    rcases ho with rfl | rfl
    all_goals
      go_enter Tryd.func8, Tryd.ntmps8
      go_wp2
      go_ret3
      exact ⟨rfl, New.refl _⟩
  · have he : doe op b = 0 := by rcases ho with rfl | rfl <;> (unfold doe; simp [hz])
    have b1 := dov_bd op a b h0 h1 g0 g1
    have hf := dof_plain op a b old (by omega) he
    rw [he, hf]
    have z : (b == 0) = false := by simpa using hz
    have hd : 0 ≤ a / b ∧ a / b ≤ a := ⟨Int.ediv_nonneg h0 g0, Int.ediv_le_self _ h0⟩
    clear hf he
    rcases ho with rfl | rfl
    · rw [dov_7] at b1 ⊢
      go_enter Tryd.func8, Tryd.ntmps8
      go_wp2_with (go_at_call 29; (with_reducible refine (qf _ _ _ _ b1.1 b1.2).mono ?_); rintro e w' ⟨rfl, n1⟩)
      go_ret3
      exact ⟨rfl, n1⟩
    · rw [dov_8 a b hz] at b1 ⊢
      have hm := Int.mul_ediv_add_emod a b
      rw [Int.mul_comm] at hm
      have hp : 0 ≤ a / b * b := Int.mul_nonneg hd.1 g0
      have e1 : a / b * b ≤ 4294967295 := by omega
      have e2 : a - a / b * b = a % b := by omega
      clear hm
      go_enter Tryd.func8, Tryd.ntmps8
      go_wp2_with (go_at_call 29; (with_reducible refine (qf _ _ _ _ b1.1 b1.2).mono ?_); rintro e w' ⟨rfl, n1⟩)
      go_ret3
      exact ⟨rfl, n1⟩
set_option maxHeartbeats 1000000 in
theorem rdo_bit (op : Int) (h0 : 0 ≤ a) (h1 : a ≤ 4294967295) (g0 : 0 ≤ b) (g1 : b ≤ 4294967295) (k0 : 0 ≤ old) (k1 : old ≤ 4294967295) (ho : op = 9 ∨ op = 10 ∨ op = 11) :
    Calls Tryd.prog 8 #[.int .i64 op, .int .u32 a, .int .u32 b, .int .u32 old] w fun e w' => e = .returned (.tuple #[.int .u32 (dov op a b), .int .u32 (dof op a b old), .int .i64 (doe op b)]) ∧ New w w' := by
  have qf := fun v c o w (p : 0 ≤ v) (q : v ≤ 4294967295) => rflags_any v c o old w p q k0 k1
  have he : doe op b = 0 := by rcases ho with rfl | rfl | rfl <;> rfl
  have b1 := dov_bd op a b h0 h1 g0 g1
  have hf := dof_plain op a b old (by omega) he
  rw [he, hf]
  clear hf he
  obtain ⟨A, rfl⟩ := Int.eq_ofNat_of_zero_le h0
  obtain ⟨B, rfl⟩ := Int.eq_ofNat_of_zero_le g0
  have q : ∀ w, Calls Tryd.prog 25 #[.int .u32 A, .int .u32 B, .int .i64 (op - 9)] w fun e w' => e = .returned (.int .u32 (dov op A B)) ∧ New w w' := fun w => by
    rcases ho with rfl | rfl | rfl
    · rw [dov_9, Int.toNat_natCast, Int.toNat_natCast]; exact bit_0 A B w (by omega) (by omega)
    · rw [dov_10, Int.toNat_natCast, Int.toNat_natCast]; exact bit_1 A B w (by omega) (by omega)
    · rw [dov_11, Int.toNat_natCast, Int.toNat_natCast]; exact bit_2 A B w (by omega) (by omega)
  rcases ho with rfl | rfl | rfl
  all_goals
    simp only [Int.reduceSub] at q
    generalize dov _ _ _ = V at *
    go_enter Tryd.func8, Tryd.ntmps8
    go_wp2_with (first | (go_at_call 25; (with_reducible refine (q _).mono ?_); rintro e w1 ⟨rfl, n1⟩) | (go_at_call 29; (with_reducible refine (qf _ _ _ _ b1.1 b1.2).mono ?_); rintro e w2 ⟨rfl, n2⟩))
    go_ret3
    exact ⟨rfl, n1.trans n2⟩
set_option maxHeartbeats 1000000 in
theorem rdo_move (op : Int) (h0 : 0 ≤ a) (h1 : a ≤ 4294967295) (g0 : 0 ≤ b) (g1 : b ≤ 4294967295) (k0 : 0 ≤ old) (k1 : old ≤ 4294967295) (ho : op = 12 ∨ op = 13 ∨ op = 14) :
    Calls Tryd.prog 8 #[.int .i64 op, .int .u32 a, .int .u32 b, .int .u32 old] w fun e w' => e = .returned (.tuple #[.int .u32 (dov op a b), .int .u32 (dof op a b old), .int .i64 (doe op b)]) ∧ New w w' := by
  have qf := fun v c o w (p : 0 ≤ v) (q : v ≤ 4294967295) => rflags_any v c o old w p q k0 k1
  have he : doe op b = 0 := by rcases ho with rfl | rfl | rfl <;> rfl
  have b1 := dov_bd op a b h0 h1 g0 g1
  have hf := dof_plain op a b old (by omega) he
  rw [he, hf]
  clear hf he
  have hk := lo_lt b
  have el := (lo_eq b).symm
  have hp := pw_pos (lo b)
  have hd := div_bd a (lo b) h0
  rcases ho with rfl | rfl | rfl
  · rw [dov_12] at b1 ⊢
    generalize lo b = k at *
    obtain ⟨j, hj⟩ : ∃ j, j = 32 - k := ⟨_, rfl⟩
    have e2 : 32 - (k : Int) = j := by omega
    have hj2 : j ≤ 32 := by omega
    have hm := mod_bd a j h0
    have hpj := pw_pos j
    have e3 : up a k = a % pw j * pw k := by unfold up; rw [hj, Int.mul_comm]
    have e4 := m32_of _ b1.1 b1.2
    rw [e3] at b1 e4 ⊢
    clear hj e3
    have q1 : ∀ w, Calls Tryd.prog 27 #[.int .i64 j] w fun e w' => e = .returned (.int .i64 (pw j)) ∧ w' = w := fun w => (rpower' j w (by omega)).mono fun _ _ h => ⟨h.1, h.2.symm⟩
    have q2 : ∀ w, Calls Tryd.prog 27 #[.int .i64 k] w fun e w' => e = .returned (.int .i64 (pw k)) ∧ w' = w := fun w => (rpower' k w (by omega)).mono fun _ _ h => ⟨h.1, h.2.symm⟩
    have q3 : ∀ w, Calls Tryd.prog 26 #[.int .i64 (a % pw j * pw k)] w fun e w' => e = .returned (.int .u32 (a % pw j * pw k)) ∧ w' = w := fun w => (rof_any _ w (by omega) (by omega)).mono fun _ _ h => ⟨by rw [h.1, e4], h.2.symm⟩
    clear e4
    have pj : (pw j == 0) = false := by simp; omega
    go_enter Tryd.func8, Tryd.ntmps8
    go_wp2
    go_quiet (first
      | (go_at_call 27; with_reducible exact Calls.quiet_of_same (q1 _))
      | (go_at_call 27; with_reducible exact Calls.quiet_of_same (q2 _))
      | (go_at_call 26; with_reducible exact Calls.quiet_of_same (q3 _)))
    go_wp2_with (go_at_call 29; (with_reducible refine (qf _ _ _ _ b1.1 b1.2).mono ?_); rintro e w2 ⟨rfl, n2⟩)
    go_ret3
    exact ⟨rfl, New.trans (New.drewN (New.refl _) _) n2⟩
  · rw [dov_13] at b1 ⊢
    generalize lo b = k at *
    go_enter Tryd.func8, Tryd.ntmps8
    go_wp2_with (first | (go_at_call 27; (with_reducible refine (rpower' _ _ (by omega)).mono ?_); rintro e w' ⟨rfl, rfl⟩) | (go_at_call 29; (with_reducible refine (qf _ _ _ _ b1.1 b1.2).mono ?_); rintro e w2 ⟨rfl, n2⟩))
    go_ret3
    exact ⟨rfl, n2⟩
  · rw [dov_14] at b1 ⊢
    have q : ∀ w, Calls Tryd.prog 28 #[.int .u32 a, .int .i64 (lo b)] w fun e w' => e = .returned (.int .u32 (sar a (lo b))) ∧ w = w' := fun w => by
      have h := rsar_any a (lo b) w h0 h1 (by omega) (by omega)
      rw [lo_cast _ hk] at h; exact h
    generalize lo b = k at *
    go_enter Tryd.func8, Tryd.ntmps8
    go_wp2_with (first | (go_at_call 28; (with_reducible refine (q _).mono ?_); rintro e w' ⟨rfl, rfl⟩) | (go_at_call 29; (with_reducible refine (qf _ _ _ _ b1.1 b1.2).mono ?_); rintro e w2 ⟨rfl, n2⟩))
    go_ret3
    exact ⟨rfl, n2⟩
set_option maxHeartbeats 1000000 in
theorem rdo_any (op a b old : Int) (w : World) (h0 : 0 ≤ a) (h1 : a ≤ 4294967295) (g0 : 0 ≤ b) (g1 : b ≤ 4294967295) (k0 : 0 ≤ old) (k1 : old ≤ 4294967295) :
    Calls Tryd.prog 8 #[.int .i64 op, .int .u32 a, .int .u32 b, .int .u32 old] w fun e w' => e = .returned (.tuple #[.int .u32 (dov op a b), .int .u32 (dof op a b old), .int .i64 (doe op b)]) ∧ New w w' := by
  rcases op_cases op with rfl | rfl | rfl | rfl | rfl | rfl | rfl | rfl | rfl | rfl | rfl | rfl | h
  · exact rdo_one a b old w 4 h0 h1 g0 g1 k0 k1 (by omega)
  · exact rdo_one a b old w 5 h0 h1 g0 g1 k0 k1 (by omega)
  · exact rdo_one a b old w 6 h0 h1 g0 g1 k0 k1 (by omega)
  · exact rdo_two a b old w 7 h0 h1 g0 g1 k0 k1 (by omega)
  · exact rdo_two a b old w 8 h0 h1 g0 g1 k0 k1 (by omega)
  · exact rdo_bit a b old w 9 h0 h1 g0 g1 k0 k1 (by omega)
  · exact rdo_bit a b old w 10 h0 h1 g0 g1 k0 k1 (by omega)
  · exact rdo_bit a b old w 11 h0 h1 g0 g1 k0 k1 (by omega)
  · exact rdo_move a b old w 12 h0 h1 g0 g1 k0 k1 (by omega)
  · exact rdo_move a b old w 13 h0 h1 g0 g1 k0 k1 (by omega)
  · exact rdo_move a b old w 14 h0 h1 g0 g1 k0 k1 (by omega)
  · exact rdo_one a b old w 16 h0 h1 g0 g1 k0 k1 (by omega)
  · have e1 := dov_no op a b h
    have e2 : doe op b = 22 := by unfold doe; rw [if_neg (by omega)]
    have e3 : dof op a b old = 0 := by unfold dof; rw [e2]; rfl
    rw [e1, e2, e3]
    obtain ⟨o1, o2, o3, o4, o5, o6, o7, o8, o9, o10, o11, o12⟩ := h
    clear e1 e2 e3
    go_enter Tryd.func8, Tryd.ntmps8
    go_wp2
    go_ret3
    exact ⟨rfl, New.refl _⟩
theorem rtaken_any (op f : Int) (w : World) (h0 : 0 ≤ f) (h1 : f ≤ 4294967295) :
    Calls Tryd.prog 10 #[.int .i64 op, .int .u32 f] w fun e w' => e = .returned (.tuple #[.bool (tkv op f), .int .i64 (tke op)]) ∧ New w w' := by
  have t : tkv op f = if op = 21 then true else if op = 22 then f % 2 == 1 else if op = 23 then !(f % 2 == 1) else if op = 24 then (f / 2 % 2 == 1) != (f / 8 % 2 == 1) else if op = 25 then (f / 2 % 2 == 1) == (f / 8 % 2 == 1) else if op = 26 then f / 4 % 2 == 1 else false := rfl
  obtain ⟨Z, e1⟩ : ∃ Z, (f % 2 == 1) = Z := ⟨_, rfl⟩
  obtain ⟨M, e2⟩ : ∃ Z, (f / 2 % 2 == 1) = Z := ⟨_, rfl⟩
  obtain ⟨C, e4⟩ : ∃ Z, (f / 4 % 2 == 1) = Z := ⟨_, rfl⟩
  obtain ⟨O, e8⟩ : ∃ Z, (f / 8 % 2 == 1) = Z := ⟨_, rfl⟩
  rw [e1, e2, e4, e8] at t
  rw [t]
  clear t
  rcases jump_cases op with rfl | rfl | rfl | rfl | rfl | rfl | h
  case inr.inr.inr.inr.inr.inr =>
    obtain ⟨k1, k2, k3, k4, k5, k6⟩ := h
    rw [if_neg k1, if_neg k2, if_neg k3, if_neg k4, if_neg k5, if_neg k6, show tke op = 22 from by unfold tke; rw [if_neg (by omega)]]
    go_enter Tryd.func10, Tryd.ntmps10
    go_wp2
    go_ret2
    exact ⟨rfl, New.refl _⟩
  all_goals
    simp only [Int.reduceEq, if_true, if_false]
    rw [show tke _ = 0 from rfl]
    go_enter Tryd.func10, Tryd.ntmps10
    go_wp2
    go_ret2
    refine ⟨?_, New.refl _⟩
    first | rfl | (cases Z <;> cases M <;> cases C <;> cases O <;> rfl)
end
end Go.Proofs.YtgkonjgalpchoaaDoor
