/- What the package of what instructions reckon answers: an operation of two numbers with its flags, and whether a jump is taken: contracts, for any operation, any numbers and any flags, in any world; behind each there are only new blocks. -/
import Derived.Test.YtgkonjgalpchoaaDoorAlA
namespace Go.Proofs.YtgkonjgalpchoaaDoor
open Go.RowKit
set_option linter.unusedVariables false
theorem dov_err (op a b : Int) (h : doe op b ≠ 0) : dov op a b = 0 := by
  rcases op_cases op with rfl | rfl | rfl | rfl | rfl | rfl | rfl | rfl | rfl | rfl | rfl | rfl | k
  · exact absurd rfl h
  · exact absurd rfl h
  · exact absurd rfl h
  · have : b = 0 := by
      refine Decidable.byContradiction fun c => h ?_
      unfold doe; simp [c]
    subst this; rfl
  · have : b = 0 := by
      refine Decidable.byContradiction fun c => h ?_
      unfold doe; simp [c]
    subst this; rfl
  · exact absurd rfl h
  · exact absurd rfl h
  · exact absurd rfl h
  · exact absurd rfl h
  · exact absurd rfl h
  · exact absurd rfl h
  · exact absurd rfl h
  · exact dov_no op a b k
theorem dof_plain (op a b old : Int) (ho : op ≠ 4 ∧ op ≠ 5 ∧ op ≠ 6 ∧ op ≠ 16) (h : doe op b = 0) : dof op a b old = fl (dov op a b) false false old := by
  have e1 : doc op a b = false := by unfold doc; rw [if_neg ho.1, if_neg (by omega), if_neg ho.2.2.1]
  have e2 : doo op a b = false := by unfold doo; rw [if_neg ho.1, if_neg (by omega)]
  unfold dof dod; rw [if_pos h, if_neg ho.2.2.2, e1, e2]
set_option maxHeartbeats 1000000 in
theorem do_any (op a b old : Int) (w : World) (h0 : 0 ≤ a) (h1 : a ≤ 4294967295) (g0 : 0 ≤ b) (g1 : b ≤ 4294967295) (k0 : 0 ≤ old) (k1 : old ≤ 4294967295) :
    Calls Tryd.prog 7 #[.int .i64 op, .int .u32 a, .int .u32 b, .int .u32 old] w fun e w' => e = .returned (.tuple #[.int .u32 (dov op a b), .int .u32 (dof op a b old), erN (doe op b)]) ∧ New w w' := by
  have qf := fun v c o w (p : 0 ≤ v) (q : v ≤ 4294967295) => after_any v c o old w p q k0 k1
  by_cases c4 : op = 4
  · subst c4
    have b1 := dov_bd 4 a b h0 h1 g0 g1
    rw [show erN (doe 4 b) = .nilIface from rfl, show dof 4 a b old = fl (dov 4 a b) (doc 4 a b) (doo 4 a b) old from rfl]
    have q : ∀ w, Calls Tryd.prog 17 #[.int .u32 a, .int .u32 b, .bool false] w fun e w' => e = .returned (.tuple #[.int .u32 (dov 4 a b), .bool (doc 4 a b), .bool (doo 4 a b)]) ∧ w = w' := fun w => add_any a b false w h0 h1 g0 g1
    generalize dov 4 a b = V at *
    generalize doc 4 a b = C at *
    generalize doo 4 a b = O at *
    go_enter Tryd.func7, Tryd.ntmps7
    go_wp2_with (first | (go_at_call 17; (with_reducible refine (q _).mono ?_); rintro e w' ⟨rfl, rfl⟩) | (go_at_call 18; (with_reducible refine (qf _ _ _ _ b1.1 b1.2).mono ?_); rintro e w' ⟨rfl, n1⟩))
    go_ret3
    exact ⟨rfl, n1⟩
  · by_cases c5 : op = 5
    · subst c5
      have b1 := dov_bd 5 a b h0 h1 g0 g1
      rw [show erN (doe 5 b) = .nilIface from rfl, show dof 5 a b old = fl (dov 5 a b) (doc 5 a b) (doo 5 a b) old from rfl]
      have q : ∀ w, Calls Tryd.prog 19 #[.int .u32 a, .int .u32 b] w fun e w' => e = .returned (.tuple #[.int .u32 (dov 5 a b), .bool (doc 5 a b), .bool (doo 5 a b)]) ∧ w = w' := fun w => sub_any a b w h0 h1 g0 g1
      generalize dov 5 a b = V at *
      generalize doc 5 a b = C at *
      generalize doo 5 a b = O at *
      go_enter Tryd.func7, Tryd.ntmps7
      go_wp2_with (first | (go_at_call 19; (with_reducible refine (q _).mono ?_); rintro e w' ⟨rfl, rfl⟩) | (go_at_call 18; (with_reducible refine (qf _ _ _ _ b1.1 b1.2).mono ?_); rintro e w' ⟨rfl, n1⟩))
      go_ret3
      exact ⟨rfl, n1⟩
    · by_cases c16 : op = 16
      · subst c16
        have b1 : 0 ≤ dod 16 a b ∧ dod 16 a b ≤ 4294967295 := m32_bd (a - b)
        rw [show erN (doe 16 b) = .nilIface from rfl, show dof 16 a b old = fl (dod 16 a b) (doc 16 a b) (doo 16 a b) old from rfl, dov_16]
        have q : ∀ w, Calls Tryd.prog 19 #[.int .u32 a, .int .u32 b] w fun e w' => e = .returned (.tuple #[.int .u32 (dod 16 a b), .bool (doc 16 a b), .bool (doo 16 a b)]) ∧ w = w' := fun w => sub_any a b w h0 h1 g0 g1
        generalize dod 16 a b = V at *
        generalize doc 16 a b = C at *
        generalize doo 16 a b = O at *
        go_enter Tryd.func7, Tryd.ntmps7
        go_wp2_with (first | (go_at_call 19; (with_reducible refine (q _).mono ?_); rintro e w' ⟨rfl, rfl⟩) | (go_at_call 18; (with_reducible refine (qf _ _ _ _ b1.1 b1.2).mono ?_); rintro e w' ⟨rfl, n1⟩))
        go_ret3
        exact ⟨rfl, n1⟩
      · by_cases c6 : op = 6
        · subst c6
          have b1 := dov_bd 6 a b h0 h1 g0 g1
          rw [show erN (doe 6 b) = .nilIface from rfl, show dof 6 a b old = fl (dov 6 a b) (a * b / 4294967296 != 0) false old from rfl]
          have q : ∀ w, Calls Tryd.prog 20 #[.int .u32 a, .int .u32 b] w fun e w' => e = .returned (.tuple #[.int .u32 (dov 6 a b), .int .u32 (a * b / 4294967296)]) ∧ w = w' := fun w => mul_any a b w h0 h1 g0 g1
          generalize dov 6 a b = V at *
          generalize a * b / 4294967296 = H at *
          go_enter Tryd.func7, Tryd.ntmps7
          go_wp2_with (first | (go_at_call 20; (with_reducible refine (q _).mono ?_); rintro e w' ⟨rfl, rfl⟩) | (go_at_call 18; (with_reducible refine (qf _ _ _ _ b1.1 b1.2).mono ?_); rintro e w' ⟨rfl, n1⟩))
          go_ret3
          exact ⟨rfl, n1⟩
        · have b1 := dov_bd op a b h0 h1 g0 g1
          have q := fun w => plain_any op a b ⟨c4, c5, c6, c16⟩ w h0 h1 g0 g1
          have hz := dov_err op a b
          have hf := dof_plain op a b old ⟨c4, c5, c6, c16⟩
          by_cases c : doe op b = 0
          · rw [hf c]
            rw [c, erN_zero] at q
            rw [c, erN_zero]
            clear hz hf c
            generalize dov op a b = V at *
            go_enter Tryd.func7, Tryd.ntmps7
            go_wp2_with (first | (go_at_call 21; (with_reducible refine (q _).mono ?_); rintro e w1 ⟨rfl, n1⟩) | (go_at_call 18; (with_reducible refine (qf _ _ _ _ b1.1 b1.2).mono ?_); rintro e w2 ⟨rfl, n2⟩))
            go_ret3
            exact ⟨rfl, n1.trans n2⟩
          · rw [show dof op a b old = 0 from by unfold dof; rw [if_neg c], hz c]
            rw [hz c, erN_pos c] at q
            rw [erN_pos c]
            clear hz hf b1 qf
            generalize doe op b = E at *
            go_enter Tryd.func7, Tryd.ntmps7
            go_wp2_with (go_at_call 21; (with_reducible refine (q _).mono ?_); rintro e w1 ⟨rfl, n1⟩)
            go_ret3
            exact ⟨rfl, n1⟩
theorem taken_any (op f : Int) (w : World) (h0 : 0 ≤ f) (h1 : f ≤ 4294967295) :
    Calls Tryd.prog 9 #[.int .i64 op, .int .u32 f] w fun e w' => e = .returned (.tuple #[.bool (tkv op f), erN (tke op)]) ∧ New w w' := by
  obtain ⟨f1, f2, f4, f8⟩ := and_flag f h0 h1
  have e1 : (bits .and .u32 f 1 != 0) = (f % 2 == 1) := by rw [f1]; rcases (show f % 2 = 0 ∨ f % 2 = 1 by omega) with k | k <;> rw [k] <;> rfl
  have e2 : (bits .and .u32 f 2 != 0) = (f / 2 % 2 == 1) := by rw [f2]; rcases (show f / 2 % 2 = 0 ∨ f / 2 % 2 = 1 by omega) with k | k <;> rw [k] <;> rfl
  have e4 : (bits .and .u32 f 4 != 0) = (f / 4 % 2 == 1) := by rw [f4]; rcases (show f / 4 % 2 = 0 ∨ f / 4 % 2 = 1 by omega) with k | k <;> rw [k] <;> rfl
  have e8 : (bits .and .u32 f 8 != 0) = (f / 8 % 2 == 1) := by rw [f8]; rcases (show f / 8 % 2 = 0 ∨ f / 8 % 2 = 1 by omega) with k | k <;> rw [k] <;> rfl
  clear f1 f2 f4 f8
  have t : tkv op f = if op = 21 then true else if op = 22 then f % 2 == 1 else if op = 23 then !(f % 2 == 1) else if op = 24 then (f / 2 % 2 == 1) != (f / 8 % 2 == 1) else if op = 25 then (f / 2 % 2 == 1) == (f / 8 % 2 == 1) else if op = 26 then f / 4 % 2 == 1 else false := rfl
  generalize (f % 2 == 1) = Z at *
  generalize (f / 2 % 2 == 1) = M at *
  generalize (f / 4 % 2 == 1) = C at *
  generalize (f / 8 % 2 == 1) = O at *
  rw [t]
  clear t
  rcases jump_cases op with rfl | rfl | rfl | rfl | rfl | rfl | h
  case inr.inr.inr.inr.inr.inr =>
    obtain ⟨k1, k2, k3, k4, k5, k6⟩ := h
    rw [if_neg k1, if_neg k2, if_neg k3, if_neg k4, if_neg k5, if_neg k6, show tke op = 22 from by unfold tke; rw [if_neg (by omega)], show erN 22 = .iface 61 (.int .i64 22) from rfl]
    go_enter Tryd.func9, Tryd.ntmps9
    go_wp2
    go_ret2
    exact ⟨rfl, New.refl _⟩
  all_goals
    simp only [Int.reduceEq, if_true, if_false]
    rw [show erN (tke _) = .nilIface from rfl]
    go_enter Tryd.func9, Tryd.ntmps9
    go_wp2
    go_ret2
    refine ⟨?_, New.refl _⟩
    first | rfl | (cases Z <;> cases M <;> cases C <;> cases O <;> rfl)
end Go.Proofs.YtgkonjgalpchoaaDoor
