/- What the statements on registers ask at their ends: sure. -/
import Derived.Test.YtbjpflomibcenaaDoorRgD
namespace Go.Proofs.YtbjpflomibcenaaDoor
open Go.RowKit Go.Joins
set_option linter.unusedVariables false
/-- the first float, of which the upper half is 5 -/
def f5 (k : Nat) : Int := if k = 0 then 21474836480 else 0
theorem f5_bd : ∀ k, k < 4 → 0 ≤ f5 k ∧ f5 k ≤ 18446744073709551615 := fun k _ => by unfold f5; split <;> omega
theorem z18 : ∀ k, k < 18 → (0 : Int) ≤ (fun _ : Nat => (0 : Int)) k ∧ (fun _ : Nat => (0 : Int)) k ≤ 4294967295 := fun _ _ => (show (0 : Int) ≤ 0 ∧ (0 : Int) ≤ 4294967295 by omega)
theorem z4 : ∀ k, k < 4 → (0 : Int) ≤ (fun _ : Nat => (0 : Int)) k ∧ (fun _ : Nat => (0 : Int)) k ≤ 18446744073709551615 := fun _ _ => (show (0 : Int) ≤ 0 ∧ (0 : Int) ≤ 18446744073709551615 by omega)
theorem su_set (w : World) : Calls Tryd.prog 14 #[.agg (rc (fun _ => 0) fun _ => 0).toArray, .int .i64 19, .int .u32 5] w fun e w' => e = .returned (.tuple #[.agg (rc (fun _ => 0) f5).toArray, .nilIface]) ∧ New w w' := by
  have h := set_any (fun _ => 0) (fun _ => 0) z18 z4 19 5 (by omega) w
  have e1 : sv (fun _ => 0) (fun _ => 0) 19 5 = rc (fun _ => 0) f5 := by
    unfold sv
    rw [if_pos (show sok (fun _ => 0) 19 5 by refine ⟨⟨by omega, by omega⟩, ?_⟩; decide)]
    refine rc_inj (fun k hk => ?_) fun k hk => ?_
    · rfl
    · rcases (by omega : k = 0 ∨ k = 1 ∨ k = 2 ∨ k = 3) with rfl | rfl | rfl | rfl <;> rfl
  have e2 : se (fun _ => 0) 19 5 = 0 := by unfold se; rw [if_pos (show sok (fun _ => 0) 19 5 by refine ⟨⟨by omega, by omega⟩, ?_⟩; decide)]
  rw [e1, e2] at h; exact h
theorem su_get (w : World) : Calls Tryd.prog 9 #[.agg (rc (fun _ => 0) f5).toArray, .int .i64 19] w fun e w' => e = .returned (.tuple #[.int .u32 5, .nilIface]) ∧ New w w' := get_any (fun _ => 0) f5 f5_bd 19 w
theorem su_enc (w : World) : Calls Tryd.prog 5 #[.agg (rc (fun _ => 0) f5).toArray] w (Told (fun _ => 0) f5 w) := encode_ok _ _ z18 f5_bd (by decide) w
set_option maxHeartbeats 1000000 in
set_option maxRecDepth 100000 in
theorem rsure_any (w : World) : Calls Tryd.prog 12 #[] w fun e w' => e = .returned (.bool true) ∧ New w w' := by
  go_enter Tryd.func12, Tryd.ntmps12
  go_wp2_with fail
  refine (su_set _).mono ?_
  rintro e w1 ⟨rfl, n1⟩
  go_wp2_with (first
    | ((with_reducible refine at_store 29 ?_); refine wpList_store_box rfl 29 _ _ rfl w1.heap.size (rc (fun _ => 0) f5) (rc (fun _ => 0) (fun _ => 0)) 29 rfl rfl (Box.here w1 _ _ _ rfl) rfl (by rw [rc_len]; exact ar_info) (rc_one _ _) ?_))
  intro w2 h2 f2
  have n2 : New w w2 := f2.new (n1.alloc _ _) n1.size
  generalize w1.heap.size = b at *
  clear f2 n1
  go_wp2_with (first
    | ((with_reducible refine at_load 29 ?_); refine wpList_load_box rfl 29 _ rfl b rfl (rc (fun _ => 0) f5) 29 _ h2 Tryd.underlying29 rfl (by rw [rc_len]; exact ar_info) ?_)
    | (go_at_call 9; (with_reducible refine (su_get _).mono ?_)))
  rintro e w3 ⟨rfl, n3⟩
  have h3 := h2.new n3
  have n3' := New.trans n2 n3
  clear h2 n2 n3
  go_wp2_with (first
    | ((with_reducible refine at_load 29 ?_); refine wpList_load_box rfl 29 _ rfl b rfl (rc (fun _ => 0) f5) 29 _ h3 Tryd.underlying29 rfl (by rw [rc_len]; exact ar_info) ?_)
    | (go_at_call 5; (with_reducible refine (su_enc _).mono ?_)))
  rintro e w4 ⟨bb, rfl, h4, hle, n4⟩
  have c0 := (h3.new n4).at (rc_f (fun _ => 0) f5 (k := 0) (by omega))
  have c1 := h4.at (nl_at (bt (wd (fun _ => 0) f5)) (i := 76) (by omega))
  have e1 : f5 0 = 21474836480 := rfl
  have e2 : bt (wd (fun _ => 0) f5) 76 = 5 := by decide
  rw [e1] at c0
  rw [e2] at c1
  have nw := New.trans n3' n4
  clear h3 h4 n3' n4 e1 e2 hle
  go_wp2
  go_ret
  exact ⟨rfl, nw⟩
end Go.Proofs.YtbjpflomibcenaaDoor
