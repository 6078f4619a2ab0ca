/- What the document's own Set makes of registers: contracts, for any registers and any number of a word, right or wrong. -/
import Derived.Test.YtbjpflomibcenaaDoorRgW
import Derived.Test.YtbjpflomibcenaaDoorRgB
namespace Go.Proofs.YtbjpflomibcenaaDoor
open Go.RowKit Go.Joins
set_option linter.unusedVariables false
set_option maxHeartbeats 4000000 in
set_option maxRecDepth 100000 in
theorem rset_no (x f : Nat → Int) (n v : Int) (hn : ¬ okw n) (w : World) :
    Calls Tryd.prog 15 #[.agg (rc x f).toArray, .int .i64 n, .int .u32 v] w fun e w' => e = .returned (.tuple #[.agg (rc (fun _ => 0) fun _ => 0).toArray, .int .i64 22]) ∧ New w w' := by
  have BR : Box ((w.alloc (.cells (rc x f).toArray 27)).alloc (.cells (rc (fun _ => 0) fun _ => 0).toArray 27)) (w.heap.size + 1) (rc (fun _ => 0) fun _ => 0).toArray 27 := Box.here _ _ _ _ (by simp)
  have nw : New w ((w.alloc (.cells (rc x f).toArray 27)).alloc (.cells (rc (fun _ => 0) fun _ => 0).toArray 27)) := ((New.refl w).alloc _ _).alloc _ _
  by_cases c : n < 0
  case' neg =>
    have c2 : 25 < n := by unfold okw at hn; omega
    have d : decide (n < 0) = false := decide_eq_false c
    have d2 : decide (25 < n) = true := decide_eq_true c2
  all_goals
    clear hn
    go_enter Tryd.func15, Tryd.ntmps15
    go_upto_region 1 with fail
    change Code.wp _ _ _ _ ((w.alloc (.cells (rc x f).toArray 27)).alloc (.cells (rc (fun _ => 0) fun _ => 0).toArray 27))
    generalize (w.alloc (.cells (rc x f).toArray 27)).alloc (.cells (rc (fun _ => 0) fun _ => 0).toArray 27) = W at *
    have HR := Lib.hid BR
    clear BR
    go_wp2_with ((with_reducible refine at_store 27 ?_); refine wpList_store_box rfl 27 _ _ rfl (w.heap.size + 1) (rc (fun _ => 0) (fun _ => 0)) (rc (fun _ => 0) (fun _ => 0)) 27 rfl rfl HR.out rfl (by rw [rc_len]; exact rr_info) (rc_one _ _) ?_)
    intro w6 h6 f6
    have hr : (loadVar 27 ⟨w.heap.size + 1, 0, none⟩).run Tryd.prog w6 = .ok (.agg (rc (fun _ => 0) fun _ => 0).toArray) w6 := run_loadVar_mid w6 _ 0 _ _ _ h6.range Tryd.underlying27 rfl (by rw [rc_len]; exact rr_info)
    have nw6 : New w w6 := f6.new nw (by omega)
    clear h6 f6 nw
    go_wp2
    exact bodyPost_ret (v := .tuple #[.agg (rc (fun _ => 0) fun _ => 0).toArray, .int .i64 22]) (by simp [results, Tryd.results15, asAddr, hr]) rfl ⟨rfl, nw6⟩
set_option maxHeartbeats 4000000 in
set_option maxRecDepth 100000 in
theorem rset_ok (x f : Nat → Int) (hx : ∀ k, k < 18 → 0 ≤ x k ∧ x k ≤ 4294967295) (hf : ∀ k, k < 4 → 0 ≤ f k ∧ f k ≤ 18446744073709551615) (k : Nat) (hk : k < 26) (v : Int) (hv : 0 ≤ v ∧ v ≤ 4294967295) (w : World) :
    Calls Tryd.prog 15 #[.agg (rc x f).toArray, .int .i64 (k : Int), .int .u32 v] w fun e w' => e = .returned (.tuple #[.agg (sv x f (k : Int) v).toArray, .int .i64 (se x (k : Int) v)]) ∧ New w w' := by
  have BA : Box ((w.alloc (.cells (rc x f).toArray 27)).alloc (.cells (rc (fun _ => 0) fun _ => 0).toArray 27)) w.heap.size (rc x f).toArray 27 := (Box.here w _ _ _ rfl).alloc _
  have BR : Box ((w.alloc (.cells (rc x f).toArray 27)).alloc (.cells (rc (fun _ => 0) fun _ => 0).toArray 27)) (w.heap.size + 1) (rc (fun _ => 0) fun _ => 0).toArray 27 := Box.here _ _ _ _ (by simp)
  have nw : New w ((w.alloc (.cells (rc x f).toArray 27)).alloc (.cells (rc (fun _ => 0) fun _ => 0).toArray 27)) := ((New.refl w).alloc _ _).alloc _ _
  have rw1 := fun w => rwith_any x f hf k hk v hv w
  have c : okw (k : Int) := ⟨by omega, by omega⟩
  have y17 := (wx_bd x k v hx hv 17 (by omega)).1
  have e1 : sv x f (k : Int) v = if wx x k v 17 < 32 then rc (wx x k v) (wf f k v) else rc (fun _ => 0) fun _ => 0 := by
    unfold sv
    by_cases h : wx x k v 17 < 32
    · rw [if_pos h, if_pos (show sok x (k : Int) v from ⟨c, h⟩)]; rfl
    · rw [if_neg h, if_neg (show ¬ sok x (k : Int) v from fun q => h q.2)]
  have e2 : se x (k : Int) v = if wx x k v 17 < 32 then 0 else 22 := by
    unfold se
    by_cases h : wx x k v 17 < 32
    · rw [if_pos h, if_pos (show sok x (k : Int) v from ⟨c, h⟩)]
    · rw [if_neg h, if_neg (show ¬ sok x (k : Int) v from fun q => h q.2)]
  rw [e1, e2]
  generalize wx x k v = Y at *
  generalize wf f k v = F at *
  have k0 : (0 : Int) ≤ (k : Int) := by omega
  have k1 : (k : Int) < 26 := by omega
  clear e1 e2 c hx hf
  by_cases h : Y 17 < 32
  · rw [if_pos h, if_pos h]
    have h' : ¬ 31 < Y 17 := by omega
    go_enter Tryd.func15, Tryd.ntmps15
    go_upto_region 1 with fail
    change Code.wp _ _ _ _ ((w.alloc (.cells (rc x f).toArray 27)).alloc (.cells (rc (fun _ => 0) fun _ => 0).toArray 27))
    generalize (w.alloc (.cells (rc x f).toArray 27)).alloc (.cells (rc (fun _ => 0) fun _ => 0).toArray 27) = W at *
    go_wp2_with ((with_reducible refine at_load 27 ?_); refine wpList_load_box rfl 27 _ rfl w.heap.size rfl (rc x f) 27 _ BA Tryd.underlying27 rfl (by rw [rc_len]; exact rr_info) ?_)
    refine (rw1 _).mono ?_
    rintro e W2 ⟨rfl, n2⟩
    go_wp2_with ((with_reducible refine at_store 27 ?_); refine wpList_store_box rfl 27 _ _ rfl W2.heap.size (rc Y F) (rc (fun _ => 0) (fun _ => 0)) 27 rfl rfl (Box.here _ _ _ _ rfl) rfl (by rw [rc_len]; exact rr_info) (rc_one _ _) ?_)
    intro W3 B3 f3
    have R3 := ((BR.new n2).alloc (.cells (rc (fun _ => 0) fun _ => 0).toArray 27)).far f3 (by have := (BR.new n2).lt; omega)
    have n3 : New w W3 := f3.new ((nw.trans n2).alloc _ _) (nw.trans n2).size
    generalize W2.heap.size = b at *
    clear BA BR nw n2 f3 rw1
    have c17 := B3.at (rc_x Y F (i := 17) (by omega))
    go_wp2_with (first
      | ((with_reducible refine at_load 27 ?_); refine wpList_load_box rfl 27 _ rfl b rfl (rc Y F) 27 _ B3 Tryd.underlying27 rfl (by rw [rc_len]; exact rr_info) ?_)
      | ((with_reducible refine at_store 27 ?_); refine wpList_store_box rfl 27 _ _ rfl (w.heap.size + 1) (rc Y F) (rc (fun _ => 0) (fun _ => 0)) 27 rfl rfl R3 (by rw [rc_len, rc_len]) (by rw [rc_len]; exact rr_info) (rc_one _ _) ?_))
    intro w6 h6 f6
    have hr : (loadVar 27 ⟨w.heap.size + 1, 0, none⟩).run Tryd.prog w6 = .ok (.agg (rc Y F).toArray) w6 := run_loadVar_mid w6 _ 0 _ _ _ h6.range Tryd.underlying27 rfl (by rw [rc_len]; exact rr_info)
    have nw6 : New w w6 := f6.new n3 (by omega)
    clear h6 f6 n3 B3 R3 c17
    go_wp2
    exact bodyPost_ret (v := .tuple #[.agg (rc Y F).toArray, .int .i64 0]) (by simp [results, Tryd.results15, asAddr, hr]) rfl ⟨rfl, nw6⟩
  · rw [if_neg h, if_neg h]
    have h' : 31 < Y 17 := by omega
    go_enter Tryd.func15, Tryd.ntmps15
    go_upto_region 1 with fail
    change Code.wp _ _ _ _ ((w.alloc (.cells (rc x f).toArray 27)).alloc (.cells (rc (fun _ => 0) fun _ => 0).toArray 27))
    generalize (w.alloc (.cells (rc x f).toArray 27)).alloc (.cells (rc (fun _ => 0) fun _ => 0).toArray 27) = W at *
    go_wp2_with ((with_reducible refine at_load 27 ?_); refine wpList_load_box rfl 27 _ rfl w.heap.size rfl (rc x f) 27 _ BA Tryd.underlying27 rfl (by rw [rc_len]; exact rr_info) ?_)
    refine (rw1 _).mono ?_
    rintro e W2 ⟨rfl, n2⟩
    go_wp2_with ((with_reducible refine at_store 27 ?_); refine wpList_store_box rfl 27 _ _ rfl W2.heap.size (rc Y F) (rc (fun _ => 0) (fun _ => 0)) 27 rfl rfl (Box.here _ _ _ _ rfl) rfl (by rw [rc_len]; exact rr_info) (rc_one _ _) ?_)
    intro W3 B3 f3
    have R3 := ((BR.new n2).alloc (.cells (rc (fun _ => 0) fun _ => 0).toArray 27)).far f3 (by have := (BR.new n2).lt; omega)
    have n3 : New w W3 := f3.new ((nw.trans n2).alloc _ _) (nw.trans n2).size
    generalize W2.heap.size = b at *
    clear BA BR nw n2 f3 rw1
    have c17 := B3.at (rc_x Y F (i := 17) (by omega))
    go_wp2_with ((with_reducible refine at_store 27 ?_); refine wpList_store_box rfl 27 _ _ rfl (w.heap.size + 1) (rc (fun _ => 0) (fun _ => 0)) (rc (fun _ => 0) (fun _ => 0)) 27 rfl rfl R3 (by rw [rc_len]) (by rw [rc_len]; exact rr_info) (rc_one _ _) ?_)
    intro w6 h6 f6
    have hr : (loadVar 27 ⟨w.heap.size + 1, 0, none⟩).run Tryd.prog w6 = .ok (.agg (rc (fun _ => 0) fun _ => 0).toArray) w6 := run_loadVar_mid w6 _ 0 _ _ _ h6.range Tryd.underlying27 rfl (by rw [rc_len]; exact rr_info)
    have nw6 : New w w6 := f6.new n3 (by omega)
    clear h6 f6 n3 B3 R3 c17
    go_wp2
    exact bodyPost_ret (v := .tuple #[.agg (rc (fun _ => 0) fun _ => 0).toArray, .int .i64 22]) (by simp [results, Tryd.results15, asAddr, hr]) rfl ⟨rfl, nw6⟩
theorem rset_any (x f : Nat → Int) (hx : ∀ k, k < 18 → 0 ≤ x k ∧ x k ≤ 4294967295) (hf : ∀ k, k < 4 → 0 ≤ f k ∧ f k ≤ 18446744073709551615) (n v : Int) (hv : 0 ≤ v ∧ v ≤ 4294967295) (w : World) :
    Calls Tryd.prog 15 #[.agg (rc x f).toArray, .int .i64 n, .int .u32 v] w fun e w' => e = .returned (.tuple #[.agg (sv x f n v).toArray, .int .i64 (se x n v)]) ∧ New w w' := by
  by_cases c : okw n
  · obtain ⟨k, hk, rfl⟩ : ∃ k : Nat, k < 26 ∧ n = (k : Int) := ⟨n.toNat, by unfold okw at c; omega, by unfold okw at c; omega⟩
    exact rset_ok x f hx hf k hk v hv w
  · have e1 : sv x f n v = rc (fun _ => 0) fun _ => 0 := by unfold sv; rw [if_neg (show ¬ sok x n v from fun q => c q.1)]
    have e2 : se x n v = 22 := by unfold se; rw [if_neg (show ¬ sok x n v from fun q => c q.1)]
    rw [e1, e2]
    exact rset_no x f n v c w
end Go.Proofs.YtbjpflomibcenaaDoor
