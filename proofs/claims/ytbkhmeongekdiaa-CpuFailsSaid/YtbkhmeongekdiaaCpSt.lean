/- A step, over a board of bytes, whatever the registers are; over no bus: contracts. -/
import Derived.Test.YtbkhmeongekdiaaCpZ
import Derived.Test.YtbkhmeongekdiaaCpX
import Derived.Test.YtbkhmeongekdiaaCpMore
import Derived.Test.YtbkhmeongekdiaaRgQ
import Derived.Test.YtbkhmeongekdiaaHeld
import Derived.RegionTactic
namespace Go.Proofs.Ytbkhmeongekdiaa
open Go.RowKit Go.Joins
set_option linter.unusedVariables false
set_option linter.unusedSimpArgs false
set_option maxRecDepth 100000
section
variable {w0 w w' : World} {cb db : Nat} {v : Value} {L : List Int} {x f : Nat → Int} {q a s : Int}
set_option maxHeartbeats 2000000 in
theorem step_bad (db : Nat) (h17 : 32 ≤ x 17) (hx : Bx x) :
    Calls Try.prog 7 #[bus db, .agg (rc x f).toArray] w fun e w' => e = .returned (.tuple #[.agg (rc x f).toArray, .agg #[.int .i64 4, .int .i64 7, .int .u32 (x 16)]]) ∧ New w w' := by
  have qk : ∀ w, Calls Try.prog 14 #[.agg (rc x f).toArray] w fun e w' => e = .returned (.iface 64 (.int .i64 22)) ∧ New w w' := fun w => by
    have := check_any x f w (hx 17 (by omega)).1
    unfold cke at this; rw [if_neg (by omega)] at this; exact this
  have hnil : ∀ w, (binOp .eql 55 (bus db) .nilIface).run Try.prog w = .ok (.bool false) w := fun w => by kernel_rfl
  have hguard : ∀ w, (eqGuard .eql 55 (.tmp 8) (.const .nilIface) (bus db) .nilIface).run Try.prog w = .ok () w := fun w => by kernel_rfl
  go_enter Try.func7, Try.ntmps7
  go_upto_region 1 with fail
  have n1 := ((New.refl w).alloc (rc x f).toArray 34).alloc (rc (fun _ => 0) (fun _ => 0)).toArray 34
  have n1 := n1.alloc #[.int .i64 0, .int .i64 0, .int .u32 0] 36
  have BR := ((Box.here w w.heap.size (rc x f).toArray 34 rfl).alloc (.cells (rc (fun _ => 0) (fun _ => 0)).toArray 34)).alloc (.cells #[.int .i64 0, .int .i64 0, .int .u32 0] 36)
  have B4 := (Box.here (w.alloc (.cells (rc x f).toArray 34)) (w.heap.size + 1) (rc (fun _ => 0) (fun _ => 0)).toArray 34 (by simp)).alloc (.cells #[.int .i64 0, .int .i64 0, .int .u32 0] 36)
  have B5 := Box.here ((w.alloc (.cells (rc x f).toArray 34)).alloc (.cells (rc (fun _ => 0) (fun _ => 0)).toArray 34)) (w.heap.size + 2) #[.int .i64 0, .int .i64 0, .int .u32 0] 36 (by simp)
  have s1 := n1.size
  change Code.wp _ _ _ _ (((w.alloc (.cells (rc x f).toArray 34)).alloc (.cells (rc (fun _ => 0) (fun _ => 0)).toArray 34)).alloc (.cells #[.int .i64 0, .int .i64 0, .int .u32 0] 36))
  have hsz : (((w.alloc (.cells (rc x f).toArray 34)).alloc (.cells (rc (fun _ => 0) (fun _ => 0)).toArray 34)).alloc (.cells #[.int .i64 0, .int .i64 0, .int .u32 0] 36)).heap.size = w.heap.size + 3 := by simp
  generalize (((w.alloc (.cells (rc x f).toArray 34)).alloc (.cells (rc (fun _ => 0) (fun _ => 0)).toArray 34)).alloc (.cells #[.int .i64 0, .int .i64 0, .int .u32 0] 36)) = W at *
  go_wp2_with (first
    | ((with_reducible refine at_load 34 ?_); refine wpList_load_wbox (by rfl) 34 _ rfl w.heap.size rfl (rc x f) 34 _ BR Try.underlying34 rfl (by rw [rc_len]; exact ar_info) ?_)
    | (go_at_call 14; (with_reducible refine (qk _).mono ?_)))
  rintro e W2 rfl n2
  have hs2 := n2.size
  have BR := BR.new n2
  have B4 := B4.new n2
  have B5 := B5.new n2
  have n1 := New.trans n1 n2
  rw [hsz] at hs2
  clear qk n2 hsz s1
  generalize W2 = W at *
  have c16 := BR.at (rc_x x f (i := 16) (by omega))
  have qf := fun w => failure_any 7 (x 16) w
  go_wp2_with fail
  have kd := (New.refl W).drew
  have hS : (fun w' : World => Box w' w.heap.size (rc x f).toArray 34 ∧ w'.cell? ⟨w.heap.size, 16, none⟩ = some (.int .u32 (x 16))) W.drew := ⟨BR.new kd, kd.keeps c16⟩
  have B4 := B4.new kd
  have B5 := B5.new kd
  have hd : W.drew.heap.size = W.heap.size := rfl
  refine wp_region_held_drew (S := (fun w' : World => Box w' w.heap.size (rc x f).toArray 34 ∧ w'.cell? ⟨w.heap.size, 16, none⟩ = some (.int .u32 (x 16)))) (by kernel_rfl) hS (fun _ => ?_)
  refine wpAnyH_take (i := 0) (v := .agg (rc x f).toArray) rfl (by kernel_rfl) (by kernel_rfl) (by kernel_rfl) (fun _ _ _ h => h) (yieldsIf_load_box (by rfl) 34 _ rfl w.heap.size rfl (rc x f) _ _ (fun _ e => e.1) Try.underlying34 rfl (by rw [rc_len]; exact ar_info)) hS ?_
  try simp only [Act.put, List.setIfInBounds_toArray, List.set_cons_zero, List.set_cons_succ, List.getElem_toArray, List.getElem_cons_zero, List.getElem_cons_succ]
  refine wpAnyH_take (i := 1) (v := ?_) rfl (by kernel_rfl) (by kernel_rfl) (by kernel_rfl) (fun _ _ _ h => h) (Or.inl ⟨by rfl, ?_⟩) hS ?_
  rotate_left
  · intro w hSw
    go_simp
    with_reducible rfl
  try simp only [Act.put, List.setIfInBounds_toArray, List.set_cons_zero, List.set_cons_succ, List.getElem_toArray, List.getElem_cons_zero, List.getElem_cons_succ]
  refine wpAnyH_take (i := 2) (v := ?_) rfl (by kernel_rfl) (by kernel_rfl) (by kernel_rfl) (fun _ _ _ h => h) (Or.inl ⟨by rfl, ?_⟩) hS ?_
  rotate_left
  · intro w hSw
    have hSw := hSw.2
    go_simp
    with_reducible rfl
  try simp only [Act.put, List.setIfInBounds_toArray, List.set_cons_zero, List.set_cons_succ, List.getElem_toArray, List.getElem_cons_zero, List.getElem_cons_succ]
  refine wpAnyH_ready (rs := [3]) (by kernel_rfl) (by simp) (AllReadyH.cons rfl (fun K hK => ?_) AllReadyH.nil)
  go_simp
  refine (qf _).mono ?_
  rintro e W5 ⟨rfl, n5⟩
  have hs5 := n5.size
  have B4 := B4.new n5
  have B5 := B5.new n5
  have hS5 : Box W5 w.heap.size (rc x f).toArray 34 ∧ W5.cell? ⟨w.heap.size, 16, none⟩ = some (.int .u32 (x 16)) := ⟨hS.1.new n5, n5.keeps hS.2⟩
  refine hK.out _ _ hS5 (fun _ => ?_)
  clear hK K
  try simp only [Act.put, List.setIfInBounds_toArray, List.set_cons_zero, List.set_cons_succ, List.getElem_toArray, List.getElem_cons_zero, List.getElem_cons_succ]
  refine wpAnyH_ready (rs := [4]) (by kernel_rfl) (by simp) (AllReadyH.cons rfl (fun K hK => ?_) AllReadyH.nil)
  rw [if_pos (by rfl)]
  refine wp_store_bx 34 _ _ rfl (w.heap.size + 1) (rc x f) (rc (fun _ => 0) (fun _ => 0)) 34 rfl rfl B4 rfl (by rw [rc_len]; exact ar_info) (rc_one _ _) ?_
  intro W6 B46 F6
  have hS6 : Box W6 w.heap.size (rc x f).toArray 34 ∧ W6.cell? ⟨w.heap.size, 16, none⟩ = some (.int .u32 (x 16)) := ⟨hS5.1.far F6 (by omega), (F6.cell (p := ⟨w.heap.size, 16, none⟩) (cell_lt hS5.2) (by show w.heap.size ≠ _; omega)).trans hS5.2⟩
  have B56 := B5.far F6 (by omega)
  refine hK.out _ _ hS6 (fun _ => ?_)
  clear hK K
  try simp only [Act.put, List.setIfInBounds_toArray, List.set_cons_zero, List.set_cons_succ, List.getElem_toArray, List.getElem_cons_zero, List.getElem_cons_succ]
  refine wpAnyH_ready (rs := [5]) (by kernel_rfl) (by simp) (AllReadyH.cons rfl (fun K hK => ?_) AllReadyH.nil)
  rw [if_pos (by rfl)]
  refine wp_store_bx 36 _ _ rfl (w.heap.size + 2) [.int .i64 4, .int .i64 7, .int .u32 (x 16)] [.int .i64 0, .int .i64 0, .int .u32 0] 36 rfl rfl B56 rfl ev_size (by intro u hu; simp at hu; rcases hu with rfl | rfl | rfl <;> rfl) ?_
  intro W7 B57 F7
  have B47 := B46.far F7 (by omega)
  refine hK.out _ _ ⟨hS6.1.far F7 (by omega), (F7.cell (p := ⟨w.heap.size, 16, none⟩) (cell_lt hS6.2) (by show w.heap.size ≠ _; omega)).trans hS6.2⟩ (fun _ => ?_)
  clear hK K
  try simp only [Act.put, List.setIfInBounds_toArray, List.set_cons_zero, List.set_cons_succ, List.getElem_toArray, List.getElem_cons_zero, List.getElem_cons_succ]
  refine wpAnyH_done (by kernel_rfl) ?_ _
  have hw : New w W7 := F7.new (F6.new (New.trans (New.trans n1 kd) n5) (by omega)) (by omega)
  have r4 : (loadVar 34 ⟨w.heap.size + 1, 0, none⟩).run Try.prog W7 = .ok (.agg (rc x f).toArray) W7 := run_loadVar_mid W7 _ 0 _ _ _ B47.range Try.underlying34 rfl (by rw [rc_len]; exact ar_info)
  have r5 : (loadVar 36 ⟨w.heap.size + 1 + 1, 0, none⟩).run Try.prog W7 = .ok (.agg #[.int .i64 4, .int .i64 7, .int .u32 (x 16)]) W7 := run_loadVar_mid W7 _ 0 _ [.int .i64 4, .int .i64 7, .int .u32 (x 16)] _ (Box.range B57) Try.underlying36 rfl ev_size
  clear hS hS5 hS6 B4 B5 B46 B56 B57 B47 F6 F7
  go_wp2
  exact bodyPost_ret (v := .tuple #[.agg (rc x f).toArray, .agg #[.int .i64 4, .int .i64 7, .int .u32 (x 16)]]) (by simp [results, Try.results7, asAddr, r4, r5]) rfl ⟨rfl, hw⟩
set_option maxHeartbeats 2000000 in
theorem step_nil (hx : Bx x) :
    Calls Try.prog 7 #[.nilIface, .agg (rc x f).toArray] w fun e w' => e = .returned (.tuple #[.agg (rc x f).toArray, .agg #[.int .i64 4, .int .i64 7, .int .u32 (x 16)]]) ∧ New w w' := by
  have hnil : ∀ w, (binOp .eql 55 .nilIface .nilIface).run Try.prog w = .ok (.bool true) w := fun w => by kernel_rfl
  go_enter Try.func7, Try.ntmps7
  go_upto_region 1 with fail
  have n1 := ((New.refl w).alloc (rc x f).toArray 34).alloc (rc (fun _ => 0) (fun _ => 0)).toArray 34
  have n1 := n1.alloc #[.int .i64 0, .int .i64 0, .int .u32 0] 36
  have BR := ((Box.here w w.heap.size (rc x f).toArray 34 rfl).alloc (.cells (rc (fun _ => 0) (fun _ => 0)).toArray 34)).alloc (.cells #[.int .i64 0, .int .i64 0, .int .u32 0] 36)
  have B4 := (Box.here (w.alloc (.cells (rc x f).toArray 34)) (w.heap.size + 1) (rc (fun _ => 0) (fun _ => 0)).toArray 34 (by simp)).alloc (.cells #[.int .i64 0, .int .i64 0, .int .u32 0] 36)
  have B5 := Box.here ((w.alloc (.cells (rc x f).toArray 34)).alloc (.cells (rc (fun _ => 0) (fun _ => 0)).toArray 34)) (w.heap.size + 2) #[.int .i64 0, .int .i64 0, .int .u32 0] 36 (by simp)
  have s1 := n1.size
  change Code.wp _ _ _ _ (((w.alloc (.cells (rc x f).toArray 34)).alloc (.cells (rc (fun _ => 0) (fun _ => 0)).toArray 34)).alloc (.cells #[.int .i64 0, .int .i64 0, .int .u32 0] 36))
  have hsz : (((w.alloc (.cells (rc x f).toArray 34)).alloc (.cells (rc (fun _ => 0) (fun _ => 0)).toArray 34)).alloc (.cells #[.int .i64 0, .int .i64 0, .int .u32 0] 36)).heap.size = w.heap.size + 3 := by simp
  generalize (((w.alloc (.cells (rc x f).toArray 34)).alloc (.cells (rc (fun _ => 0) (fun _ => 0)).toArray 34)).alloc (.cells #[.int .i64 0, .int .i64 0, .int .u32 0] 36)) = W at *
  have hs2 : w.heap.size + 3 ≤ W.heap.size := by omega
  have c16 := BR.at (rc_x x f (i := 16) (by omega))
  have qf := fun w => failure_any 7 (x 16) w
  go_wp2_with fail
  have kd := (New.refl W).drew
  have hS : (fun w' : World => Box w' w.heap.size (rc x f).toArray 34 ∧ w'.cell? ⟨w.heap.size, 16, none⟩ = some (.int .u32 (x 16))) W.drew := ⟨BR.new kd, kd.keeps c16⟩
  have B4 := B4.new kd
  have B5 := B5.new kd
  have hd : W.drew.heap.size = W.heap.size := rfl
  refine wp_region_held_drew (S := (fun w' : World => Box w' w.heap.size (rc x f).toArray 34 ∧ w'.cell? ⟨w.heap.size, 16, none⟩ = some (.int .u32 (x 16)))) (by kernel_rfl) hS (fun _ => ?_)
  refine wpAnyH_take (i := 0) (v := .agg (rc x f).toArray) rfl (by kernel_rfl) (by kernel_rfl) (by kernel_rfl) (fun _ _ _ h => h) (yieldsIf_load_box (by rfl) 34 _ rfl w.heap.size rfl (rc x f) _ _ (fun _ e => e.1) Try.underlying34 rfl (by rw [rc_len]; exact ar_info)) hS ?_
  try simp only [Act.put, List.setIfInBounds_toArray, List.set_cons_zero, List.set_cons_succ, List.getElem_toArray, List.getElem_cons_zero, List.getElem_cons_succ]
  refine wpAnyH_take (i := 1) (v := ?_) rfl (by kernel_rfl) (by kernel_rfl) (by kernel_rfl) (fun _ _ _ h => h) (Or.inl ⟨by rfl, ?_⟩) hS ?_
  rotate_left
  · intro w hSw
    go_simp
    with_reducible rfl
  try simp only [Act.put, List.setIfInBounds_toArray, List.set_cons_zero, List.set_cons_succ, List.getElem_toArray, List.getElem_cons_zero, List.getElem_cons_succ]
  refine wpAnyH_take (i := 2) (v := ?_) rfl (by kernel_rfl) (by kernel_rfl) (by kernel_rfl) (fun _ _ _ h => h) (Or.inl ⟨by rfl, ?_⟩) hS ?_
  rotate_left
  · intro w hSw
    have hSw := hSw.2
    go_simp
    with_reducible rfl
  try simp only [Act.put, List.setIfInBounds_toArray, List.set_cons_zero, List.set_cons_succ, List.getElem_toArray, List.getElem_cons_zero, List.getElem_cons_succ]
  refine wpAnyH_ready (rs := [3]) (by kernel_rfl) (by simp) (AllReadyH.cons rfl (fun K hK => ?_) AllReadyH.nil)
  go_simp
  refine (qf _).mono ?_
  rintro e W5 ⟨rfl, n5⟩
  have hs5 := n5.size
  have B4 := B4.new n5
  have B5 := B5.new n5
  have hS5 : Box W5 w.heap.size (rc x f).toArray 34 ∧ W5.cell? ⟨w.heap.size, 16, none⟩ = some (.int .u32 (x 16)) := ⟨hS.1.new n5, n5.keeps hS.2⟩
  refine hK.out _ _ hS5 (fun _ => ?_)
  clear hK K
  try simp only [Act.put, List.setIfInBounds_toArray, List.set_cons_zero, List.set_cons_succ, List.getElem_toArray, List.getElem_cons_zero, List.getElem_cons_succ]
  refine wpAnyH_ready (rs := [4]) (by kernel_rfl) (by simp) (AllReadyH.cons rfl (fun K hK => ?_) AllReadyH.nil)
  rw [if_pos (by rfl)]
  refine wp_store_bx 34 _ _ rfl (w.heap.size + 1) (rc x f) (rc (fun _ => 0) (fun _ => 0)) 34 rfl rfl B4 rfl (by rw [rc_len]; exact ar_info) (rc_one _ _) ?_
  intro W6 B46 F6
  have hS6 : Box W6 w.heap.size (rc x f).toArray 34 ∧ W6.cell? ⟨w.heap.size, 16, none⟩ = some (.int .u32 (x 16)) := ⟨hS5.1.far F6 (by omega), (F6.cell (p := ⟨w.heap.size, 16, none⟩) (cell_lt hS5.2) (by show w.heap.size ≠ _; omega)).trans hS5.2⟩
  have B56 := B5.far F6 (by omega)
  refine hK.out _ _ hS6 (fun _ => ?_)
  clear hK K
  try simp only [Act.put, List.setIfInBounds_toArray, List.set_cons_zero, List.set_cons_succ, List.getElem_toArray, List.getElem_cons_zero, List.getElem_cons_succ]
  refine wpAnyH_ready (rs := [5]) (by kernel_rfl) (by simp) (AllReadyH.cons rfl (fun K hK => ?_) AllReadyH.nil)
  rw [if_pos (by rfl)]
  refine wp_store_bx 36 _ _ rfl (w.heap.size + 2) [.int .i64 4, .int .i64 7, .int .u32 (x 16)] [.int .i64 0, .int .i64 0, .int .u32 0] 36 rfl rfl B56 rfl ev_size (by intro u hu; simp at hu; rcases hu with rfl | rfl | rfl <;> rfl) ?_
  intro W7 B57 F7
  have B47 := B46.far F7 (by omega)
  refine hK.out _ _ ⟨hS6.1.far F7 (by omega), (F7.cell (p := ⟨w.heap.size, 16, none⟩) (cell_lt hS6.2) (by show w.heap.size ≠ _; omega)).trans hS6.2⟩ (fun _ => ?_)
  clear hK K
  try simp only [Act.put, List.setIfInBounds_toArray, List.set_cons_zero, List.set_cons_succ, List.getElem_toArray, List.getElem_cons_zero, List.getElem_cons_succ]
  refine wpAnyH_done (by kernel_rfl) ?_ _
  have hw : New w W7 := F7.new (F6.new (New.trans (New.trans n1 kd) n5) (by omega)) (by omega)
  have r4 : (loadVar 34 ⟨w.heap.size + 1, 0, none⟩).run Try.prog W7 = .ok (.agg (rc x f).toArray) W7 := run_loadVar_mid W7 _ 0 _ _ _ B47.range Try.underlying34 rfl (by rw [rc_len]; exact ar_info)
  have r5 : (loadVar 36 ⟨w.heap.size + 1 + 1, 0, none⟩).run Try.prog W7 = .ok (.agg #[.int .i64 4, .int .i64 7, .int .u32 (x 16)]) W7 := run_loadVar_mid W7 _ 0 _ [.int .i64 4, .int .i64 7, .int .u32 (x 16)] _ (Box.range B57) Try.underlying36 rfl ev_size
  clear hS hS5 hS6 B4 B5 B46 B56 B57 B47 F6 F7
  go_wp2
  exact bodyPost_ret (v := .tuple #[.agg (rc x f).toArray, .agg #[.int .i64 4, .int .i64 7, .int .u32 (x 16)]]) (by simp [results, Try.results7, asAddr, r4, r5]) rfl ⟨rfl, hw⟩
theorem step_any (h : Bd w db v L a s) (hx : Bx x) (hf : Bf f) (hL : Oct L) :
    Calls Try.prog 7 #[bus db, .agg (rc x f).toArray] w fun e w' => e = .returned (.tuple #[.agg (rc (stA x f L).x (stA x f L).f).toArray, .agg #[.int .i64 (stA x f L).k, .int .i64 (stA x f L).s, .int .u32 (stA x f L).a]]) ∧
      Bd w' db v (stA x f L).L (fes x a) (adds s (stA x f L).n) ∧ But (SB db v) w w' := by
  unfold stA fes
  by_cases h17 : 32 ≤ x 17
  · rw [if_pos h17, if_pos h17]
    exact (step_bad db h17 hx).mono fun e w' h2 => ⟨h2.1, h.new h2.2, But.of_new _ h2.2⟩
  rw [if_neg h17, if_neg h17]
  rcases (sh_exA x f L).1 with ⟨hk, e1, e2, _⟩ | ⟨hk, e1, e2⟩
  · have hkd : kdA (exA x f L) (x 17) = 4 := by unfold kdA; rw [if_neg (by rw [hk]; omega), hk]
    refine (step_fail h hx hf hL (by omega) hk).mono fun e w' h2 => ⟨?_, h2.2⟩
    rw [h2.1]
    show _ = Ending.returned (.tuple #[.agg (rc (exA x f L).x (exA x f L).f).toArray, .agg #[.int .i64 (kdA (exA x f L) (x 17)), .int .i64 (exA x f L).s, .int .u32 (exA x f L).a]])
    rw [e1, e2, hkd]
  · have fin : ∀ k : Int, kdA (exA x f L) (x 17) = k → Ending.returned (.tuple #[.agg (rc (exA x f L).x (exA x f L).f).toArray, .agg #[.int .i64 k, .int .i64 0, .int .u32 0]]) =
        Ending.returned (.tuple #[.agg (rc (exA x f L).x (exA x f L).f).toArray, .agg #[.int .i64 (kdA (exA x f L) (x 17)), .int .i64 (exA x f L).s, .int .u32 (exA x f L).a]]) := fun k hkd => by
      rw [e1, e2, hkd]
    rcases hk with hk | hk | hk
    · by_cases h16 : 16 ≤ x 17
      · exact (step_one h hx hf hL (by omega) hk h16).mono fun e w' h2 => ⟨h2.1.trans (fin _ (by unfold kdA; rw [if_pos ⟨hk, h16⟩])), h2.2⟩
      · exact (step_ran h hx hf hL (by omega) hk (by omega)).mono fun e w' h2 => ⟨h2.1.trans (fin _ (by unfold kdA; rw [if_neg (by omega), hk])), h2.2⟩
    · exact (step_called h hx hf hL (by omega) hk).mono fun e w' h2 => ⟨h2.1.trans (fin _ (by unfold kdA; rw [if_neg (by omega), hk])), h2.2⟩
    · exact (step_broke h hx hf hL (by omega) hk).mono fun e w' h2 => ⟨h2.1.trans (fin _ (by unfold kdA; rw [if_neg (by omega), hk])), h2.2⟩
end
end Go.Proofs.Ytbkhmeongekdiaa
