/- The document's own words of registers: Word, With. -/
import Derived.Test.YtbjpflomibcenaaDoorRgC
namespace Go.Proofs.YtbjpflomibcenaaDoor
open Go.RowKit
set_option linter.unusedVariables false
theorem rg_info : (Tryd.prog.info? 27).map (·.size) = some 22 := by kernel_rfl
set_option maxHeartbeats 4000000 in
set_option maxRecDepth 100000 in
theorem rwith_lo (x f : Nat → Int) (n : Nat) (hn : n < 16) (v : Int) (w : World) :
    Calls Tryd.prog 20 #[.agg (rc x f).toArray, .int .i64 (n : Int), .int .u32 v] w fun e w' => e = .returned (.agg (rc (upd x n v) f).toArray) ∧ New w w' := by
  have g : (n : Int) < 16 := by omega
  have g0 : (0 : Int) ≤ (n : Int) := by omega
  have hset := rc_set_x x f n v (by omega)
  have hget := rc_x x f (i := n) (by omega)
  have hlen := rc_len x f
  have hlen2 := rc_len (upd x n v) f
  have hone := rc_one (upd x n v) f
  have hz := rc_len (fun _ => 0) (fun _ => 0)
  go_enter Tryd.func20, Tryd.ntmps20
  go_wp2_with (first
    | ((with_reducible refine at_load 27 ?_); refine wpList_load_box rfl 27 _ rfl w.heap.size rfl (rc (upd x n v) f) 27 _ ?hB Tryd.underlying27 rfl ?hi ?hr)
    | ((with_reducible refine at_store 27 ?_); refine wpList_store_box rfl 27 _ _ rfl (w.heap.size + 1) (rc (upd x n v) f) (rc (fun _ => 0) (fun _ => 0)) 27 rfl rfl ?hB2 ?hl2 ?hi2 hone ?hr2))
  case hB => exact (Box.here w _ _ _ rfl).alloc _
  case hi => simpa [rc_len] using rg_info
  case hB2 => exact Box.here _ _ _ _ (by simp)
  case hi2 => simpa [rc_len] using rg_info
  case hr2 =>
    intro w' hB hF
    have hr : (loadVar 27 ⟨w.heap.size + 1, 0, none⟩).run Tryd.prog w' = .ok (.agg (rc (upd x n v) f).toArray) w' := run_loadVar_mid w' _ 0 _ _ _ hB.range Tryd.underlying27 rfl (by rw [rc_len]; exact rg_info)
    have nw : New w w' := hF.new (((New.refl w).alloc _ _).alloc _ _) (by simp)
    clear hget hset hlen hlen2 hone hz hF
    go_wp2
    exact bodyPost_ret (v := .agg (rc (upd x n v) f).toArray) (by simp [results, Tryd.results20, asAddr, hr]) rfl ⟨rfl, nw⟩
set_option maxHeartbeats 4000000 in
set_option maxRecDepth 100000 in
theorem rwith_pc (x f : Nat → Int) (v : Int) (w : World) :
    Calls Tryd.prog 20 #[.agg (rc x f).toArray, .int .i64 16, .int .u32 v] w fun e w' => e = .returned (.agg (rc (upd x 16 v) f).toArray) ∧ New w w' := by
  have hset := rc_set_x x f 16 v (by omega)
  have hget := rc_x x f (i := 16) (by omega)
  have hlen := rc_len x f
  have hlen2 := rc_len (upd x 16 v) f
  have hone := rc_one (upd x 16 v) f
  have hz := rc_len (fun _ => 0) (fun _ => 0)
  go_enter Tryd.func20, Tryd.ntmps20
  go_wp2_with (first
    | ((with_reducible refine at_load 27 ?_); refine wpList_load_box rfl 27 _ rfl w.heap.size rfl (rc (upd x 16 v) f) 27 _ ?hB Tryd.underlying27 rfl ?hi ?hr)
    | ((with_reducible refine at_store 27 ?_); refine wpList_store_box rfl 27 _ _ rfl (w.heap.size + 1) (rc (upd x 16 v) f) (rc (fun _ => 0) (fun _ => 0)) 27 rfl rfl ?hB2 ?hl2 ?hi2 hone ?hr2))
  case hB => exact (Box.here w _ _ _ rfl).alloc _
  case hi => simpa [rc_len] using rg_info
  case hB2 => exact Box.here _ _ _ _ (by simp)
  case hi2 => simpa [rc_len] using rg_info
  case hr2 =>
    intro w' hB hF
    have hr : (loadVar 27 ⟨w.heap.size + 1, 0, none⟩).run Tryd.prog w' = .ok (.agg (rc (upd x 16 v) f).toArray) w' := run_loadVar_mid w' _ 0 _ _ _ hB.range Tryd.underlying27 rfl (by rw [rc_len]; exact rg_info)
    have nw : New w w' := hF.new (((New.refl w).alloc _ _).alloc _ _) (by simp)
    clear hget hset hlen hlen2 hone hz hF
    go_wp2
    exact bodyPost_ret (v := .agg (rc (upd x 16 v) f).toArray) (by simp [results, Tryd.results20, asAddr, hr]) rfl ⟨rfl, nw⟩
set_option maxHeartbeats 4000000 in
set_option maxRecDepth 100000 in
theorem rwith_fl (x f : Nat → Int) (v : Int) (w : World) :
    Calls Tryd.prog 20 #[.agg (rc x f).toArray, .int .i64 17, .int .u32 v] w fun e w' => e = .returned (.agg (rc (upd x 17 v) f).toArray) ∧ New w w' := by
  have hset := rc_set_x x f 17 v (by omega)
  have hget := rc_x x f (i := 17) (by omega)
  have hlen := rc_len x f
  have hlen2 := rc_len (upd x 17 v) f
  have hone := rc_one (upd x 17 v) f
  have hz := rc_len (fun _ => 0) (fun _ => 0)
  go_enter Tryd.func20, Tryd.ntmps20
  go_wp2_with (first
    | ((with_reducible refine at_load 27 ?_); refine wpList_load_box rfl 27 _ rfl w.heap.size rfl (rc (upd x 17 v) f) 27 _ ?hB Tryd.underlying27 rfl ?hi ?hr)
    | ((with_reducible refine at_store 27 ?_); refine wpList_store_box rfl 27 _ _ rfl (w.heap.size + 1) (rc (upd x 17 v) f) (rc (fun _ => 0) (fun _ => 0)) 27 rfl rfl ?hB2 ?hl2 ?hi2 hone ?hr2))
  case hB => exact (Box.here w _ _ _ rfl).alloc _
  case hi => simpa [rc_len] using rg_info
  case hB2 => exact Box.here _ _ _ _ (by simp)
  case hi2 => simpa [rc_len] using rg_info
  case hr2 =>
    intro w' hB hF
    have hr : (loadVar 27 ⟨w.heap.size + 1, 0, none⟩).run Tryd.prog w' = .ok (.agg (rc (upd x 17 v) f).toArray) w' := run_loadVar_mid w' _ 0 _ _ _ hB.range Tryd.underlying27 rfl (by rw [rc_len]; exact rg_info)
    have nw : New w w' := hF.new (((New.refl w).alloc _ _).alloc _ _) (by simp)
    clear hget hset hlen hlen2 hone hz hF
    go_wp2
    exact bodyPost_ret (v := .agg (rc (upd x 17 v) f).toArray) (by simp [results, Tryd.results20, asAddr, hr]) rfl ⟨rfl, nw⟩
set_option maxHeartbeats 4000000 in
set_option maxRecDepth 100000 in
theorem rwith_flo (x f : Nat → Int) (k : Nat) (hk : k < 4) (hf : 0 ≤ f k ∧ f k ≤ 18446744073709551615) (v : Int) (hv : 0 ≤ v ∧ v ≤ 4294967295) (w : World) :
    Calls Tryd.prog 20 #[.agg (rc x f).toArray, .int .i64 (18 + 2 * (k : Int)), .int .u32 v] w fun e w' => e = .returned (.agg (rc x (upd f k (f k / 4294967296 * 4294967296 + v))).toArray) ∧ New w w' := by
  have q0 : (0 : Int) ≤ f k := hf.1
  have q1 : f k ≤ 18446744073709551615 := hf.2
  have g16 : ¬ (18 + 2 * (k : Int)) < 16 := by omega
  have g16' : ((18 + 2 * (k : Int)) == 16) = false := by simp; omega
  have g17' : ((18 + 2 * (k : Int)) == 17) = false := by simp; omega
  have v0 := hv.1
  have v1 := hv.2
  have k3 : k ≤ 3 := by omega
  have hq : (18 + 2 * k - 17) / 2 = k := by omega
  have hset := rc_set_f x f k (f k / 4294967296 * 4294967296 + v) hk
  have hget := rc_f x f (k := k) hk
  have hlen := rc_len x f
  have hlen2 := rc_len x (upd f k (f k / 4294967296 * 4294967296 + v))
  have hone := rc_one x (upd f k (f k / 4294967296 * 4294967296 + v))
  have hz := rc_len (fun _ => 0) (fun _ => 0)
  go_enter Tryd.func20, Tryd.ntmps20
  go_wp2_with (first
    | ((with_reducible refine at_load 27 ?_); refine wpList_load_box rfl 27 _ rfl w.heap.size rfl (rc x (upd f k (f k / 4294967296 * 4294967296 + v))) 27 _ ?hB Tryd.underlying27 rfl ?hi ?hr)
    | ((with_reducible refine at_store 27 ?_); refine wpList_store_box rfl 27 _ _ rfl (w.heap.size + 1) (rc x (upd f k (f k / 4294967296 * 4294967296 + v))) (rc (fun _ => 0) (fun _ => 0)) 27 rfl rfl ?hB2 ?hl2 ?hi2 hone ?hr2))
  case hB => exact (Box.here w _ _ _ rfl).alloc _
  case hi => simpa [rc_len] using rg_info
  case hB2 => exact Box.here _ _ _ _ (by simp)
  case hi2 => simpa [rc_len] using rg_info
  case hr2 =>
    intro w' hB hF
    have hr : (loadVar 27 ⟨w.heap.size + 1, 0, none⟩).run Tryd.prog w' = .ok (.agg (rc x (upd f k (f k / 4294967296 * 4294967296 + v))).toArray) w' := run_loadVar_mid w' _ 0 _ _ _ hB.range Tryd.underlying27 rfl (by rw [rc_len]; exact rg_info)
    have nw : New w w' := hF.new (((New.refl w).alloc _ _).alloc _ _) (by simp)
    clear hget hset hlen hlen2 hone hz hF
    go_wp2
    exact bodyPost_ret (v := .agg (rc x (upd f k (f k / 4294967296 * 4294967296 + v))).toArray) (by simp [results, Tryd.results20, asAddr, hr]) rfl ⟨rfl, nw⟩
set_option maxHeartbeats 4000000 in
set_option maxRecDepth 100000 in
theorem rwith_fhi (x f : Nat → Int) (k : Nat) (hk : k < 4) (hf : 0 ≤ f k ∧ f k ≤ 18446744073709551615) (v : Int) (hv : 0 ≤ v ∧ v ≤ 4294967295) (w : World) :
    Calls Tryd.prog 20 #[.agg (rc x f).toArray, .int .i64 (18 + 2 * (k : Int) + 1), .int .u32 v] w fun e w' => e = .returned (.agg (rc x (upd f k (f k % 4294967296 + v * 4294967296))).toArray) ∧ New w w' := by
  have q0 : (0 : Int) ≤ f k := hf.1
  have q1 : f k ≤ 18446744073709551615 := hf.2
  have g16 : ¬ (18 + 2 * (k : Int) + 1) < 16 := by omega
  have g16' : ((18 + 2 * (k : Int) + 1) == 16) = false := by simp; omega
  have g17' : ((18 + 2 * (k : Int) + 1) == 17) = false := by simp; omega
  have v0 := hv.1
  have v1 := hv.2
  have k3 : k ≤ 3 := by omega
  have hq : (18 + 2 * k - 17) / 2 = k := by omega
  have hset := rc_set_f x f k (f k % 4294967296 + v * 4294967296) hk
  have hget := rc_f x f (k := k) hk
  have hlen := rc_len x f
  have hlen2 := rc_len x (upd f k (f k % 4294967296 + v * 4294967296))
  have hone := rc_one x (upd f k (f k % 4294967296 + v * 4294967296))
  have hz := rc_len (fun _ => 0) (fun _ => 0)
  go_enter Tryd.func20, Tryd.ntmps20
  go_wp2_with (first
    | ((with_reducible refine at_load 27 ?_); refine wpList_load_box rfl 27 _ rfl w.heap.size rfl (rc x (upd f k (f k % 4294967296 + v * 4294967296))) 27 _ ?hB Tryd.underlying27 rfl ?hi ?hr)
    | ((with_reducible refine at_store 27 ?_); refine wpList_store_box rfl 27 _ _ rfl (w.heap.size + 1) (rc x (upd f k (f k % 4294967296 + v * 4294967296))) (rc (fun _ => 0) (fun _ => 0)) 27 rfl rfl ?hB2 ?hl2 ?hi2 hone ?hr2))
  case hB => exact (Box.here w _ _ _ rfl).alloc _
  case hi => simpa [rc_len] using rg_info
  case hB2 => exact Box.here _ _ _ _ (by simp)
  case hi2 => simpa [rc_len] using rg_info
  case hr2 =>
    intro w' hB hF
    have hr : (loadVar 27 ⟨w.heap.size + 1, 0, none⟩).run Tryd.prog w' = .ok (.agg (rc x (upd f k (f k % 4294967296 + v * 4294967296))).toArray) w' := run_loadVar_mid w' _ 0 _ _ _ hB.range Tryd.underlying27 rfl (by rw [rc_len]; exact rg_info)
    have nw : New w w' := hF.new (((New.refl w).alloc _ _).alloc _ _) (by simp)
    clear hget hset hlen hlen2 hone hz hF
    go_wp2
    exact bodyPost_ret (v := .agg (rc x (upd f k (f k % 4294967296 + v * 4294967296))).toArray) (by simp [results, Tryd.results20, asAddr, hr]) rfl ⟨rfl, nw⟩
set_option maxHeartbeats 4000000 in
set_option maxRecDepth 100000 in
theorem rword_lo (x f : Nat → Int) (n : Nat) (hn : n < 16) (w : World) :
    Calls Tryd.prog 13 #[.agg (rc x f).toArray, .int .i64 (n : Int)] w fun e w' => e = .returned (.int .u32 (x n)) ∧ New w w' := by
  have g : (n : Int) < 16 := by omega
  have g0 : (0 : Int) ≤ (n : Int) := by omega
  have hget := rc_x x f (i := n) (by omega)
  have hlen := rc_len x f
  go_enter Tryd.func13, Tryd.ntmps13
  go_wp2
  go_ret
  exact ⟨ret_int (by first | rfl | go_num | omega), (New.refl _).alloc _ _⟩
set_option maxHeartbeats 4000000 in
set_option maxRecDepth 100000 in
theorem rword_pc (x f : Nat → Int) (w : World) :
    Calls Tryd.prog 13 #[.agg (rc x f).toArray, .int .i64 16] w fun e w' => e = .returned (.int .u32 (x 16)) ∧ New w w' := by
  have hget := rc_x x f (i := 16) (by omega)
  have hlen := rc_len x f
  go_enter Tryd.func13, Tryd.ntmps13
  go_wp2
  go_ret
  exact ⟨ret_int (by first | rfl | go_num | omega), (New.refl _).alloc _ _⟩
set_option maxHeartbeats 4000000 in
set_option maxRecDepth 100000 in
theorem rword_fl (x f : Nat → Int) (w : World) :
    Calls Tryd.prog 13 #[.agg (rc x f).toArray, .int .i64 17] w fun e w' => e = .returned (.int .u32 (x 17)) ∧ New w w' := by
  have hget := rc_x x f (i := 17) (by omega)
  have hlen := rc_len x f
  go_enter Tryd.func13, Tryd.ntmps13
  go_wp2
  go_ret
  exact ⟨ret_int (by first | rfl | go_num | omega), (New.refl _).alloc _ _⟩
set_option maxHeartbeats 4000000 in
set_option maxRecDepth 100000 in
theorem rword_flo (x f : Nat → Int) (k : Nat) (hk : k < 4) (hf : 0 ≤ f k ∧ f k ≤ 18446744073709551615) (w : World) :
    Calls Tryd.prog 13 #[.agg (rc x f).toArray, .int .i64 (18 + 2 * (k : Int))] w fun e w' => e = .returned (.int .u32 (f k % 4294967296)) ∧ New w w' := by
  have q0 : (0 : Int) ≤ f k := hf.1
  have q1 : f k ≤ 18446744073709551615 := hf.2
  have g16 : ¬ (18 + 2 * (k : Int)) < 16 := by omega
  have g16' : ((18 + 2 * (k : Int)) == 16) = false := by simp; omega
  have g17' : ((18 + 2 * (k : Int)) == 17) = false := by simp; omega
  have k3 : k ≤ 3 := by omega
  have hq : (18 + 2 * k - 17) / 2 = k := by omega
  have hget := rc_f x f (k := k) hk
  have hlen := rc_len x f
  go_enter Tryd.func13, Tryd.ntmps13
  go_wp2
  go_ret
  exact ⟨ret_int (by first | rfl | go_num | omega), (New.refl _).alloc _ _⟩
set_option maxHeartbeats 4000000 in
set_option maxRecDepth 100000 in
theorem rword_fhi (x f : Nat → Int) (k : Nat) (hk : k < 4) (hf : 0 ≤ f k ∧ f k ≤ 18446744073709551615) (w : World) :
    Calls Tryd.prog 13 #[.agg (rc x f).toArray, .int .i64 (18 + 2 * (k : Int) + 1)] w fun e w' => e = .returned (.int .u32 (f k / 4294967296)) ∧ New w w' := by
  have q0 : (0 : Int) ≤ f k := hf.1
  have q1 : f k ≤ 18446744073709551615 := hf.2
  have g16 : ¬ (18 + 2 * (k : Int) + 1) < 16 := by omega
  have g16' : ((18 + 2 * (k : Int) + 1) == 16) = false := by simp; omega
  have g17' : ((18 + 2 * (k : Int) + 1) == 17) = false := by simp; omega
  have k3 : k ≤ 3 := by omega
  have hq : (18 + 2 * k - 17) / 2 = k := by omega
  have hget := rc_f x f (k := k) hk
  have hlen := rc_len x f
  go_enter Tryd.func13, Tryd.ntmps13
  go_wp2
  go_ret
  exact ⟨ret_int (by first | rfl | go_num | omega), (New.refl _).alloc _ _⟩
/-- a number from 18 to 25, as a float's and a half's -/
theorem rg_place {n : Nat} (h : 18 ≤ n) (h2 : n < 26) : ∃ k, k < 4 ∧ (n - 18) / 2 = k ∧ ((n % 2 ≠ 1 ∧ (n : Int) = 18 + 2 * (k : Int)) ∨ (n % 2 = 1 ∧ (n : Int) = 18 + 2 * (k : Int) + 1)) :=
  ⟨(n - 18) / 2, by omega, rfl, by omega⟩
theorem rword_any (x f : Nat → Int) (hf : ∀ i, i < 4 → 0 ≤ f i ∧ f i ≤ 18446744073709551615) (n : Nat) (hn : n < 26) (w : World) :
    Calls Tryd.prog 13 #[.agg (rc x f).toArray, .int .i64 (n : Int)] w fun e w' => e = .returned (.int .u32 (wd x f n)) ∧ New w w' := by
  unfold wd
  by_cases h : n < 18
  · rw [if_pos h]
    by_cases h2 : n < 16
    · exact rword_lo x f n h2 w
    · rcases (show n = 16 ∨ n = 17 by omega) with rfl | rfl
      · exact rword_pc x f w
      · exact rword_fl x f w
  · obtain ⟨k, hk, e, ⟨h2, e2⟩ | ⟨h2, e2⟩⟩ := rg_place (by omega : 18 ≤ n) hn
    · rw [if_neg h, if_neg h2, e, e2]; exact rword_flo x f k hk (hf k hk) w
    · rw [if_neg h, if_pos h2, e, e2]; exact rword_fhi x f k hk (hf k hk) w
theorem rwith_any (x f : Nat → Int) (hf : ∀ i, i < 4 → 0 ≤ f i ∧ f i ≤ 18446744073709551615) (n : Nat) (hn : n < 26) (v : Int) (hv : 0 ≤ v ∧ v ≤ 4294967295) (w : World) :
    Calls Tryd.prog 20 #[.agg (rc x f).toArray, .int .i64 (n : Int), .int .u32 v] w fun e w' => e = .returned (.agg (rc (wx x n v) (wf f n v)).toArray) ∧ New w w' := by
  unfold wx wf
  by_cases h : n < 18
  · rw [if_pos h, if_pos h]
    by_cases h2 : n < 16
    · exact rwith_lo x f n h2 v w
    · rcases (show n = 16 ∨ n = 17 by omega) with rfl | rfl
      · exact rwith_pc x f v w
      · exact rwith_fl x f v w
  · rw [if_neg h, if_neg h]
    obtain ⟨k, hk, e, ⟨h2, e2⟩ | ⟨h2, e2⟩⟩ := rg_place (by omega : 18 ≤ n) hn
    · rw [if_neg h2, e, e2]; exact rwith_flo x f k hk (hf k hk) v hv w
    · rw [if_pos h2, e, e2]; exact rwith_fhi x f k hk (hf k hk) v hv w
end Go.Proofs.YtbjpflomibcenaaDoor
