/- What the package's Get and Set do: contracts, for any registers and any number of a word, right or wrong. -/
import Derived.Test.YtbjpflomibcenaaDoorRgG
namespace Go.Proofs.YtbjpflomibcenaaDoor
open Go.RowKit Go.Joins
set_option linter.unusedVariables false
/-- a number of a word -/
def okw (n : Int) : Prop := 0 ≤ n ∧ n < 26
instance (n : Int) : Decidable (okw n) := by unfold okw; exact inferInstance
theorem isword_any (n : Int) (w : World) : Calls Tryd.prog 21 #[.int .i64 n] w fun e w' => e = .returned (.bool (decide (okw n))) ∧ w = w' := by
  unfold okw
  by_cases c : 0 ≤ n
  · have d := decide_eq_true c
    by_cases c2 : n < 26
    · have e : decide (0 ≤ n ∧ n < 26) = true := decide_eq_true ⟨c, c2⟩
      rw [e]
      go_enter Tryd.func21, Tryd.ntmps21
      go_wp2
      go_ret
      exact ⟨rfl, rfl⟩
    · have e : decide (0 ≤ n ∧ n < 26) = false := decide_eq_false fun h => c2 h.2
      have c3 : 26 ≤ n := by omega
      rw [e]
      go_enter Tryd.func21, Tryd.ntmps21
      go_wp2
      go_ret
      exact ⟨rfl, rfl⟩
  · have e : decide (0 ≤ n ∧ n < 26) = false := decide_eq_false fun h => c h.1
    have d : decide (0 ≤ n) = false := decide_eq_false c
    have c3 : n < 0 := by omega
    rw [e]
    go_enter Tryd.func21, Tryd.ntmps21
    go_wp2
    go_ret
    exact ⟨rfl, rfl⟩
def gtv (x f : Nat → Int) (n : Int) : Int := if okw n then wd x f n.toNat else 0
def gte (n : Int) : Int := if okw n then 0 else 22
set_option maxHeartbeats 1000000 in
set_option maxRecDepth 100000 in
theorem get_any (x f : Nat → Int) (hf : ∀ k, k < 4 → 0 ≤ f k ∧ f k ≤ 18446744073709551615) (n : Int) (w : World) :
    Calls Tryd.prog 9 #[.agg (rc x f).toArray, .int .i64 n] w fun e w' => e = .returned (.tuple #[.int .u32 (gtv x f n), erN (gte n)]) ∧ New w w' := by
  have BA : Box (w.alloc (.cells (rc x f).toArray 29)) w.heap.size (rc x f).toArray 29 := Box.here w _ _ _ rfl
  have nw : New w (w.alloc (.cells (rc x f).toArray 29)) := (New.refl w).alloc _ _
  have wi := fun w => isword_any n w
  by_cases c : okw n
  · obtain ⟨k, hk, rfl⟩ : ∃ k : Nat, k < 26 ∧ n = (k : Int) := ⟨n.toNat, by unfold okw at c; omega, by unfold okw at c; omega⟩
    have i0 : ∀ w : World, (Instr.index 50 (.agg (nl .u32 26 (wd x f)).toArray) (.int .i64 (k : Int))).run Tryd.prog w = .ok (.int .u32 (wd x f k)) w := fun w => run_index_cells w _ 22 26 _ _ .u32 k _ Tryd.underlying50 hk (by kernel_rfl) Tryd.underlying22 (by rw [List.getElem?_toArray]; exact nl_at _ hk)
    have e1 := Lib.hid (show gtv x f (k : Int) = wd x f k by unfold gtv; rw [if_pos c]; rfl)
    have e2 := Lib.hid (show gte (k : Int) = 0 by unfold gte; rw [if_pos c])
    rw [decide_eq_true c] at wi
    have sp := fun w => spread_any x f hf w
    clear c hf
    go_enter Tryd.func9, Tryd.ntmps9
    go_upto_region 1 with fail
    generalize w.alloc (.cells (rc x f).toArray 29) = W at *
    have HB := Lib.hid BA
    clear BA
    go_wp2_with (first
      | (go_at_call 21; (with_reducible refine (wi _).mono ?_); rintro e w' ⟨rfl, rfl⟩)
      | ((with_reducible refine at_load 29 ?_); refine wpList_load_box rfl 29 _ rfl w.heap.size rfl (rc x f) 29 _ HB.out Tryd.underlying29 rfl (by rw [rc_len]; exact ar_info) ?_)
      | (go_at_call 16; (with_reducible refine (sp _).mono ?_); rintro e w' ⟨rfl, n2⟩))
    go_ret2
    exact ⟨by rw [e1.out, e2.out]; rfl, New.trans nw n2⟩
  · have e1 := Lib.hid (show gtv x f n = 0 by unfold gtv; rw [if_neg c])
    have e2 := Lib.hid (show gte n = 22 by unfold gte; rw [if_neg c])
    rw [decide_eq_false c] at wi
    clear c hf
    go_enter Tryd.func9, Tryd.ntmps9
    go_upto_region 1 with fail
    generalize w.alloc (.cells (rc x f).toArray 29) = W at *
    go_wp2_with (go_at_call 21; (with_reducible refine (wi _).mono ?_); rintro e w' ⟨rfl, rfl⟩)
    go_ret2
    exact ⟨by rw [e1.out, e2.out]; rfl, nw⟩
/-- what Set answers -/
def sok (x : Nat → Int) (n v : Int) : Prop := okw n ∧ wx x n.toNat v 17 < 32
instance (x : Nat → Int) (n v : Int) : Decidable (sok x n v) := by unfold sok; exact inferInstance
def sv (x f : Nat → Int) (n v : Int) : List Value := if sok x n v then rc (wx x n.toNat v) (wf f n.toNat v) else rc (fun _ => 0) fun _ => 0
def se (x : Nat → Int) (n v : Int) : Int := if sok x n v then 0 else 22
theorem sv_len (x f : Nat → Int) (n v : Int) : (sv x f n v).length = 22 := by unfold sv; split <;> exact rc_len _ _
theorem sv_one (x f : Nat → Int) (n v : Int) : ∀ u ∈ sv x f n v, u.oneCell' = true := by unfold sv; split <;> exact rc_one _ _
theorem gf_wd (x f : Nat → Int) (k : Nat) (hk : k < 4) (hf : 0 ≤ f k ∧ f k ≤ 18446744073709551615) : gf (wd x f) k = f k := by
  unfold gf wd
  rw [if_neg (by omega), if_pos (by omega), if_neg (by omega), if_neg (by omega), show (19 + 2 * k - 18) / 2 = k by omega, show (18 + 2 * k - 18) / 2 = k by omega]
  omega
theorem gv_wd (g x f : Nat → Int) (hg : ∀ i, i < 26 → g i = wd x f i) (hf : ∀ k, k < 4 → 0 ≤ f k ∧ f k ≤ 18446744073709551615) : gv g = if x 17 < 32 then rc x f else rc (fun _ => 0) fun _ => 0 := by
  have e17 : g 17 = x 17 := by rw [hg 17 (by omega)]; rfl
  unfold gv
  rw [e17]
  split
  · refine rc_inj (fun k hk => ?_) fun k hk => ?_
    · rw [hg k (by omega)]; unfold wd; rw [if_pos hk]
    · rw [← gf_wd x f k hk (hf k hk)]
      unfold gf
      rw [hg _ (by omega), hg _ (by omega)]
  · rfl
theorem sv_of (x f : Nat → Int) (hf : ∀ k, k < 4 → 0 ≤ f k ∧ f k ≤ 18446744073709551615) (k : Nat) (hk : k < 26) (v : Int) (hv : 0 ≤ v ∧ v ≤ 4294967295) :
    gv (upd (wd x f) k v) = sv x f (k : Int) v ∧ cke (upd (wd x f) k v 17) = se x (k : Int) v := by
  have c : okw (k : Int) := ⟨by omega, by omega⟩
  have e := fun i hi => (wd_with x f k v i hk hi hf hv).symm
  have e17 : upd (wd x f) k v 17 = wx x k v 17 := by
    have := e 17 (by omega)
    unfold upd; rw [this]; rfl
  constructor
  · rw [gv_wd (upd (wd x f) k v) (wx x k v) (wf f k v) (fun i hi => by unfold upd; exact e i hi) (wf_bd f k v hk hf hv)]
    unfold sv
    by_cases h : wx x k v 17 < 32
    · rw [if_pos h, if_pos (show sok x (k : Int) v from ⟨c, h⟩)]; rfl
    · rw [if_neg h, if_neg (show ¬ sok x (k : Int) v from fun q => h q.2)]
  · rw [e17]; unfold cke se
    by_cases h : wx x k v 17 < 32
    · rw [if_pos h, if_pos (show sok x (k : Int) v from ⟨c, h⟩)]
    · rw [if_neg h, if_neg (show ¬ sok x (k : Int) v from fun q => h q.2)]
set_option maxHeartbeats 4000000 in
set_option maxRecDepth 100000 in
theorem set_any (x f : Nat → Int) (hx : ∀ k, k < 18 → 0 ≤ x k ∧ x k ≤ 4294967295) (hf : ∀ k, k < 4 → 0 ≤ f k ∧ f k ≤ 18446744073709551615) (n v : Int) (hv : 0 ≤ v ∧ v ≤ 4294967295) (w : World) :
    Calls Tryd.prog 14 #[.agg (rc x f).toArray, .int .i64 n, .int .u32 v] w fun e w' => e = .returned (.tuple #[.agg (sv x f n v).toArray, erN (se x n v)]) ∧ New w w' := by
  have BA : Box ((w.alloc (.cells (rc x f).toArray 29)).alloc (.cells (rc (fun _ => 0) fun _ => 0).toArray 29)) w.heap.size (rc x f).toArray 29 := (Box.here w _ _ _ rfl).alloc _
  have BR : Box ((w.alloc (.cells (rc x f).toArray 29)).alloc (.cells (rc (fun _ => 0) fun _ => 0).toArray 29)) (w.heap.size + 1) (rc (fun _ => 0) fun _ => 0).toArray 29 := Box.here _ _ _ _ (by simp)
  have nw : New w ((w.alloc (.cells (rc x f).toArray 29)).alloc (.cells (rc (fun _ => 0) fun _ => 0).toArray 29)) := ((New.refl w).alloc _ _).alloc _ _
  have wi := fun w => isword_any n w
  by_cases c : okw n
  · obtain ⟨k, hk, rfl⟩ : ∃ k : Nat, k < 26 ∧ n = (k : Int) := ⟨n.toNat, by unfold okw at c; omega, by unfold okw at c; omega⟩
    obtain ⟨o1, o2⟩ := sv_of x f hf k hk v hv
    have ga := fun w => gather_any (upd (wd x f) k v) (fun i hi => by
      unfold upd; split
      · exact hv
      · exact wd_bd x f i hi hx hf) w
    rw [o1, o2] at ga
    rw [decide_eq_true c] at wi
    have sp := fun w => spread_any x f hf w
    have hns := nl_set (k := .u32) (wd x f) k v hk
    have hS := sv_len x f (k : Int) v
    have hone := sv_one x f (k : Int) v
    generalize sv x f (k : Int) v = S at *
    generalize se x (k : Int) v = E at *
    have k0 : (0 : Int) ≤ (k : Int) := by omega
    have k1 : (k : Int) < 26 := by omega
    clear c hf hx o1 o2
    go_enter Tryd.func14, Tryd.ntmps14
    go_upto_region 1 with fail
    change Code.wp _ _ _ _ ((w.alloc (.cells (rc x f).toArray 29)).alloc (.cells (rc (fun _ => 0) fun _ => 0).toArray 29))
    generalize (w.alloc (.cells (rc x f).toArray 29)).alloc (.cells (rc (fun _ => 0) fun _ => 0).toArray 29) = W at *
    have HB := Lib.hid BA
    have HR := Lib.hid BR
    clear BA BR
    go_wp2_with (first
      | (go_at_call 21; (with_reducible refine (wi _).mono ?_); rintro e w' ⟨rfl, rfl⟩)
      | ((with_reducible refine at_load 29 ?_); refine wpList_load_box rfl 29 _ rfl w.heap.size rfl (rc x f) 29 _ HB.out Tryd.underlying29 rfl (by rw [rc_len]; exact ar_info) ?_)
      | (go_at_call 16; (with_reducible refine (sp _).mono ?_)))
    rintro e W2 ⟨rfl, n2⟩
    have HR2 := Lib.hid (HR.out.new n2)
    have n3 := New.trans nw n2
    have hs2 := HR2.out.lt
    have HZ := Lib.hid (Box.here W2 W2.heap.size (nl .u32 26 fun _ => 0).toArray 50 rfl)
    clear HB HR nw n2
    go_wp2_with ((with_reducible refine at_store 50 ?_); refine wpList_store_box rfl 50 _ _ rfl W2.heap.size (nl .u32 26 (wd x f)) (nl .u32 26 fun _ => 0) 50 rfl rfl HZ.out (by rw [nl_len, nl_len]) (by rw [nl_len]; exact aw_info) (nl_one _) ?_)
    intro W3 h3 f3
    have HR3 := Lib.hid ((HR2.out.alloc (.cells (nl .u32 26 fun _ => 0).toArray 50)).far f3 (by omega))
    have n4 : New w W3 := f3.new (n3.alloc _ _) (by have := n3.size; omega)
    have ck := h3.at (nl_at (wd x f) hk)
    have fr := h3.unfrozen k
    have hl3 := h3.lt
    have H3 := Lib.hid h3
    clear h3 f3 n3 HR2 HZ
    clear sp
    generalize W2.heap.size = b at *
    go_wp2_with (first
      | ((with_reducible refine at_load 50 ?_); refine wpList_load_box rfl 50 _ rfl b rfl (nl .u32 26 (upd (wd x f) k v)) 50 _ (by rw [← hns]; exact H3.out.setL k _) Tryd.underlying50 rfl (by rw [nl_len]; exact aw_info) ?_)
      | (go_at_call 19; (with_reducible refine (ga _).mono ?_)))
    rintro e W4 ⟨rfl, n5⟩
    have HR5 := Lib.hid ((HR3.out.other (p := ⟨b, k, none⟩) (by simp; omega) (.int .u32 v)).new n5)
    have n6 := New.trans (n4.setCell (p := ⟨b, k, none⟩) (by simp; omega) (.int .u32 v)) n5
    clear HR3 n4 n5 ck fr hl3 H3 ga
    go_wp2_with ((with_reducible refine at_store 29 ?_); refine wpList_store_box rfl 29 _ _ rfl (w.heap.size + 1) S (rc (fun _ => 0) (fun _ => 0)) 29 rfl rfl HR5.out ?hl ?hi ?h1 ?hr)
    case hl => rw [rc_len, hS]
    case hi => rw [hS]; exact ar_info
    case h1 => exact hone
    case hr =>
      intro w6 h6 f6
      have hr : (loadVar 29 ⟨w.heap.size + 1, 0, none⟩).run Tryd.prog w6 = .ok (.agg S.toArray) w6 := run_loadVar_mid w6 _ 0 _ _ _ h6.range Tryd.underlying29 rfl (by rw [hS]; exact ar_info)
      have nw6 : New w w6 := f6.new n6 (by omega)
      clear h6 f6 n6 hone hS
      go_wp2
      exact bodyPost_ret (v := .tuple #[.agg S.toArray, erN E]) (by simp [results, Tryd.results14, asAddr, hr]) rfl ⟨rfl, nw6⟩
  · have e1 := Lib.hid (show sv x f n v = rc (fun _ => 0) fun _ => 0 by unfold sv; rw [if_neg (show ¬ sok x n v from fun q => c q.1)])
    have e2 := Lib.hid (show se x n v = 22 by unfold se; rw [if_neg (show ¬ sok x n v from fun q => c q.1)])
    rw [decide_eq_false c] at wi
    clear c hf hx
    go_enter Tryd.func14, Tryd.ntmps14
    go_upto_region 1 with fail
    change Code.wp _ _ _ _ ((w.alloc (.cells (rc x f).toArray 29)).alloc (.cells (rc (fun _ => 0) fun _ => 0).toArray 29))
    generalize (w.alloc (.cells (rc x f).toArray 29)).alloc (.cells (rc (fun _ => 0) fun _ => 0).toArray 29) = W at *
    have HR := Lib.hid BR
    clear BA BR
    go_wp2_with (first
      | (go_at_call 21; (with_reducible refine (wi _).mono ?_); rintro e w' ⟨rfl, rfl⟩)
      | ((with_reducible refine at_store 29 ?_); refine wpList_store_box rfl 29 _ _ rfl (w.heap.size + 1) (rc (fun _ => 0) (fun _ => 0)) (rc (fun _ => 0) (fun _ => 0)) 29 rfl rfl HR.out rfl (by rw [rc_len]; exact ar_info) (rc_one _ _) ?_))
    intro w6 h6 f6
    have hr : (loadVar 29 ⟨w.heap.size + 1, 0, none⟩).run Tryd.prog w6 = .ok (.agg (rc (fun _ => 0) fun _ => 0).toArray) w6 := run_loadVar_mid w6 _ 0 _ _ _ h6.range Tryd.underlying29 rfl (by rw [rc_len]; exact ar_info)
    have nw6 : New w w6 := f6.new nw (by omega)
    clear h6 f6 nw
    go_wp2
    exact bodyPost_ret (v := .tuple #[.agg (rc (fun _ => 0) fun _ => 0).toArray, .iface 53 (.int .i64 22)]) (by simp [results, Tryd.results14, asAddr, hr]) rfl ⟨by rw [e1.out, e2.out]; rfl, nw6⟩
end Go.Proofs.YtbjpflomibcenaaDoor
