/- What the document's own Decode makes of bytes: the registers, or the error. -/
import Derived.Test.YtbjpflomibcenaaDoorRgW
import Derived.Test.YtbjpflomibcenaaDoorRgD
namespace Go.Proofs.YtbjpflomibcenaaDoor
open Go.RowKit Go.Joins
set_option linter.unusedVariables false
/-- registers of which the first j words are laid down -/
def Laying (z : Nat → Int) (j : Nat) (x f : Nat → Int) : Prop :=
  (∀ k, k < 18 → 0 ≤ x k ∧ x k ≤ 4294967295) ∧ (∀ k, k < 4 → 0 ≤ f k ∧ f k ≤ 18446744073709551615) ∧ ∀ i, i < 26 → wd x f i = if i < j then n4 z i else 0
theorem laying_zero (z : Nat → Int) : Laying z 0 (fun _ => 0) fun _ => 0 :=
  ⟨fun _ _ => (show (0 : Int) ≤ 0 ∧ (0 : Int) ≤ 4294967295 by omega), fun _ _ => (show (0 : Int) ≤ 0 ∧ (0 : Int) ≤ 18446744073709551615 by omega), fun i hi => by
    rw [if_neg (by omega)]; unfold wd
    by_cases h : i < 18
    · rw [if_pos h]
    · rw [if_neg h]; by_cases h2 : i % 2 = 1
      · rw [if_pos h2]; rfl
      · rw [if_neg h2]; rfl⟩
theorem laying_next {z : Nat → Int} {j : Nat} {x f : Nat → Int} (h : Laying z j x f) (hj : j < 26) (hv : 0 ≤ n4 z j ∧ n4 z j ≤ 4294967295) : Laying z (j + 1) (wx x j (n4 z j)) (wf f j (n4 z j)) :=
  ⟨wx_bd x j _ h.1 hv, wf_bd f j _ hj h.2.1 hv, fun i hi => by
    rw [wd_with x f j _ i hj hi h.2.1 hv]
    by_cases c : i = j
    · subst c; rw [if_pos rfl, if_pos (by omega)]
    · rw [if_neg c, h.2.2 i hi]
      by_cases d : i < j
      · rw [if_pos d, if_pos (by omega)]
      · rw [if_neg d, if_neg (by omega)]⟩
theorem laying_all {z : Nat → Int} {x f : Nat → Int} (h : Laying z 26 x f) : gv (n4 z) = (if x 17 < 32 then rc x f else rc (fun _ => 0) fun _ => 0) ∧ cke (n4 z 17) = (if x 17 < 32 then 0 else 22) := by
  have e : ∀ i, i < 26 → n4 z i = wd x f i := fun i hi => by rw [h.2.2 i hi, if_pos hi]
  refine ⟨gv_wd _ x f e h.2.1, ?_⟩
  rw [e 17 (by omega)]; rfl
set_option maxHeartbeats 4000000 in
set_option maxRecDepth 100000 in
theorem rdecode_ok (b cap : Nat) (o : Nat) (z : Nat → Int) (hz : ∀ i, i < 104 → 0 ≤ z i ∧ z i ≤ 255) (w : World) (hc : ∀ i, i < 104 → w.cell? ⟨b, o + i, none⟩ = some (.int .u8 (z i))) (hcap : 104 ≤ cap) :
    Calls Tryd.prog 8 #[.slice (some ⟨b, o, none⟩) 104 cap] w fun e w' => e = .returned (.tuple #[.agg (gv (n4 z)).toArray, .int .i64 (cke (n4 z 17))]) ∧ New w w' := by
  have BR : Box (w.alloc (.cells (rc (fun _ => 0) fun _ => 0).toArray 27)) w.heap.size (rc (fun _ => 0) fun _ => 0).toArray 27 := Box.here w _ _ _ rfl
  have nw : New w (w.alloc (.cells (rc (fun _ => 0) fun _ => 0).toArray 27)) := (New.refl w).alloc _ _
  go_enter Tryd.func8, Tryd.ntmps8
  go_upto_region 3 with fail
  change Code.wp _ _ _ _ (w.alloc (.cells (rc (fun _ => 0) fun _ => 0).toArray 27))
  have hsz : (w.alloc (.cells (rc (fun _ => 0) fun _ => 0).toArray 27)).heap.size = w.heap.size + 1 := by simp
  have hbW : b < w.heap.size := cell_lt (hc 0 (by omega))
  generalize w.alloc (.cells (rc (fun _ => 0) fun _ => 0).toArray 27) = W at *
  have HBR := Lib.hid BR
  have HC := Lib.hid hc
  have HZ := Lib.hid hz
  clear BR hc hz
  go_wp2_with ((with_reducible refine at_store 27 ?_); refine wpList_store_box rfl 27 _ _ rfl (w.heap.size + 1) (rc (fun _ => 0) (fun _ => 0)) (rc (fun _ => 0) (fun _ => 0)) 27 rfl rfl (Box.here W _ _ _ hsz.symm) rfl (by rw [rc_len]; exact rr_info) (rc_one _ _) ?_)
  intro W2 B2 f2
  have n2 : New W W2 := f2.new ((New.refl W).alloc _ _) (by omega)
  have HB2 := Lib.hid B2
  clear B2 f2
  go_wp2
  go_loopg [5] 26 (fun k i wr => ∃ j : Nat, ∃ x f, j + k = 26 ∧ i = .int .i64 (j : Int) ∧ Laying z j x f ∧ Box wr (w.heap.size + 1) (rc x f).toArray 27 ∧ Box wr w.heap.size (rc (fun _ => 0) fun _ => 0).toArray 27 ∧ New w wr)
  case atStart => exact ⟨0, _, _, rfl, rfl, laying_zero z, HB2.out, HBR.out.new n2, nw.trans n2⟩
  case round =>
    obtain ⟨j, x, f, hj, rfl, hL, hB, hR, hnx⟩ := hrel
    by_cases hlt : j < 26
    · have cc := fun i (hi : i < 104) => hnx.keeps (HC.out i hi)
      have d0 := cc (4 * j) (by omega)
      have d1 := cc (4 * j + 1) (by omega)
      have d2 := cc (4 * j + 2) (by omega)
      have d3 := cc (4 * j + 3) (by omega)
      obtain ⟨z0, z0'⟩ := HZ.out (4 * j) (by omega)
      obtain ⟨z1, z1'⟩ := HZ.out (4 * j + 1) (by omega)
      obtain ⟨z2, z2'⟩ := HZ.out (4 * j + 2) (by omega)
      obtain ⟨z3, z3'⟩ := HZ.out (4 * j + 3) (by omega)
      have hn := n4_bd z HZ.out j hlt
      have rw1 : ∀ v, v = n4 z j → ∀ w, Calls Tryd.prog 20 #[.agg (rc x f).toArray, .int .i64 (j : Int), .int .u32 v] w fun e w' => e = .returned (.agg (rc (wx x j (n4 z j)) (wf f j (n4 z j))).toArray) ∧ New w w' := fun v e w => by
        rw [e]; exact rwith_any x f hL.2.1 j hlt (n4 z j) hn w
      have L2 := Lib.hid (laying_next hL hlt hn)
      have hv : n4 z j = z (4 * j) + 256 * z (4 * j + 1) + 65536 * z (4 * j + 2) + 16777216 * z (4 * j + 3) := rfl
      generalize z (4 * j) = y0 at *
      generalize z (4 * j + 1) = y1 at *
      generalize z (4 * j + 2) = y2 at *
      generalize z (4 * j + 3) = y3 at *
      have j0 : (0 : Int) ≤ (j : Int) := by omega
      have j26 : (j : Int) < 26 := by omega
      have J := Lib.hid hj
      have HV := Lib.hid hv
      have HB := Lib.hid hB
      have HR := Lib.hid hR
      clear hj hv cc hB hR hL
      go_wp2
      refine wp_loop_rounds 5 ?_
      repeat any_goals (rw [rounds_succ]; go_wp2_with ((with_reducible refine at_load 27 ?_); refine wpList_load_box rfl 27 _ rfl (w.heap.size + 1) rfl (rc x f) 27 _ (HB.out) Tryd.underlying27 rfl (by rw [rc_len]; exact rr_info) ?_))
      refine (rw1 _ (by have := HV.out; omega) _).mono ?_
      rintro e W3 ⟨rfl, n3⟩
      have B3 := HB.out.new n3
      have R3 := Lib.hid (HR.out.new n3)
      have N3 := hnx.trans n3
      generalize wx x j (n4 z j) = x' at *
      generalize wf f j (n4 z j) = f' at *
      clear HB HR hnx n3 rw1 d0 d1 d2 d3
      go_wp2_with ((with_reducible refine at_store 27 ?_); refine wpList_store_box rfl 27 _ _ rfl (w.heap.size + 1) (rc x' f') (rc x f) 27 rfl rfl B3 (by rw [rc_len, rc_len]) (by rw [rc_len]; exact rr_info) (rc_one _ _) ?_)
      intro W4 B4 f4
      have R4 := Lib.hid (R3.out.far f4 (by omega))
      have N4 : New w W4 := f4.new N3 (by omega)
      have H4 := Lib.hid B4
      clear B4 f4 N3 R3 B3
      go_wp2
      go_roundg (26 - (j + 1))
      case measure => have := J.out; omega
      case rel => exact ⟨j + 1, x', f', by have := J.out; omega, by go_num, L2.out, H4.out, R4.out, N4⟩
    · obtain rfl : j = 26 := by omega
      obtain ⟨g1, g2⟩ := laying_all hL
      have x17 := (hL.1 17 (by omega)).1
      have c17 := hB.at (rc_x x f (i := 17) (by omega))
      have G1 := Lib.hid g1
      have G2 := Lib.hid g2
      clear g1 g2 hL hj hlt HB2 HC HZ HBR
      by_cases h : x 17 < 32
      · have h' : ¬ 31 < x 17 := by omega
        go_wp2_with (first | ((with_reducible refine at_load 27 ?_); refine wpList_load_box rfl 27 _ rfl (w.heap.size + 1) rfl (rc x f) 27 _ (hB) Tryd.underlying27 rfl (by rw [rc_len]; exact rr_info) ?_) | ((with_reducible refine at_store 27 ?_); refine wpList_store_box rfl 27 _ _ rfl w.heap.size (rc x f) (rc (fun _ => 0) (fun _ => 0)) 27 rfl rfl hR (by rw [rc_len, rc_len]) (by rw [rc_len]; exact rr_info) (rc_one _ _) ?_))
        intro w6 h6 f6
        have hr : (loadVar 27 ⟨w.heap.size, 0, none⟩).run Tryd.prog w6 = .ok (.agg (rc x f).toArray) w6 := run_loadVar_mid w6 _ 0 _ _ _ h6.range Tryd.underlying27 rfl (by rw [rc_len]; exact rr_info)
        have nw6 : New w w6 := f6.new hnx (by omega)
        clear h6 f6 hnx hB hR c17
        have HH := Lib.hid h
        clear h h'
        go_wp2
        exact bodyPost_ret (v := .tuple #[.agg (rc x f).toArray, .int .i64 0]) (by simp [results, Tryd.results8, asAddr, hr]) rfl ⟨by rw [G1.out, G2.out, if_pos HH.out, if_pos HH.out], nw6⟩
      · have h' : 31 < x 17 := by omega
        go_wp2_with ((with_reducible refine at_store 27 ?_); refine wpList_store_box rfl 27 _ _ rfl w.heap.size (rc (fun _ => 0) (fun _ => 0)) (rc (fun _ => 0) (fun _ => 0)) 27 rfl rfl hR (by rw [rc_len]) (by rw [rc_len]; exact rr_info) (rc_one _ _) ?_)
        intro w6 h6 f6
        have hr : (loadVar 27 ⟨w.heap.size, 0, none⟩).run Tryd.prog w6 = .ok (.agg (rc (fun _ => 0) fun _ => 0).toArray) w6 := run_loadVar_mid w6 _ 0 _ _ _ h6.range Tryd.underlying27 rfl (by rw [rc_len]; exact rr_info)
        have nw6 : New w w6 := f6.new hnx (by omega)
        clear h6 f6 hnx hB hR c17
        have HH := Lib.hid h
        clear h h'
        go_wp2
        exact bodyPost_ret (v := .tuple #[.agg (rc (fun _ => 0) fun _ => 0).toArray, .int .i64 22]) (by simp [results, Tryd.results8, asAddr, hr]) rfl ⟨by rw [G1.out, G2.out, if_neg (Int.not_lt.2 HH.out), if_neg (Int.not_lt.2 HH.out)], nw6⟩
set_option maxHeartbeats 1000000 in
set_option maxRecDepth 100000 in
theorem rdecode_no (a : Option Addr) (n cap : Nat) (hn : n ≠ 104) (hm : n ≤ maxLen) (w : World) :
    Calls Tryd.prog 8 #[.slice a n cap] w fun e w' => e = .returned (.tuple #[.agg (rc (fun _ => 0) fun _ => 0).toArray, .int .i64 22]) ∧ New w w' := by
  have BR : Box (w.alloc (.cells (rc (fun _ => 0) fun _ => 0).toArray 27)) w.heap.size (rc (fun _ => 0) fun _ => 0).toArray 27 := Box.here w _ _ _ rfl
  have nw : New w (w.alloc (.cells (rc (fun _ => 0) fun _ => 0).toArray 27)) := (New.refl w).alloc _ _
  have h1 : ((n : Int) != 104) = true := by simp; omega
  unfold maxLen at hm
  go_enter Tryd.func8, Tryd.ntmps8
  go_wp2_with ((with_reducible refine at_store 27 ?_); refine wpList_store_box rfl 27 _ _ rfl w.heap.size (rc (fun _ => 0) (fun _ => 0)) (rc (fun _ => 0) (fun _ => 0)) 27 rfl rfl BR rfl (by rw [rc_len]; exact rr_info) (rc_one _ _) ?_)
  intro w6 h6 f6
  have hr : (loadVar 27 ⟨w.heap.size, 0, none⟩).run Tryd.prog w6 = .ok (.agg (rc (fun _ => 0) fun _ => 0).toArray) w6 := run_loadVar_mid w6 _ 0 _ _ _ h6.range Tryd.underlying27 rfl (by rw [rc_len]; exact rr_info)
  have nw6 : New w w6 := f6.new nw (by omega)
  clear h6 f6 nw BR
  go_wp2
  exact bodyPost_ret (v := .tuple #[.agg (rc (fun _ => 0) fun _ => 0).toArray, .int .i64 22]) (by simp [results, Tryd.results8, asAddr, hr]) rfl ⟨rfl, nw6⟩
end Go.Proofs.YtbjpflomibcenaaDoor
