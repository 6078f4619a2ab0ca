/- What the package's Decode does: the registers of 104 bytes, or the error. -/
import Derived.Test.YtbjpflomibcenaaDoorRgE
import Derived.Test.YtbjpflomibcenaaDoorRgB
import Derived.Test.YtbjpflomibcenaaDoorWordJ
namespace Go.Proofs.YtbjpflomibcenaaDoor
open Go.RowKit Go.Joins
set_option linter.unusedVariables false
/-- a number of four bytes -/
def n4 (z : Nat → Int) (j : Nat) : Int := z (4 * j) + 256 * z (4 * j + 1) + 65536 * z (4 * j + 2) + 16777216 * z (4 * j + 3)
def nj (z : Nat → Int) (j i : Nat) : Int := if i < j then n4 z i else 0
theorem nj_next (z : Nat → Int) (j : Nat) (hj : j < 26) : (nl .u32 26 (nj z j)).set j (.int .u32 (n4 z j)) = nl .u32 26 (nj z (j + 1)) := by
  rw [nl_set _ _ _ hj]
  refine nl_ext fun i hi => ?_
  unfold upd nj
  by_cases h : i = j
  · subst h; rw [if_pos rfl, if_pos (by omega)]
  · rw [if_neg h]
    by_cases h2 : i < j
    · rw [if_pos h2, if_pos (by omega)]
    · rw [if_neg h2, if_neg (by omega)]
theorem n4_bd (z : Nat → Int) (hz : ∀ i, i < 104 → 0 ≤ z i ∧ z i ≤ 255) (j : Nat) (hj : j < 26) : 0 ≤ n4 z j ∧ n4 z j ≤ 4294967295 := by
  have h0 := hz (4 * j) (by omega)
  have h1 := hz (4 * j + 1) (by omega)
  have h2 := hz (4 * j + 2) (by omega)
  have h3 := hz (4 * j + 3) (by omega)
  unfold n4; omega
theorem gv_len (g : Nat → Int) : (gv g).length = 22 := by unfold gv; split <;> exact rc_len _ _
theorem gv_one (g : Nat → Int) : ∀ u ∈ gv g, u.oneCell' = true := by unfold gv; split <;> exact rc_one _ _
theorem gv_ext {g h : Nat → Int} (e : ∀ i, i < 26 → g i = h i) : gv g = gv h := by
  unfold gv
  rw [e 17 (by omega)]
  split
  · exact rc_inj (fun k hk => e k (by omega)) fun k hk => by unfold gf; rw [e _ (by omega), e _ (by omega)]
  · rfl
set_option maxHeartbeats 4000000 in
set_option maxRecDepth 100000 in
theorem decode_ok (b cap : Nat) (o : Nat) (z : Nat → Int) (hz : ∀ i, i < 104 → 0 ≤ z i ∧ z i ≤ 255) (w : World) (hc : ∀ i, i < 104 → w.cell? ⟨b, o + i, none⟩ = some (.int .u8 (z i))) (hcap : 104 ≤ cap) :
    Calls Tryd.prog 7 #[.slice (some ⟨b, o, none⟩) 104 cap] w fun e w' => e = .returned (.tuple #[.agg (gv (n4 z)).toArray, erN (cke (n4 z 17))]) ∧ New w w' := by
  have BR : Box (w.alloc (.cells (rc (fun _ => 0) fun _ => 0).toArray 29)) w.heap.size (rc (fun _ => 0) fun _ => 0).toArray 29 := Box.here w _ _ _ rfl
  have nw : New w (w.alloc (.cells (rc (fun _ => 0) fun _ => 0).toArray 29)) := (New.refl w).alloc _ _
  go_enter Tryd.func7, Tryd.ntmps7
  go_upto_region 3 with fail
  change Code.wp _ _ _ _ (w.alloc (.cells (rc (fun _ => 0) fun _ => 0).toArray 29))
  have hcW : ∀ i, i < 104 → (w.alloc (.cells (rc (fun _ => 0) fun _ => 0).toArray 29)).cell? ⟨b, o + i, none⟩ = some (.int .u8 (z i)) := fun i hi => nw.keeps (hc i hi)
  have hbW : b < w.heap.size := cell_lt (hc 0 (by omega))
  have hsz : (w.alloc (.cells (rc (fun _ => 0) fun _ => 0).toArray 29)).heap.size = w.heap.size + 1 := by simp
  generalize w.alloc (.cells (rc (fun _ => 0) fun _ => 0).toArray 29) = W at *
  have BA2 : Box (W.alloc (.cells (nl .u32 26 fun _ => 0).toArray 50)) (w.heap.size + 1) (nl .u32 26 fun _ => 0).toArray 50 := Box.here W _ _ _ hsz.symm
  have e0 : nl .u32 26 (fun _ => 0) = nl .u32 26 (nj z 0) := nl_ext fun i hi => by unfold nj; rw [if_neg (by omega)]
  have HA := Lib.hid (show Box (W.alloc (.cells (nl .u32 26 fun _ => 0).toArray 50)) (w.heap.size + 1) (nl .u32 26 (nj z 0)).toArray 50 by rw [← e0]; exact BA2)
  have HR := Lib.hid (BR.alloc (.cells (nl .u32 26 fun _ => 0).toArray 50))
  have HC := Lib.hid hcW
  have nw1 := nw
  have HZ := Lib.hid hz
  clear BR BA2 e0 hc hcW hz
  go_wp2
  have nw2 : New w (W.alloc (.cells (nl .u32 26 fun _ => 0).toArray 50)) := nw.alloc _ _
  have nWW : New W (W.alloc (.cells (nl .u32 26 fun _ => 0).toArray 50)) := (New.refl W).alloc _ _
  go_loopg [13] 26 (fun k i wr => ∃ j : Nat, j + k = 26 ∧ i = .int .i64 (j : Int) ∧ Box wr (w.heap.size + 1) (nl .u32 26 (nj z j)).toArray 50 ∧ Box wr w.heap.size (rc (fun _ => 0) fun _ => 0).toArray 29 ∧ New W wr)
  case atStart => exact ⟨0, rfl, rfl, HA.out, HR.out, nWW⟩
  case round =>
    obtain ⟨j, hj, rfl, hB, hR, hnx⟩ := hrel
    by_cases hlt : j < 26
    · have cc := fun i (hi : i < 104) => hnx.keeps (HC.out i hi)
      have d0 := cc (4 * j) (by omega)
      have d1 := cc (4 * j + 1) (by omega)
      have d2 := cc (4 * j + 2) (by omega)
      have d3 := cc (4 * j + 3) (by omega)
      have z0 := HZ.out (4 * j) (by omega)
      have z1 := HZ.out (4 * j + 1) (by omega)
      have z2 := HZ.out (4 * j + 2) (by omega)
      have z3 := HZ.out (4 * j + 3) (by omega)
      have ld := load_4 (z (4 * j)) (z (4 * j + 1)) (z (4 * j + 2)) (z (4 * j + 3)) ⟨b, o + 4 * j, none⟩ (cap - 4 * j) wr z0.1 z0.2 z1.1 z1.2 z2.1 z2.2 z3.1 z3.2 d0 d1 d2 d3
      have hn := Lib.hid (nj_next z j hlt)
      have hv := Lib.hid (show z (4 * j) + 256 * z (4 * j + 1) + 65536 * z (4 * j + 2) + 16777216 * z (4 * j + 3) = n4 z j from rfl)
      rw [hv.out] at ld
      have e1 : (⟨b, o + 4 * j, none⟩ : Addr) = ⟨b, o + j * 4, none⟩ := by rw [Nat.mul_comm]
      have ld2 : Calls Tryd.prog 18 #[.slice (some ⟨b, o + j * 4, none⟩) ((j + 1) * 4 - j * 4) (cap - j * 4)] wr fun e w' => e = .returned (.tuple #[.int .u32 (n4 z j), .nilIface]) ∧ wr = w' := by
        rw [show (j + 1) * 4 - j * 4 = 4 by omega, ← e1, show cap - j * 4 = cap - 4 * j by omega]; exact ld
      clear ld e1
      clear d0 d1 d2 d3 z0 z1 z2 z3 cc
      have cj := hB.at (nl_at (nj z j) hlt)
      have fr := hB.unfrozen j
      have hbl := hB.lt
      have j0 : (0 : Int) ≤ (j : Int) := by omega
      have j4 : (j : Int) < 26 := by omega
      have HX := Lib.hid hB
      have HR := Lib.hid hR
      have J := Lib.hid hj
      clear hB hR hj
      go_wp2_with (go_at_call 18; (with_reducible refine (ld2).mono ?_); rintro e w' ⟨rfl, rfl⟩)
      go_roundg (26 - (j + 1))
      case measure => have := J.out; omega
      case rel =>
        refine ⟨j + 1, by have := J.out; omega, by go_num, ?_, HR.out.other (by simp) _, hnx.setCell (by simp; omega) _⟩
        rw [← hn.out]; exact HX.out.setL j _
    · obtain rfl : j = 26 := by omega
      have ea : nl .u32 26 (nj z 26) = nl .u32 26 (n4 z) := nl_ext fun i hi => by unfold nj; rw [if_pos hi]
      rw [ea] at hB
      have ga := gather_any (n4 z) (fun i hi => n4_bd z HZ.out i hi) wr
      have hS := gv_len (n4 z)
      have hone := gv_one (n4 z)
      have n3 : New w wr := New.trans nw hnx
      generalize hgs : gv (n4 z) = S at ga hS hone
      generalize hge : cke (n4 z 17) = E at ga
      have GS := Lib.hid hgs
      have GE := Lib.hid hge
      clear hj hlt hnx HZ HA HC nw2 nWW nw1 hgs hge
      go_wp2_with (first
        | ((with_reducible refine at_load 50 ?_); refine wpList_load_box rfl 50 _ rfl (w.heap.size + 1) rfl (nl .u32 26 (n4 z)) 50 _ hB Tryd.underlying50 rfl (by rw [nl_len]; exact aw_info) ?_)
        | (go_at_call 19; (with_reducible refine ga.mono ?_)))
      rintro e w4 rfl n5
      have HR5 := Lib.hid (hR.new n5)
      have n6 := New.trans n3 n5
      clear hB hR n3 n5 ga HR
      go_wp2_with ((with_reducible refine at_store 29 ?_); refine wpList_store_box rfl 29 _ _ rfl w.heap.size S (rc (fun _ => 0) (fun _ => 0)) 29 rfl rfl HR5.out ?hl ?hi ?h1 ?hr)
      case hl => rw [rc_len, hS]
      case hi => rw [hS]; exact ar_info
      case h1 => exact hone
      case hr =>
        intro w6 h6 f6
        have hr : (loadVar 29 ⟨w.heap.size, 0, none⟩).run Tryd.prog w6 = .ok (.agg S.toArray) w6 := run_loadVar_mid w6 _ 0 _ _ _ h6.range Tryd.underlying29 rfl (by rw [hS]; exact ar_info)
        have nw6 : New w w6 := f6.new n6 (by omega)
        clear h6 f6 n6 hone hS
        go_wp2
        exact bodyPost_ret (v := .tuple #[.agg S.toArray, erN E]) (by simp [results, Tryd.results7, asAddr, hr]) rfl ⟨by rw [GS.out, GE.out], nw6⟩
set_option maxHeartbeats 1000000 in
set_option maxRecDepth 100000 in
theorem decode_no (a : Option Addr) (n cap : Nat) (hn : n ≠ 104) (hm : n ≤ maxLen) (w : World) :
    Calls Tryd.prog 7 #[.slice a n cap] w fun e w' => e = .returned (.tuple #[.agg (rc (fun _ => 0) fun _ => 0).toArray, .iface 53 (.int .i64 22)]) ∧ New w w' := by
  have BR : Box (w.alloc (.cells (rc (fun _ => 0) fun _ => 0).toArray 29)) w.heap.size (rc (fun _ => 0) fun _ => 0).toArray 29 := Box.here w _ _ _ rfl
  have nw : New w (w.alloc (.cells (rc (fun _ => 0) fun _ => 0).toArray 29)) := (New.refl w).alloc _ _
  have h1 : ((n : Int) != 104) = true := by simp; omega
  unfold maxLen at hm
  go_enter Tryd.func7, Tryd.ntmps7
  go_wp2_with ((with_reducible refine at_store 29 ?_); refine wpList_store_box rfl 29 _ _ rfl w.heap.size (rc (fun _ => 0) (fun _ => 0)) (rc (fun _ => 0) (fun _ => 0)) 29 rfl rfl BR rfl (by rw [rc_len]; exact ar_info) (rc_one _ _) ?_)
  intro w6 h6 f6
  have hr : (loadVar 29 ⟨w.heap.size, 0, none⟩).run Tryd.prog w6 = .ok (.agg (rc (fun _ => 0) fun _ => 0).toArray) w6 := run_loadVar_mid w6 _ 0 _ _ _ h6.range Tryd.underlying29 rfl (by rw [rc_len]; exact ar_info)
  have nw6 : New w w6 := f6.new nw (by omega)
  clear h6 f6 nw BR
  go_wp2
  exact bodyPost_ret (v := .tuple #[.agg (rc (fun _ => 0) fun _ => 0).toArray, .iface 53 (.int .i64 22)]) (by simp [results, Tryd.results7, asAddr, hr]) rfl ⟨rfl, nw6⟩
end Go.Proofs.YtbjpflomibcenaaDoor
