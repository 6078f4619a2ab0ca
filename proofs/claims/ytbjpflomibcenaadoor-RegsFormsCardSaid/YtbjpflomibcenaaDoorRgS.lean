/- What the package's spread does: registers laid out as their 26 words. -/
import Derived.Test.YtbjpflomibcenaaDoorRgL
import Derived.StillTailTactics
import Derived.Deep.LoopGhost
import Derived.Deep.QuietTactic
import Derived.BigQuiet
namespace Go.Proofs.YtbjpflomibcenaaDoor
open Go.RowKit Go.Joins
set_option linter.unusedVariables false
theorem u32_size : (Tryd.prog.info? 22).map (·.size) = some 1 := by kernel_rfl
theorem ar_info : (Tryd.prog.info? 29).map (·.size) = some 22 := by kernel_rfl
theorem rr_info : (Tryd.prog.info? 27).map (·.size) = some 22 := by kernel_rfl
theorem aw_info : (Tryd.prog.info? 50).map (·.size) = some 26 := by kernel_rfl
theorem Box.far {w w' : World} {b rb : Nat} {cs : Array Value} {t : TypeId} (h : Box w b cs t) (f : Far rb w w') (hb : b ≠ rb) : Box w' b cs t := by
  unfold Box; rw [f.block h.lt hb]; exact h
theorem Box.at {w : World} {b : Nat} {cs : List Value} {t : TypeId} (h : Box w b cs.toArray t) {i : Nat} {v : Value} (e : cs[i]? = some v) : w.cell? ⟨b, i, none⟩ = some v := by
  rw [h.cell, List.getElem?_toArray]; exact e
theorem Box.drew {w : World} {b : Nat} {cs : Array Value} {t : TypeId} (h : Box w b cs t) : Box w.drew b cs t := h
/-- the words that are R's alone -/
def wlo (x : Nat → Int) (i : Nat) : Int := if i < 16 then x i else 0
/-- the words, of which the first j floats' are laid down -/
def wj (x f : Nat → Int) (j i : Nat) : Int := if i < 18 + 2 * j then wd x f i else 0
theorem wj_zero (x f : Nat → Int) : ((nl .u32 26 (wlo x)).set 16 (.int .u32 (x 16))).set 17 (.int .u32 (x 17)) = nl .u32 26 (wj x f 0) := by
  rw [nl_set _ _ _ (by omega), nl_set _ _ _ (by omega)]
  refine nl_ext fun i hi => ?_
  unfold upd wlo wj
  by_cases h : i < 16
  · rw [if_neg (by omega), if_neg (by omega), if_pos h, if_pos (by omega)]; unfold wd; rw [if_pos (by omega)]
  · by_cases h2 : i < 18
    · rcases (by omega : i = 16 ∨ i = 17) with rfl | rfl <;> rfl
    · rw [if_neg (by omega), if_neg (by omega), if_neg h, if_neg (by omega)]
theorem wj_next (x f : Nat → Int) (j : Nat) (hj : j < 4) : ((nl .u32 26 (wj x f j)).set (18 + 2 * j) (.int .u32 (f j % 4294967296))).set (18 + 2 * j + 1) (.int .u32 (f j / 4294967296)) = nl .u32 26 (wj x f (j + 1)) := by
  rw [nl_set _ _ _ (by omega), nl_set _ _ _ (by omega)]
  refine nl_ext fun i hi => ?_
  unfold upd wj
  by_cases h : i = 18 + 2 * j + 1
  · subst h
    rw [if_pos rfl, if_pos (by omega)]; unfold wd
    rw [if_neg (by omega), if_pos (by omega), show (18 + 2 * j + 1 - 18) / 2 = j by omega]
  · rw [if_neg h]
    by_cases h2 : i = 18 + 2 * j
    · subst h2
      rw [if_pos rfl, if_pos (by omega)]; unfold wd
      rw [if_neg (by omega), if_neg (by omega), show (18 + 2 * j - 18) / 2 = j by omega]
    · rw [if_neg h2]
      by_cases h3 : i < 18 + 2 * j
      · rw [if_pos h3, if_pos (by omega)]
      · rw [if_neg h3, if_neg (by omega)]
theorem wj_all (x f : Nat → Int) : nl .u32 26 (wj x f 4) = nl .u32 26 (wd x f) := nl_ext fun i hi => by unfold wj; rw [if_pos (by omega)]
set_option maxHeartbeats 4000000 in
set_option maxRecDepth 100000 in
theorem spread_any (x f : Nat → Int) (hf : ∀ k, k < 4 → 0 ≤ f k ∧ f k ≤ 18446744073709551615) (w : World) :
    Calls Tryd.prog 16 #[.agg (rc x f).toArray] w fun e w' => e = .returned (.agg (nl .u32 26 (wd x f)).toArray) ∧ New w w' := by
  have hlen := rc_len x f
  go_enter Tryd.func16, Tryd.ntmps16
  go_wp2
  go_still_tail 3, (by kernel_rfl)
  change wpList _ _ _ _ _ (World.drew _)
  have BA : Box ((w.alloc (.cells (rc x f).toArray 29)).alloc (.cells (nl .u32 26 fun _ => 0).toArray 50)) w.heap.size (rc x f).toArray 29 := (Box.here w _ _ _ rfl).alloc _
  have BR : Box ((w.alloc (.cells (rc x f).toArray 29)).alloc (.cells (nl .u32 26 fun _ => 0).toArray 50)) (w.heap.size + 1) (nl .u32 26 fun _ => 0).toArray 50 := Box.here _ _ _ _ (by simp)
  have nw : New w ((w.alloc (.cells (rc x f).toArray 29)).alloc (.cells (nl .u32 26 fun _ => 0).toArray 50)) := ((New.refl w).alloc _ _).alloc _ _
  have hsz : ((w.alloc (.cells (rc x f).toArray 29)).alloc (.cells (nl .u32 26 fun _ => 0).toArray 50)).heap.size = w.heap.size + 2 := by simp
  change wpList _ _ _ _ _ (((w.alloc (.cells (rc x f).toArray 29)).alloc (.cells (nl .u32 26 fun _ => 0).toArray 50)).alloc (.cells (nl .u32 26 fun _ => 0).toArray 50)).drew
  generalize (w.alloc (.cells (rc x f).toArray 29)).alloc (.cells (nl .u32 26 fun _ => 0).toArray 50) = W at *
  have BA2 := (BA.alloc (.cells (nl .u32 26 fun _ => 0).toArray 50)).drew
  have BR2 := (BR.alloc (.cells (nl .u32 26 fun _ => 0).toArray 50)).drew
  have BW2 : Box (W.alloc (.cells (nl .u32 26 fun _ => 0).toArray 50)).drew (w.heap.size + 2) (nl .u32 26 fun _ => 0).toArray 50 := (Box.here W _ _ _ hsz.symm).drew
  have nw2 : New w (W.alloc (.cells (nl .u32 26 fun _ => 0).toArray 50)).drew := (nw.alloc _ _).drew
  generalize (W.alloc (.cells (nl .u32 26 fun _ => 0).toArray 50)).drew = W2 at *
  clear BA BR nw
  refine wpList_copy_far rfl _ _ _ _ rfl 22 Tryd.underlying60 u32_size _ _ _ _ _ _ rfl rfl (w.heap.size + 2) 0 (nl .u32 26 fun _ => 0) 50 BW2 (nl .u32 16 x) ?c2 ?c3 ?c4 (nl_one _) ?_
  case c2 => rw [nl_len]; rfl
  case c3 => exact fun _ => ⟨rfl, _, rfl, fun j v hv => by
    rw [← rc_words, List.getElem?_take] at hv
    have hj : j < 16 := by by_cases c : j < 16; exact c; rw [if_neg c] at hv; cases hv
    rw [if_pos hj] at hv
    have := BA2.cell j
    rw [List.getElem?_toArray, hv] at this
    rw [Addr.add_mid, Nat.zero_add]; exact this⟩
  case c4 => rw [nl_len, nl_len]; omega
  intro W3 h3 f3
  have B3 : Box W3 (w.heap.size + 2) (nl .u32 26 (wlo x)).toArray 50 := by
    have := h3.out
    rw [splice_nl _ _ (by omega)] at this
    have e : (nl .u32 26 fun i => if 0 ≤ i ∧ i < 0 + 16 then x (i - 0) else 0) = nl .u32 26 (wlo x) := nl_ext fun i _ => by
      unfold wlo; by_cases c : i < 16
      · rw [if_pos (by omega), if_pos c, Nat.sub_zero]
      · rw [if_neg (by omega), if_neg c]
    rw [e] at this; exact this
  have BA3 := BA2.far f3 (by omega)
  have BR3 := BR2.far f3 (by omega)
  have nw3 : New w W3 := f3.new nw2 (by omega)
  clear BA2 BR2 BW2 nw2 h3 f3
  have hs3 : w.heap.size + 2 < W3.heap.size := B3.lt
  have a16 := BA3.at (rc_x x f (i := 16) (by omega))
  have a17 := BA3.at (rc_x x f (i := 17) (by omega))
  have a18 := BA3.at (rc_f x f (k := 0) (by omega))
  have a19 := BA3.at (rc_f x f (k := 1) (by omega))
  have a20 := BA3.at (rc_f x f (k := 2) (by omega))
  have a21 := BA3.at (rc_f x f (k := 3) (by omega))
  have b16 := B3.at (nl_at (wlo x) (i := 16) (by omega))
  have b17 := B3.at (nl_at (wlo x) (i := 17) (by omega))
  have fr : ∀ i, W3.frozen? ⟨w.heap.size + 2, i, none⟩ = false := fun i => B3.unfrozen i
  have HB3 := Lib.hid B3
  have HBR := Lib.hid BR3
  have HBA := Lib.hid BA3
  have HF := Lib.hid hf
  clear B3 BR3 BA3 hf
  go_wp2
  have hfr : #[Value.int .u64 (f 0), .int .u64 (f 1), .int .u64 (f 2), .int .u64 (f 3)] = (nl .u64 4 f).toArray := rfl
  rw [hfr]
  have hB4 : Box ((W3.setCell ⟨w.heap.size + 1 + 1, 16, none⟩ (.int .u32 (x 16))).setCell ⟨w.heap.size + 1 + 1, 17, none⟩ (.int .u32 (x 17))) (w.heap.size + 2) (nl .u32 26 (wj x f 0)).toArray 50 := by
    rw [← wj_zero]; exact (HB3.out.setL 16 _).setL 17 _
  have hR4 : Box ((W3.setCell ⟨w.heap.size + 1 + 1, 16, none⟩ (.int .u32 (x 16))).setCell ⟨w.heap.size + 1 + 1, 17, none⟩ (.int .u32 (x 17))) (w.heap.size + 1) (nl .u32 26 fun _ => 0).toArray 50 := (HBR.out.other (by simp) _).other (by simp) _
  have nw4 : New w ((W3.setCell ⟨w.heap.size + 1 + 1, 16, none⟩ (.int .u32 (x 16))).setCell ⟨w.heap.size + 1 + 1, 17, none⟩ (.int .u32 (x 17))) := (nw3.setCell (by simp; omega) _).setCell (by simp; omega) _
  generalize (W3.setCell ⟨w.heap.size + 1 + 1, 16, none⟩ (.int .u32 (x 16))).setCell ⟨w.heap.size + 1 + 1, 17, none⟩ (.int .u32 (x 17)) = W4 at *
  have H4 := Lib.hid hB4
  have HR4 := Lib.hid hR4
  clear hB4 hR4 HB3 HBR HBA a16 a17 a18 a19 a20 a21 b16 b17 fr hs3 hlen nw3 W3
  go_loopg [18] 4 (fun k i wr => ∃ j : Nat, j + k = 4 ∧ i = .int .i64 (j : Int) ∧ Box wr (w.heap.size + 2) (nl .u32 26 (wj x f j)).toArray 50 ∧ Box wr (w.heap.size + 1) (nl .u32 26 fun _ => 0).toArray 50 ∧ New w wr)
  case atStart => exact ⟨0, rfl, rfl, H4.out, HR4.out, nw4⟩
  case round =>
    obtain ⟨j, hj, rfl, hB, hR, hnx⟩ := hrel
    by_cases hlt : j < 4
    · have q := HF.out j hlt
      obtain ⟨q0, q1⟩ := q
      have i0 : ∀ w : World, (Instr.index 25 (.agg (nl .u64 4 f).toArray) (.int .i64 (j : Int))).run Tryd.prog w = .ok (.int .u64 (f j)) w := fun w => run_index_cells w _ 24 4 _ _ .u64 j _ Tryd.underlying25 hlt (by kernel_rfl) Tryd.underlying24 (by rw [List.getElem?_toArray]; exact nl_at f hlt)
      have c0 := hB.at (nl_at (wj x f j) (i := 18 + 2 * j) (by omega))
      have c1 := hB.at (nl_at (wj x f j) (i := 18 + 2 * j + 1) (by omega))
      have fr : ∀ i, wr.frozen? ⟨w.heap.size + 2, i, none⟩ = false := fun i => hB.unfrozen i
      have hl2 := hB.lt
      have j0 : (0 : Int) ≤ (j : Int) := by omega
      have j4 : (j : Int) < 4 := by omega
      have HB := Lib.hid hB
      have HR := Lib.hid hR
      have J := Lib.hid hj
      clear hB hR hj
      go_wp2
      go_roundg (4 - (j + 1))
      case measure => have := J.out; omega
      case rel =>
        refine ⟨j + 1, by have := J.out; omega, by go_num, ?_, (HR.out.other (by simp) _).other (by simp) _, (hnx.setCell (by simp; omega) _).setCell (by simp; omega) _⟩
        rw [← wj_next x f j hlt]; exact (HB.out.setL (18 + 2 * j) _).setL (18 + 2 * j + 1) _
    · obtain rfl : j = 4 := by omega
      rw [wj_all] at hB
      clear hj hlt HR4 H4
      go_wp2_with (first
        | ((with_reducible refine at_load 50 ?_); refine wpList_load_box rfl 50 _ rfl (w.heap.size + 2) rfl (nl .u32 26 (wd x f)) 50 _ hB Tryd.underlying50 rfl ?hi ?hr)
        | ((with_reducible refine at_store 50 ?_); refine wpList_store_box rfl 50 _ _ rfl (w.heap.size + 1) (nl .u32 26 (wd x f)) (nl .u32 26 fun _ => 0) 50 rfl rfl hR ?hl2 ?hi2 (nl_one _) ?hr2))
      case hi => rw [nl_len]; exact aw_info
      case hl2 => rw [nl_len, nl_len]
      case hi2 => rw [nl_len]; exact aw_info
      case hr2 =>
        intro w' hB' hF
        have hr : (loadVar 50 ⟨w.heap.size + 1, 0, none⟩).run Tryd.prog w' = .ok (.agg (nl .u32 26 (wd x f)).toArray) w' := run_loadVar_mid w' _ 0 _ _ _ hB'.range Tryd.underlying50 rfl (by rw [nl_len]; exact aw_info)
        have nw : New w w' := hF.new hnx (by omega)
        clear hB hR hB' hF hnx
        go_wp2
        exact bodyPost_ret (v := .agg (nl .u32 26 (wd x f)).toArray) (by simp [results, Tryd.results16, asAddr, hr]) rfl ⟨rfl, nw⟩
end Go.Proofs.YtbjpflomibcenaaDoor
