/- What the package's Encode does: registers as 104 bytes, or the error. -/
import Derived.Test.YtbjpflomibcenaaDoorRgG
import Derived.Test.YtbjpflomibcenaaDoorWordC
namespace Go.Proofs.YtbjpflomibcenaaDoor
open Go.RowKit Go.Joins
set_option linter.unusedVariables false
/-- a byte of a word -/
def by4 (v : Int) (k : Nat) : Int := if k = 0 then v % 256 else if k = 1 then v / 256 % 256 else if k = 2 then v / 65536 % 256 else v / 16777216
/-- a byte of registers -/
def bt (g : Nat → Int) (i : Nat) : Int := by4 (g (i / 4)) (i % 4)
/-- the bytes of the first j words -/
def bj (g : Nat → Int) (j i : Nat) : Int := if i < 4 * j then bt g i else 0
theorem bj_next (g : Nat → Int) (j : Nat) (hj : j < 26) : splice (nl .u8 104 (bj g j)) (4 * j) (nl .u8 4 (by4 (g j))) = nl .u8 104 (bj g (j + 1)) := by
  rw [splice_nl _ _ (by omega)]
  refine nl_ext fun i hi => ?_
  unfold bj
  by_cases c : 4 * j ≤ i ∧ i < 4 * j + 4
  · rw [if_pos c, if_pos (by omega)]; unfold bt
    rw [show i / 4 = j by omega, show i % 4 = i - 4 * j by omega]
  · rw [if_neg c]
    by_cases d : i < 4 * j
    · rw [if_pos d, if_pos (by omega)]
    · rw [if_neg d, if_neg (by omega)]
theorem bj_all (g : Nat → Int) : nl .u8 104 (bj g 26) = nl .u8 104 (bt g) := nl_ext fun i hi => by unfold bj; rw [if_pos (by omega)]
theorem bj_zero (g : Nat → Int) : nl .u8 104 (fun _ => 0) = nl .u8 104 (bj g 0) := nl_ext fun i hi => by unfold bj; rw [if_neg (by omega)]
theorem by4_bd {v : Int} (h : 0 ≤ v ∧ v ≤ 4294967295) (k : Nat) : 0 ≤ by4 v k ∧ by4 v k ≤ 255 := by
  unfold by4; split
  · omega
  · split
    · omega
    · split <;> omega
theorem u8_one : ∃ i, Tryd.prog.info? 5 = some i ∧ i.size = 1 := by
  have h : (Tryd.prog.info? 5).map (·.size) = some 1 := by kernel_rfl
  cases hq : Tryd.prog.info? 5 with
  | none => simp [hq] at h
  | some i => exact ⟨i, rfl, by simpa [hq] using h⟩
/-- what Encode answers where registers are valid -/
def Told (x f : Nat → Int) (w : World) (e : Ending) (w' : World) : Prop := ∃ b, e = .returned (.tuple #[.slice (some ⟨b, 0, none⟩) 104 104, .nilIface]) ∧ Box w' b (nl .u8 104 (bt (wd x f))).toArray 5 ∧ w.heap.size ≤ b ∧ New w w'
set_option maxHeartbeats 4000000 in
set_option maxRecDepth 100000 in
theorem encode_ok (x f : Nat → Int) (hx : ∀ k, k < 18 → 0 ≤ x k ∧ x k ≤ 4294967295) (hf : ∀ k, k < 4 → 0 ≤ f k ∧ f k ≤ 18446744073709551615) (h17 : x 17 < 32) (w : World) :
    Calls Tryd.prog 5 #[.agg (rc x f).toArray] w (Told x f w) := by
  have BA : Box (w.alloc (.cells (rc x f).toArray 29)) w.heap.size (rc x f).toArray 29 := Box.here w _ _ _ rfl
  have nw : New w (w.alloc (.cells (rc x f).toArray 29)) := (New.refl w).alloc _ _
  have ck : ∀ w, Calls Tryd.prog 11 #[.agg (rc x f).toArray] w fun e w' => e = .returned .nilIface ∧ New w w' := fun w => by
    have := check_any x f w (hx 17 (by omega)).1
    unfold cke at this; rw [if_pos h17] at this; exact this
  have sp := fun w => spread_any x f hf w
  have hb := fun i (hi : i < 26) => wd_bd x f i hi hx hf
  have hmk : ∀ w : World, (Instr.makeSlice 28 (.int .i64 0) (.int .i64 104)).run Tryd.prog w = .ok (.slice (some ⟨w.heap.size, 0, none⟩) 0 104) (w.alloc (.cells (nl .u8 104 fun _ => 0).toArray 5)) := fun _ => by kernel_rfl
  obtain ⟨ti, hti, hts⟩ := u8_one
  have HTI := Lib.hid hti
  have HB := Lib.hid hb
  clear hx hf hti hb
  go_enter Tryd.func5, Tryd.ntmps5
  go_upto_region 1 with fail
  generalize w.alloc (.cells (rc x f).toArray 29) = W at *
  go_wp2_with (first
    | ((with_reducible refine at_load 29 ?_); refine wpList_load_box rfl 29 _ rfl w.heap.size rfl (rc x f) 29 _ BA Tryd.underlying29 rfl (by rw [rc_len]; exact ar_info) ?_)
    | (go_at_call 11; (with_reducible refine (ck _).mono ?_)))
  rintro e W2 ⟨rfl, n2⟩
  have BA2 := Lib.hid (BA.new n2)
  have n3 := New.trans nw n2
  clear BA nw n2 ck
  go_wp2_with (first
    | ((with_reducible refine at_load 29 ?_); refine wpList_load_box rfl 29 _ rfl w.heap.size rfl (rc x f) 29 _ (BA2.out.alloc _) Tryd.underlying29 rfl (by rw [rc_len]; exact ar_info) ?_)
    | (go_at_call 16; (with_reducible refine (sp _).mono ?_)))
  rintro e W3 ⟨rfl, n4⟩
  have B5 : Box W3 W2.heap.size (nl .u8 104 fun _ => 0).toArray 5 := (Box.here W2 _ _ _ rfl).new n4
  rw [bj_zero (wd x f)] at B5
  have n5 : New w W3 := New.trans (n3.alloc _ _) n4
  have hs2 := n3.size
  have H5 := Lib.hid B5
  generalize W2.heap.size = b at *
  clear B5 n3 n4 BA2 sp hmk
  generalize hg : wd x f = g at *
  have HG := Lib.hid hg
  clear hg
  go_wp2
  go_loopg [5, 18] 26 (fun k s i wr => ∃ j : Nat, j + k = 26 ∧ i = .int .i64 (j : Int) ∧ s = .slice (some ⟨b, 0, none⟩) (4 * j) 104 ∧ Box wr b (nl .u8 104 (bj g j)).toArray 5 ∧ New w wr)
  case atStart => exact ⟨0, rfl, rfl, rfl, H5.out, n5⟩
  case round =>
    obtain ⟨j, hj, rfl, rfl, hB, hnx⟩ := hrel
    by_cases hlt : j < 26
    · have i0 : ∀ w : World, (Instr.index 50 (.agg (nl .u32 26 g).toArray) (.int .i64 (j : Int))).run Tryd.prog w = .ok (.int .u32 (g j)) w := fun w => run_index_cells w _ 22 26 _ _ .u32 j _ Tryd.underlying50 hlt (by kernel_rfl) Tryd.underlying22 (by rw [List.getElem?_toArray]; exact nl_at _ hlt)
      obtain ⟨v0, v1⟩ := HB.out j hlt
      have st := fun w => store4 (g j) w v0 v1
      have hn := Lib.hid (bj_next g j hlt)
      generalize g j = v at *
      have j0 : (0 : Int) ≤ (j : Int) := by omega
      have j4 : (j : Int) < 26 := by omega
      have HX := Lib.hid hB
      have J := Lib.hid hj
      have hbl := hB.lt
      clear hB hj
      have hq : (#[.int .u8 (v % 256), .int .u8 (v / 256 % 256), .int .u8 (v / 65536 % 256), .int .u8 (v / 16777216)] : Array Value) = (nl .u8 4 (by4 v)).toArray := rfl
      rw [hq] at st
      clear hq
      have HN := Lib.hid (Box.here wr wr.heap.size (nl .u8 4 (by4 v)).toArray 5 rfl)
      go_wp2_with (first
        | (go_at_call 17; (with_reducible refine (st _).mono ?_); rintro e w' ⟨rfl, rfl⟩)
        | ((with_reducible refine at_slot 31 ?_); refine wpList_append_box rfl _ _ 28 rfl 5 ti Tryd.underlying28 HTI.out hts b (4 * j) 104 rfl ⟨wr.heap.size, 0, none⟩ 4 4 rfl (nl .u8 104 (bj g j)) (nl .u8 4 (by4 v)) 5 (HX.out.alloc _) (nl_len _) ?hnews (nl_one _) ?r1 ?r2 ?hr))
      case hnews =>
        intro i u hu
        rw [Addr.add_mid, Nat.zero_add]; exact HN.out.at hu
      case r1 => omega
      case r2 => rw [nl_len]; omega
      case hr =>
        intro w5 h5 f5
        rw [hn.out] at h5
        have n6 : New w w5 := f5.new (hnx.alloc _ _) (by omega)
        have H5' := Lib.hid h5
        clear h5 f5 hnx HN st i0 hbl
        go_wp2
        go_roundg (26 - (j + 1))
        case measure => have := J.out; omega
        case rel => exact ⟨j + 1, by have := J.out; omega, by go_num, by rw [show 4 * (j + 1) = 4 * j + 4 by omega], H5'.out, n6⟩
    · obtain rfl : j = 26 := by omega
      rw [bj_all] at hB
      clear hj hlt H5 HB
      have H6 := Lib.hid hB
      clear hB
      go_wp2
      go_ret2
      exact ⟨b, rfl, by rw [HG.out]; exact H6.out, hs2, hnx⟩
set_option maxHeartbeats 1000000 in
set_option maxRecDepth 100000 in
theorem encode_no (x f : Nat → Int) (hx : ∀ k, k < 18 → 0 ≤ x k ∧ x k ≤ 4294967295) (h17 : ¬ x 17 < 32) (w : World) :
    Calls Tryd.prog 5 #[.agg (rc x f).toArray] w fun e w' => e = .returned (.tuple #[.slice none 0 0, .iface 53 (.int .i64 22)]) ∧ New w w' := by
  have BA : Box (w.alloc (.cells (rc x f).toArray 29)) w.heap.size (rc x f).toArray 29 := Box.here w _ _ _ rfl
  have nw : New w (w.alloc (.cells (rc x f).toArray 29)) := (New.refl w).alloc _ _
  have ck : ∀ w, Calls Tryd.prog 11 #[.agg (rc x f).toArray] w fun e w' => e = .returned (.iface 53 (.int .i64 22)) ∧ New w w' := fun w => by
    have := check_any x f w (hx 17 (by omega)).1
    unfold cke at this; rw [if_neg h17] at this; exact this
  clear hx h17
  go_enter Tryd.func5, Tryd.ntmps5
  go_upto_region 1 with fail
  generalize w.alloc (.cells (rc x f).toArray 29) = W at *
  go_wp2_with (first
    | ((with_reducible refine at_load 29 ?_); refine wpList_load_box rfl 29 _ rfl w.heap.size rfl (rc x f) 29 _ BA Tryd.underlying29 rfl (by rw [rc_len]; exact ar_info) ?_)
    | (go_at_call 11; (with_reducible refine (ck _).mono ?_); rintro e w' ⟨rfl, n2⟩))
  go_ret2
  exact ⟨rfl, New.trans nw n2⟩
end Go.Proofs.YtbjpflomibcenaaDoor
