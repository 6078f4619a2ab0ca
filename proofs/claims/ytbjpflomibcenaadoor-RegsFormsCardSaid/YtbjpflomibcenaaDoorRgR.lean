/- What the document's own Encode makes of registers: their bytes in a slice of its own, or the error. -/
import Derived.Test.YtbjpflomibcenaaDoorRgW
import Derived.Test.YtbjpflomibcenaaDoorRgE
import Derived.Test.YtbjpflomibcenaaDoorOwnN
namespace Go.Proofs.YtbjpflomibcenaaDoor
open Go.RowKit Go.Joins
set_option linter.unusedVariables false
/-- the first n bytes -/
def btl (g : Nat → Int) (n : Nat) : List Int := (List.range n).map (bt g)
theorem btl_len (g : Nat → Int) (n : Nat) : (btl g n).length = n := by simp [btl]
theorem btl_succ (g : Nat → Int) (n : Nat) : btl g (n + 1) = btl g n ++ [bt g n] := by unfold btl; rw [List.range_succ, List.map_append]; rfl
/-- what is left of a word behind i of its bytes -/
def dq (v : Int) (i : Nat) : Int := if i = 0 then v else if i = 1 then v / 256 else if i = 2 then v / 65536 else if i = 3 then v / 16777216 else 0
theorem dq_next {v : Int} (h : 0 ≤ v ∧ v ≤ 4294967295) {i : Nat} (hi : i < 4) : dq v i / 256 = dq v (i + 1) := by
  rcases (by omega : i = 0 ∨ i = 1 ∨ i = 2 ∨ i = 3) with rfl | rfl | rfl | rfl <;> simp [dq] <;> omega
theorem dq_byte {v : Int} (h : 0 ≤ v ∧ v ≤ 4294967295) {i : Nat} (hi : i < 4) : dq v i % 256 = by4 v i := by
  rcases (by omega : i = 0 ∨ i = 1 ∨ i = 2 ∨ i = 3) with rfl | rfl | rfl | rfl <;> simp [dq, by4] <;> omega
theorem dq_bd {v : Int} (h : 0 ≤ v ∧ v ≤ 4294967295) {i : Nat} (hi : i < 4) : 0 ≤ dq v i ∧ dq v i ≤ 4294967295 := by
  rcases (by omega : i = 0 ∨ i = 1 ∨ i = 2 ∨ i = 3) with rfl | rfl | rfl | rfl <;> simp [dq] <;> omega
theorem u8_parts : ∃ i, Tryd.prog.info? 5 = some i ∧ i.zero = some (.int .u8 0) ∧ i.size = 1 ∧ i.bytes = 1 := by
  have h : (Tryd.prog.info? 5).map (fun i => (i.zero, i.size, i.bytes)) = some (some (.int .u8 0), 1, 1) := by kernel_rfl
  cases hq : Tryd.prog.info? 5 with
  | none => simp [hq] at h
  | some i => simp [hq] at h; exact ⟨i, rfl, h.1, h.2.1, h.2.2⟩
/-- what Encode of the document answers where registers are valid -/
def RTold (x f : Nat → Int) (w : World) (e : Ending) (w' : World) : Prop := ∃ v, e = .returned (.tuple #[v, .int .i64 0]) ∧ OwnN .u8 5 w.heap.size w' v (btl (wd x f) 104) ∧ New w w'
set_option maxHeartbeats 4000000 in
set_option maxRecDepth 100000 in
theorem rencode_ok (x f : Nat → Int) (hx : ∀ k, k < 18 → 0 ≤ x k ∧ x k ≤ 4294967295) (hf : ∀ k, k < 4 → 0 ≤ f k ∧ f k ≤ 18446744073709551615) (h17 : x 17 < 32) (w : World) :
    Calls Tryd.prog 6 #[.agg (rc x f).toArray] w (RTold x f w) := by
  have BA : Box (w.alloc (.cells (rc x f).toArray 27)) w.heap.size (rc x f).toArray 27 := Box.here w _ _ _ rfl
  have nw : New w (w.alloc (.cells (rc x f).toArray 27)) := (New.refl w).alloc _ _
  have c17 := BA.at (rc_x x f (i := 17) (by omega))
  have h' : ¬ 31 < x 17 := by omega
  have wo := fun i (hi : i < 26) w => rword_any x f hf i hi w
  have hb := fun i (hi : i < 26) => wd_bd x f i hi hx hf
  obtain ⟨i0, hi, hz0, hz1, hz2⟩ := u8_parts
  have HB := Lib.hid hb
  have HWO := Lib.hid wo
  have HI := Lib.hid hi
  clear hx hf hb wo hi
  go_enter Tryd.func6, Tryd.ntmps6
  go_upto_region 1 with fail
  generalize w.alloc (.cells (rc x f).toArray 27) = W at *
  go_wp2
  have HBA := Lib.hid BA
  clear c17 h17 h' BA
  go_loopg [4, 5] 26 (fun k s i wr => ∃ j : Nat, j + k = 26 ∧ i = .int .i64 (j : Int) ∧ OwnN .u8 5 W.heap.size wr s (btl (wd x f) (4 * j)) ∧ New W wr)
  case atStart => exact ⟨0, rfl, rfl, OwnN.nil _ _ _ _, New.refl _⟩
  case round =>
    obtain ⟨j, hj, rfl, hown, hnx⟩ := hrel
    by_cases hlt : j < 26
    · have j0 : (0 : Int) ≤ (j : Int) := by omega
      have j26 : (j : Int) < 26 := by omega
      have J := Lib.hid hj
      clear hj
      have hA := HBA.out.new hnx
      go_wp2_with ((with_reducible refine at_load 27 ?_); refine wpList_load_box rfl 27 _ rfl w.heap.size rfl (rc x f) 27 _ hA Tryd.underlying27 rfl (by rw [rc_len]; exact rr_info) ?_)
      refine (HWO.out j hlt _).mono ?_
      rintro e W2 ⟨rfl, n2⟩
      have O2 := Lib.hid (hown.new n2)
      have N2 := hnx.trans n2
      clear hA hown hnx n2
      have hv := HB.out j hlt
      have hbt := fun i (h : i < 4) => show bt (wd x f) (4 * j + i) = by4 (wd x f j) i by
        unfold bt; rw [show (4 * j + i) / 4 = j by omega, show (4 * j + i) % 4 = i by omega]
      have HBT := Lib.hid hbt
      have HV := Lib.hid hv
      clear hbt hv
      generalize wd x f j = v at *
      go_wp2
      go_loopg [4, 6, 7] 4 (fun k s q i wr => ∃ m : Nat, m + k = 4 ∧ i = .int .i64 (m : Int) ∧ q = .int .u32 (dq v m) ∧ OwnN .u8 5 W.heap.size wr s (btl (wd x f) (4 * j + m)) ∧ New W wr)
      case atStart => exact ⟨0, rfl, rfl, rfl, O2.out, N2⟩
      case round =>
        obtain ⟨m, hm, rfl, rfl, hown, hnx⟩ := hrel
        by_cases hlt2 : m < 4
        · have m0 : (0 : Int) ≤ (m : Int) := by omega
          have m4 : (m : Int) < 4 := by omega
          have qb := dq_bd HV.out hlt2
          have qn := Lib.hid (dq_next HV.out hlt2)
          have qy := Lib.hid ((dq_byte HV.out hlt2).trans (HBT.out m hlt2).symm)
          obtain ⟨q0, q1⟩ := qb
          have HM := Lib.hid hm
          clear hm
          generalize dq v m = q at *
          go_wp2_with (at_builtin; refine wpList_append_own _ rfl _ _ 28 rfl W.heap.size 5 i0 (.int .u8 0) 1 1 Tryd.underlying28 HI.out hz0 hz1 hz2 rfl (by decide) _ _ _ rfl (World.ownsRow.alloc hown _) ⟨wr.heap.size, 0, none⟩ 1 1 [.int .u8 (q % 256)] rfl rfl ?c1 ?c2 ?c3 ?c4 ?c5 ?_)
          case c1 => intro i u hu; rcases i with _ | i <;> simp at hu; subst hu; exact (World.cell?_alloc_at _ _ _ _ rfl).trans rfl
          case c2 => intro u hu; simp at hu; subst hu; rfl
          case c3 => rw [btl_len]; unfold maxLen; omega
          case c4 => rw [btl_len]; omega
          case c5 => have := hnx.size; simp; omega
          intro v' w1 hown' hgrow _
          obtain ⟨o6, n6⟩ := OwnN.push hnx (Nat.le_refl _) hown hown' hgrow
          clear hown' hgrow hown hnx
          go_wp2
          go_roundg (4 - (m + 1))
          case measure => have := HM.out; omega
          case rel => exact ⟨m + 1, by have := HM.out; omega, by go_num, by rw [qn.out], by rw [show 4 * j + (m + 1) = 4 * j + m + 1 by omega, btl_succ, ← qy.out]; exact o6, n6⟩
        · obtain rfl : m = 4 := by omega
          clear hm hlt2 O2 N2
          have O3 := Lib.hid hown
          clear hown
          go_wp2
          go_roundg (26 - (j + 1))
          case measure => have := J.out; omega
          case rel => exact ⟨j + 1, by have := J.out; omega, by go_num, by rw [show 4 * (j + 1) = 4 * j + 4 by omega]; exact O3.out, hnx⟩
    · obtain rfl : j = 26 := by omega
      clear hj hlt HBA
      have O3 := Lib.hid (show OwnN .u8 5 w.heap.size wr u4 (btl (wd x f) 104) from OwnN.less hown nw.size)
      obtain ⟨p, cap, rfl, -⟩ := hown.read
      clear hown
      go_wp2
      refine bodyPost_ret (v := .tuple #[.slice p (btl (wd x f) (4 * 26)).length cap, .int .i64 0]) (by simp [results, Tryd.results6, go_sem]) rfl ?_
      exact ⟨_, rfl, O3.out, nw.trans hnx⟩
set_option maxHeartbeats 1000000 in
set_option maxRecDepth 100000 in
theorem rencode_no (x f : Nat → Int) (h17 : ¬ x 17 < 32) (w : World) :
    Calls Tryd.prog 6 #[.agg (rc x f).toArray] w fun e w' => e = .returned (.tuple #[.slice none 0 0, .int .i64 22]) ∧ New w w' := by
  have BA : Box (w.alloc (.cells (rc x f).toArray 27)) w.heap.size (rc x f).toArray 27 := Box.here w _ _ _ rfl
  have nw : New w (w.alloc (.cells (rc x f).toArray 27)) := (New.refl w).alloc _ _
  have c17 := BA.at (rc_x x f (i := 17) (by omega))
  have h' : 31 < x 17 := by omega
  go_enter Tryd.func6, Tryd.ntmps6
  go_upto_region 1 with fail
  generalize w.alloc (.cells (rc x f).toArray 27) = W at *
  go_wp2
  go_ret2
  exact ⟨rfl, nw⟩
end Go.Proofs.YtbjpflomibcenaaDoor
