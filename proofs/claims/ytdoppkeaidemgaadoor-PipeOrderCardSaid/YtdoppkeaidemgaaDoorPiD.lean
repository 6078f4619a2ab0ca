/- Pipes: what must come whatever the input is. -/
import Derived.Test.YtdoppkeaidemgaaDoorPiQ
import Derived.Lib.SlBytesConst
namespace Go.Proofs.YtdoppkeaidemgaaDoor
open Go.RowKit
set_option linter.unusedVariables false
set_option maxRecDepth 100000
theorem byts_lit (w : World) (l : List Int) (fr : Nat × Nat) (hl : l.length ≤ 4096) : Byts (w.alloc (.cells (l.map (Value.int .u8)).toArray 5 fr)) (.slice (some ⟨w.heap.size, 0, none⟩) l.length l.length) l := by
  refine ⟨_, _, rfl, ⟨Nat.le_refl _, by unfold maxLen; omega⟩, fun i hi => ⟨_, rfl, ?_⟩⟩
  rw [Addr.add_mid, Nat.zero_add]
  have : (w.alloc (.cells (l.map (Value.int .u8)).toArray 5 fr)).heap[w.heap.size]? = some (.cells (l.map (Value.int .u8)).toArray 5 fr) := by
    show (w.heap.push _)[w.heap.size]? = _
    simp
  unfold World.cell?
  simp only [this]
  simp [hi]
theorem er0 : erN 0 = .nilIface := rfl
theorem ps_w : pwE ⟨[], 1, 1⟩ [97, 98, 99] = 0 ∧ pwK ⟨[], 1, 1⟩ [97, 98, 99] = 3 ∧ pwP ⟨[], 1, 1⟩ [97, 98, 99] = ⟨[97, 98, 99], 1, 1⟩ := by refine ⟨by decide, by decide, ?_⟩ <;> rfl
theorem ps_r : prE ⟨[97, 98, 99], 1, 1⟩ 2 = 0 ∧ prO ⟨[97, 98, 99], 1, 1⟩ 2 = [97, 98] ∧ prP ⟨[97, 98, 99], 1, 1⟩ 2 = ⟨[99], 1, 1⟩ := by refine ⟨by decide, by decide, ?_⟩ <;> rfl
theorem ps_e : prE ⟨[], 0, 1⟩ 1 = 11 ∧ prO ⟨[], 0, 1⟩ 1 = [] ∧ prP ⟨[], 0, 1⟩ 1 = Pp.zero := by refine ⟨by decide, by decide, ?_⟩ <;> rfl
theorem ps_n : pwE ⟨[], 0, 1⟩ [] = 32 ∧ pwK ⟨[], 0, 1⟩ [] = 0 ∧ pwP ⟨[], 0, 1⟩ [] = Pp.zero := by refine ⟨by decide, by decide, ?_⟩ <;> rfl
set_option maxHeartbeats 2000000 in
theorem psure_any (w : World) (hl : Laid w) : Calls Tryd.prog 6 #[] w fun e w' => e = .returned (.bool true) ∧ New w w' := by
  have n1 : New w (w.alloc (.cells #[.int .u8 97, .int .u8 98, .int .u8 99] 5 (3, 4))) := (New.refl w).allocO _
  have CV : (convert 22 22 (.slice (some ⟨w.heap.size, 0, none⟩) 3 3)).run Tryd.prog (w.alloc (.cells #[.int .u8 97, .int .u8 98, .int .u8 99] 5)) = .ok (.slice (some ⟨w.heap.size, 0, none⟩) 3 3) (w.alloc (.cells #[.int .u8 97, .int .u8 98, .int .u8 99] 5 (3, 4))) := Go.Lib.run_convert_bytes_const w 22 5 #[.int .u8 97, .int .u8 98, .int .u8 99] 3 3 Tryd.underlying22 Tryd.underlying5
  have BY := byts_lit w [97, 98, 99] (3, 4) (by simp)
  have c := pwrite_any (p := ⟨[], 1, 1⟩) (Byts.nil _) BY (by simp)
  go_enter Tryd.func6, Tryd.ntmps6
  go_wp2_with fail
  refine c.mono ?_
  rintro e w1 ⟨vr, rfl, b1, -, n2⟩
  rw [ps_w.1, ps_w.2.1, ps_w.2.2, er0]
  unfold PpV
  rw [ps_w.2.2] at b1
  have n2 := n1.trans n2
  obtain ⟨q1, c1, rfl⟩ := b1.shape
  dsimp only [List.length_cons, List.length_nil] at b1 ⊢
  have c := pread_any (p := ⟨[97, 98, 99], 1, 1⟩) (b1.new ((New.refl _).alloc #[.slice q1 3 c1, .int .i64 1, .int .i64 1] 26)) 2 (by omega)
  have n3 := n2.alloc #[.slice q1 3 c1, .int .i64 1, .int .i64 1] 26
  clear b1 BY CV n1 n2
  go_wp2_with fail
  refine c.mono ?_
  rintro e w2 ⟨vo, vr2, rfl, b2, b3, -, -, n4⟩
  rw [ps_r.1, ps_r.2.2, er0]
  unfold PpV
  rw [ps_r.2.1] at b2
  rw [ps_r.2.2] at b3
  obtain ⟨q3, c3, rfl⟩ := b3.shape
  dsimp only [List.length_cons, List.length_nil] at b3 ⊢
  have n5 := n3.trans n4
  have n6 := n5.alloc #[.slice q3 1 c3, .int .i64 1, .int .i64 1] 26
  have k6 := (New.refl w2).alloc #[.slice q3 1 c3, .int .i64 1, .int .i64 1] 26
  have bx := Box.here w2 w2.heap.size #[.slice q3 1 c3, .int .i64 1, .int .i64 1] 26 rfl
  have c := pread_any (p := ⟨[], 0, 1⟩) (Byts.nil (w2.alloc (.cells #[.slice q3 1 c3, .int .i64 1, .int .i64 1] 26))) 1 (by omega)
  clear n3 n4 n5
  go_wp2_with fail
  refine c.mono ?_
  rintro e w3 ⟨vo4, vr4, rfl, -, b4, -, -, n7⟩
  rw [ps_e.1, ps_e.2.2]
  unfold PpV
  rw [ps_e.2.2] at b4
  obtain ⟨q4, c4, rfl⟩ := b4.shape
  change Byts w3 (.slice q4 0 c4) [] at b4
  rw [show Pp.zero.l.length = 0 from rfl, show Pp.zero.r = 0 from rfl, show Pp.zero.w = 0 from rfl]
  have n8 := n6.trans n7
  have k8 := k6.trans n7
  have bx := bx.new n7
  have n9 := n8.alloc #[.slice q4 0 c4, .int .i64 0, .int .i64 0] 26
  have k9 := k8.alloc #[.slice q4 0 c4, .int .i64 0, .int .i64 0] 26
  have bx := bx.new ((New.refl w3).alloc #[.slice q4 0 c4, .int .i64 0, .int .i64 0] 26)
  have c := pwrite_any (p := ⟨[], 0, 1⟩) (Byts.nil (w3.alloc (.cells #[.slice q4 0 c4, .int .i64 0, .int .i64 0] 26))) (Byts.nil _) (by simp)
  clear n6 n7 n8 k6 k8 b4
  go_wp2_with fail
  refine c.mono ?_
  rintro e w4 ⟨vr5, rfl, b5, -, n10⟩
  rw [ps_n.1, ps_n.2.1, ps_n.2.2]
  unfold PpV
  rw [ps_n.2.2] at b5
  obtain ⟨q5, c5, rfl⟩ := b5.shape
  rw [show Pp.zero.l.length = 0 from rfl, show Pp.zero.r = 0 from rfl, show Pp.zero.w = 0 from rfl]
  have n11 := (n9.trans n10).alloc #[.slice q5 0 c5, .int .i64 0, .int .i64 0] 26
  have k11 := (k9.trans n10).alloc #[.slice q5 0 c5, .int .i64 0, .int .i64 0] 26
  have bx := (bx.new n10).new ((New.refl w4).alloc #[.slice q5 0 c5, .int .i64 0, .int .i64 0] 26)
  have x0 := bx.three'.2.1
  have S1 : (convert 22 9 vo).run Tryd.prog (w4.alloc (.cells #[.slice q5 0 c5, .int .i64 0, .int .i64 0] 26)) = .ok (.string ⟨#[97, 98]⟩) (w4.alloc (.cells #[.slice q5 0 c5, .int .i64 0, .int .i64 0] 26)) := str_of (b2.new k11)
  have S2 : (convert 22 9 (.slice q3 1 c3)).run Tryd.prog (w4.alloc (.cells #[.slice q5 0 c5, .int .i64 0, .int .i64 0] 26)) = .ok (.string ⟨#[99]⟩) (w4.alloc (.cells #[.slice q5 0 c5, .int .i64 0, .int .i64 0] 26)) := str_of (b3.new k11)
  have cN := num_er 11 _ (hl.new n11)
  have cM := fun W (k : New _ W) => num_er 32 W ((hl.new n11).new k)
  clear n9 n10 k9 k11 b5 bx b2 b3
  rw [erN_pos (by omega)] at cN
  simp only [erN_pos (show (32 : Int) ≠ 0 by omega)] at cM
  rw [erN_pos (show (32 : Int) ≠ 0 by omega)]
  rw [erN_pos (show (11 : Int) ≠ 0 by omega)]
  go_wp2_with fail
  refine cN.mono ?_
  rintro e w5 ⟨rfl, n12⟩
  have cM := cM _ n12
  have n13 := n11.trans n12
  clear n11 n12 S1 S2 x0 cN
  go_wp2_with fail
  refine cM.mono ?_
  rintro e w6 ⟨rfl, n14⟩
  have n15 := n13.trans n14
  clear n13 n14 cM
  go_wp2
  go_ret
  exact ⟨rfl, n15⟩
end Go.Proofs.YtdoppkeaidemgaaDoor
