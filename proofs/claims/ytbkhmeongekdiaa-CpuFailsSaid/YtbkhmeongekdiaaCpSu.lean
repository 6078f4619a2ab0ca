/- A step on a board of one word: what it comes to, for the instructions that the statements write themselves. No program stands in this text. -/
import Derived.Test.YtbkhmeongekdiaaCpMore
import Derived.Test.YtbkhmeongekdiaaCpA
import Derived.Test.YtbkhmeongekdiaaCpRg
import Derived.Test.YtbkhmeongekdiaaRgQ
import Derived.RegionTactic
namespace Go.Proofs.Ytbkhmeongekdiaa
open Go.RowKit
set_option linter.unusedVariables false
set_option maxRecDepth 100000
theorem wds_one (C : Int) : wds [C] = bsn C 4 := by simp [wds, wdl]
theorem wds_one_len (C : Int) : (wds [C]).length = 4 := by rw [wds_one]; exact bsn_len _ _ (.inr rfl)
theorem gtn_one (C : Int) (h0 : 0 ≤ C) (h1 : C ≤ 4294967295) : gtn (wds [C]) 0 4 = C := by
  rw [wds_one]
  show ldv 4 (cut (bsn C 4) 0 4) = C
  have e : cut (bsn C 4) 0 4 = [C % 256, C / 256 % 256, C / 65536 % 256, C / 16777216] := rfl
  rw [e]
  unfold ldv
  simp
  omega
theorem oct_one (C : Int) (h0 : 0 ≤ C) (h1 : C ≤ 4294967295) : Oct (wds [C]) := by rw [wds_one]; exact bsn_oct C 4 h0 h1
/-- a step without Step on a word at 0 -/
theorem st_one (C : Int) (h0 : 0 ≤ C) (h1 : C ≤ 4294967295) (x f : Nat → Int) (h17 : x 17 < 16) (h16 : x 16 = 0) : stA x f (wds [C]) = inA C x f (wds [C]) := by
  unfold stA
  rw [if_neg (by omega)]
  have e : exA x f (wds [C]) = inA C x f (wds [C]) := by
    unfold exA
    rw [if_neg (by omega), if_neg (by unfold hsn; rw [wds_one_len, h16]; simp), h16, gtn_one C h0 h1]
  rw [e]
  unfold kdA
  rw [if_neg (by omega)]
theorem in_op {v : Int} {o a b m : Int} (x f : Nat → Int) (L : List Int) (h1 : v / 16777216 = o) (ho : o ≤ 41) (h2 : v / 1048576 % 16 = a) (h3 : v / 65536 % 16 = b) (h4 : imv v = m) : inA v x f L = dsA o a.toNat b.toNat m x f L := by
  unfold inA
  rw [h1, h2, h3, h4, if_pos ho]
end Go.Proofs.Ytbkhmeongekdiaa
namespace Go.Proofs.Ytbkhmeongekdiaa
open Go.RowKit Go.Joins
set_option linter.unusedVariables false
set_option maxRecDepth 100000
theorem d0 (x f : Nat → Int) (h : x 17 = 16) (h2 : x 16 = 0) (h1 : x 1 = 0) : stA x f (wds [17825797]) = { x := upd (nx x) 1 5, f := f, L := wds [17825797], n := 0, k := 3, s := 0, a := 0 } := by
  have e : exA x f (wds [17825797]) = okA (upd (nx x) 1 5) f (wds [17825797]) := by
    unfold exA
    rw [if_neg (by omega), if_neg (by unfold hsn; rw [wds_one_len, h2]; simp), h2, gtn_one _ (by omega) (by omega)]
    rfl
  unfold stA
  rw [if_neg (by omega), e]
  unfold kdA
  rw [if_pos ⟨rfl, by omega⟩]
  rfl
theorem d1 (x f : Nat → Int) (h : x 17 = 0) (h2 : x 16 = 0) (h1 : x 0 = 0) : stA x f (wds [118489088]) = noA x f (wds [118489088]) 8 0 := by
  rw [st_one _ (by omega) (by omega) x f (by omega) h2]
  rw [in_op (o := 7) (a := 1) (b := 0) (m := 0) x f _ (by omega) (by omega) (by omega) (by omega) rfl]
  show (if doe 7 (x 0) = 0 then _ else _) = _
  rw [if_neg (by rw [h1]; decide), h2]
def sixt (i : Nat) : Int := if i = 17 then 16 else 0
def zerof (_ : Nat) : Int := 0
theorem bx_sixt : Bx sixt := fun k _ => by unfold sixt; split <;> omega
theorem bx_zerof : Bx zerof := fun k _ => by unfold zerof; omega
theorem bf_zerof : Bf zerof := fun k _ => by unfold zerof; omega
theorem sq0 (db : Nat) (v : Value) (w : World) (h : Bd w db v (wds [17825797]) 0 0) : Calls Try.prog 7 #[bus db, .agg (rc sixt zerof).toArray] w fun e w' => e = .returned (.tuple #[.agg (rc (upd (nx sixt) 1 5) zerof).toArray, .agg #[.int .i64 3, .int .i64 0, .int .u32 0]]) ∧ But (SB db v) w w' := by
  refine (step_any h bx_sixt bf_zerof (oct_one _ (by omega) (by omega))).mono ?_
  rw [d0 sixt zerof rfl rfl rfl]
  exact fun e w' h => ⟨h.1, h.2.2⟩
theorem sq1 (db : Nat) (v : Value) (w : World) (h : Bd w db v (wds [118489088]) 0 0) : Calls Try.prog 7 #[bus db, .agg (rc zerof zerof).toArray] w fun e w' => e = .returned (.tuple #[.agg (rc zerof zerof).toArray, .agg #[.int .i64 4, .int .i64 8, .int .u32 0]]) ∧ But (SB db v) w w' := by
  refine (step_any h bx_zerof bf_zerof (oct_one _ (by omega) (by omega))).mono ?_
  rw [d1 zerof zerof rfl rfl rfl]
  exact fun e w' h => ⟨h.1, h.2.2⟩
theorem But.free {w a b : World} {db : Nat} {v : Value} {L : List Int} {p s : Int} (n : New w a) (k : But (SB db v) a b) (h : Bd a db v L p s) (hb : w.heap.size ≤ db) : New w b :=
  ⟨k.1.trans n.os, k.2.1.trans n.tape, k.2.2.1.trans n.output, Nat.le_trans n.size k.size, fun i hi => (k.block (Nat.lt_of_lt_of_le hi n.size) (fun e => by
    rcases e with e | e
    · omega
    · have := (World.ownsRow.lt h.2.1 i e).1; omega)).trans (n.block hi)⟩
set_option maxHeartbeats 4000000 in
theorem csure_any (w : World) : Calls Try.prog 10 #[] w fun e w' => e = .returned (.bool true) ∧ New w w' := by
  have mi : ∀ (db : Nat) (w : World), (Instr.makeInterface 29 (ptr db)).run Try.prog w = .ok (bus db) w := fun db w => by kernel_rfl
  go_enter Try.func10, Try.ntmps10
  go_wp2_with fail
  refine (laid_any [17825797] _ 1 _ (w32_one _ 17825797 (by omega))).mono ?_
  rintro e W1 ⟨rfl, n1, v1, b1⟩
  have n2 : New w W1 := New.trans ((New.refl w).alloc _ _) n1
  have hd1 : w.heap.size ≤ (w.alloc (.cells #[.int .u32 17825797] 23)).heap.size := by simp
  generalize (w.alloc (.cells #[.int .u32 17825797] 23)).heap.size = db1 at *
  clear n1
  go_wp2_with fail
  refine (sq0 db1 v1 W1 b1).mono ?_
  rintro e W2 ⟨rfl, k2⟩
  have n3 := But.free n2 k2 b1 hd1
  clear n2 k2 b1
  go_wp2_with ((with_reducible refine at_store 34 ?_); refine wpList_store_box rfl 34 _ _ rfl W2.heap.size (rc (upd (nx sixt) 1 5) zerof) R0 34 rfl rfl ((Box.here W2 _ _ 34 rfl).alloc _) (by rw [rc_len, rc_len]) (by rw [rc_len]; exact ar_info) (rc_one _ _) ?_)
  intro U1 BR1 F1
  have BE1 := (Box.here (W2.alloc (.cells R0.toArray 34)) (W2.heap.size + 1) E0.toArray 36 (by simp)).far F1 (by omega)
  have nu1 : New W2 U1 := F1.new (((New.refl W2).alloc _ _).alloc _ _) (Nat.le_refl _)
  clear F1
  go_wp2_with ((with_reducible refine at_store 36 ?_); refine wpList_store_box rfl 36 _ _ rfl (W2.heap.size + 1) [.int .i64 3, .int .i64 0, .int .u32 0] E0 36 rfl rfl BE1 rfl ev_size (by intro u hu; simp at hu; rcases hu with rfl | rfl | rfl <;> rfl) ?_)
  intro V1 CE1 G1
  have CR1 := BR1.far G1 (by omega)
  have nv1 : New W2 V1 := G1.new nu1 (by omega)
  have m1 := New.trans n3 nv1
  have lt1 := CE1.lt
  clear BR1 BE1 nu1 G1 n3
  generalize W2.heap.size = rb1 at *
  clear nv1
  go_wp2_with fail
  refine (laid_any [118489088] _ 1 _ (w32_one _ 118489088 (by omega))).mono ?_
  rintro e W3 ⟨rfl, n1, v2, b2⟩
  have n2 : New V1 W3 := New.trans ((New.refl V1).alloc _ _) n1
  have hd2 : V1.heap.size ≤ (V1.alloc (.cells #[.int .u32 118489088] 23)).heap.size := by simp
  generalize (V1.alloc (.cells #[.int .u32 118489088] 23)).heap.size = db2 at *
  clear n1
  go_wp2_with fail
  refine (sq1 db2 v2 W3 b2).mono ?_
  rintro e W4 ⟨rfl, k2⟩
  have n3 := But.free n2 k2 b2 hd2
  have CR1 := CR1.new n3
  have CE1 := CE1.new n3
  have lt2 := n3.size
  have n4 := New.trans m1 n3
  clear n2 k2 b2 n3 m1
  go_wp2_with ((with_reducible refine at_store 34 ?_); refine wpList_store_box rfl 34 _ _ rfl W4.heap.size (rc zerof zerof) R0 34 rfl rfl ((Box.here W4 _ _ 34 rfl).alloc _) (by rw [rc_len, rc_len]) (by rw [rc_len]; exact ar_info) (rc_one _ _) ?_)
  intro U2 BR2 F2
  have BE2 := (Box.here (W4.alloc (.cells R0.toArray 34)) (W4.heap.size + 1) E0.toArray 36 (by simp)).far F2 (by omega)
  have nu2 : New W4 U2 := F2.new (((New.refl W4).alloc _ _).alloc _ _) (Nat.le_refl _)
  clear F2
  go_wp2_with ((with_reducible refine at_store 36 ?_); refine wpList_store_box rfl 36 _ _ rfl (W4.heap.size + 1) [.int .i64 4, .int .i64 8, .int .u32 0] E0 36 rfl rfl BE2 rfl ev_size (by intro u hu; simp at hu; rcases hu with rfl | rfl | rfl <;> rfl) ?_)
  intro V2 CE2 G2
  have CR2 := BR2.far G2 (by omega)
  have nv2 : New W4 V2 := G2.new nu2 (by omega)
  have m2 := New.trans n4 nv2
  have lt2 := CE2.lt
  clear BR2 BE2 nu2 G2 n4
  generalize W4.heap.size = rb2 at *
  have CR1 := CR1.new nv2
  have CE1 := CE1.new nv2
  have lt3 := nv2.size
  clear nv2
  go_wp2_with fail
  refine (step_nil (x := fun i => if i = 16 then 8 else 0) (f := zerof) (fun k _ => by show 0 ≤ (if k = 16 then (8 : Int) else 0) ∧ (if k = 16 then (8 : Int) else 0) ≤ _; split <;> omega)).mono ?_
  rintro e W5 ⟨rfl, n5⟩
  have CR1 := CR1.new n5
  have CE1 := CE1.new n5
  have CR2 := CR2.new n5
  have CE2 := CE2.new n5
  have lt4 := n5.size
  have n6 := New.trans m2 n5
  clear m2 n5
  go_wp2_with ((with_reducible refine at_store 34 ?_); refine wpList_store_box rfl 34 _ _ rfl W5.heap.size (rc (fun i => if i = 16 then 8 else 0) zerof) R0 34 rfl rfl ((Box.here W5 _ _ 34 rfl).alloc _) (by rw [rc_len, rc_len]) (by rw [rc_len]; exact ar_info) (rc_one _ _) ?_)
  intro U3 BR3 F3
  have BE3 := (Box.here (W5.alloc (.cells R0.toArray 34)) (W5.heap.size + 1) E0.toArray 36 (by simp)).far F3 (by omega)
  have nu3 : New W5 U3 := F3.new (((New.refl W5).alloc _ _).alloc _ _) (Nat.le_refl _)
  clear F3
  go_wp2_with ((with_reducible refine at_store 36 ?_); refine wpList_store_box rfl 36 _ _ rfl (W5.heap.size + 1) [.int .i64 4, .int .i64 7, .int .u32 8] E0 36 rfl rfl BE3 rfl ev_size (by intro u hu; simp at hu; rcases hu with rfl | rfl | rfl <;> rfl) ?_)
  intro V3 CE3 G3
  have CR3 := BR3.far G3 (by omega)
  have nv3 : New W5 V3 := G3.new nu3 (by omega)
  have m3 := New.trans n6 nv3
  have lt3 := CE3.lt
  clear BR3 BE3 nu3 G3 n6
  generalize W5.heap.size = rb3 at *
  have CR1 := CR1.new nv3
  have CE1 := CE1.new nv3
  have CR2 := CR2.new nv3
  have CE2 := CE2.new nv3
  clear nv3
  have e1 : V3.cell? ⟨rb1, 1, none⟩ = some (.int .u32 5) := CR1.at (rc_x _ _ (i := 1) (by omega))
  have e2 : V3.cell? ⟨rb1, 16, none⟩ = some (.int .u32 4) := CR1.at (rc_x _ _ (i := 16) (by omega))
  obtain ⟨k0, k1, k2⟩ := Box.three CE1
  have e3 : V3.cell? ⟨rb2, 16, none⟩ = some (.int .u32 0) := CR2.at (rc_x _ _ (i := 16) (by omega))
  obtain ⟨l0, l1, l2⟩ := Box.three CE2
  obtain ⟨m0, m1, m2⟩ := Box.three CE3
  clear CR1 CR2 CR3 CE1 CE2 CE3
  go_wp2
  go_ret
  exact ⟨rfl, m3⟩
theorem Box.regs16 {w : World} {b : Nat} {x f : Nat → Int} {T : TypeId} (h : Box w b (rc x f).toArray T) : w.rangeAt b 0 (nls .u32 16 x) := fun j v hv => by
  have hj : j < 16 := by have := (List.getElem?_eq_some_iff.1 hv).1; simpa [nls] using this
  rw [nl_at x hj] at hv
  rw [Nat.zero_add, h.cell j, List.getElem?_toArray, rc_x x f (by omega)]; exact hv
theorem aw16_info : (Try.prog.info? 24).map (·.size) = some 16 := by kernel_rfl
theorem nls_len (k : IntKind) (n : Nat) (g : Nat → Int) : (nls k n g).length = n := by simp [nls]
theorem eq16 (x : Nat → Int) (w : World) : (Op.equalIn 10000 24 (.agg (nls .u32 16 x).toArray) (.agg (nls .u32 16 x).toArray)).run Try.prog w = .ok true w :=
  run_equalIn_row 9998 16 Try.underlying24 Try.underlying23 (by kernel_rfl) _ w fun i hi => ⟨_, _, by rw [List.getElem?_toArray]; exact nl_at x hi⟩
theorem nls_congr {k : IntKind} {n : Nat} {g h : Nat → Int} (e : ∀ i, i < n → g i = h i) : nls k n g = nls k n h := by
  unfold nls
  exact List.map_congr_left fun i hi => by rw [e i (List.mem_range.1 hi)]
/-- a part of a struct loaded, at an operation with a guard that says yes -/
theorem wpList_load_wmid {P : Program} {w : World} {ops : Array Oper} {rest : List Oper} {op : Oper} {a : Act} {Q : Exit → Act → World → Prop} (hw : Region.wanted op (yielded ops a.tmps) = true) (ty : TypeId) (x : Operand) (ho : op.op = .load ty x)
    (b n : Nat) (hx : a.eval x = .pointer (some ⟨b, n, none⟩)) (cs : List Value) (d : TypeDesc) (hB : w.rangeAt b n cs)
    (hu : P.underlying ty = some d) (hd : d.isRow = true) (hi : (P.info? ty).map (·.size) = some cs.length)
    (h : wpList P ops Q rest (a.put op.dst (.agg cs.toArray)) w) : wpList P ops Q (op :: rest) a w :=
  BigFrame.wpList_want hw fun _ hK => wp_load_mid ty x ho b n hx cs d hB hu hd hi (hK _ _ h)
end Go.Proofs.Ytbkhmeongekdiaa
