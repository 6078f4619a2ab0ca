/- A board that is laid out of words: the bytes that lie on it. -/
import Derived.Test.YtbkhmeongekdiaaCpG
import Derived.Deep.LoopGhost
namespace Go.Proofs.Ytbkhmeongekdiaa
open Go.RowKit Go.Joins
set_option linter.unusedVariables false
set_option maxRecDepth 100000
/-- the bytes of the first j words -/
def wdl (l : List Int) (j : Nat) : List Int := (l.take j).flatMap fun v => bsn v 4
def wds (l : List Int) : List Int := wdl l 64
theorem wdl_succ (l : List Int) (j : Nat) (h : j < l.length) : wdl l (j + 1) = wdl l j ++ bsn (l.getD j 0) 4 := by
  unfold wdl
  rw [List.take_add_one, List.getElem?_eq_getElem h, List.flatMap_append, getD_eq l j h]
  simp
theorem wdl_all (l : List Int) (j : Nat) (h : l.length ≤ j) : wdl l j = wdl l l.length := by
  unfold wdl; rw [List.take_of_length_le h, List.take_of_length_le (Nat.le_refl _)]
theorem wds_min (l : List Int) : wds l = wdl l (min l.length 64) := by
  unfold wds
  by_cases h : l.length ≤ 64
  · rw [wdl_all l 64 h, Nat.min_eq_left h]
  · rw [Nat.min_eq_right (by omega)]
theorem wdl_len (l : List Int) : ∀ j, j ≤ l.length → (wdl l j).length = 4 * j
  | 0, _ => by simp [wdl]
  | j + 1, h => by rw [wdl_succ l j (by omega), List.length_append, wdl_len l j (by omega), bsn_len _ 4 (.inr rfl)]; omega
theorem wdl_oct (l : List Int) (hl : ∀ v ∈ l, 0 ≤ v ∧ v ≤ 4294967295) (j : Nat) : Oct (wdl l j) := by
  intro x hx
  unfold wdl at hx
  obtain ⟨v, hv, hx⟩ := List.mem_flatMap.1 hx
  have := hl v (List.mem_of_mem_take hv)
  exact bsn_oct v 4 this.1 this.2 x hx
/-- words that came in, to be read -/
def W32 (w : World) (a : Option Addr) (l : List Int) : Prop := (∀ j, j < l.length → ∃ x, a = some x ∧ w.cell? (x.add j) = some (.int .u32 (l.getD j 0))) ∧ (∀ v ∈ l, 0 ≤ v ∧ v ≤ 4294967295) ∧ l.length ≤ maxLen
theorem W32.new {w w' : World} {a : Option Addr} {l : List Int} (h : W32 w a l) (k : New w w') : W32 w' a l :=
  ⟨fun j hj => by obtain ⟨x, hx, hc⟩ := h.1 j hj; exact ⟨x, hx, k.keeps hc⟩, h.2⟩
theorem r1store_4 (v : Int) (w : World) (h0 : 0 ≤ v) (h : v ≤ 4294967295) :
    Calls Try.prog 13 #[.int .u32 v, .int .i64 4] w fun e w' => e = .returned (.tuple #[.slice (some ⟨w.heap.size, 0, none⟩) 4 4, .int .i64 0]) ∧ w' = w.alloc (.cells (cells8 (bsn v 4)).toArray 5) := by
  have mk4 : ∀ w : World, (Instr.makeSlice 31 (.int .i64 4) (.int .i64 4)).run Try.prog w = .ok (.slice (some ⟨w.heap.size, 0, none⟩) 4 4) (w.alloc (.cells #[.int .u8 0, .int .u8 0, .int .u8 0, .int .u8 0] 5)) := fun _ => by kernel_rfl
  have e5 : v / 65536 / 256 % 256 = v / 16777216 := by omega
  have e4 : v / 256 / 256 = v / 65536 := by omega
  go_enter Try.func13, Try.ntmps13
  go_wp2
  go_rounds 5
  go_ret2
  exact ⟨rfl, rfl⟩
/-- nothing is changed but the row that grows -/
def Grew (v : Value) (w w' : World) : Prop := w.heap.size ≤ w'.heap.size ∧ w'.os = w.os ∧ w'.tape = w.tape ∧ w'.output = w.output ∧ ∀ k, k < w.heap.size → v.ownBlock ≠ some k → w'.heap[k]? = w.heap[k]?
/-- append of bytes to a slice of bytes that the call made, and which block grows -/
theorem wpList_append_bytesG {w : World} {ops : Array Oper} {rest : List Oper} {o : Oper} {a : Act} {Q : Exit → Act → World → Prop} (hgd : o.guard = none) (s x : Operand)
    (ho : o.op = .call { callee := .builtin .append, args := #[s, x], argTypes := #[31, 31] }) (hty : o.type = 31)
    (base : Nat) (v : Value) (xs : List Int) (hs : a.eval s = v) (hown : OwnB base w v xs) (u : Value) (l : List Int) (hx : a.eval x = u) (hu : Byts w u l) (hlen : xs.length + l.length ≤ 1000000) (hbase : base ≤ w.heap.size)
    (h : ∀ v' w', OwnB base w' v' (xs ++ l) → Grew v w w' → (∀ w0 : World, w0.heap.size ≤ base → New w0 w → New w0 w') → wpList Try.prog ops Q rest (a.put o.dst v') w') : wpList Try.prog ops Q (o :: rest) a w := by
  obtain ⟨v', w', hr, h2, h3⟩ := run_append_bytes w base v xs hown u l hu hlen hbase
  refine wpList_plain hgd fun _ hK => ?_
  unfold Oper.wp execOp
  rw [← hty] at hr
  simp only [ho, resolve, invoke, builtin, Sem.run_bind, Sem.run_pure, Result.andThen_ok, List.map_toArray, List.map_cons, List.map_nil, hs, hx]
  rw [hty] at hr ⊢
  simp only [hr]
  exact hK _ _ (h v' w' h2 ⟨h3.size, h3.os, h3.tape, h3.output, fun k hk hn => h3.block k hk fun e => hn e.symm⟩ fun w0 h0 hn => hn.grown h3 fun k hk => Nat.le_trans h0 (World.ownsRow.lt hown k hk).1)
set_option maxHeartbeats 2000000 in
theorem laid_any (l : List Int) (a : Option Addr) (cap : Nat) (w : World) (hl : W32 w a l) :
    Calls Try.prog 6 #[.slice a l.length cap] w fun e w' => e = .returned (.pointer (some ⟨w.heap.size, 0, none⟩)) ∧ New w w' ∧ ∃ v, Bd w' w.heap.size v (wds l) 0 0 := by
  have hm := hl.2.2
  have hl' := Lib.hid hl
  unfold maxLen at hm
  go_enter Try.func6, Try.ntmps6
  go_upto_region 2 with fail
  have B0 := Box.here w w.heap.size #[.slice none 0 0, .int .i64 0, .int .i64 0] 33 rfl
  have n0 := (New.refl w).alloc #[.slice none 0 0, .int .i64 0, .int .i64 0] 33
  have hb0 : Bd (w.alloc (.cells #[.slice none 0 0, .int .i64 0, .int .i64 0] 33)) w.heap.size (.slice none 0 0) (wdl l 0) 0 0 := ⟨B0, OwnB.nil _ _, fun x hx => (by cases hx), Nat.zero_le _⟩
  have hl0 := hl.new n0
  generalize (w.alloc (.cells #[.slice none 0 0, .int .i64 0, .int .i64 0] 33)) = W0 at *
  generalize hdb : w.heap.size = db at *
  have hsz : db < W0.heap.size := B0.lt
  go_wp2_with fail
  go_loopg [4] (min l.length 64) (fun k i wr => ∃ (j : Nat) (v : Value), j + k = min l.length 64 ∧ i = .int .i64 (j : Int) ∧ Bd wr db v (wdl l j) 0 0 ∧ New w wr ∧ W0.heap.size ≤ wr.heap.size ∧ W32 wr a l)
  case atStart => exact ⟨0, _, by omega, rfl, hb0, n0, Nat.le_refl _, hl0⟩
  case round =>
    obtain ⟨j, v, hj, rfl, hB, hN, hS, hW⟩ := hrel
    have J := Lib.hid hj
    by_cases c : j < l.length ∧ j < 64
    · obtain ⟨c3, c4⟩ := c
      have d3 : decide ((j : Int) < (l.length : Int)) = true := by simp; omega
      have d4 : decide ((j : Int) < 64) = true := by simp; omega
      obtain ⟨x, hx, cx⟩ := hW.1 j (by omega)
      have bx := hl.2.1 (l.getD j 0) (by rw [getD_eq l j (by omega)]; exact List.getElem_mem _)
      generalize hv : l.getD j 0 = V at *
      subst hx
      obtain ⟨p, c, rfl⟩ := hB.2.1.shape
      have q1 := r1store_4 V
      obtain ⟨c0, c1, c2⟩ := hB.1.three
      have hB := Lib.hid hB
      have hW := Lib.hid hW
      clear hj d3 d4
      have d3 : decide ((j : Int) < (l.length : Int)) = true := by simp; omega
      have d4 : decide ((j : Int) < 64) = true := by simp; omega
      go_wp2_with fail
      refine (q1 _ bx.1 bx.2).mono ?_
      rintro e W5 ⟨rfl, rfl⟩
      have n5 := (New.refl wr).alloc (cells8 (bsn V 4)).toArray 5
      have B5 := Lib.hid (hB.out.new n5)
      have Y5 : Byts (wr.alloc (.cells (cells8 (bsn V 4)).toArray 5)) (.slice (some ⟨wr.heap.size, 0, none⟩) 4 4) (bsn V 4) := byts_of_block (l := bsn V 4) (Box.here wr _ _ _ rfl) (by show (4 : Nat) ≤ maxLen; unfold maxLen; omega)
      have c5 := n5.keeps c0
      have s5 := n5.size
      have hN5 := New.trans hN n5
      have W5 := Lib.hid (hW.out.new n5)
      generalize hgb : wr.heap.size = gb at *
      generalize wr.alloc (.cells (cells8 (bsn V 4)).toArray 5) = w5 at *
      have len5 := B5.out.2.2.2
      go_wp2_with (refine wpList_append_bytesG rfl _ _ rfl rfl (db + 1) _ _ rfl B5.out.2.1 _ _ rfl Y5 (by rw [bsn_len _ _ (.inr rfl)]; omega) (by omega) ?_)
      intro v' w6 o6 g6 k6
      have hBx := B5.out.1
      have hne : (Value.slice p (wdl l j).length c).ownBlock ≠ some db := fun e => by have := (World.ownsRow.lt B5.out.2.1 db e).1; omega
      have X6 : Box w6 db #[.slice p (wdl l j).length c, .int .i64 0, .int .i64 0] 33 := by unfold Box; rw [g6.2.2.2.2 db hBx.lt hne]; exact hBx
      have hw6 := k6 w (by omega) hN5
      have hW6 := Lib.hid (show W32 w6 (some x) l from ⟨fun i hi => by
        obtain ⟨y, hy, cy⟩ := hl.1 i hi
        exact ⟨y, hy, hw6.keeps cy⟩, hl.2⟩)
      have s6 := g6.1
      have eL : wdl l j ++ bsn V 4 = wdl l (j + 1) := by rw [wdl_succ l j (by omega), hv]
      rw [eL] at o6
      obtain ⟨p', c', rfl⟩ := o6.shape
      have u0 := X6.unfrozen 0
      clear B5 Y5 g6 k6 hBx hne c5 W5 hB
      have b7 : Bd (w6.setCell ⟨db, 0, none⟩ (.slice p' (wdl l (j + 1)).length c')) db (.slice p' (wdl l (j + 1)).length c') (wdl l (j + 1)) 0 0 :=
        ⟨X6.set 0 _, o6.far (Far.set w6 db 0 _) (by omega), wdl_oct l hl.2.1 _, by rw [wdl_len l (j + 1) (by omega)]; omega⟩
      have n7 : New w (w6.setCell ⟨db, 0, none⟩ (.slice p' (wdl l (j + 1)).length c')) := hw6.setCell (by show w.heap.size ≤ db; omega) _
      have w7 := hW6.out
      have d0 := X6.three.1
      have B7 := Lib.hid b7
      have N7 := Lib.hid n7
      clear b7 n7 o6 X6
      go_wp2
      go_roundg (min l.length 64 - (j + 1))
      case measure => have := J.out; omega
      case rel => exact ⟨j + 1, _, by have := J.out; omega, by go_num, B7.out, N7.out, by simp; omega, hl'.out.new N7.out⟩
    · have hj2 : j = min l.length 64 := by omega
      have fin : wdl l j = wds l := by rw [hj2, ← wds_min]
      rw [fin] at hB
      have hB := Lib.hid hB
      have hN := Lib.hid hN
      clear hj fin hW
      by_cases cn : j < l.length
      · have d3 : decide ((j : Int) < (l.length : Int)) = true := by simp; omega
        have d4 : decide ((j : Int) < 64) = false := by simp; omega
        have d5 : (j : Int) < (l.length : Int) := by omega
        clear c hj2
        go_wp2
        go_ret
        try rw [hdb]
        exact ⟨rfl, hN.out, _, hB.out⟩
      · have d3 : decide ((j : Int) < (l.length : Int)) = false := by simp; omega
        have d5 : ¬ (j : Int) < (l.length : Int) := by omega
        clear c hj2
        go_wp2
        go_ret
        try rw [hdb]
        exact ⟨rfl, hN.out, _, hB.out⟩
end Go.Proofs.Ytbkhmeongekdiaa
