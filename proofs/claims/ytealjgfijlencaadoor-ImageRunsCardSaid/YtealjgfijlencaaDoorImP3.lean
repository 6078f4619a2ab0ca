/- Programs as bytes, the package's: numbers stored as bytes, and read; lay. -/
import Derived.Test.YtealjgfijlencaaDoorImP2
import Derived.Test.YtealjgfijlencaaDoorWordC
import Derived.Lib.SlBytesConst
namespace Go.Proofs.YtealjgfijlencaaDoor
open Go.RowKit Go.Joins
set_option linter.unusedVariables false
set_option maxRecDepth 100000
theorem issizeN (k : Nat) (h : k = 1 ∨ k = 2 ∨ k = 4) (w : World) : Calls Tryd.prog 33 #[.int .i64 (k : Int)] w fun e w' => e = .returned (.bool true) ∧ w = w' := by
  rcases h with rfl | rfl | rfl
  · go_enter Tryd.func33, Tryd.ntmps33
    go_wp2
    go_ret
    exact ⟨rfl, rfl⟩
  · go_enter Tryd.func33, Tryd.ntmps33
    go_wp2
    go_ret
    exact ⟨rfl, rfl⟩
  · go_enter Tryd.func33, Tryd.ntmps33
    go_wp2
    go_ret
    exact ⟨rfl, rfl⟩
theorem issize0 (w : World) : Calls Tryd.prog 33 #[.int .i64 0] w fun e w' => e = .returned (.bool false) ∧ w = w' := by
  go_enter Tryd.func33, Tryd.ntmps33
  go_wp2
  go_ret
  exact ⟨rfl, rfl⟩
/-- what a number's bytes lie in -/
def StoreC (v : Int) (k : Nat) (w : World) (e : Ending) (w' : World) : Prop := ∃ u, e = .returned (.tuple #[u, .nilIface]) ∧ OwnB w.heap.size w' u (nbL v k) ∧ New w w'
set_option maxHeartbeats 400000 in
theorem pstore1 (v : Int) (w : World) (h : 0 ≤ v ∧ v ≤ 4294967295) : Calls Tryd.prog 25 #[.int .u32 v, .int .i64 1] w (StoreC v 1 w) := by
  have hmk : ∀ w : World, (Instr.makeSlice 26 (.int .i64 1) (.int .i64 1)).run Tryd.prog w = .ok (.slice (some ⟨w.heap.size, 0, none⟩) 1 1) (w.alloc (.cells #[.int .u8 0] 5)) := fun _ => by kernel_rfl
  have q : Calls Tryd.prog 33 #[.int .i64 1] w fun e w' => e = .returned (.bool true) ∧ w = w' := issizeN 1 (.inl rfl) w
  have E : StoreC v 1 w (.returned (.tuple #[.slice (some ⟨w.heap.size, 0, none⟩) 1 1, .nilIface])) (w.alloc (.cells #[.int .u8 (v % 256)] 5)) := ⟨_, rfl, own_lit w [v % 256] (by simp [maxLen]), (New.refl w).alloc _ _⟩
  have HE := Lib.hid E
  clear E
  go_enter Tryd.func25, Tryd.ntmps25
  go_wp2_with (go_at_call 33; (with_reducible refine q.mono ?_); rintro e w' ⟨rfl, rfl⟩)
  go_rounds 2
  go_ret2
  exact HE.out
set_option maxHeartbeats 400000 in
theorem pstore2 (v : Int) (w : World) (h : 0 ≤ v ∧ v ≤ 4294967295) : Calls Tryd.prog 25 #[.int .u32 v, .int .i64 2] w (StoreC v 2 w) := by
  have hmk : ∀ w : World, (Instr.makeSlice 26 (.int .i64 2) (.int .i64 2)).run Tryd.prog w = .ok (.slice (some ⟨w.heap.size, 0, none⟩) 2 2) (w.alloc (.cells #[.int .u8 0, .int .u8 0] 5)) := fun _ => by kernel_rfl
  have q : Calls Tryd.prog 33 #[.int .i64 2] w fun e w' => e = .returned (.bool true) ∧ w = w' := issizeN 2 (.inr (.inl rfl)) w
  have E : StoreC v 2 w (.returned (.tuple #[.slice (some ⟨w.heap.size, 0, none⟩) 2 2, .nilIface])) (w.alloc (.cells #[.int .u8 (v % 256), .int .u8 (v / 256 % 256)] 5)) := ⟨_, rfl, own_lit w [v % 256, v / 256 % 256] (by simp [maxLen]), (New.refl w).alloc _ _⟩
  have HE := Lib.hid E
  clear E
  go_enter Tryd.func25, Tryd.ntmps25
  go_wp2_with (go_at_call 33; (with_reducible refine q.mono ?_); rintro e w' ⟨rfl, rfl⟩)
  go_rounds 3
  go_ret2
  exact HE.out
theorem pstore4 (v : Int) (w : World) (h : 0 ≤ v ∧ v ≤ 4294967295) : Calls Tryd.prog 25 #[.int .u32 v, .int .i64 4] w (StoreC v 4 w) := by
  refine (store4 v w h.1 h.2).mono ?_
  rintro e w' ⟨rfl, rfl⟩
  have e4 : v / 16777216 = v / 16777216 % 256 := by omega
  rw [e4]
  refine ⟨_, rfl, ?_, (New.refl w).alloc _ _⟩
  rw [nbL_four]
  exact own_lit w (nb4 v) (by simp [maxLen, nb4])
theorem pstore (v : Int) (k : Nat) (hk : k = 1 ∨ k = 2 ∨ k = 4) (w : World) (h : 0 ≤ v ∧ v ≤ 4294967295) : Calls Tryd.prog 25 #[.int .u32 v, .int .i64 (k : Int)] w (StoreC v k w) := by
  rcases hk with rfl | rfl | rfl
  · exact pstore1 v w h
  · exact pstore2 v w h
  · exact pstore4 v w h
/-- append of bytes: which block is written -/
theorem wpList_app8 {w : World} {ops : Array Oper} {rest : List Oper} {o : Oper} {a : Act} {Q : Exit → Act → World → Prop} (hgd : o.guard = none) (s x : Operand)
    (ho : o.op = .call { callee := .builtin .append, args := #[s, x], argTypes := #[26, 26] }) (hty : o.type = 26)
    (base : Nat) (v : Value) (xs : List Int) (hs : a.eval s = v) (hown : OwnB base w v xs) (u : Value) (l : List Int) (hx : a.eval x = u) (hu : Byts w u l) (hlen : xs.length + l.length ≤ 1000000) (hbase : base ≤ w.heap.size)
    (h : ∀ v' w', OwnB base w' v' (xs ++ l) → But (fun g => v.ownBlock = some g) w w' → (∀ w0 : World, w0.heap.size ≤ base → New w0 w → New w0 w') → wpList Tryd.prog ops Q rest (a.put o.dst v') w') : wpList Tryd.prog ops Q (o :: rest) a w := by
  obtain ⟨v', w', hr, h2, h3, h4, h5⟩ := run_app8 hown hu hlen hbase
  refine wpList_plain hgd fun _ hK => ?_
  unfold Oper.wp execOp
  rw [← hty] at hr
  simp only [ho, resolve, invoke, builtin, Sem.run_bind, Sem.run_pure, Result.andThen_ok, List.map_toArray, List.map_cons, List.map_nil, hs, hx]
  rw [hty] at hr ⊢
  simp only [hr]
  exact hK _ _ (h v' w' h2 h3 h5)
theorem wpList_clip8 {w : World} {ops : Array Oper} {rest : List Oper} {o : Oper} {a : Act} {Q : Exit → Act → World → Prop} (hgd : o.guard = none) (s x : Operand)
    (ho : o.op = .call { callee := .builtin .append, args := #[s, x], argTypes := #[26, 26] }) (hty : o.type = 26)
    (base : Nat) (p : Option Addr) (xs : List Int) (hs : a.eval s = .slice p xs.length xs.length) (hown : Byts w (.slice p xs.length xs.length) xs) (u : Value) (l : List Int) (hx : a.eval x = u) (hu : Byts w u l) (hl0 : 0 < l.length) (hlen : xs.length + l.length ≤ 1000000) (hbase : base ≤ w.heap.size)
    (h : ∀ v' w', OwnB base w' v' (xs ++ l) → New w w' → wpList Tryd.prog ops Q rest (a.put o.dst v') w') : wpList Tryd.prog ops Q (o :: rest) a w := by
  obtain ⟨v', w', hr, h2, h3⟩ := run_clip_w (R := R8) (base := base) (p := p) (l := xs.map b8) (m := l.map b8) ⟨xs.length, by have := hown.rws8; rw [List.length_map]; exact this⟩ hu.rws8 (by rw [List.length_map]; exact hl0) (by rw [List.length_map, List.length_map]; exact hlen) hbase
  rw [List.length_map] at hr
  rw [← List.map_append] at h2
  replace hr : (Builtin.append_ #[26, 26] 26 #[.slice p xs.length xs.length, u]).run Tryd.prog w = .ok v' w' := hr
  refine wpList_plain hgd fun _ hK => ?_
  unfold Oper.wp execOp
  rw [← hty] at hr
  simp only [ho, resolve, invoke, builtin, Sem.run_bind, Sem.run_pure, Result.andThen_ok, List.map_toArray, List.map_cons, List.map_nil, hs, hx]
  rw [hty] at hr ⊢
  simp only [hr]
  exact hK _ _ (h v' w' h2.b8 h3)
set_option maxHeartbeats 2000000 in
theorem play {w : World} {base : Nat} {bv : Value} {xs : List Int} (hown : OwnB base w bv xs) (hbase : base ≤ w.heap.size) (hxs : xs.length ≤ 999996) (v : Int) (h : 0 ≤ v ∧ v ≤ 4294967295) (k : Nat) (hk : k = 1 ∨ k = 2 ∨ k = 4) :
    Calls Tryd.prog 15 #[bv, .int .u32 v, .int .i64 (k : Int)] w fun e w' => ∃ u, e = .returned u ∧ OwnB base w' u (xs ++ nbL v k) ∧ But (fun g => bv.ownBlock = some g) w w' ∧ (∀ w0 : World, w0.heap.size ≤ base → New w0 w → New w0 w') := by
  have q := pstore v k hk w h
  have HO := Lib.hid hown
  have HBA := Lib.hid (And.intro hbase (And.intro hxs hk))
  clear h hown hbase hxs hk
  go_enter Tryd.func15, Tryd.ntmps15
  go_wp2_with fail
  refine q.mono ?_
  rintro e w1 ⟨pv, rfl, op, n1⟩
  obtain ⟨pp, cc, rfl⟩ := op.shape
  have OP := Lib.hid op
  have N1 := Lib.hid n1
  have hlen : xs.length + (nbL v k).length ≤ 1000000 := by have := HBA.out; rw [nbL_len]; omega
  have hbs : base ≤ w1.heap.size := Nat.le_trans HBA.out.1 N1.out.size
  clear q op n1
  go_wp2_with ((with_reducible refine at_slot 17 ?_); refine wpList_app8 rfl _ _ rfl rfl base _ xs rfl (HO.out.new N1.out) _ _ rfl OP.out.byts hlen hbs ?_)
  rintro u w2 ou k2 n2
  go_wp2_with fail
  go_ret
  exact ⟨_, rfl, ou, (But.of_new _ N1.out).trans k2, fun w0 h0 nn => n2 w0 h0 (nn.trans N1.out)⟩
set_option maxHeartbeats 2000000 in
theorem play_clip {w : World} {p : Option Addr} {xs : List Int} (hown : Byts w (.slice p xs.length xs.length) xs) (hxs : xs.length ≤ 999996) (v : Int) (h : 0 ≤ v ∧ v ≤ 4294967295) (k : Nat) (hk : k = 1 ∨ k = 2 ∨ k = 4) :
    Calls Tryd.prog 15 #[.slice p xs.length xs.length, .int .u32 v, .int .i64 (k : Int)] w fun e w' => ∃ u, e = .returned u ∧ OwnB w.heap.size w' u (xs ++ nbL v k) ∧ New w w' := by
  have q := pstore v k hk w h
  have HO := Lib.hid hown
  have HBA := Lib.hid (And.intro hxs hk)
  clear h hown hxs hk
  go_enter Tryd.func15, Tryd.ntmps15
  go_wp2_with fail
  refine q.mono ?_
  rintro e w1 ⟨pv, rfl, op, n1⟩
  obtain ⟨pp, cc, rfl⟩ := op.shape
  have OP := Lib.hid op
  have N1 := Lib.hid n1
  have hlen : xs.length + (nbL v k).length ≤ 1000000 := by have := HBA.out; rw [nbL_len]; omega
  have hl0 : 0 < (nbL v k).length := by have := HBA.out; rw [nbL_len]; omega
  have hbs : w.heap.size ≤ w1.heap.size := N1.out.size
  clear q op n1
  go_wp2_with ((with_reducible refine at_slot 17 ?_); refine wpList_clip8 rfl _ _ rfl rfl w.heap.size p xs rfl (HO.out.new N1.out) _ _ rfl OP.out.byts hl0 hlen hbs ?_)
  rintro u w2 ou n2
  go_wp2_with fail
  go_ret
  exact ⟨_, rfl, ou, N1.out.trans n2⟩
end Go.Proofs.YtealjgfijlencaaDoor
