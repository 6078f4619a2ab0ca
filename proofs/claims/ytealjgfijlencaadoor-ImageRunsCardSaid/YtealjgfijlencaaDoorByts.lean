/- Slices of bytes: as cells, read, as strings, made by append. -/
import Derived.Test.YtealjgfijlencaaDoorFar
import Derived.Test.YtealjgfijlencaaDoorPhMath
import Derived.Deep.OwnRows
import Derived.Deep.MidRow
import Derived.Laws.BytesArg
namespace Go.Proofs.YtealjgfijlencaaDoor
open Go.RowKit
set_option linter.unusedVariables false
set_option maxRecDepth 100000
theorem byte_info : (Tryd.prog.info? 5).map (fun i => (i.zero, i.size, i.bytes)) = some (some (.int .u8 0), 1, 1) := by kernel_rfl
theorem byte_size : (Tryd.prog.info? 5).map (·.size) = some 1 := by kernel_rfl
/-- bytes as cells -/
def cells8 (l : List Int) : List Value := l.map (Value.int .u8)
theorem cells8_len (l : List Int) : (cells8 l).length = l.length := by simp [cells8]
theorem cells8_one {l : List Int} : ∀ v ∈ cells8 l, v.oneCell' = true := by
  intro v hv
  simp only [cells8, List.mem_map] at hv
  obtain ⟨x, _, rfl⟩ := hv
  rfl
theorem cells8_get {l : List Int} {j : Nat} {v : Value} (h : (cells8 l)[j]? = some v) : j < l.length ∧ v = .int .u8 (l.getD j 0) := by
  simp only [cells8, List.getElem?_map] at h
  rcases hj : l[j]? with _ | y
  · rw [hj] at h; cases h
  · rw [hj] at h
    have hl : j < l.length := by
      rcases Nat.lt_or_ge j l.length with k | k
      · exact k
      · rw [List.getElem?_eq_none k] at hj; cases hj
    refine ⟨hl, ?_⟩
    rw [List.getD_eq_getElem?_getD, hj]
    simpa using h.symm
theorem cells8_zeros (n : Nat) : cells8 (List.replicate n 0) = List.replicate n (.int .u8 0) := by simp [cells8]
theorem cells8_splice (l : List Int) (p : Nat) (b : List Int) : cells8 (splice l p b) = splice (cells8 l) p (cells8 b) := splice_map _ _ _ _
/-- a slice of bytes that can be read -/
def Byts (w : World) (v : Value) (l : List Int) : Prop :=
  ∃ p cap, v = .slice p l.length cap ∧ (l.length ≤ cap ∧ cap ≤ maxLen) ∧ ∀ i, i < l.length → ∃ a, p = some a ∧ w.cell? (a.add i) = some (.int .u8 (l.getD i 0))
theorem Byts.nil (w : World) : Byts w (.slice none 0 0) [] := ⟨none, 0, rfl, ⟨Nat.le_refl _, Nat.zero_le _⟩, fun i h => absurd h (Nat.not_lt_zero _)⟩
theorem Byts.new {w w' : World} {v : Value} {l : List Int} (h : Byts w v l) (k : New w w') : Byts w' v l := by
  obtain ⟨p, cap, h1, h2, h3⟩ := h
  refine ⟨p, cap, h1, h2, fun i hi => ?_⟩
  obtain ⟨a, ha, hc⟩ := h3 i hi
  exact ⟨a, ha, by rw [k.cell (cell_lt hc)]; exact hc⟩
theorem Byts.copy {w : World} {p : Option Addr} {n cap : Nat} {l : List Int} (h : Byts w (.slice p n cap) l) : n = l.length ∧ l.length ≤ maxLen ∧
    (0 < (cells8 l).length → ∃ ad, p = some ad ∧ ∀ j v, (cells8 l)[j]? = some v → w.cell? (ad.add j) = some v) := by
  obtain ⟨p', cap', h1, h2, h3⟩ := h
  cases h1
  refine ⟨rfl, Nat.le_trans h2.1 h2.2, fun hl => ?_⟩
  rw [cells8_len] at hl
  obtain ⟨a, rfl, _⟩ := h3 0 hl
  refine ⟨a, rfl, fun j v hv => ?_⟩
  obtain ⟨hj, rfl⟩ := cells8_get hv
  obtain ⟨a', e, hc⟩ := h3 j hj
  cases e
  exact hc
theorem str_of {w : World} {v : Value} {l : List Int} (h : Byts w v l) : (convert 26 9 v).run Tryd.prog w = .ok (.string (strOfNums l)) w := by
  obtain ⟨p, cap, rfl, _, hc⟩ := h
  rcases p with _ | a
  · have hl : l = [] := by
      rcases l with _ | ⟨x, l⟩
      · rfl
      · obtain ⟨a, ha, _⟩ := hc 0 (by simp); cases ha
    subst hl
    exact run_convert_bytes_nil w 26 5 Tryd.underlying26 Tryd.underlying5 _ _ 9 Tryd.underlying9
  · have hl : (loadCells a l.length).run Tryd.prog w = .ok (l.map (Value.int .u8)).toArray w := by
      have := run_loadCells_list (P := Tryd.prog) w a (l.map (Value.int .u8)) (fun j v hv => by
        obtain ⟨hj, rfl⟩ := cells8_get (l := l) hv
        obtain ⟨a', e, hc⟩ := hc j hj
        cases e
        exact hc)
      simpa using this
    rw [run_convert_bytes_string w 26 9 5 (some a) l.length cap Tryd.underlying26 Tryd.underlying5 Tryd.underlying9, run_bytesToString w a l.length cap l hl, foldl_push_bytes]
    simp [strOfNums, ByteArray.empty, ByteArray.emptyWithCapacity]
    rfl
theorem byts_of_block {w : World} {b cap : Nat} {l : List Int} (h : w.heap[b]? = some (.cells (cells8 l).toArray 5 (0, 0))) (hl : l.length ≤ cap ∧ cap ≤ maxLen) : Byts w (.slice (some ⟨b, 0, none⟩) l.length cap) l :=
  ⟨_, _, rfl, hl, fun i hi => ⟨_, rfl, by rw [Addr.add_mid, cell_of_row w b (0 + i) _ _ _ h, Nat.zero_add, List.getElem?_toArray, cells8, List.getElem?_map, List.getElem?_eq_getElem hi, getD_eq l i hi]; rfl⟩⟩
/-- a slice of bytes that the call made, or nil -/
def OwnB (base : Nat) (w : World) (v : Value) (l : List Int) : Prop := w.ownsRow base 5 1 v l.length (cells8 l)
theorem OwnB.nil (base : Nat) (w : World) : OwnB base w (.slice none 0 0) [] := ⟨by simp [cells8], .inl ⟨rfl, rfl⟩⟩
theorem OwnB.new {base : Nat} {w w' : World} {v : Value} {l : List Int} (h : OwnB base w v l) (k : New w w') : OwnB base w' v l := by
  refine ⟨h.1, ?_⟩
  rcases h.2 with hn | ⟨g, cap, cur, rfl, hb, hg, rest⟩
  · exact .inl hn
  · exact .inr ⟨g, cap, cur, rfl, hb, by rw [k.block (Array.getElem?_eq_some_iff.1 hg).1]; exact hg, rest⟩
theorem OwnB.far {base rb : Nat} {w w' : World} {v : Value} {l : List Int} (h : OwnB base w v l) (k : Far rb w w') (hr : rb < base) : OwnB base w' v l := by
  refine ⟨h.1, ?_⟩
  rcases h.2 with hn | ⟨g, cap, cur, rfl, hb, hg, rest⟩
  · exact .inl hn
  · exact .inr ⟨g, cap, cur, rfl, hb, by rw [k.2.2.2.2 g (Array.getElem?_eq_some_iff.1 hg).1 (by omega)]; exact hg, rest⟩
theorem OwnB.more {base base' : Nat} {w : World} {v : Value} {l : List Int} (h : OwnB base w v l) (k : base' ≤ base) : OwnB base' w v l := by
  refine ⟨h.1, ?_⟩
  rcases h.2 with hn | ⟨g, cap, cur, rfl, hb, rest⟩
  · exact .inl hn
  · exact .inr ⟨g, cap, cur, rfl, by omega, rest⟩
theorem OwnB.shape {base : Nat} {w : World} {v : Value} {l : List Int} (h : OwnB base w v l) : ∃ p cap, v = .slice p l.length cap := by
  rcases h.2 with ⟨rfl, hn⟩ | ⟨g, cap, cur, rfl, _⟩
  · have : l = [] := by simpa [cells8] using hn
    subst this; exact ⟨_, _, rfl⟩
  · exact ⟨_, _, rfl⟩
theorem OwnB.byts {base : Nat} {w : World} {v : Value} {l : List Int} (h : OwnB base w v l) : Byts w v l := by
  rcases h.2 with ⟨rfl, hn⟩ | ⟨g, cap, cur, rfl, hb, hg, h1, h2, h3, h4⟩
  · have : l = [] := by simpa [cells8] using hn
    subst this; exact Byts.nil w
  · refine ⟨_, _, rfl, ⟨h1, h2⟩, fun i hi => ⟨_, rfl, ?_⟩⟩
    have e : (cur.toList.take (l.length * 1))[i]? = some (.int .u8 (l.getD i 0)) := by
      rw [h4, cells8, List.getElem?_map, List.getElem?_eq_getElem hi, getD_eq l i hi]; rfl
    rw [List.getElem?_take] at e
    split at e
    · rw [Addr.add_mid, Nat.zero_add]; simpa [World.cell?, hg] using e
    · cases e
theorem run_append_bytes (w : World) (base : Nat) (v : Value) (xs : List Int) (hown : OwnB base w v xs) (u : Value) (l : List Int) (hu : Byts w u l) (hlen : xs.length + l.length ≤ 1000000) (hbase : base ≤ w.heap.size) :
    ∃ v' w', (Builtin.append_ #[26, 26] 26 #[v, u]).run Tryd.prog w = .ok v' w' ∧ OwnB base w' v' (xs ++ l) ∧ w.grownBy w' v.ownBlock := by
  obtain ⟨i0, hi, hz0, hz1, hz2⟩ := info_parts byte_info
  obtain ⟨p, cap, rfl, hlm, hc⟩ := hu
  rcases p with _ | ad
  · have hl : l = [] := by
      rcases l with _ | ⟨x, l⟩
      · rfl
      · obtain ⟨a, ha, _⟩ := hc 0 (by simp); cases ha
    subst hl
    refine ⟨v, w, ?_, by rw [List.append_nil]; exact hown, World.grownBy.refl w _⟩
    rcases hown.2 with ⟨rfl, hn⟩ | ⟨g, cap', cur, rfl, _, _, hnc, _⟩
    · simp [Builtin.append_, run_underlying Tryd.underlying26, sizeOf, typeInfo, hi, Builtin.lenOf, Builtin.firstCells]
    · simp [Builtin.append_, run_underlying Tryd.underlying26, sizeOf, typeInfo, hi, Builtin.lenOf, Builtin.firstCells, hnc, storeCells]
  · obtain ⟨v', w', h1, h2, h3, _⟩ := run_append_own (P := Tryd.prog) w base 26 26 5 i0 (.int .u8 0) 1 1 Tryd.underlying26 hi hz0 hz1 hz2 rfl (by decide) v xs.length (cells8 xs) hown ad l.length cap (cells8 l)
      (by rw [cells8_len]; omega) (fun j u hu => by
        obtain ⟨hj, rfl⟩ := cells8_get hu
        obtain ⟨a', e, hcc⟩ := hc j hj
        cases e; exact hcc) cells8_one (by unfold maxLen; omega) (by omega) hbase
    refine ⟨v', w', h1, ?_, h3⟩
    unfold OwnB
    rw [List.length_append, show cells8 (xs ++ l) = cells8 xs ++ cells8 l by simp [cells8]]
    exact h2
/-- append of bytes to a slice of bytes that the call made -/
theorem wpList_append_bytes {w : World} {ops : Array Oper} {rest : List Oper} {o : Oper} {a : Act} {Q : Exit → Act → World → Prop} (hgd : o.guard = none) (s x : Operand)
    (ho : o.op = .call { callee := .builtin .append, args := #[s, x], argTypes := #[26, 26] }) (hty : o.type = 26)
    (base : Nat) (v : Value) (xs : List Int) (hs : a.eval s = v) (hown : OwnB base w v xs) (u : Value) (l : List Int) (hx : a.eval x = u) (hu : Byts w u l) (hlen : xs.length + l.length ≤ 1000000) (hbase : base ≤ w.heap.size)
    (h : ∀ v' w', OwnB base w' v' (xs ++ l) → (∀ w0 : World, w0.heap.size ≤ base → New w0 w → New w0 w') → wpList Tryd.prog ops Q rest (a.put o.dst v') w') : wpList Tryd.prog ops Q (o :: rest) a w := by
  obtain ⟨v', w', hr, h2, h3⟩ := run_append_bytes w base v xs hown u l hu hlen hbase
  refine wpList_plain hgd fun _ hK => ?_
  unfold Oper.wp execOp
  rw [← hty] at hr
  simp only [ho, resolve, invoke, builtin, Sem.run_bind, Sem.run_pure, Result.andThen_ok, List.map_toArray, List.map_cons, List.map_nil, hs, hx]
  rw [hty] at hr ⊢
  simp only [hr]
  exact hK _ _ (h v' w' h2 fun w0 h0 hn => hn.grown h3 fun k hk => Nat.le_trans h0 (World.ownsRow.lt hown k hk).1)
end Go.Proofs.YtealjgfijlencaaDoor
