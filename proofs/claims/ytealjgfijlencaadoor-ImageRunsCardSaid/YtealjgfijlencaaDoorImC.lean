/- Programs as bytes, the document's: Encode. -/
import Derived.Test.YtealjgfijlencaaDoorImB
import Derived.Deep.RegionHeld3
import Derived.Laws.OwnMore
namespace Go.Proofs.YtealjgfijlencaaDoor
open Go.RowKit Go.Joins
set_option linter.unusedVariables false
set_option maxRecDepth 100000
/-- bytes just laid, the call's own -/
theorem own_lit (w : World) (l : List Int) (hl : l.length ≤ maxLen) : OwnB w.heap.size (w.alloc (.cells (cells8 l).toArray 5)) (.slice (some ⟨w.heap.size, 0, none⟩) l.length l.length) l :=
  ⟨by rw [cells8_len, Nat.mul_one], .inr ⟨w.heap.size, l.length, (cells8 l).toArray, rfl, Nat.le_refl _, heap_alloc_new w _, Nat.le_refl _, hl, by simp [cells8_len], by simp [cells8_len, List.take_of_length_le]⟩⟩
/-- bytes as rows of one cell -/
def R8 : RTy := ⟨5, 26, 1, 1, .int .u8 0, Tryd.underlying26, by kernel_rfl, by kernel_rfl, by decide, by decide⟩
def b8 (x : Int) : List Value := [.int .u8 x]
theorem b8_flat (l : List Int) : (l.map b8).flatten = cells8 l := by
  induction l with
  | nil => rfl
  | cons x r ih => rw [List.map_cons, List.flatten_cons, ih]; rfl
theorem b8_wf (l : List Int) : Wf R8 (l.map b8) := fun r hr => by
  obtain ⟨n, _, rfl⟩ := List.mem_map.1 hr
  exact ⟨rfl, fun x hx => by rw [b8, List.mem_singleton] at hx; subst hx; rfl⟩
theorem Byts.rws8 {w : World} {v : Value} {l : List Int} (h : Byts w v l) : Rws R8 w v (l.map b8) := by
  obtain ⟨p, cap, rfl, h2, h3⟩ := h
  refine ⟨p, cap, by rw [List.length_map], by rw [List.length_map]; exact h2, b8_wf l, fun j x hx => ?_⟩
  rw [b8_flat] at hx
  obtain ⟨hj, rfl⟩ := cells8_get hx
  exact h3 j hj
theorem OwnB.w8 {base : Nat} {w : World} {v : Value} {l : List Int} (h : OwnB base w v l) : OwnW R8 base w v (l.map b8) := by
  refine ⟨?_, b8_wf l⟩
  rw [List.length_map, b8_flat]; exact h
theorem OwnW.b8 {base : Nat} {w : World} {v : Value} {l : List Int} (h : OwnW R8 base w v (l.map b8)) : OwnB base w v l := by
  have := h.1
  rw [List.length_map, b8_flat] at this; exact this
/-- append of bytes, further: which block is written -/
theorem run_app8 {base : Nat} {w : World} {v u : Value} {xs l : List Int} (hown : OwnB base w v xs) (hu : Byts w u l) (hlen : xs.length + l.length ≤ 1000000) (hbase : base ≤ w.heap.size) :
    ∃ v' w', (Builtin.append_ #[26, 26] 26 #[v, u]).run Tryd.prog w = .ok v' w' ∧ OwnB base w' v' (xs ++ l) ∧ But (fun g => v.ownBlock = some g) w w' ∧ (∀ g, v'.ownBlock = some g → v.ownBlock = some g ∨ g = w.heap.size) ∧ (∀ w0 : World, w0.heap.size ≤ base → New w0 w → New w0 w') := by
  obtain ⟨v', w', h1, h2, h3, h4, h5⟩ := run_app_w hown.w8 hu.rws8 (by rw [List.length_map, List.length_map]; exact hlen) hbase
  refine ⟨v', w', h1, ?_, h3, h4, h5⟩
  rw [← List.map_append] at h2
  exact h2.b8
/-- append of bytes as an operation of a region that draws its order -/
theorem opwp_app {w : World} {o : Oper} {a : Act} {K : Act → World → Prop} {Q : Exit → Act → World → Prop} (s x : Operand)
    (ho : o.op = .call { callee := .builtin .append, args := #[s, x], argTypes := #[26, 26] }) (hty : o.type = 26)
    (base : Nat) (v : Value) (xs : List Int) (hs : a.eval s = v) (hown : OwnB base w v xs) (u : Value) (l : List Int) (hx : a.eval x = u) (hu : Byts w u l) (hlen : xs.length + l.length ≤ 1000000) (hbase : base ≤ w.heap.size)
    (h : ∀ v' w', OwnB base w' v' (xs ++ l) → But (fun g => v.ownBlock = some g) w w' → (∀ g, v'.ownBlock = some g → v.ownBlock = some g ∨ g = w.heap.size) → (∀ w0 : World, w0.heap.size ≤ base → New w0 w → New w0 w') → K (a.put o.dst v') w') : Oper.wp Tryd.prog o a w K Q := by
  obtain ⟨v', w', hr, h2, h3, h4, h5⟩ := run_app8 hown hu hlen hbase
  unfold Oper.wp execOp
  rw [← hty] at hr
  simp only [ho, resolve, invoke, builtin, Sem.run_bind, Sem.run_pure, Result.andThen_ok, List.map_toArray, List.map_cons, List.map_nil, hs, hx]
  rw [hty] at hr ⊢
  simp only [hr]
  exact h v' w' h2 h3 h4 h5
/-- one byte just laid -/
theorem one_byt (w : World) (x : Int) : Byts (w.alloc (.cells #[.int .u8 x] 5)) (.slice (some ⟨w.heap.size, 0, none⟩) 1 1) [x] :=
  ⟨_, _, rfl, ⟨Nat.le_refl _, by unfold maxLen; decide⟩, fun i hi => ⟨_, rfl, by
    obtain rfl : i = 0 := by simpa using hi
    rw [Addr.add_mid]
    exact (Box.here w w.heap.size #[.int .u8 x] 5 rfl).one⟩⟩
theorem Byts.but8 {S : Nat → Prop} {w w' : World} {u : Value} {l : List Int} (h : Byts w u l) (k : But S w w') (hn : ∀ g, u.ownBlock = some g → ¬ S g) : Byts w' u l := by
  obtain ⟨p, cap, rfl, h2, h3⟩ := h
  refine ⟨p, cap, rfl, h2, fun i hi => ?_⟩
  obtain ⟨a, rfl, hc⟩ := h3 i hi
  have e : (a.add i).block = a.block := by unfold Addr.add; split <;> rfl
  exact ⟨a, rfl, by rw [k.cell (cell_lt hc) (by rw [e]; exact hn _ rfl)]; exact hc⟩
theorem OwnB.lt8 {base : Nat} {w : World} {v : Value} {l : List Int} (h : OwnB base w v l) {g : Nat} (hg : v.ownBlock = some g) : g < w.heap.size := (World.ownsRow.lt h g hg).2
end Go.Proofs.YtealjgfijlencaaDoor
