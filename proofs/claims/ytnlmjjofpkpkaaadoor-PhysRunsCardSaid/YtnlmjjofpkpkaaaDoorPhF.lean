/- Slices of bytes that a call makes by append; frames as parts of the row of all bytes. -/
import Derived.Test.YtnlmjjofpkpkaaaDoorPhE
namespace Go.Proofs.YtnlmjjofpkpkaaaDoor
open Go.RowKit
set_option linter.unusedVariables false
set_option maxRecDepth 100000
/-- a slice of bytes that the call made, or nil -/
def OwnB (base : Nat) (w : World) (v : Value) (l : List Int) : Prop := w.ownsRow base 5 1 v l.length (cells8 l)
theorem OwnB.nil (base : Nat) (w : World) : OwnB base w (.slice none 0 0) [] := ⟨by simp [cells8], .inl ⟨rfl, rfl⟩⟩
theorem OwnB.new {base : Nat} {w w' : World} {v : Value} {l : List Int} (h : OwnB base w v l) (k : New w w') : OwnB base w' v l := by
  refine ⟨h.1, ?_⟩
  rcases h.2 with hn | ⟨g, cap, cur, rfl, hb, hg, rest⟩
  · exact .inl hn
  · exact .inr ⟨g, cap, cur, rfl, hb, by rw [k.block (Array.getElem?_eq_some_iff.1 hg).1]; exact hg, rest⟩
theorem OwnB.far {base rb : Nat} {w w' : World} {v : Value} {l : List Int} (h : OwnB base w v l) (k : Far rb w w') (hr : rb < base) : OwnB base w' v l := by
  refine ⟨h.1, ?_⟩
  rcases h.2 with hn | ⟨g, cap, cur, rfl, hb, hg, rest⟩
  · exact .inl hn
  · exact .inr ⟨g, cap, cur, rfl, hb, by rw [k.2.2.2.2 g (Array.getElem?_eq_some_iff.1 hg).1 (by omega)]; exact hg, rest⟩
theorem OwnB.more {base base' : Nat} {w : World} {v : Value} {l : List Int} (h : OwnB base w v l) (k : base' ≤ base) : OwnB base' w v l := by
  refine ⟨h.1, ?_⟩
  rcases h.2 with hn | ⟨g, cap, cur, rfl, hb, rest⟩
  · exact .inl hn
  · exact .inr ⟨g, cap, cur, rfl, by omega, rest⟩
theorem OwnB.shape {base : Nat} {w : World} {v : Value} {l : List Int} (h : OwnB base w v l) : ∃ p cap, v = .slice p l.length cap := by
  rcases h.2 with ⟨rfl, hn⟩ | ⟨g, cap, cur, rfl, _⟩
  · have : l = [] := by simpa [cells8] using hn
    subst this; exact ⟨_, _, rfl⟩
  · exact ⟨_, _, rfl⟩
theorem OwnB.byts {base : Nat} {w : World} {v : Value} {l : List Int} (h : OwnB base w v l) : Byts w v l := by
  rcases h.2 with ⟨rfl, hn⟩ | ⟨g, cap, cur, rfl, hb, hg, h1, h2, h3, h4⟩
  · have : l = [] := by simpa [cells8] using hn
    subst this; exact Byts.nil w
  · refine ⟨_, _, rfl, Nat.le_trans h1 h2, fun i hi => ⟨_, rfl, ?_⟩⟩
    have e : (cur.toList.take (l.length * 1))[i]? = some (.int .u8 (l.getD i 0)) := by
      rw [h4, cells8, List.getElem?_map, List.getElem?_eq_getElem hi, getD_eq l i hi]; rfl
    rw [List.getElem?_take] at e
    split at e
    · rw [Addr.add_mid, Nat.zero_add]; simpa [World.cell?, hg] using e
    · cases e
theorem run_append_bytes (w : World) (base : Nat) (v : Value) (xs : List Int) (hown : OwnB base w v xs) (u : Value) (l : List Int) (hu : Byts w u l) (hlen : xs.length + l.length ≤ 1000000) (hbase : base ≤ w.heap.size) :
    ∃ v' w', (Builtin.append_ #[24, 24] 24 #[v, u]).run Tryd.prog w = .ok v' w' ∧ OwnB base w' v' (xs ++ l) ∧ w.grownBy w' v.ownBlock := by
  obtain ⟨i0, hi, hz0, hz1, hz2⟩ := info_parts byte_info
  obtain ⟨p, cap, rfl, hlm, hc⟩ := hu
  rcases p with _ | ad
  · have hl : l = [] := by
      rcases l with _ | ⟨x, l⟩
      · rfl
      · obtain ⟨a, ha, _⟩ := hc 0 (by simp); cases ha
    subst hl
    refine ⟨v, w, ?_, by rw [List.append_nil]; exact hown, World.grownBy.refl w _⟩
    rcases hown.2 with ⟨rfl, hn⟩ | ⟨g, cap', cur, rfl, _, _, hnc, _⟩
    · simp [Builtin.append_, run_underlying Tryd.underlying24, sizeOf, typeInfo, hi, Builtin.lenOf, Builtin.firstCells]
    · simp [Builtin.append_, run_underlying Tryd.underlying24, sizeOf, typeInfo, hi, Builtin.lenOf, Builtin.firstCells, hnc, storeCells]
  · obtain ⟨v', w', h1, h2, h3, _⟩ := run_append_own (P := Tryd.prog) w base 24 24 5 i0 (.int .u8 0) 1 1 Tryd.underlying24 hi hz0 hz1 hz2 rfl (by decide) v xs.length (cells8 xs) hown ad l.length cap (cells8 l)
      (by rw [cells8_len]; omega) (fun j u hu => by
        obtain ⟨hj, rfl⟩ := cells8_get hu
        obtain ⟨a', e, hcc⟩ := hc j hj
        cases e; exact hcc) cells8_one (by unfold maxLen; omega) (by omega) hbase
    refine ⟨v', w', h1, ?_, h3⟩
    unfold OwnB
    rw [List.length_append, show cells8 (xs ++ l) = cells8 xs ++ cells8 l by simp [cells8]]
    exact h2
/-- append of bytes to a slice of bytes that the call made -/
theorem wpList_append_bytes {w : World} {ops : Array Oper} {rest : List Oper} {o : Oper} {a : Act} {Q : Exit → Act → World → Prop} (hgd : o.guard = none) (s x : Operand)
    (ho : o.op = .call { callee := .builtin .append, args := #[s, x], argTypes := #[24, 24] }) (hty : o.type = 24)
    (base : Nat) (v : Value) (xs : List Int) (hs : a.eval s = v) (hown : OwnB base w v xs) (u : Value) (l : List Int) (hx : a.eval x = u) (hu : Byts w u l) (hlen : xs.length + l.length ≤ 1000000) (hbase : base ≤ w.heap.size)
    (h : ∀ v' w', OwnB base w' v' (xs ++ l) → (∀ w0 : World, w0.heap.size ≤ base → New w0 w → New w0 w') → wpList Tryd.prog ops Q rest (a.put o.dst v') w') : wpList Tryd.prog ops Q (o :: rest) a w := by
  obtain ⟨v', w', hr, h2, h3⟩ := run_append_bytes w base v xs hown u l hu hlen hbase
  refine wpList_plain hgd fun _ hK => ?_
  unfold Oper.wp execOp
  rw [← hty] at hr
  simp only [ho, resolve, invoke, builtin, Sem.run_bind, Sem.run_pure, Result.andThen_ok, List.map_toArray, List.map_cons, List.map_nil, hs, hx]
  rw [hty] at hr ⊢
  simp only [hr]
  exact hK _ _ (h v' w' h2 fun w0 h0 hn => hn.grown h3 fun k hk => Nat.le_trans h0 (World.ownsRow.lt hown k hk).1)
/-- a frame, when bytes are laid into it -/
theorem cut_splice_frame (l : List Int) (f o : Nat) (c : List Int) (hf : f * 256 + 256 ≤ l.length) (ho : o + c.length ≤ 256) :
    cut (splice l (f * 256 + o) c) (f * 256) 256 = splice (cut l (f * 256) 256) o c := by
  have hl := splice_len l (f * 256 + o) c (by omega)
  have hc := cut_len l (f * 256) 256 hf
  apply ext_getD (by rw [cut_len _ _ _ (by omega), splice_len _ _ _ (by omega), hc])
  intro j hj
  rw [cut_len _ _ _ (by omega)] at hj
  rw [cut_get _ _ _ _ (by omega) hj, splice_get _ _ _ (by omega), splice_get _ _ _ (by omega)]
  by_cases d : o ≤ j ∧ j < o + c.length
  · rw [if_pos d, if_pos (by omega)]; exact getD_at _ (by omega)
  · rw [if_neg d, if_neg (by omega), cut_get _ _ _ _ hf hj]
theorem cut_splice_other (l : List Int) (f g o : Nat) (c : List Int) (hf : f * 256 + 256 ≤ l.length) (hg : g * 256 + 256 ≤ l.length) (ho : o + c.length ≤ 256) (hne : f ≠ g) :
    cut (splice l (f * 256 + o) c) (g * 256) 256 = cut l (g * 256) 256 := cut_splice_off _ _ _ _ _ (by omega) hg (by omega)
theorem splice_two (l : List Int) (p : Nat) (a b : List Int) (h : p + a.length + b.length ≤ l.length) : splice (splice l p a) (p + a.length) b = splice l p (a ++ b) := by
  have h1 := splice_len l p a (by omega)
  have h2 := splice_len l p (a ++ b) (by rw [List.length_append]; omega)
  apply ext_getD (by rw [splice_len _ _ _ (by omega), h1, h2])
  intro j hj
  rw [splice_get _ _ _ (by omega), splice_get _ _ _ (by omega), splice_get _ _ _ (by rw [List.length_append]; omega), List.length_append]
  by_cases c1 : p + a.length ≤ j ∧ j < p + a.length + b.length
  · rw [if_pos c1, if_pos (by omega)]
    simp only [List.getD_eq_getElem?_getD]
    rw [List.getElem?_append_right (by omega)]
    congr 2; omega
  · rw [if_neg c1]
    by_cases c2 : p ≤ j ∧ j < p + a.length
    · rw [if_pos c2, if_pos (by omega)]
      simp only [List.getD_eq_getElem?_getD]
      rw [List.getElem?_append_left (by omega)]
    · rw [if_neg c2, if_neg (by omega)]
theorem splice_swap (l : List Int) (p : Nat) (a b : List Int) (h : p + a.length + b.length ≤ l.length) : splice (splice l (p + a.length) b) p a = splice l p (a ++ b) := by
  have h1 := splice_len l (p + a.length) b (by omega)
  rw [← splice_two l p a b h]
  have h2 := splice_len l p a (by omega)
  have h3 := splice_len (splice l (p + a.length) b) p a (by omega)
  have h4 := splice_len (splice l p a) (p + a.length) b (by omega)
  apply ext_getD (by omega)
  intro j hj
  rw [splice_get _ _ _ (by omega), splice_get _ _ _ (by omega), splice_get _ _ _ (by omega), splice_get _ _ _ (by omega)]
  by_cases c1 : p ≤ j ∧ j < p + a.length
  · rw [if_pos c1, if_neg (by omega), if_pos c1]
  · rw [if_neg c1, if_neg c1]
end Go.Proofs.YtnlmjjofpkpkaaaDoor
