/- Slices of structs of one-cell fields, any such type: rows of c cells each; read, made by append, appended to behind a row whose room ends there. -/
import Derived.Test.YtealjgfijlencaaDoorFar
import Derived.Test.YtealjgfijlencaaDoorBut
import Derived.Deep.OwnRows
import Derived.Deep.Slices
import Derived.Maps.AppendAt
import Derived.Deep.MidRow
namespace Go.Proofs.YtealjgfijlencaaDoor
open Go.RowKit
set_option linter.unusedVariables false
set_option maxRecDepth 100000
/-- a type of such elements: its slice's type, cells and bytes of an element, its zero -/
structure RTy where
  T : TypeId
  TS : TypeId
  c : Nat
  nb : Nat
  z : Value
  ht : Tryd.prog.underlying TS = some (.slice T)
  hin : (Tryd.prog.info? T).map (fun i => (i.zero, i.size, i.bytes)) = some (some z, c, nb)
  hz : z.cells.size = c
  hnb : nb ≤ 140
  hc : 0 < c
theorem info_partsN {T : TypeId} {z : Value} {n m : Nat} (h : (Tryd.prog.info? T).map (fun i => (i.zero, i.size, i.bytes)) = some (some z, n, m)) : ∃ i, Tryd.prog.info? T = some i ∧ i.zero = some z ∧ i.size = n ∧ i.bytes = m := by
  cases h0 : Tryd.prog.info? T with
  | none => rw [h0] at h; cases h
  | some i =>
    rw [h0] at h
    simp only [Option.map_some, Option.some.injEq, Prod.mk.injEq] at h
    exact ⟨i, rfl, h.1, h.2.1, h.2.2⟩
section
variable {R : RTy} {w w' W : World} {base : Nat} {v u : Value} {l m : List (List Value)}
/-- each row has c cells, one value each -/
def Wf (R : RTy) (l : List (List Value)) : Prop := ∀ r ∈ l, r.length = R.c ∧ ∀ x ∈ r, x.oneCell' = true
theorem Wf.nil : Wf R [] := fun r h => by cases h
theorem Wf.app (h : Wf R l) (k : Wf R m) : Wf R (l ++ m) := fun r hr => (List.mem_append.1 hr).elim (h r) (k r)
theorem Wf.flat (h : Wf R l) : l.flatten.length = l.length * R.c := by
  induction l with
  | nil => simp
  | cons r l ih =>
    rw [List.flatten_cons, List.length_append, List.length_cons, (h r List.mem_cons_self).1, ih (fun x hx => h x (List.mem_cons_of_mem _ hx)), Nat.succ_mul]; omega
theorem Wf.one (h : Wf R l) : ∀ x ∈ l.flatten, x.oneCell' = true := fun x hx => by
  obtain ⟨r, hr, hx⟩ := List.mem_flatten.1 hx
  exact (h r hr).2 x hx
theorem Wf.get (h : Wf R l) (i f : Nat) (hi : i < l.length) (hf : f < R.c) : l.flatten[i * R.c + f]? = (l[i])[f]? := by
  induction l generalizing i with
  | nil => simp at hi
  | cons r l ih =>
    have hr := (h r List.mem_cons_self).1
    rw [List.flatten_cons]
    cases i with
    | zero => rw [Nat.zero_mul, Nat.zero_add, List.getElem?_append_left (by omega)]; rfl
    | succ i =>
      rw [Nat.succ_mul, List.getElem?_append_right (by omega), hr, show i * R.c + R.c + f - R.c = i * R.c + f by omega]
      exact ih (fun x hx => h x (List.mem_cons_of_mem _ hx)) i (by simpa using hi)
/-- a slice of such elements that can be read -/
def Rws (R : RTy) (w : World) (v : Value) (l : List (List Value)) : Prop :=
  ∃ p cap, v = .slice p l.length cap ∧ (l.length ≤ cap ∧ cap ≤ maxLen) ∧ Wf R l ∧ ∀ j x, l.flatten[j]? = some x → ∃ a, p = some a ∧ w.cell? (a.add j) = some x
theorem Rws.nil : Rws R w (.slice none 0 0) [] := ⟨none, 0, rfl, ⟨Nat.le_refl _, Nat.zero_le _⟩, Wf.nil, fun j x h => by simp at h⟩
theorem Rws.wf (h : Rws R w v l) : Wf R l := by obtain ⟨p, cap, h1, h2, h3, h4⟩ := h; exact h3
theorem Rws.shape (h : Rws R w v l) : ∃ p cap, v = .slice p l.length cap ∧ l.length ≤ cap ∧ cap ≤ maxLen := by obtain ⟨p, cap, h1, h2, h3, h4⟩ := h; exact ⟨p, cap, h1, h2⟩
theorem Rws.new (h : Rws R w v l) (k : New w w') : Rws R w' v l := by
  obtain ⟨p, cap, h1, h2, h3, h4⟩ := h
  refine ⟨p, cap, h1, h2, h3, fun j x hx => ?_⟩
  obtain ⟨a, ha, hc⟩ := h4 j x hx
  exact ⟨a, ha, k.keeps hc⟩
theorem Rws.but {S : Nat → Prop} (h : Rws R w v l) (k : But S w w') (hn : ∀ g, v.ownBlock = some g → ¬ S g) : Rws R w' v l := by
  obtain ⟨p, cap, rfl, h2, h3, h4⟩ := h
  refine ⟨p, cap, rfl, h2, h3, fun j x hx => ?_⟩
  obtain ⟨a, rfl, hc⟩ := h4 j x hx
  have e : (a.add j).block = a.block := by unfold Addr.add; split <;> rfl
  exact ⟨a, rfl, by rw [k.cell (cell_lt hc) (by rw [e]; exact hn _ rfl)]; exact hc⟩
/-- one element's field -/
theorem Rws.at_ {p : Option Addr} {n cap : Nat} (h : Rws R w (.slice p n cap) l) (i f : Nat) (hi : i < l.length) (x : Value) (hx : (l[i])[f]? = some x) : ∃ a, p = some a ∧ w.cell? (a.add (i * R.c + f)) = some x := by
  obtain ⟨p', cap', e, h2, h3, h4⟩ := h
  cases e
  have hf : f < R.c := by rw [← (h3 _ (List.getElem_mem hi)).1]; exact (List.getElem?_eq_some_iff.1 hx).1
  exact h4 _ x (by rw [h3.get i f hi hf]; exact hx)
/-- one element just laid -/
theorem Rws.single {r : List Value} (hr : r.length = R.c) (h1 : ∀ x ∈ r, x.oneCell' = true) {b : Nat} (h : w.heap[b]? = some (.cells r.toArray R.T (0, 0))) : Rws R w (.slice (some ⟨b, 0, none⟩) 1 1) [r] := by
  refine ⟨_, _, rfl, ⟨Nat.le_refl _, by unfold maxLen; decide⟩, fun x hx => by rw [List.mem_singleton] at hx; subst hx; exact ⟨hr, h1⟩, fun j x hx => ⟨_, rfl, ?_⟩⟩
  have hx' : r[j]? = some x := by simpa using hx
  rw [Addr.add_mid, Nat.zero_add]
  have : w.cell? ⟨b, j, none⟩ = r[j]? := by
    unfold World.cell?
    rw [h]
    simp
  rw [this, hx']
/-- a slice of such elements that the call made, or nil -/
def OwnW (R : RTy) (base : Nat) (w : World) (v : Value) (l : List (List Value)) : Prop := w.ownsRow base R.T R.c v l.length l.flatten ∧ Wf R l
theorem OwnW.nil : OwnW R base w (.slice none 0 0) [] := ⟨⟨by simp, .inl ⟨rfl, rfl⟩⟩, Wf.nil⟩
theorem OwnW.new (h : OwnW R base w v l) (k : New w w') : OwnW R base w' v l := by
  refine ⟨⟨h.1.1, ?_⟩, h.2⟩
  rcases h.1.2 with hn | ⟨g, cap, cur, rfl, hb, hg, rest⟩
  · exact .inl hn
  · exact .inr ⟨g, cap, cur, rfl, hb, by rw [k.block (Array.getElem?_eq_some_iff.1 hg).1]; exact hg, rest⟩
theorem OwnW.but {S : Nat → Prop} (h : OwnW R base w v l) (k : But S w w') (hn : ∀ g, v.ownBlock = some g → ¬ S g) : OwnW R base w' v l := by
  refine ⟨⟨h.1.1, ?_⟩, h.2⟩
  rcases h.1.2 with hh | ⟨g, cap, cur, rfl, hb, hg, rest⟩
  · exact .inl hh
  · exact .inr ⟨g, cap, cur, rfl, hb, by rw [k.block (Array.getElem?_eq_some_iff.1 hg).1 (hn g rfl)]; exact hg, rest⟩
theorem OwnW.more {b2 : Nat} (h : OwnW R base w v l) (k : b2 ≤ base) : OwnW R b2 w v l := by
  refine ⟨⟨h.1.1, ?_⟩, h.2⟩
  rcases h.1.2 with hn | ⟨g, cap, cur, rfl, hb, rest⟩
  · exact .inl hn
  · exact .inr ⟨g, cap, cur, rfl, by omega, rest⟩
theorem OwnW.ge (h : OwnW R base w v l) {g : Nat} (hg : v.ownBlock = some g) : base ≤ g := (World.ownsRow.lt h.1 g hg).1
theorem OwnW.lt (h : OwnW R base w v l) {g : Nat} (hg : v.ownBlock = some g) : g < w.heap.size := (World.ownsRow.lt h.1 g hg).2
theorem OwnW.rws (h : OwnW R base w v l) : Rws R w v l := by
  have hfl := h.2.flat
  rcases h.1.2 with ⟨rfl, hn⟩ | ⟨g, cap, cur, rfl, hb, hg, h1, h2, h3, h4⟩
  · have : l = [] := List.eq_nil_of_length_eq_zero hn
    subst this; exact Rws.nil
  · refine ⟨_, _, rfl, ⟨h1, h2⟩, h.2, fun j x hx => ⟨_, rfl, ?_⟩⟩
    rw [← h4, List.getElem?_take] at hx
    split at hx
    · rw [Addr.add_mid, Nat.zero_add]
      unfold World.cell?
      rw [hg]
      simpa using hx
    · cases hx
theorem OwnW.shape (h : OwnW R base w v l) : ∃ p cap, v = .slice p l.length cap ∧ l.length ≤ cap ∧ cap ≤ maxLen := h.rws.shape
/-- elements behind a slice that the call made -/
theorem run_app_w (hown : OwnW R base w v l) (hu : Rws R w u m) (hlen : l.length + m.length ≤ 1000000) (hbase : base ≤ w.heap.size) :
    ∃ v' w', (Builtin.append_ #[R.TS, R.TS] R.TS #[v, u]).run Tryd.prog w = .ok v' w' ∧ OwnW R base w' v' (l ++ m) ∧ But (fun g => v.ownBlock = some g) w w' ∧ (∀ g, v'.ownBlock = some g → v.ownBlock = some g ∨ g = w.heap.size) ∧ (∀ w0 : World, w0.heap.size ≤ base → New w0 w → New w0 w') := by
  obtain ⟨i0, hi, hz0, hz1, hz2⟩ := info_partsN R.hin
  obtain ⟨p, cap, rfl, hcap, hwf, hc⟩ := hu
  rcases p with _ | ad
  · have hm : m = [] := by
      rcases m with _ | ⟨r, m⟩
      · rfl
      · have hr := hwf r List.mem_cons_self
        rcases r with _ | ⟨x, r⟩
        · have := R.hc; simp at hr; omega
        · obtain ⟨a, ha, _⟩ := hc 0 x (by simp); cases ha
    subst hm
    refine ⟨v, w, ?_, by rw [List.append_nil]; exact hown, But.refl _ _, fun g hg => .inl hg, fun w0 _ n => n⟩
    have hst : ∀ a, (storeCells a []).run Tryd.prog w = .ok () w := fun a => rfl
    rcases hown.1.2 with ⟨rfl, hn⟩ | ⟨g, cap', cur, rfl, _, _, hnc, _⟩
    · simp [Builtin.append_, run_underlying R.ht, sizeOf, typeInfo, hi, Builtin.lenOf, run_firstCells_none]
    · simp [Builtin.append_, run_underlying R.ht, sizeOf, typeInfo, hi, Builtin.lenOf, run_firstCells_none, hnc, hst]
  · obtain ⟨v', w', h1, h2, h3, -, h5⟩ := run_append_own_at (P := Tryd.prog) w base R.TS R.TS R.T i0 R.z R.c R.nb R.ht hi hz0 hz1 hz2 R.hz R.hc v l.length l.flatten hown.1 ad m.length cap m.flatten
      hwf.flat (fun j u hu => by obtain ⟨a', e, hcc⟩ := hc j u hu; cases e; exact hcc) hwf.one (by unfold maxLen; omega) (Nat.le_trans (Nat.mul_le_mul_left _ R.hnb) (by omega)) hbase
    refine ⟨v', w', h1, ⟨?_, hown.2.app hwf⟩, ⟨h3.os, h3.tape, h3.output, h3.size, fun k hk hn => h3.block k hk (fun e => hn e.symm)⟩, fun g hg => ?_, fun w0 h0 hn => hn.grown h3 fun k hk => Nat.le_trans h0 (World.ownsRow.lt hown.1 k hk).1⟩
    · rw [List.length_append, List.flatten_append]; exact h2
    · rcases h5 with e | e
      · exact .inl (by rw [← e]; exact hg)
      · right; rw [e] at hg; exact (Option.some.inj hg).symm
/-- elements behind a row whose room ends there: a new row -/
theorem run_clip_w {p : Option Addr} (hl : ∃ cap, Rws R w (.slice p l.length cap) l) (hu : Rws R w u m) (hm : 0 < m.length) (hlen : l.length + m.length ≤ 1000000) (hbase : base ≤ w.heap.size) :
    ∃ v' w', (Builtin.append_ #[R.TS, R.TS] R.TS #[.slice p l.length l.length, u]).run Tryd.prog w = .ok v' w' ∧ OwnW R base w' v' (l ++ m) ∧ New w w' := by
  obtain ⟨i0, hi, hz0, hz1, hz2⟩ := info_partsN R.hin
  obtain ⟨p2, cap2, rfl, hcap2, hwf2, hc2⟩ := hu
  obtain ⟨cap, p', cap', e, hcap, hwf, hc⟩ := hl
  cases e
  obtain ⟨ad, rfl⟩ : ∃ ad, p2 = some ad := by
    rcases m with _ | ⟨r, m⟩
    · simp at hm
    · have hr := hwf2 r List.mem_cons_self
      rcases r with _ | ⟨x, r⟩
      · have := R.hc; simp at hr; omega
      · obtain ⟨a, ha, _⟩ := hc2 0 x (by simp); exact ⟨a, ha⟩
  have hnews : ∀ j x, m.flatten[j]? = some x → w.cell? (ad.add j) = some x := fun j x hx => by obtain ⟨a', e, hcc⟩ := hc2 j x hx; cases e; exact hcc
  have hb9 : (l.length + m.length) * R.nb ≤ 140000000 := Nat.le_trans (Nat.mul_le_mul_left _ R.hnb) (by omega)
  rcases Nat.eq_zero_or_pos l.length with h0 | h0
  · have : l = [] := List.eq_nil_of_length_eq_zero h0
    subst this
    have key : ∃ v' w', (Builtin.append_ #[R.TS, R.TS] R.TS #[.slice p 0 0, .slice (some ad) m.length cap2]).run Tryd.prog w = .ok v' w' ∧ w'.ownsRow base R.T R.c v' m.length m.flatten ∧ New w w' := by
      rcases p with _ | b
      · obtain ⟨v', w', k1, k2, k3, _⟩ := run_append_own (P := Tryd.prog) w base R.TS R.TS R.T i0 R.z R.c R.nb R.ht hi hz0 hz1 hz2 R.hz R.hc (.slice none 0 0) 0 [] (World.ownsRow_nil w base _ _) ad m.length cap2 m.flatten hwf2.flat hnews hwf2.one (by unfold maxLen; omega) (by rw [Nat.zero_add]; simp at hb9; omega) hbase
        exact ⟨v', w', k1, by simpa using k2, (New.refl w).grown k3 fun k hk => by cases hk⟩
      · have hr := run_append_grow (P := Tryd.prog) w R.TS R.TS R.T i0 R.z R.ht hi hz0 b 0 0 [] (by simp) (by simp) ad m.length cap2 m.flatten (by rw [hz1]; exact hwf2.flat) hnews (by omega) (by omega) (by rw [hz2]; exact growslice_fits (by simp at hlen ⊢; omega) (by simp at hb9 ⊢; omega))
        refine ⟨_, _, hr, ?_, ((New.refl w).drew).allocO _⟩
        have hge := grownCap_ge w (0 + m.length) 0 R.T
        have hcm := grownCap_le_maxLen w (0 + m.length) 0 R.T (by unfold maxLen; omega)
        rw [Nat.zero_add] at hge hcm ⊢
        refine ⟨hwf2.flat, .inr ⟨w.heap.size, _, _, rfl, hbase, heap_alloc_new w.drew _, hge, hcm, ?_, ?_⟩⟩
        · simp only [Array.size_append, List.size_toArray, size_zeroCells, List.length_nil, R.hz, hwf2.flat]
          rw [Nat.zero_add, ← Nat.add_mul]; congr 1; omega
        · simp only [Array.toList_append, List.nil_append]
          exact List.take_left' (by simp [hwf2.flat])
    obtain ⟨v', w', k1, k2, k3⟩ := key
    exact ⟨v', w', k1, ⟨k2, hwf2⟩, k3⟩
  · obtain ⟨b, rfl⟩ : ∃ b, p = some b := by
      rcases l with _ | ⟨r, l⟩
      · simp at h0
      · have hr := hwf r List.mem_cons_self
        rcases r with _ | ⟨x, r⟩
        · have := R.hc; simp at hr; omega
        · obtain ⟨a, ha, _⟩ := hc 0 x (by simp); exact ⟨a, ha⟩
    have holds : ∀ j x, l.flatten[j]? = some x → w.cell? (b.add j) = some x := fun j x hx => by obtain ⟨a', e, hcc⟩ := hc j x hx; cases e; exact hcc
    have hr := run_append_grow (P := Tryd.prog) w R.TS R.TS R.T i0 R.z R.ht hi hz0 b l.length l.length l.flatten (by rw [hz1]; exact hwf.flat) holds ad m.length cap2 m.flatten (by rw [hz1]; exact hwf2.flat) hnews (by omega) (by omega) (by rw [hz2]; exact growslice_fits (by omega) (by omega))
    refine ⟨_, _, hr, ⟨?_, hwf.app hwf2⟩, ((New.refl w).drew).allocO _⟩
    have hge := grownCap_ge w (l.length + m.length) l.length R.T
    have hcm := grownCap_le_maxLen w (l.length + m.length) l.length R.T (by unfold maxLen; omega)
    rw [List.length_append]
    refine ⟨by rw [List.flatten_append, List.length_append, hwf.flat, hwf2.flat, Nat.add_mul], .inr ⟨w.heap.size, _, _, rfl, hbase, heap_alloc_new w.drew _, hge, hcm, ?_, ?_⟩⟩
    · simp only [Array.size_append, List.size_toArray, size_zeroCells, R.hz, hwf.flat, hwf2.flat]
      rw [← Nat.add_mul, ← Nat.add_mul]; congr 1; omega
    · rw [Array.toList_append, Array.toList_append, List.flatten_append]
      exact List.take_left' (by simp [hwf.flat, hwf2.flat, Nat.add_mul])
/-- the like as operations -/
theorem wpList_app_w {ops : Array Oper} {rest : List Oper} {o : Oper} {a : Act} {Q : Exit → Act → World → Prop} (hgd : o.guard = none) (s x : Operand)
    (ho : o.op = .call { callee := .builtin .append, args := #[s, x], argTypes := #[R.TS, R.TS] }) (hty : o.type = R.TS)
    (hs : a.eval s = v) (hown : OwnW R base w v l) (hx : a.eval x = u) (hu : Rws R w u m) (hlen : l.length + m.length ≤ 1000000) (hbase : base ≤ w.heap.size)
    (h : ∀ v' w', OwnW R base w' v' (l ++ m) → But (fun g => v.ownBlock = some g) w w' → (∀ g, v'.ownBlock = some g → v.ownBlock = some g ∨ g = w.heap.size) → (∀ w0 : World, w0.heap.size ≤ base → New w0 w → New w0 w') → wpList Tryd.prog ops Q rest (a.put o.dst v') w') : wpList Tryd.prog ops Q (o :: rest) a w := by
  obtain ⟨v', w', hr, h2, h3, h4, h5⟩ := run_app_w hown hu hlen hbase
  refine wpList_plain hgd fun _ hK => ?_
  unfold Oper.wp execOp
  rw [← hty] at hr
  simp only [ho, resolve, invoke, builtin, Sem.run_bind, Sem.run_pure, Result.andThen_ok, List.map_toArray, List.map_cons, List.map_nil, hs, hx]
  rw [hty] at hr ⊢
  simp only [hr]
  exact hK _ _ (h v' w' h2 h3 h4 h5)
end
end Go.Proofs.YtealjgfijlencaaDoor
