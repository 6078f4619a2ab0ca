/- A map in memory as the list of its entries, in the order in which they came: looked up, stored to, deleted from. -/
import Derived.Test.YtgoecdmnefjdnaaDoorBut
import Derived.Maps.OwnSet
namespace Go.Proofs.YtgoecdmnefjdnaaDoor
open Go.RowKit Go.MapKept
open Go.Maps (Keyed)
set_option linter.unusedVariables false
/-- block b is a map of just these entries -/
def Mp (P : Program) (k : TypeId) (w : World) (b : Nat) (l : List (Value × Value)) : Prop :=
  ∃ es clock, w.heap[b]? = some (.map es clock) ∧ Stamped es clock ∧ es.size ≤ maxLen ∧ (∀ e ∈ es.toList, ∃ kl, keyOf P k e.key = some kl) ∧ es.toList.map (fun e => (e.key, e.val)) = l
section
variable {P : Program} {k t e : TypeId} {w w' : World} {b : Nat} {l : List (Value × Value)}
theorem Mp.lt (h : Mp P k w b l) : b < w.heap.size := by
  obtain ⟨es, c, hb, _⟩ := h
  exact (Array.getElem?_eq_some_iff.1 hb).1
theorem Mp.of_block (h : Mp P k w b l) (e : w'.heap[b]? = w.heap[b]?) : Mp P k w' b l := by
  obtain ⟨es, c, hb, r⟩ := h
  exact ⟨es, c, e.trans hb, r⟩
theorem Mp.but {S : Nat → Prop} (h : Mp P k w b l) (n : But S w w') (hn : ¬ S b) : Mp P k w' b l := h.of_block (n.block h.lt hn)
theorem Mp.new (h : Mp P k w b l) (n : New w w') : Mp P k w' b l := h.of_block (n.block h.lt)
theorem Mp.made (w : World) (P : Program) (k : TypeId) : Mp P k (w.alloc (.map #[] 0)) w.heap.size [] :=
  ⟨#[], 0, (MapKept.heap_alloc w _).1, stamped_empty 0, by simp, by simp, rfl⟩
theorem Mp.notCells (h : Mp P k w b l) {n : Nat} {cs : Array Value} {t : TypeId} (q : Box w n cs t) : n ≠ b := by
  rintro rfl
  obtain ⟨es, c, hb, _⟩ := h
  unfold Box at q
  rw [hb] at q; cases q
theorem Mp.apart (h : Mp P k w b l) : l.Pairwise (fun x y => x.1 ≠ y.1) := by
  obtain ⟨es, c, hb, hs, -, hk, rfl⟩ := h
  rw [List.pairwise_map]
  exact ((stamped_iff es c).1 hs).2.2
theorem Mp.room (h : Mp P k w b l) : l.length ≤ maxLen := by
  obtain ⟨es, c, hb, hs, hz, hk, rfl⟩ := h
  simpa using hz
theorem Mp.look_hit (h : Mp P k w b l) (K : Keyed P k) (ht : P.underlying t = some (.map k e)) (c : Bool) {key v : Value} {kl : Lit} (hkey : keyOf P k key = some kl) (hm : (key, v) ∈ l) :
    (Instr.lookup t (.map (some b)) key c).run P w = .ok (if c then .tuple #[v, .bool true] else v) w := by
  obtain ⟨es, cl, hb, hs, hz, hk, rfl⟩ := h
  obtain ⟨x, hx, ex⟩ := List.mem_map.1 hm
  simp only [Prod.mk.injEq] at ex
  obtain ⟨e1, e2⟩ := ex
  rcases K.find w hkey es.toList hk with ⟨h1, h2⟩ | ⟨j, e0, h1, h2, h3⟩
  · exact absurd e1 (h2 x hx)
  · have hn := ((stamped_iff es cl).1 hs).2.2
    have e3 : e0 = x := by
      obtain ⟨i, hi⟩ := List.mem_iff_getElem?.1 hx
      have hj := (List.getElem?_eq_some_iff.1 h2)
      have hi' := (List.getElem?_eq_some_iff.1 hi)
      obtain ⟨hjl, ej⟩ := hj
      obtain ⟨hil, ei⟩ := hi'
      rcases Nat.lt_trichotomy i j with c | c | c
      · have := List.pairwise_iff_getElem.1 hn i j hil hjl c
        rw [ei, ej, e1, h3] at this; exact absurd rfl this
      · subst c; rw [← ej, ← ei]
      · have := List.pairwise_iff_getElem.1 hn j i hjl hil c
        rw [ei, ej, e1, h3] at this; exact absurd rfl this
    subst e3
    rw [e2] at h1
    simp [Instr.lookup, run_underlying ht, MapKept.run_getObj_map hb, K.check w _ hkey, h1, Result.andThen]
theorem Mp.look_miss (h : Mp P k w b l) (K : Keyed P k) (ht : P.underlying t = some (.map k e)) (c : Bool) {z : Value} (hz : (zeroValue e).run P w = .ok z w) {key : Value} {kl : Lit} (hkey : keyOf P k key = some kl) (hm : ∀ x ∈ l, x.1 ≠ key) :
    (Instr.lookup t (.map (some b)) key c).run P w = .ok (if c then .tuple #[z, .bool false] else z) w := by
  obtain ⟨es, cl, hb, hs, hsz, hk, rfl⟩ := h
  rcases K.find w hkey es.toList hk with ⟨h1, h2⟩ | ⟨j, e0, h1, h2, h3⟩
  · simp [Instr.lookup, run_underlying ht, MapKept.run_getObj_map hb, K.check w _ hkey, h1, hz, Result.andThen]
  · exact absurd h3 (hm _ (List.mem_map.2 ⟨e0, List.mem_of_getElem? h2, rfl⟩))
theorem turned_but {es es' : Array MapEntry} {c c' : Nat} (hb : w.heap[b]? = some (.map es c)) {S : Nat → Prop} (hS : S b) : But S w (ChangeMaps.setBlock w b (.map es' c')) :=
  ⟨rfl, rfl, rfl, by simp [ChangeMaps.setBlock], fun i _ hi => ChangeMaps.heap_setBlock_other hb _ (fun e => hi (by rw [e]; exact hS))⟩
theorem Mp.store_new (h : Mp P k w b l) (K : Keyed P k) (ht : P.underlying t = some (.map k e)) {key val : Value} {kl : Lit} (hkey : keyOf P k key = some kl) (hm : ∀ x ∈ l, x.1 ≠ key) (hr : l.length < maxLen) :
    ∃ w', (Instr.mapUpdate t (.map (some b)) key val).run P w = .ok () w' ∧ Mp P k w' b (l ++ [(key, val)]) ∧ ∀ S : Nat → Prop, S b → But S w w' := by
  obtain ⟨es, cl, hb, hs, hsz, hk, rfl⟩ := h
  rcases K.find w hkey es.toList hk with ⟨h1, h2⟩ | ⟨j, e0, h1, h2, h3⟩
  · refine ⟨_, by simp [Instr.mapUpdate, run_underlying ht, MapKept.run_getObj_map hb, K.check w false hkey, h1, MapKept.run_setObj_map _ hb, Result.andThen]; rfl, ⟨es.push ⟨key, val, cl⟩, cl + 1, ChangeMaps.heap_setBlock_same hb _, stamped_push hs h2, ?_, ?_, ?_⟩, fun S hS => turned_but hb hS⟩
    · simp at hr; simp; omega
    · intro x hx
      simp only [Array.toList_push, List.mem_append, List.mem_singleton] at hx
      rcases hx with hx | rfl
      · exact hk x hx
      · exact ⟨kl, hkey⟩
    · simp
  · exact absurd h3 (hm _ (List.mem_map.2 ⟨e0, List.mem_of_getElem? h2, rfl⟩))
theorem Mp.drop_hit {key v : Value} {l1 l2 : List (Value × Value)} (h : Mp P k w b (l1 ++ (key, v) :: l2)) (K : Keyed P k) (ht : P.underlying t = some (.map k e)) {kl : Lit} (hkey : keyOf P k key = some kl) (ty : TypeId) :
    ∃ w', (Builtin.delete_ #[t, k] ty #[.map (some b), key]).run P w = .ok (.tuple #[]) w' ∧ Mp P k w' b (l1 ++ l2) ∧ ∀ S : Nat → Prop, S b → But S w w' := by
  obtain ⟨es, cl, hb, hs, hsz, hk, hl⟩ := h
  have hn := ((stamped_iff es cl).1 hs).2.2
  have hlen : es.toList.length = l1.length + 1 + l2.length := by have := congrArg List.length hl; simp at this; simp; omega
  have h1l : l1.length < es.toList.length := by omega
  have hx : (es.toList[l1.length]).key = key := by
    have : (es.toList.map (fun e => (e.key, e.val)))[l1.length]? = some (key, v) := by rw [hl]; simp
    rw [List.getElem?_map, List.getElem?_eq_getElem h1l] at this
    simp at this
    exact this.1
  rcases K.find w hkey es.toList hk with ⟨h1, h2⟩ | ⟨j, e0, h1, h2, h3⟩
  · exact absurd hx (h2 _ (List.getElem_mem h1l))
  · obtain ⟨hjl, ej⟩ := List.getElem?_eq_some_iff.1 h2
    have hj : j = l1.length := by
      rcases Nat.lt_trichotomy j l1.length with c | c | c
      · have := List.pairwise_iff_getElem.1 hn j l1.length hjl h1l c
        rw [ej, h3, hx] at this; exact absurd rfl this
      · exact c
      · have := List.pairwise_iff_getElem.1 hn l1.length j h1l hjl c
        rw [ej, h3, hx] at this; exact absurd rfl this
    subst hj
    have hjs : l1.length < es.size := by simpa using hjl
    have hsub : (es.eraseIdxIfInBounds l1.length).toList = es.toList.eraseIdx l1.length := by
      unfold Array.eraseIdxIfInBounds
      rw [dif_pos hjs]
      simp
    refine ⟨_, by simp [Builtin.delete_, run_underlying ht, MapKept.run_getObj_map hb, K.check w _ hkey, h1, MapKept.run_setObj_map _ hb, Result.andThen]; rfl, ⟨es.eraseIdxIfInBounds l1.length, cl, ChangeMaps.heap_setBlock_same hb _, stamped_erase hs _, Nat.le_trans (MapFrom.size_erase es _) hsz, ?_, ?_⟩, fun S hS => turned_but hb hS⟩
    · intro x hx
      rw [hsub] at hx
      exact hk x ((List.eraseIdx_sublist _ _).subset hx)
    · rw [hsub, ChangeMaps.map_eraseIdx, hl]
      simp [List.eraseIdx_append_of_length_le]
theorem Mp.len (h : Mp P k w b l) (ht : P.underlying t = some (.map k e)) (ty : TypeId) : (Builtin.len_ #[t] ty #[.map (some b)]).run P w = .ok (.int .i64 l.length) w := by
  obtain ⟨es, cl, hb, hs, hsz, hk, rfl⟩ := h
  simp [Builtin.len_, run_underlying ht, MapKept.run_getObj_map hb, goInt, Result.andThen]
end
section
variable {P : Program} (w : World) {ops : Array Oper} {rest : List Oper} {o : Oper} {a : Act} {Q : Exit → Act → World → Prop}
theorem wpList_store_new (hg : o.guard = none) (m x v : Operand) (t : TypeId) (hop : o.op = Op.mapUpdate t m x v ∨ o.op = Op.insert t m x v)
    (k e : TypeId) (K : Keyed P k) (ht : P.underlying t = some (.map k e)) (b : Nat) (l : List (Value × Value)) (hm : a.eval m = .map (some b)) (h : Mp P k w b l) (hr : l.length < maxLen) (key val : Value) (kl : Lit) (hx : a.eval x = key) (hv : a.eval v = val) (hkey : keyOf P k key = some kl)
    (hn : ∀ x ∈ l, x.1 ≠ key) (hK : ∀ w', Mp P k w' b (l ++ [(key, val)]) → (∀ S : Nat → Prop, S b → But S w w') → wpList P ops Q rest (a.put o.dst undef) w') :
    wpList P ops Q (o :: rest) a w := by
  refine wpList_plain hg fun K' hK' => ?_
  obtain ⟨w', hrun, r1, r2⟩ := h.store_new K ht hkey hn hr
  rcases hop with hop | hop
  · unfold Oper.wp
    simp [execOp, hop, hm, hx, hv, Result.andThen]
    rw [hrun]
    exact hK' _ _ (hK w' r1 r2)
  · unfold Oper.wp
    simp [execOp, hop, hm, hx, hv, Result.andThen]
    rw [hrun]
    exact hK' _ _ (hK w' r1 r2)
theorem wpList_drop_hit (hg : o.guard = none) (m x : Operand) (t k : TypeId) (hop : o.op = Op.call { callee := Callee.builtin Builtin.delete, args := #[m, x], argTypes := #[t, k] })
    (e : TypeId) (K : Keyed P k) (ht : P.underlying t = some (.map k e)) (b : Nat) (l1 l2 : List (Value × Value)) (key v : Value) (hm : a.eval m = .map (some b)) (h : Mp P k w b (l1 ++ (key, v) :: l2)) (kl : Lit) (hx : a.eval x = key) (hkey : keyOf P k key = some kl)
    (hK : ∀ w', Mp P k w' b (l1 ++ l2) → (∀ S : Nat → Prop, S b → But S w w') → wpList P ops Q rest (a.put o.dst (.tuple #[])) w') :
    wpList P ops Q (o :: rest) a w := by
  refine wpList_plain hg fun K' hK' => ?_
  obtain ⟨w', hrun, r1, r2⟩ := h.drop_hit K ht hkey o.type
  unfold Oper.wp
  simp [execOp, hop, resolve, invoke, builtin, hm, hx, hrun, Result.andThen]
  exact hK' _ _ (hK w' r1 r2)
end
end Go.Proofs.YtgoecdmnefjdnaaDoor
