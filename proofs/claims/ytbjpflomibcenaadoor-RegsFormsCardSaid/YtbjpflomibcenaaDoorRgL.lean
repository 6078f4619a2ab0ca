/- Lists of numbers of one kind, given by a function of places; the 26 words of registers as one such list; two halves joined; an append into a block known whole that has room. -/
import Derived.Test.YtbjpflomibcenaaDoorRgC
import Derived.Laws.BitsAllLaws
import Derived.ArgAppend
namespace Go.Proofs.YtbjpflomibcenaaDoor
open Go.RowKit Go.Joins
set_option linter.unusedVariables false
def nl (k : IntKind) (n : Nat) (g : Nat → Int) : List Value := (List.range n).map fun i => Value.int k (g i)
section
variable {k : IntKind} {n : Nat}
theorem nl_len (g : Nat → Int) : (nl k n g).length = n := by simp [nl]
theorem nl_get (g : Nat → Int) (i : Nat) : (nl k n g)[i]? = if i < n then some (.int k (g i)) else none := by
  unfold nl
  rw [List.getElem?_map]
  by_cases h : i < n
  · rw [if_pos h, List.getElem?_range h]; rfl
  · rw [if_neg h, List.getElem?_eq_none (by simpa using h)]; rfl
theorem nl_at (g : Nat → Int) {i : Nat} (h : i < n) : (nl k n g)[i]? = some (.int k (g i)) := by rw [nl_get, if_pos h]
theorem nl_set (g : Nat → Int) (i : Nat) (v : Int) (h : i < n) : (nl k n g).set i (.int k v) = nl k n (upd g i v) := by
  apply List.ext_getElem?
  intro j
  rw [List.getElem?_set, nl_get, nl_get, nl_len]
  unfold upd
  by_cases e : i = j
  · subst e; rw [if_pos rfl, if_pos h, if_pos h, if_pos rfl]
  · rw [if_neg e]
    by_cases hj : j < n
    · rw [if_pos hj, if_pos hj, if_neg (fun h => e h.symm)]
    · rw [if_neg hj, if_neg hj]
theorem nl_one (g : Nat → Int) : ∀ v ∈ nl k n g, v.oneCell' = true := by
  intro v hv
  obtain ⟨i, _, rfl⟩ := List.mem_map.1 hv
  rfl
theorem nl_ext {g h : Nat → Int} (e : ∀ i, i < n → g i = h i) : nl k n g = nl k n h := by
  apply List.ext_getElem?
  intro j
  rw [nl_get, nl_get]
  by_cases hj : j < n
  · rw [if_pos hj, if_pos hj, e j hj]
  · rw [if_neg hj, if_neg hj]
theorem splice_get {L C : List Value} {o : Nat} (h : o + C.length ≤ L.length) (j : Nat) : (splice L o C)[j]? = if o ≤ j ∧ j < o + C.length then C[j - o]? else L[j]? := by
  unfold splice
  have h1 : (L.take o).length = o := by rw [List.length_take]; omega
  by_cases a : j < o
  · rw [List.getElem?_append_left (by omega), List.getElem?_take, if_pos a, if_neg (by omega)]
  · rw [List.getElem?_append_right (by omega), h1]
    by_cases b : j < o + C.length
    · rw [List.getElem?_append_left (by omega), if_pos (by omega)]
    · rw [List.getElem?_append_right (by omega), List.getElem?_drop, if_neg (by omega)]
      congr 1; omega
theorem splice_nl (g h : Nat → Int) {m o : Nat} (e : o + m ≤ n) : splice (nl k n h) o (nl k m g) = nl k n fun i => if o ≤ i ∧ i < o + m then g (i - o) else h i := by
  apply List.ext_getElem?
  intro j
  rw [splice_get (by rw [nl_len, nl_len]; exact e), nl_len, nl_get, nl_get, nl_get]
  by_cases c : o ≤ j ∧ j < o + m
  · rw [if_pos c, if_pos (by omega), if_pos (by omega), if_pos c]
  · rw [if_neg c]
    by_cases hj : j < n
    · rw [if_pos hj, if_pos hj, if_neg c]
    · rw [if_neg hj, if_neg hj]
end
theorem splice_rc (g x f : Nat → Int) : splice (rc x f) 0 (nl .u32 16 g) = rc (fun i => if i < 16 then g i else x i) f := by
  apply List.ext_getElem?
  intro j
  rw [splice_get (by rw [nl_len, rc_len]; omega), nl_len, nl_get, rc_get, rc_get]
  by_cases c : j < 16
  · rw [if_pos (by omega), if_pos (by omega), if_pos (by omega), Nat.sub_zero, if_pos c]
  · rw [if_neg (by omega), if_neg c]
/-- the words of registers -/
theorem rc_words (x f : Nat → Int) : (rc x f).take 16 = nl .u32 16 x := by
  apply List.ext_getElem?
  intro j
  rw [List.getElem?_take, nl_get, rc_get]
  by_cases c : j < 16
  · rw [if_pos c, if_pos c, if_pos (by omega)]
  · rw [if_neg c, if_neg c]
theorem or64 (h l : Int) (h0 : 0 ≤ h) (h1 : h ≤ 4294967295) (l0 : 0 ≤ l) (l1 : l ≤ 4294967295) : bits .or .u64 (h * 4294967296) l = h * 4294967296 + l := by
  obtain ⟨a, rfl⟩ := Int.eq_ofNat_of_zero_le h0
  obtain ⟨b, rfl⟩ := Int.eq_ofNat_of_zero_le l0
  have e1 : ((a : Int) * 4294967296) = ((a * 4294967296 : Nat) : Int) := by omega
  rw [e1]
  have t1 : (BitVec.ofInt 64 ((a * 4294967296 : Nat) : Int)).toNat = a * 4294967296 := by
    rw [BitVec.toNat_ofInt]; simp; omega
  have t2 : (BitVec.ofInt 64 ((b : Nat) : Int)).toNat = b := by
    rw [BitVec.toNat_ofInt]; simp; omega
  show IntKind.u64.wrap (((BitVec.ofInt 64 ((a * 4294967296 : Nat) : Int) ||| BitVec.ofInt 64 ((b : Nat) : Int)).toNat : Nat) : Int) = _
  rw [BitVec.toNat_or, t1, t2, nat_join 32 _ _ (by omega) (by omega), IntKind.wrap_u64]
  omega
theorem wpList_append_box {P : Program} {w : World} {ops : Array Oper} {rest : List Oper} {o : Oper} {a : Act} {Q : Exit → Act → World → Prop} (hgd : o.guard = none) (s x : Operand) (t : TypeId)
    (ho : o.op = .call { callee := .builtin .append, args := #[s, x], argTypes := #[t, t] }) (e : TypeId) (i : TypeInfo) (ht : P.underlying t = some (.slice e)) (hi : P.info? e = some i) (hsz : i.size = 1)
    (b n cap : Nat) (hs : a.eval s = .slice (some ⟨b, 0, none⟩) n cap) (ad : Addr) (m c : Nat) (hx : a.eval x = .slice (some ad) m c)
    (old news : List Value) (bt : TypeId) (hB : Box w b old.toArray bt) (hl : news.length = m) (hnews : ∀ j u, news[j]? = some u → w.cell? (ad.add j) = some u) (h1 : ∀ u ∈ news, u.oneCell' = true)
    (hroom : n + m ≤ cap) (hold : n + m ≤ old.length)
    (h : ∀ w', Box w' b (splice old n news).toArray bt → Far b w w' → wpList P ops Q rest (a.put o.dst (.slice (some ⟨b, 0, none⟩) (n + m) cap)) w') : wpList P ops Q (o :: rest) a w := by
  have hrun := run_append_room_cells (P := P) w t o.type e i ht hi b 0 n cap ad m c news (by rw [hsz]; omega) hnews h1 hroom
    (fun j hj => by rw [hsz, hB.cell, List.getElem?_toArray, List.getElem?_eq_getElem (by omega)]; rfl) (fun j hj => hB.unfrozen _)
  rw [hsz, Nat.zero_add, Nat.mul_one] at hrun
  obtain ⟨r1, r2⟩ := setCells_row news n old w hB (by omega)
  refine wpList_plain hgd fun K hK' => ?_
  unfold Oper.wp
  simp [execOp, ho, resolve, invoke, builtin, hs, hx, hrun, Result.andThen]
  exact hK' _ _ (h _ r1 r2)
/-- an element of an array by value: one cell of it -/
theorem run_index_cells {P : Program} (w : World) (t e : TypeId) (n : Nat) (cs : Array Value) (k q : IntKind) (i : Nat) (v : Value) (h : P.underlying t = some (.array n e)) (hi : i < n)
    (hs : (P.info? e).map (·.size) = some 1) (he : P.underlying e = some (.int q)) (hv : cs[i]? = some v) : (Instr.index t (.agg cs) (.int k (i : Int))).run P w = .ok v w := by
  cases hq : P.info? e with
  | none => simp [hq] at hs
  | some j =>
    have hj : j.size = 1 := by simpa [hq] using hs
    have hg : (isAgg e).run P w = .ok false w := by
      unfold isAgg
      rw [Sem.run_bind, run_underlying he w]
      rfl
    have hp : (part e cs i).run P w = .ok v w := by
      unfold part
      rw [Sem.run_bind, hg]
      simp only [Result.andThen_ok, Bool.false_eq_true, if_false, hv, Sem.run_pure]
    simp [Instr.index, Sem.run_bind, run_underlying h, asIntOf, hi, sizeOf, typeInfo, hq, hj, hp]
end Go.Proofs.YtbjpflomibcenaaDoor
