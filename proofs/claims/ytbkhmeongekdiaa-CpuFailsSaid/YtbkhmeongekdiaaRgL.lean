/- Registers as functions of places: sixteen words and two more (x), four floats (f); their 26 words; one word changed. No program stands in this text. -/
import Derived.Test.YtbkhmeongekdiaaNum
import Derived.Test.YtbkhmeongekdiaaWhole
import Derived.Laws.BitsAllLaws
import Derived.ArgAppend
namespace Go.Proofs.Ytbkhmeongekdiaa
set_option linter.unusedVariables false
/-- a word, by its number -/
def rwd (x f : Nat → Int) (n : Nat) : Int := if n < 18 then x n else if n % 2 = 1 then f ((n - 18) / 2) / 4294967296 else f ((n - 18) / 2) % 4294967296
/-- a function changed at one place -/
def upd (x : Nat → Int) (n : Nat) (v : Int) (i : Nat) : Int := if i = n then v else x i
/-- registers with a word -/
def wx (x : Nat → Int) (n : Nat) (v : Int) : Nat → Int := if n < 18 then upd x n v else x
def wf (f : Nat → Int) (n : Nat) (v : Int) : Nat → Int := if n < 18 then f else upd f ((n - 18) / 2) (if n % 2 = 1 then f ((n - 18) / 2) % 4294967296 + v * 4294967296 else f ((n - 18) / 2) / 4294967296 * 4294967296 + v)
theorem wd_with (x f : Nat → Int) (n : Nat) (v : Int) (i : Nat) (hn : n < 26) (hi : i < 26) (hf : ∀ k, k < 4 → 0 ≤ f k ∧ f k ≤ 18446744073709551615) (hv : 0 ≤ v ∧ v ≤ 4294967295) :
    rwd (wx x n v) (wf f n v) i = if i = n then v else rwd x f i := by
  unfold rwd wx wf
  by_cases h18 : i < 18
  · rw [if_pos h18, if_pos h18]
    by_cases hn18 : n < 18
    · rw [if_pos hn18]; unfold upd; rfl
    · rw [if_neg hn18, if_neg (show ¬ i = n by omega)]
  · rw [if_neg h18, if_neg h18]
    by_cases hn18 : n < 18
    · rw [if_pos hn18, if_neg (show ¬ i = n by omega)]
    · rw [if_neg hn18]
      unfold upd
      by_cases hq : (i - 18) / 2 = (n - 18) / 2
      · rw [hq, if_pos rfl]
        have hk := hf ((n - 18) / 2) (by omega)
        generalize f ((n - 18) / 2) = g at *
        by_cases hp : i % 2 = 1
        · rw [if_pos hp, if_pos hp]
          by_cases hpn : n % 2 = 1
          · rw [if_pos hpn, if_pos (show i = n by omega)]; omega
          · rw [if_neg hpn, if_neg (show ¬ i = n by omega)]; omega
        · rw [if_neg hp, if_neg hp]
          by_cases hpn : n % 2 = 1
          · rw [if_pos hpn, if_neg (show ¬ i = n by omega)]; omega
          · rw [if_neg hpn, if_pos (show i = n by omega)]; omega
      · rw [if_neg hq, if_neg (show ¬ i = n by omega)]
theorem wf_bd (f : Nat → Int) (n : Nat) (v : Int) (hn : n < 26) (hf : ∀ k, k < 4 → 0 ≤ f k ∧ f k ≤ 18446744073709551615) (hv : 0 ≤ v ∧ v ≤ 4294967295) : ∀ k, k < 4 → 0 ≤ wf f n v k ∧ wf f n v k ≤ 18446744073709551615 := by
  intro k hk
  unfold wf
  split
  · exact hf k hk
  · unfold upd
    split
    · have := hf ((n - 18) / 2) (by omega)
      split <;> omega
    · exact hf k hk
theorem wx_bd (x : Nat → Int) (n : Nat) (v : Int) (hx : ∀ k, k < 18 → 0 ≤ x k ∧ x k ≤ 4294967295) (hv : 0 ≤ v ∧ v ≤ 4294967295) : ∀ k, k < 18 → 0 ≤ wx x n v k ∧ wx x n v k ≤ 4294967295 := by
  intro k hk
  unfold wx
  split
  · unfold upd; split
    · exact hv
    · exact hx k hk
  · exact hx k hk
theorem wd_bd (x f : Nat → Int) (n : Nat) (hn : n < 26) (hx : ∀ k, k < 18 → 0 ≤ x k ∧ x k ≤ 4294967295) (hf : ∀ k, k < 4 → 0 ≤ f k ∧ f k ≤ 18446744073709551615) : 0 ≤ rwd x f n ∧ rwd x f n ≤ 4294967295 := by
  unfold rwd
  split
  · exact hx n (by omega)
  · have := hf ((n - 18) / 2) (by omega)
    split <;> omega
/-- registers with the same words are the same -/
theorem wd_ext (x f x' f' : Nat → Int) (h : ∀ i, i < 26 → rwd x f i = rwd x' f' i) : (∀ k, k < 18 → x k = x' k) ∧ ∀ k, k < 4 → f k = f' k := by
  constructor
  · intro k hk
    have := h k (by omega)
    unfold rwd at this
    rw [if_pos hk, if_pos hk] at this; exact this
  · intro k hk
    have h0 := h (18 + 2 * k) (by omega)
    have h1 := h (19 + 2 * k) (by omega)
    unfold rwd at h0 h1
    rw [if_neg (by omega), if_neg (by omega), if_neg (by omega), if_neg (by omega), show (18 + 2 * k - 18) / 2 = k by omega] at h0
    rw [if_neg (by omega), if_pos (by omega), if_neg (by omega), if_pos (by omega), show (19 + 2 * k - 18) / 2 = k by omega] at h1
    omega
end Go.Proofs.Ytbkhmeongekdiaa
namespace Go.Proofs.Ytbkhmeongekdiaa
open Go.RowKit
set_option linter.unusedVariables false
def rc (x f : Nat → Int) : List Value := (List.range 18).map (fun i => Value.int .u32 (x i)) ++ (List.range 4).map (fun i => Value.int .u64 (f i))
theorem rc_len (x f : Nat → Int) : (rc x f).length = 22 := by simp [rc]
theorem rc_get (x f : Nat → Int) (i : Nat) : (rc x f)[i]? = if i < 18 then some (.int .u32 (x i)) else if i < 22 then some (.int .u64 (f (i - 18))) else none := by
  unfold rc
  by_cases h : i < 18
  · rw [if_pos h, List.getElem?_append_left (by simpa using h), List.getElem?_map, List.getElem?_range h]; rfl
  · rw [if_neg h, List.getElem?_append_right (by simpa using h), List.getElem?_map]
    simp only [List.length_map, List.length_range]
    by_cases h2 : i < 22
    · rw [if_pos h2, List.getElem?_range (by omega)]; rfl
    · rw [if_neg h2, List.getElem?_eq_none (by simp; omega)]; rfl
theorem rc_x (x f : Nat → Int) {i : Nat} (h : i < 18) : (rc x f)[i]? = some (.int .u32 (x i)) := by rw [rc_get, if_pos h]
theorem rc_f (x f : Nat → Int) {k : Nat} (h : k < 4) : (rc x f)[18 + k]? = some (.int .u64 (f k)) := by
  rw [rc_get, if_neg (by omega), if_pos (by omega), Nat.add_sub_cancel_left]
theorem rc_set_x (x f : Nat → Int) (i : Nat) (v : Int) (h : i < 18) : (rc x f).set i (.int .u32 v) = rc (upd x i v) f := by
  apply List.ext_getElem?
  intro j
  rw [List.getElem?_set, rc_get, rc_get, rc_len]
  unfold upd
  by_cases e : i = j
  · subst e; rw [if_pos rfl, if_pos (by omega), if_pos h, if_pos rfl]
  · rw [if_neg e]
    by_cases hj : j < 18
    · rw [if_pos hj, if_pos hj, if_neg (fun h => e h.symm)]
    · rw [if_neg hj, if_neg hj]
theorem rc_set_f (x f : Nat → Int) (k : Nat) (v : Int) (h : k < 4) : (rc x f).set (18 + k) (.int .u64 v) = rc x (upd f k v) := by
  apply List.ext_getElem?
  intro j
  rw [List.getElem?_set, rc_get, rc_get, rc_len]
  unfold upd
  by_cases e : 18 + k = j
  · subst e; rw [if_pos rfl, if_pos (by omega), if_neg (by omega), if_pos (by omega), Nat.add_sub_cancel_left, if_pos rfl]
  · rw [if_neg e]
    by_cases hj : j < 18
    · rw [if_pos hj, if_pos hj]
    · rw [if_neg hj, if_neg hj]
      by_cases h2 : j < 22
      · rw [if_pos h2, if_pos h2, if_neg (by omega)]
      · rw [if_neg h2, if_neg h2]
theorem rc_one (x f : Nat → Int) : ∀ v ∈ rc x f, v.oneCell' = true := by
  intro v hv
  unfold rc at hv
  rcases List.mem_append.1 hv with h | h <;> (obtain ⟨i, _, rfl⟩ := List.mem_map.1 h; rfl)
theorem rc_zero : (#[.int .u32 0, .int .u32 0, .int .u32 0, .int .u32 0, .int .u32 0, .int .u32 0, .int .u32 0, .int .u32 0, .int .u32 0, .int .u32 0, .int .u32 0, .int .u32 0, .int .u32 0, .int .u32 0, .int .u32 0, .int .u32 0, .int .u32 0, .int .u32 0, .int .u64 0, .int .u64 0, .int .u64 0, .int .u64 0] : Array Value) = (rc (fun _ => 0) (fun _ => 0)).toArray := rfl
/-- registers whose words are these are equal just where all places are -/
theorem rc_inj {x f x' f' : Nat → Int} (h1 : ∀ k, k < 18 → x k = x' k) (h2 : ∀ k, k < 4 → f k = f' k) : rc x f = rc x' f' := by
  apply List.ext_getElem?
  intro j
  rw [rc_get, rc_get]
  by_cases hj : j < 18
  · rw [if_pos hj, if_pos hj, h1 j hj]
  · rw [if_neg hj, if_neg hj]
    by_cases h2' : j < 22
    · rw [if_pos h2', if_pos h2', h2 _ (by omega)]
    · rw [if_neg h2', if_neg h2']
end Go.Proofs.Ytbkhmeongekdiaa
namespace Go.Proofs.Ytbkhmeongekdiaa
open Go.RowKit Go.Joins
set_option linter.unusedVariables false
def nls (k : IntKind) (n : Nat) (g : Nat → Int) : List Value := (List.range n).map fun i => Value.int k (g i)
section
variable {k : IntKind} {n : Nat}
theorem nl_len (g : Nat → Int) : (nls k n g).length = n := by simp [nls]
theorem nl_get (g : Nat → Int) (i : Nat) : (nls k n g)[i]? = if i < n then some (.int k (g i)) else none := by
  unfold nls
  rw [List.getElem?_map]
  by_cases h : i < n
  · rw [if_pos h, List.getElem?_range h]; rfl
  · rw [if_neg h, List.getElem?_eq_none (by simpa using h)]; rfl
theorem nl_at (g : Nat → Int) {i : Nat} (h : i < n) : (nls k n g)[i]? = some (.int k (g i)) := by rw [nl_get, if_pos h]
theorem nl_set (g : Nat → Int) (i : Nat) (v : Int) (h : i < n) : (nls k n g).set i (.int k v) = nls k n (upd g i v) := by
  apply List.ext_getElem?
  intro j
  rw [List.getElem?_set, nl_get, nl_get, nl_len]
  unfold upd
  by_cases e : i = j
  · subst e; rw [if_pos rfl, if_pos h, if_pos h, if_pos rfl]
  · rw [if_neg e]
    by_cases hj : j < n
    · rw [if_pos hj, if_pos hj, if_neg (fun h => e h.symm)]
    · rw [if_neg hj, if_neg hj]
theorem nl_one (g : Nat → Int) : ∀ v ∈ nls k n g, v.oneCell' = true := by
  intro v hv
  obtain ⟨i, _, rfl⟩ := List.mem_map.1 hv
  rfl
theorem nl_ext {g h : Nat → Int} (e : ∀ i, i < n → g i = h i) : nls k n g = nls k n h := by
  apply List.ext_getElem?
  intro j
  rw [nl_get, nl_get]
  by_cases hj : j < n
  · rw [if_pos hj, if_pos hj, e j hj]
  · rw [if_neg hj, if_neg hj]
theorem rsplice_get {L C : List Value} {o : Nat} (h : o + C.length ≤ L.length) (j : Nat) : (splice L o C)[j]? = if o ≤ j ∧ j < o + C.length then C[j - o]? else L[j]? := by
  unfold splice
  have h1 : (L.take o).length = o := by rw [List.length_take]; omega
  by_cases a : j < o
  · rw [List.getElem?_append_left (by omega), List.getElem?_take, if_pos a, if_neg (by omega)]
  · rw [List.getElem?_append_right (by omega), h1]
    by_cases b : j < o + C.length
    · rw [List.getElem?_append_left (by omega), if_pos (by omega)]
    · rw [List.getElem?_append_right (by omega), List.getElem?_drop, if_neg (by omega)]
      congr 1; omega
theorem splice_nl (g h : Nat → Int) {m o : Nat} (e : o + m ≤ n) : splice (nls k n h) o (nls k m g) = nls k n fun i => if o ≤ i ∧ i < o + m then g (i - o) else h i := by
  apply List.ext_getElem?
  intro j
  rw [rsplice_get (by rw [nl_len, nl_len]; exact e), nl_len, nl_get, nl_get, nl_get]
  by_cases c : o ≤ j ∧ j < o + m
  · rw [if_pos c, if_pos (by omega), if_pos (by omega), if_pos c]
  · rw [if_neg c]
    by_cases hj : j < n
    · rw [if_pos hj, if_pos hj, if_neg c]
    · rw [if_neg hj, if_neg hj]
end
theorem splice_rc (g x f : Nat → Int) : splice (rc x f) 0 (nls .u32 16 g) = rc (fun i => if i < 16 then g i else x i) f := by
  apply List.ext_getElem?
  intro j
  rw [rsplice_get (by rw [nl_len, rc_len]; omega), nl_len, nl_get, rc_get, rc_get]
  by_cases c : j < 16
  · rw [if_pos (by omega), if_pos (by omega), if_pos (by omega), Nat.sub_zero, if_pos c]
  · rw [if_neg (by omega), if_neg c]
/-- the words of registers -/
theorem rc_words (x f : Nat → Int) : (rc x f).take 16 = nls .u32 16 x := by
  apply List.ext_getElem?
  intro j
  rw [List.getElem?_take, nl_get, rc_get]
  by_cases c : j < 16
  · rw [if_pos c, if_pos c, if_pos (by omega)]
  · rw [if_neg c, if_neg c]
theorem or64 (h l : Int) (h0 : 0 ≤ h) (h1 : h ≤ 4294967295) (l0 : 0 ≤ l) (l1 : l ≤ 4294967295) : bits .or .u64 (h * 4294967296) l = h * 4294967296 + l := by
  obtain ⟨a, rfl⟩ := Int.eq_ofNat_of_zero_le h0
  obtain ⟨b, rfl⟩ := Int.eq_ofNat_of_zero_le l0
  have e1 : ((a : Int) * 4294967296) = ((a * 4294967296 : Nat) : Int) := by omega
  rw [e1]
  have t1 : (BitVec.ofInt 64 ((a * 4294967296 : Nat) : Int)).toNat = a * 4294967296 := by
    rw [BitVec.toNat_ofInt]; simp; omega
  have t2 : (BitVec.ofInt 64 ((b : Nat) : Int)).toNat = b := by
    rw [BitVec.toNat_ofInt]; simp; omega
  show IntKind.u64.wrap (((BitVec.ofInt 64 ((a * 4294967296 : Nat) : Int) ||| BitVec.ofInt 64 ((b : Nat) : Int)).toNat : Nat) : Int) = _
  rw [BitVec.toNat_or, t1, t2, nat_join 32 _ _ (by omega) (by omega), IntKind.wrap_u64]
  omega
theorem wpList_append_box {P : Program} {w : World} {ops : Array Oper} {rest : List Oper} {o : Oper} {a : Act} {Q : Exit → Act → World → Prop} (hgd : o.guard = none) (s x : Operand) (t : TypeId)
    (ho : o.op = .call { callee := .builtin .append, args := #[s, x], argTypes := #[t, t] }) (e : TypeId) (i : TypeInfo) (ht : P.underlying t = some (.slice e)) (hi : P.info? e = some i) (hsz : i.size = 1)
    (b n cap : Nat) (hs : a.eval s = .slice (some ⟨b, 0, none⟩) n cap) (ad : Addr) (m c : Nat) (hx : a.eval x = .slice (some ad) m c)
    (old news : List Value) (bt : TypeId) (hB : Box w b old.toArray bt) (hl : news.length = m) (hnews : ∀ j u, news[j]? = some u → w.cell? (ad.add j) = some u) (h1 : ∀ u ∈ news, u.oneCell' = true)
    (hroom : n + m ≤ cap) (hold : n + m ≤ old.length)
    (h : ∀ w', Box w' b (splice old n news).toArray bt → Far b w w' → wpList P ops Q rest (a.put o.dst (.slice (some ⟨b, 0, none⟩) (n + m) cap)) w') : wpList P ops Q (o :: rest) a w := by
  have hrun := run_append_room_cells (P := P) w t o.type e i ht hi b 0 n cap ad m c news (by rw [hsz]; omega) hnews h1 hroom
    (fun j hj => by rw [hsz, hB.cell, List.getElem?_toArray, List.getElem?_eq_getElem (by omega)]; rfl) (fun j hj => hB.unfrozen _)
  rw [hsz, Nat.zero_add, Nat.mul_one] at hrun
  obtain ⟨r1, r2⟩ := setCells_row news n old w hB (by omega)
  refine wpList_plain hgd fun K hK' => ?_
  unfold Oper.wp
  simp [execOp, ho, resolve, invoke, builtin, hs, hx, hrun, Result.andThen]
  exact hK' _ _ (h _ r1 r2)
/-- an element of an array by value: one cell of it -/
theorem run_index_cells {P : Program} (w : World) (t e : TypeId) (n : Nat) (cs : Array Value) (k q : IntKind) (i : Nat) (v : Value) (h : P.underlying t = some (.array n e)) (hi : i < n)
    (hs : (P.info? e).map (·.size) = some 1) (he : P.underlying e = some (.int q)) (hv : cs[i]? = some v) : (Instr.index t (.agg cs) (.int k (i : Int))).run P w = .ok v w := by
  cases hq : P.info? e with
  | none => simp [hq] at hs
  | some j =>
    have hj : j.size = 1 := by simpa [hq] using hs
    have hg : (isAgg e).run P w = .ok false w := by
      unfold isAgg
      rw [Sem.run_bind, run_underlying he w]
      rfl
    have hp : (part e cs i).run P w = .ok v w := by
      unfold part
      rw [Sem.run_bind, hg]
      simp only [Result.andThen_ok, Bool.false_eq_true, if_false, hv, Sem.run_pure]
    simp [Instr.index, Sem.run_bind, run_underlying h, asIntOf, hi, sizeOf, typeInfo, hq, hj, hp]
end Go.Proofs.Ytbkhmeongekdiaa
