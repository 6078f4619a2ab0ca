/- Plain facts on frames of bytes, of no program: so many bytes in a row, cut out of it and laid into it; and the document's list of what was written, the latest last, by which each byte of each frame is known. -/
import Derived.Laws.CopyOwn
namespace Go.Proofs.YtealjgfijlencaaDoor
open Go.RowKit
set_option linter.unusedVariables false
set_option maxRecDepth 100000
/-- n numbers from place p on -/
def cut (l : List Int) (p n : Nat) : List Int := (l.drop p).take n
theorem getD_eq (l : List Int) (i : Nat) (h : i < l.length) : l.getD i 0 = l[i] := by rw [List.getD_eq_getElem?_getD, List.getElem?_eq_getElem h]; rfl
theorem getD_out (l : List Int) (i : Nat) (h : l.length ≤ i) : l.getD i 0 = 0 := by rw [List.getD_eq_getElem?_getD, List.getElem?_eq_none h]; rfl
theorem getD_at (l : List Int) {i j : Nat} (h : i = j) : l.getD i 0 = l.getD j 0 := by rw [h]
theorem ext_getD {a b : List Int} (h : a.length = b.length) (k : ∀ j, j < a.length → a.getD j 0 = b.getD j 0) : a = b := by
  apply List.ext_getElem h
  intro i h1 h2
  have := k i h1
  rwa [getD_eq a i h1, getD_eq b i h2] at this
theorem cut_len (l : List Int) (p n : Nat) (h : p + n ≤ l.length) : (cut l p n).length = n := by simp [cut]; omega
theorem cut_get (l : List Int) (p n i : Nat) (h : p + n ≤ l.length) (hi : i < n) : (cut l p n).getD i 0 = l.getD (p + i) 0 := by
  rw [getD_eq _ _ (by rw [cut_len l p n h]; exact hi), getD_eq l (p + i) (by omega)]
  simp [cut]
theorem cut_none (l : List Int) (p : Nat) : cut l p 0 = [] := by simp [cut]
theorem cut_all (l : List Int) : cut l 0 l.length = l := by simp [cut]
theorem cut_cut (l : List Int) (p n q m : Nat) (h : q + m ≤ n) : cut (cut l p n) q m = cut l (p + q) m := by
  simp only [cut, List.drop_take, List.drop_drop, List.take_take]
  congr 1; omega
theorem splice_len (l : List Int) (p : Nat) (b : List Int) (h : p + b.length ≤ l.length) : (splice l p b).length = l.length := by
  simp [splice]; omega
theorem splice_get (l : List Int) (p : Nat) (b : List Int) (h : p + b.length ≤ l.length) (i : Nat) :
    (splice l p b).getD i 0 = if p ≤ i ∧ i < p + b.length then b.getD (i - p) 0 else l.getD i 0 := by
  have hp : (l.take p).length = p := by rw [List.length_take]; omega
  simp only [splice, List.getD_eq_getElem?_getD]
  by_cases c : p ≤ i ∧ i < p + b.length
  · rw [if_pos c, List.getElem?_append_right (by omega), hp, List.getElem?_append_left (by omega)]
  · rw [if_neg c]
    by_cases d : i < p
    · rw [List.getElem?_append_left (by omega), List.getElem?_take, if_pos d]
    · rw [List.getElem?_append_right (by omega), hp, List.getElem?_append_right (by omega), List.getElem?_drop]
      congr 2; omega
theorem splice_map {α β : Type} (f : α → β) (l : List α) (p : Nat) (b : List α) : (splice l p b).map f = splice (l.map f) p (b.map f) := by
  simp [splice, List.map_take, List.map_drop]
theorem splice_mem {α : Type} {l : List α} {p : Nat} {b : List α} {x : α} (h : x ∈ splice l p b) : x ∈ l ∨ x ∈ b := by
  simp only [splice, List.mem_append] at h
  rcases h with h | h | h
  · exact .inl (List.mem_of_mem_take h)
  · exact .inr h
  · exact .inl (List.mem_of_mem_drop h)
theorem cut_mem {l : List Int} {p n : Nat} {x : Int} (h : x ∈ cut l p n) : x ∈ l := List.mem_of_mem_drop (List.mem_of_mem_take h)
theorem cut_splice_in (l : List Int) (p : Nat) (b : List Int) (q n : Nat) (h : p + b.length ≤ l.length) (h1 : p ≤ q) (h2 : q + n ≤ p + b.length) : cut (splice l p b) q n = cut b (q - p) n := by
  have hl := splice_len l p b h
  apply ext_getD (by rw [cut_len _ _ _ (by omega), cut_len _ _ _ (by omega)])
  intro j hj
  rw [cut_len _ _ _ (by omega)] at hj
  rw [cut_get _ _ _ _ (by omega) hj, cut_get _ _ _ _ (by omega) hj, splice_get _ _ _ h, if_pos ⟨by omega, by omega⟩]
  congr 1; omega
theorem cut_splice_off (l : List Int) (p : Nat) (b : List Int) (q n : Nat) (h : p + b.length ≤ l.length) (hq : q + n ≤ l.length) (h1 : q + n ≤ p ∨ p + b.length ≤ q) : cut (splice l p b) q n = cut l q n := by
  have hl := splice_len l p b h
  apply ext_getD (by rw [cut_len _ _ _ (by omega), cut_len _ _ _ (by omega)])
  intro j hj
  rw [cut_len _ _ _ (by omega)] at hj
  rw [cut_get _ _ _ _ (by omega) hj, cut_get _ _ _ _ (by omega) hj, splice_get _ _ _ h, if_neg (by omega)]
theorem cut_splice_at (l : List Int) (p : Nat) (b : List Int) (h : p + b.length ≤ l.length) : cut (splice l p b) p b.length = b := by
  rw [cut_splice_in l p b p b.length h (by omega) (by omega), Nat.sub_self, cut_all]
/-- what was written at once: in which frame, where, which bytes -/
def Nt : Type := Nat × Nat × List Int
def nt (f o : Nat) (l : List Int) : Nt := (f, o, l)
def Nt.fr (n : Nt) : Nat := n.1
def Nt.off (n : Nt) : Nat := n.2.1
def Nt.bs (n : Nt) : List Int := n.2.2
theorem nt_fr (f o : Nat) (l : List Int) : (nt f o l).fr = f := rfl
theorem nt_off (f o : Nat) (l : List Int) : (nt f o l).off = o := rfl
theorem nt_bs (f o : Nat) (l : List Int) : (nt f o l).bs = l := rfl
/-- is a byte among them? -/
def cov (n : Nt) (f o : Nat) : Prop := n.fr = f ∧ n.off ≤ o ∧ o < n.off + n.bs.length
instance (n : Nt) (f o : Nat) : Decidable (cov n f o) := by unfold cov; infer_instance
/-- a byte, of the first k that were written -/
def lk (L : List Nt) (f o : Nat) : Nat → Int
  | 0 => 0
  | k + 1 => match L[k]? with
    | some n => if cov n f o then n.bs.getD (o - n.off) 0 else lk L f o k
    | none => lk L f o k
/-- a byte -/
def byteAt (L : List Nt) (f o : Nat) : Int := lk L f o L.length
theorem lk_at (L : List Nt) (f o k : Nat) (h : k < L.length) : lk L f o (k + 1) = if cov L[k] f o then L[k].bs.getD (o - L[k].off) 0 else lk L f o k := by
  rw [lk, List.getElem?_eq_getElem h]
theorem lk_append (L M : List Nt) (f o : Nat) : ∀ k, k ≤ L.length → lk (L ++ M) f o k = lk L f o k
  | 0, _ => rfl
  | k + 1, h => by
    rw [lk_at _ _ _ _ (by rw [List.length_append]; omega), lk_at L f o k (by omega), lk_append L M f o k (by omega), List.getElem_append_left (by omega)]
theorem byteAt_push (L : List Nt) (n : Nt) (f o : Nat) : byteAt (L ++ [n]) f o = if cov n f o then n.bs.getD (o - n.off) 0 else byteAt L f o := by
  unfold byteAt
  rw [List.length_append, List.length_singleton, lk_at _ _ _ _ (by simp), lk_append L [n] f o _ (Nat.le_refl _)]
  simp
/-- all are bytes -/
def Oct (l : List Int) : Prop := ∀ x ∈ l, 0 ≤ x ∧ x ≤ 255
theorem Oct.nil : Oct [] := fun x h => by cases h
theorem Oct.get {l : List Int} (h : Oct l) (i : Nat) : 0 ≤ l.getD i 0 ∧ l.getD i 0 ≤ 255 := by
  by_cases c : i < l.length
  · rw [getD_eq l i c]; exact h _ (List.getElem_mem c)
  · rw [getD_out l i (by omega)]; omega
theorem Oct.splice {l b : List Int} (h : Oct l) (k : Oct b) (p : Nat) : Oct (splice l p b) := fun x hx => (splice_mem hx).elim (h x) (k x)
theorem Oct.cut {l : List Int} (h : Oct l) (p n : Nat) : Oct (cut l p n) := fun x hx => h x (cut_mem hx)
theorem Oct.zeros (n : Nat) : Oct (List.replicate n 0) := fun x hx => by rw [List.eq_of_mem_replicate hx]; omega
theorem Oct.push {l : List Int} {x : Int} (h : Oct l) (h0 : 0 ≤ x) (h1 : x ≤ 255) : Oct (l ++ [x]) := fun y hy => by
  rw [List.mem_append] at hy
  rcases hy with hy | hy
  · exact h y hy
  · rw [List.mem_singleton] at hy; subst hy; exact ⟨h0, h1⟩
/-- the row of all bytes and the list tell the same -/
def PSame (many : Nat) (bs : List Int) (L : List Nt) : Prop := bs.length = many * 256 ∧ ∀ f o, f < many → o < 256 → bs.getD (f * 256 + o) 0 = byteAt L f o
theorem zeros_get (n i : Nat) : (List.replicate n (0 : Int)).getD i 0 = 0 := by
  rw [List.getD_eq_getElem?_getD, List.getElem?_replicate]; split <;> rfl
theorem PSame.zeros (many : Nat) : PSame many (List.replicate (many * 256) 0) [] := ⟨List.length_replicate, fun f o _ _ => by rw [zeros_get]; rfl⟩
theorem PSame.write {many : Nat} {bs : List Int} {L : List Nt} (h : PSame many bs L) (n : Nt) (hf : n.fr < many) (ho : n.off + n.bs.length ≤ 256) :
    PSame many (Go.splice bs (n.fr * 256 + n.off) n.bs) (L ++ [n]) := by
  have hl : n.fr * 256 + n.off + n.bs.length ≤ bs.length := by have := h.1; omega
  refine ⟨by rw [splice_len _ _ _ hl]; exact h.1, fun f o h1 h2 => ?_⟩
  rw [splice_get _ _ _ hl, byteAt_push, ← h.2 f o h1 h2]
  by_cases c : cov n f o
  · obtain ⟨c1, c2, c3⟩ := id c
    rw [if_pos c, if_pos ⟨by omega, by omega⟩]
    exact getD_at _ (by omega)
  · rw [if_neg c, if_neg]
    rintro ⟨c1, c2⟩
    exact c ⟨by omega, by omega, by omega⟩
/-- n bytes of a frame from off on, as the list has them -/
def rd (L : List Nt) (f off n : Nat) : List Int := (List.range n).map fun i => byteAt L f (off + i)
theorem rd_len (L : List Nt) (f off n : Nat) : (rd L f off n).length = n := by simp [rd]
theorem rd_push (L : List Nt) (f off n : Nat) : rd L f off (n + 1) = rd L f off n ++ [byteAt L f (off + n)] := by simp [rd, List.range_succ]
theorem rd_get (L : List Nt) (f off n i : Nat) (h : i < n) : (rd L f off n).getD i 0 = byteAt L f (off + i) := by
  rw [getD_eq _ _ (by rw [rd_len]; exact h)]; simp [rd]
theorem frame_fits {many f : Nat} {bs : List Int} (h : bs.length = many * 256) (hf : f < many) : f * 256 + 256 ≤ bs.length := by omega
theorem PSame.read {many : Nat} {bs : List Int} {L : List Nt} (h : PSame many bs L) (f off n : Nat) (hf : f < many) (ho : off + n ≤ 256) : rd L f off n = cut bs (f * 256 + off) n := by
  have := frame_fits h.1 hf
  apply ext_getD (by rw [rd_len, cut_len _ _ _ (by omega)])
  intro j hj
  rw [rd_len] at hj
  rw [rd_get _ _ _ _ _ hj, cut_get _ _ _ _ (by omega) hj, ← h.2 f (off + j) hf (by omega)]
  exact getD_at _ (by omega)
theorem byteAt_oct {L : List Nt} (h : ∀ n ∈ L, Oct n.bs) (f o : Nat) : 0 ≤ byteAt L f o ∧ byteAt L f o ≤ 255 := by
  have key : ∀ k, k ≤ L.length → 0 ≤ lk L f o k ∧ lk L f o k ≤ 255 := by
    intro k
    induction k with
    | zero => intro _; simp [lk]
    | succ k ih =>
      intro hk
      rw [lk_at _ _ _ _ (by omega)]
      split
      · exact (h _ (List.getElem_mem (by omega))).get _
      · exact ih (by omega)
  exact key _ (Nat.le_refl _)
end Go.Proofs.YtealjgfijlencaaDoor
