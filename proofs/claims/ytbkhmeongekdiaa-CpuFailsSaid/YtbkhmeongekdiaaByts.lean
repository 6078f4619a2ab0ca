/- Plain facts on frames of bytes, of no program: so many bytes in a row, cut out of it and laid into it; and the document's list of what was written, the latest last, by which each byte of each frame is known. -/
import Derived.Laws.CopyOwn
import Derived.Test.YtbkhmeongekdiaaFar
import Derived.Deep.OwnRows
import Derived.Deep.MidRow
import Derived.Laws.BytesArg
namespace Go.Proofs.Ytbkhmeongekdiaa
open Go.RowKit
set_option linter.unusedVariables false
set_option maxRecDepth 100000
/-- n numbers from place p on -/
def cut (l : List Int) (p n : Nat) : List Int := (l.drop p).take n
theorem getD_eq (l : List Int) (i : Nat) (h : i < l.length) : l.getD i 0 = l[i] := by rw [List.getD_eq_getElem?_getD, List.getElem?_eq_getElem h]; rfl
theorem getD_out (l : List Int) (i : Nat) (h : l.length ≤ i) : l.getD i 0 = 0 := by rw [List.getD_eq_getElem?_getD, List.getElem?_eq_none h]; rfl
theorem getD_at (l : List Int) {i j : Nat} (h : i = j) : l.getD i 0 = l.getD j 0 := by rw [h]
theorem ext_getD {a b : List Int} (h : a.length = b.length) (k : ∀ j, j < a.length → a.getD j 0 = b.getD j 0) : a = b := by
  apply List.ext_getElem h
  intro i h1 h2
  have := k i h1
  rwa [getD_eq a i h1, getD_eq b i h2] at this
theorem cut_len (l : List Int) (p n : Nat) (h : p + n ≤ l.length) : (cut l p n).length = n := by simp [cut]; omega
theorem cut_get (l : List Int) (p n i : Nat) (h : p + n ≤ l.length) (hi : i < n) : (cut l p n).getD i 0 = l.getD (p + i) 0 := by
  rw [getD_eq _ _ (by rw [cut_len l p n h]; exact hi), getD_eq l (p + i) (by omega)]
  simp [cut]
theorem cut_none (l : List Int) (p : Nat) : cut l p 0 = [] := by simp [cut]
theorem cut_all (l : List Int) : cut l 0 l.length = l := by simp [cut]
theorem cut_cut (l : List Int) (p n q m : Nat) (h : q + m ≤ n) : cut (cut l p n) q m = cut l (p + q) m := by
  simp only [cut, List.drop_take, List.drop_drop, List.take_take]
  congr 1; omega
theorem splice_len (l : List Int) (p : Nat) (b : List Int) (h : p + b.length ≤ l.length) : (splice l p b).length = l.length := by
  simp [splice]; omega
theorem splice_get (l : List Int) (p : Nat) (b : List Int) (h : p + b.length ≤ l.length) (i : Nat) :
    (splice l p b).getD i 0 = if p ≤ i ∧ i < p + b.length then b.getD (i - p) 0 else l.getD i 0 := by
  have hp : (l.take p).length = p := by rw [List.length_take]; omega
  simp only [splice, List.getD_eq_getElem?_getD]
  by_cases c : p ≤ i ∧ i < p + b.length
  · rw [if_pos c, List.getElem?_append_right (by omega), hp, List.getElem?_append_left (by omega)]
  · rw [if_neg c]
    by_cases d : i < p
    · rw [List.getElem?_append_left (by omega), List.getElem?_take, if_pos d]
    · rw [List.getElem?_append_right (by omega), hp, List.getElem?_append_right (by omega), List.getElem?_drop]
      congr 2; omega
theorem splice_map {α β : Type} (f : α → β) (l : List α) (p : Nat) (b : List α) : (splice l p b).map f = splice (l.map f) p (b.map f) := by
  simp [splice, List.map_take, List.map_drop]
theorem splice_mem {α : Type} {l : List α} {p : Nat} {b : List α} {x : α} (h : x ∈ splice l p b) : x ∈ l ∨ x ∈ b := by
  simp only [splice, List.mem_append] at h
  rcases h with h | h | h
  · exact .inl (List.mem_of_mem_take h)
  · exact .inr h
  · exact .inl (List.mem_of_mem_drop h)
theorem cut_mem {l : List Int} {p n : Nat} {x : Int} (h : x ∈ cut l p n) : x ∈ l := List.mem_of_mem_drop (List.mem_of_mem_take h)
theorem cut_splice_in (l : List Int) (p : Nat) (b : List Int) (q n : Nat) (h : p + b.length ≤ l.length) (h1 : p ≤ q) (h2 : q + n ≤ p + b.length) : cut (splice l p b) q n = cut b (q - p) n := by
  have hl := splice_len l p b h
  apply ext_getD (by rw [cut_len _ _ _ (by omega), cut_len _ _ _ (by omega)])
  intro j hj
  rw [cut_len _ _ _ (by omega)] at hj
  rw [cut_get _ _ _ _ (by omega) hj, cut_get _ _ _ _ (by omega) hj, splice_get _ _ _ h, if_pos ⟨by omega, by omega⟩]
  congr 1; omega
theorem cut_splice_off (l : List Int) (p : Nat) (b : List Int) (q n : Nat) (h : p + b.length ≤ l.length) (hq : q + n ≤ l.length) (h1 : q + n ≤ p ∨ p + b.length ≤ q) : cut (splice l p b) q n = cut l q n := by
  have hl := splice_len l p b h
  apply ext_getD (by rw [cut_len _ _ _ (by omega), cut_len _ _ _ (by omega)])
  intro j hj
  rw [cut_len _ _ _ (by omega)] at hj
  rw [cut_get _ _ _ _ (by omega) hj, cut_get _ _ _ _ (by omega) hj, splice_get _ _ _ h, if_neg (by omega)]
theorem cut_splice_at (l : List Int) (p : Nat) (b : List Int) (h : p + b.length ≤ l.length) : cut (splice l p b) p b.length = b := by
  rw [cut_splice_in l p b p b.length h (by omega) (by omega), Nat.sub_self, cut_all]
/-- what was written at once: in which frame, where, which bytes -/
def Nt : Type := Nat × Nat × List Int
def nt (f o : Nat) (l : List Int) : Nt := (f, o, l)
def Nt.fr (n : Nt) : Nat := n.1
def Nt.off (n : Nt) : Nat := n.2.1
def Nt.bs (n : Nt) : List Int := n.2.2
theorem nt_fr (f o : Nat) (l : List Int) : (nt f o l).fr = f := rfl
theorem nt_off (f o : Nat) (l : List Int) : (nt f o l).off = o := rfl
theorem nt_bs (f o : Nat) (l : List Int) : (nt f o l).bs = l := rfl
/-- is a byte among them? -/
def cov (n : Nt) (f o : Nat) : Prop := n.fr = f ∧ n.off ≤ o ∧ o < n.off + n.bs.length
instance (n : Nt) (f o : Nat) : Decidable (cov n f o) := by unfold cov; infer_instance
/-- a byte, of the first k that were written -/
def lk (L : List Nt) (f o : Nat) : Nat → Int
  | 0 => 0
  | k + 1 => match L[k]? with
    | some n => if cov n f o then n.bs.getD (o - n.off) 0 else lk L f o k
    | none => lk L f o k
/-- a byte -/
def byteAt (L : List Nt) (f o : Nat) : Int := lk L f o L.length
theorem lk_at (L : List Nt) (f o k : Nat) (h : k < L.length) : lk L f o (k + 1) = if cov L[k] f o then L[k].bs.getD (o - L[k].off) 0 else lk L f o k := by
  rw [lk, List.getElem?_eq_getElem h]
theorem lk_append (L M : List Nt) (f o : Nat) : ∀ k, k ≤ L.length → lk (L ++ M) f o k = lk L f o k
  | 0, _ => rfl
  | k + 1, h => by
    rw [lk_at _ _ _ _ (by rw [List.length_append]; omega), lk_at L f o k (by omega), lk_append L M f o k (by omega), List.getElem_append_left (by omega)]
theorem byteAt_push (L : List Nt) (n : Nt) (f o : Nat) : byteAt (L ++ [n]) f o = if cov n f o then n.bs.getD (o - n.off) 0 else byteAt L f o := by
  unfold byteAt
  rw [List.length_append, List.length_singleton, lk_at _ _ _ _ (by simp), lk_append L [n] f o _ (Nat.le_refl _)]
  simp
/-- all are bytes -/
def Oct (l : List Int) : Prop := ∀ x ∈ l, 0 ≤ x ∧ x ≤ 255
theorem Oct.nil : Oct [] := fun x h => by cases h
theorem Oct.get {l : List Int} (h : Oct l) (i : Nat) : 0 ≤ l.getD i 0 ∧ l.getD i 0 ≤ 255 := by
  by_cases c : i < l.length
  · rw [getD_eq l i c]; exact h _ (List.getElem_mem c)
  · rw [getD_out l i (by omega)]; omega
theorem Oct.splice {l b : List Int} (h : Oct l) (k : Oct b) (p : Nat) : Oct (splice l p b) := fun x hx => (splice_mem hx).elim (h x) (k x)
theorem Oct.cut {l : List Int} (h : Oct l) (p n : Nat) : Oct (cut l p n) := fun x hx => h x (cut_mem hx)
theorem Oct.zeros (n : Nat) : Oct (List.replicate n 0) := fun x hx => by rw [List.eq_of_mem_replicate hx]; omega
theorem Oct.push {l : List Int} {x : Int} (h : Oct l) (h0 : 0 ≤ x) (h1 : x ≤ 255) : Oct (l ++ [x]) := fun y hy => by
  rw [List.mem_append] at hy
  rcases hy with hy | hy
  · exact h y hy
  · rw [List.mem_singleton] at hy; subst hy; exact ⟨h0, h1⟩
/-- the row of all bytes and the list tell the same -/
def PSame (many : Nat) (bs : List Int) (L : List Nt) : Prop := bs.length = many * 256 ∧ ∀ f o, f < many → o < 256 → bs.getD (f * 256 + o) 0 = byteAt L f o
theorem zeros_get (n i : Nat) : (List.replicate n (0 : Int)).getD i 0 = 0 := by
  rw [List.getD_eq_getElem?_getD, List.getElem?_replicate]; split <;> rfl
theorem PSame.zeros (many : Nat) : PSame many (List.replicate (many * 256) 0) [] := ⟨List.length_replicate, fun f o _ _ => by rw [zeros_get]; rfl⟩
theorem PSame.write {many : Nat} {bs : List Int} {L : List Nt} (h : PSame many bs L) (n : Nt) (hf : n.fr < many) (ho : n.off + n.bs.length ≤ 256) :
    PSame many (Go.splice bs (n.fr * 256 + n.off) n.bs) (L ++ [n]) := by
  have hl : n.fr * 256 + n.off + n.bs.length ≤ bs.length := by have := h.1; omega
  refine ⟨by rw [splice_len _ _ _ hl]; exact h.1, fun f o h1 h2 => ?_⟩
  rw [splice_get _ _ _ hl, byteAt_push, ← h.2 f o h1 h2]
  by_cases c : cov n f o
  · obtain ⟨c1, c2, c3⟩ := id c
    rw [if_pos c, if_pos ⟨by omega, by omega⟩]
    exact getD_at _ (by omega)
  · rw [if_neg c, if_neg]
    rintro ⟨c1, c2⟩
    exact c ⟨by omega, by omega, by omega⟩
/-- n bytes of a frame from off on, as the list has them -/
def rd (L : List Nt) (f off n : Nat) : List Int := (List.range n).map fun i => byteAt L f (off + i)
theorem rd_len (L : List Nt) (f off n : Nat) : (rd L f off n).length = n := by simp [rd]
theorem rd_push (L : List Nt) (f off n : Nat) : rd L f off (n + 1) = rd L f off n ++ [byteAt L f (off + n)] := by simp [rd, List.range_succ]
theorem rd_get (L : List Nt) (f off n i : Nat) (h : i < n) : (rd L f off n).getD i 0 = byteAt L f (off + i) := by
  rw [getD_eq _ _ (by rw [rd_len]; exact h)]; simp [rd]
theorem frame_fits {many f : Nat} {bs : List Int} (h : bs.length = many * 256) (hf : f < many) : f * 256 + 256 ≤ bs.length := by omega
theorem PSame.read {many : Nat} {bs : List Int} {L : List Nt} (h : PSame many bs L) (f off n : Nat) (hf : f < many) (ho : off + n ≤ 256) : rd L f off n = cut bs (f * 256 + off) n := by
  have := frame_fits h.1 hf
  apply ext_getD (by rw [rd_len, cut_len _ _ _ (by omega)])
  intro j hj
  rw [rd_len] at hj
  rw [rd_get _ _ _ _ _ hj, cut_get _ _ _ _ (by omega) hj, ← h.2 f (off + j) hf (by omega)]
  exact getD_at _ (by omega)
theorem byteAt_oct {L : List Nt} (h : ∀ n ∈ L, Oct n.bs) (f o : Nat) : 0 ≤ byteAt L f o ∧ byteAt L f o ≤ 255 := by
  have key : ∀ k, k ≤ L.length → 0 ≤ lk L f o k ∧ lk L f o k ≤ 255 := by
    intro k
    induction k with
    | zero => intro _; simp [lk]
    | succ k ih =>
      intro hk
      rw [lk_at _ _ _ _ (by omega)]
      split
      · exact (h _ (List.getElem_mem (by omega))).get _
      · exact ih (by omega)
  exact key _ (Nat.le_refl _)
end Go.Proofs.Ytbkhmeongekdiaa
namespace Go.Proofs.Ytbkhmeongekdiaa
open Go.RowKit
set_option linter.unusedVariables false
set_option maxRecDepth 100000
theorem byte_info : (Try.prog.info? 5).map (fun i => (i.zero, i.size, i.bytes)) = some (some (.int .u8 0), 1, 1) := by kernel_rfl
theorem byte_size : (Try.prog.info? 5).map (·.size) = some 1 := by kernel_rfl
/-- bytes as cells -/
def cells8 (l : List Int) : List Value := l.map (Value.int .u8)
theorem cells8_len (l : List Int) : (cells8 l).length = l.length := by simp [cells8]
theorem cells8_one {l : List Int} : ∀ v ∈ cells8 l, v.oneCell' = true := by
  intro v hv
  simp only [cells8, List.mem_map] at hv
  obtain ⟨x, _, rfl⟩ := hv
  rfl
theorem cells8_get {l : List Int} {j : Nat} {v : Value} (h : (cells8 l)[j]? = some v) : j < l.length ∧ v = .int .u8 (l.getD j 0) := by
  simp only [cells8, List.getElem?_map] at h
  rcases hj : l[j]? with _ | y
  · rw [hj] at h; cases h
  · rw [hj] at h
    have hl : j < l.length := by
      rcases Nat.lt_or_ge j l.length with k | k
      · exact k
      · rw [List.getElem?_eq_none k] at hj; cases hj
    refine ⟨hl, ?_⟩
    rw [List.getD_eq_getElem?_getD, hj]
    simpa using h.symm
theorem cells8_zeros (n : Nat) : cells8 (List.replicate n 0) = List.replicate n (.int .u8 0) := by simp [cells8]
theorem cells8_splice (l : List Int) (p : Nat) (b : List Int) : cells8 (splice l p b) = splice (cells8 l) p (cells8 b) := splice_map _ _ _ _
/-- a slice of bytes that can be read -/
def Byts (w : World) (v : Value) (l : List Int) : Prop :=
  ∃ p cap, v = .slice p l.length cap ∧ l.length ≤ maxLen ∧ ∀ i, i < l.length → ∃ a, p = some a ∧ w.cell? (a.add i) = some (.int .u8 (l.getD i 0))
theorem Byts.nil (w : World) : Byts w (.slice none 0 0) [] := ⟨none, 0, rfl, Nat.zero_le _, fun i h => absurd h (Nat.not_lt_zero _)⟩
theorem Byts.new {w w' : World} {v : Value} {l : List Int} (h : Byts w v l) (k : New w w') : Byts w' v l := by
  obtain ⟨p, cap, h1, h2, h3⟩ := h
  refine ⟨p, cap, h1, h2, fun i hi => ?_⟩
  obtain ⟨a, ha, hc⟩ := h3 i hi
  exact ⟨a, ha, by rw [k.cell (cell_lt hc)]; exact hc⟩
theorem Byts.copy {w : World} {p : Option Addr} {n cap : Nat} {l : List Int} (h : Byts w (.slice p n cap) l) : n = l.length ∧ l.length ≤ maxLen ∧
    (0 < (cells8 l).length → ∃ ad, p = some ad ∧ ∀ j v, (cells8 l)[j]? = some v → w.cell? (ad.add j) = some v) := by
  obtain ⟨p', cap', h1, h2, h3⟩ := h
  cases h1
  refine ⟨rfl, h2, fun hl => ?_⟩
  rw [cells8_len] at hl
  obtain ⟨a, rfl, _⟩ := h3 0 hl
  refine ⟨a, rfl, fun j v hv => ?_⟩
  obtain ⟨hj, rfl⟩ := cells8_get hv
  obtain ⟨a', e, hc⟩ := h3 j hj
  cases e
  exact hc
theorem str_of {w : World} {v : Value} {l : List Int} (h : Byts w v l) : (convert 31 9 v).run Try.prog w = .ok (.string (strOfNums l)) w := by
  obtain ⟨p, cap, rfl, _, hc⟩ := h
  rcases p with _ | a
  · have hl : l = [] := by
      rcases l with _ | ⟨x, l⟩
      · rfl
      · obtain ⟨a, ha, _⟩ := hc 0 (by simp); cases ha
    subst hl
    exact run_convert_bytes_nil w 31 5 Try.underlying31 Try.underlying5 _ _ 9 Try.underlying9
  · have hl : (loadCells a l.length).run Try.prog w = .ok (l.map (Value.int .u8)).toArray w := by
      have := run_loadCells_list (P := Try.prog) w a (l.map (Value.int .u8)) (fun j v hv => by
        obtain ⟨hj, rfl⟩ := cells8_get (l := l) hv
        obtain ⟨a', e, hc⟩ := hc j hj
        cases e
        exact hc)
      simpa using this
    rw [run_convert_bytes_string w 31 9 5 (some a) l.length cap Try.underlying31 Try.underlying5 Try.underlying9, run_bytesToString w a l.length cap l hl, foldl_push_bytes]
    simp [strOfNums, ByteArray.empty, ByteArray.emptyWithCapacity]
    rfl
theorem byts_of_block {w : World} {b cap : Nat} {l : List Int} (h : w.heap[b]? = some (.cells (cells8 l).toArray 5 (0, 0))) (hl : l.length ≤ maxLen) : Byts w (.slice (some ⟨b, 0, none⟩) l.length cap) l :=
  ⟨_, _, rfl, hl, fun i hi => ⟨_, rfl, by rw [Addr.add_mid, cell_of_row w b (0 + i) _ _ _ h, Nat.zero_add, List.getElem?_toArray, cells8, List.getElem?_map, List.getElem?_eq_getElem hi, getD_eq l i hi]; rfl⟩⟩
/-- a slice of bytes that the call made, or nil -/
def OwnB (base : Nat) (w : World) (v : Value) (l : List Int) : Prop := w.ownsRow base 5 1 v l.length (cells8 l)
theorem OwnB.nil (base : Nat) (w : World) : OwnB base w (.slice none 0 0) [] := ⟨by simp [cells8], .inl ⟨rfl, rfl⟩⟩
theorem OwnB.new {base : Nat} {w w' : World} {v : Value} {l : List Int} (h : OwnB base w v l) (k : New w w') : OwnB base w' v l := by
  refine ⟨h.1, ?_⟩
  rcases h.2 with hn | ⟨g, cap, cur, rfl, hb, hg, rest⟩
  · exact .inl hn
  · exact .inr ⟨g, cap, cur, rfl, hb, by rw [k.block (Array.getElem?_eq_some_iff.1 hg).1]; exact hg, rest⟩
theorem OwnB.far {base rb : Nat} {w w' : World} {v : Value} {l : List Int} (h : OwnB base w v l) (k : Far rb w w') (hr : rb < base) : OwnB base w' v l := by
  refine ⟨h.1, ?_⟩
  rcases h.2 with hn | ⟨g, cap, cur, rfl, hb, hg, rest⟩
  · exact .inl hn
  · exact .inr ⟨g, cap, cur, rfl, hb, by rw [k.2.2.2.2 g (Array.getElem?_eq_some_iff.1 hg).1 (by omega)]; exact hg, rest⟩
theorem OwnB.more {base base' : Nat} {w : World} {v : Value} {l : List Int} (h : OwnB base w v l) (k : base' ≤ base) : OwnB base' w v l := by
  refine ⟨h.1, ?_⟩
  rcases h.2 with hn | ⟨g, cap, cur, rfl, hb, rest⟩
  · exact .inl hn
  · exact .inr ⟨g, cap, cur, rfl, by omega, rest⟩
theorem OwnB.shape {base : Nat} {w : World} {v : Value} {l : List Int} (h : OwnB base w v l) : ∃ p cap, v = .slice p l.length cap := by
  rcases h.2 with ⟨rfl, hn⟩ | ⟨g, cap, cur, rfl, _⟩
  · have : l = [] := by simpa [cells8] using hn
    subst this; exact ⟨_, _, rfl⟩
  · exact ⟨_, _, rfl⟩
theorem OwnB.byts {base : Nat} {w : World} {v : Value} {l : List Int} (h : OwnB base w v l) : Byts w v l := by
  rcases h.2 with ⟨rfl, hn⟩ | ⟨g, cap, cur, rfl, hb, hg, h1, h2, h3, h4⟩
  · have : l = [] := by simpa [cells8] using hn
    subst this; exact Byts.nil w
  · refine ⟨_, _, rfl, Nat.le_trans h1 h2, fun i hi => ⟨_, rfl, ?_⟩⟩
    have e : (cur.toList.take (l.length * 1))[i]? = some (.int .u8 (l.getD i 0)) := by
      rw [h4, cells8, List.getElem?_map, List.getElem?_eq_getElem hi, getD_eq l i hi]; rfl
    rw [List.getElem?_take] at e
    split at e
    · rw [Addr.add_mid, Nat.zero_add]; simpa [World.cell?, hg] using e
    · cases e
theorem run_append_bytes (w : World) (base : Nat) (v : Value) (xs : List Int) (hown : OwnB base w v xs) (u : Value) (l : List Int) (hu : Byts w u l) (hlen : xs.length + l.length ≤ 1000000) (hbase : base ≤ w.heap.size) :
    ∃ v' w', (Builtin.append_ #[31, 31] 31 #[v, u]).run Try.prog w = .ok v' w' ∧ OwnB base w' v' (xs ++ l) ∧ w.grownBy w' v.ownBlock := by
  obtain ⟨i0, hi, hz0, hz1, hz2⟩ := info_parts byte_info
  obtain ⟨p, cap, rfl, hlm, hc⟩ := hu
  rcases p with _ | ad
  · have hl : l = [] := by
      rcases l with _ | ⟨x, l⟩
      · rfl
      · obtain ⟨a, ha, _⟩ := hc 0 (by simp); cases ha
    subst hl
    refine ⟨v, w, ?_, by rw [List.append_nil]; exact hown, World.grownBy.refl w _⟩
    rcases hown.2 with ⟨rfl, hn⟩ | ⟨g, cap', cur, rfl, _, _, hnc, _⟩
    · simp [Builtin.append_, run_underlying Try.underlying31, sizeOf, typeInfo, hi, Builtin.lenOf, Builtin.firstCells]
    · simp [Builtin.append_, run_underlying Try.underlying31, sizeOf, typeInfo, hi, Builtin.lenOf, Builtin.firstCells, hnc, storeCells]
  · obtain ⟨v', w', h1, h2, h3, _⟩ := run_append_own (P := Try.prog) w base 31 31 5 i0 (.int .u8 0) 1 1 Try.underlying31 hi hz0 hz1 hz2 rfl (by decide) v xs.length (cells8 xs) hown ad l.length cap (cells8 l)
      (by rw [cells8_len]; omega) (fun j u hu => by
        obtain ⟨hj, rfl⟩ := cells8_get hu
        obtain ⟨a', e, hcc⟩ := hc j hj
        cases e; exact hcc) cells8_one (by unfold maxLen; omega) (by omega) hbase
    refine ⟨v', w', h1, ?_, h3⟩
    unfold OwnB
    rw [List.length_append, show cells8 (xs ++ l) = cells8 xs ++ cells8 l by simp [cells8]]
    exact h2
/-- append of bytes to a slice of bytes that the call made -/
theorem wpList_append_bytes {w : World} {ops : Array Oper} {rest : List Oper} {o : Oper} {a : Act} {Q : Exit → Act → World → Prop} (hgd : o.guard = none) (s x : Operand)
    (ho : o.op = .call { callee := .builtin .append, args := #[s, x], argTypes := #[31, 31] }) (hty : o.type = 31)
    (base : Nat) (v : Value) (xs : List Int) (hs : a.eval s = v) (hown : OwnB base w v xs) (u : Value) (l : List Int) (hx : a.eval x = u) (hu : Byts w u l) (hlen : xs.length + l.length ≤ 1000000) (hbase : base ≤ w.heap.size)
    (h : ∀ v' w', OwnB base w' v' (xs ++ l) → (∀ w0 : World, w0.heap.size ≤ base → New w0 w → New w0 w') → wpList Try.prog ops Q rest (a.put o.dst v') w') : wpList Try.prog ops Q (o :: rest) a w := by
  obtain ⟨v', w', hr, h2, h3⟩ := run_append_bytes w base v xs hown u l hu hlen hbase
  refine wpList_plain hgd fun _ hK => ?_
  unfold Oper.wp execOp
  rw [← hty] at hr
  simp only [ho, resolve, invoke, builtin, Sem.run_bind, Sem.run_pure, Result.andThen_ok, List.map_toArray, List.map_cons, List.map_nil, hs, hx]
  rw [hty] at hr ⊢
  simp only [hr]
  exact hK _ _ (h v' w' h2 fun w0 h0 hn => hn.grown h3 fun k hk => Nat.le_trans h0 (World.ownsRow.lt hown k hk).1)
end Go.Proofs.Ytbkhmeongekdiaa
