/- Words of a line of bytes (split at the bytes 32 and 9), and that the library's fields by runes are these; what is left of a line that is trimmed. No program stands in this text. -/
import Derived.Lib.FieldsP
import Derived.Lib.SpaceUEq
-- TRIM
namespace Go.Proofs.YtlpjegclpilaaaaGreatDoor
open Go.Lib
set_option linter.unusedVariables false
/-- a blank -/
def blk (b : UInt8) : Bool := b.toNat == 32 || b.toNat == 9
/-- a blank, as a rune -/
def blkR (r : Nat) : Bool := r == 32 || r == 9
/-- the words of a line, of which one is begun -/
def wrdGo (cur : List UInt8) : List UInt8 → List (List UInt8)
  | [] => if cur = [] then [] else [cur]
  | b :: t => if blk b then (if cur = [] then wrdGo [] t else cur :: wrdGo [] t) else wrdGo (cur ++ [b]) t
def wrds (l : List UInt8) : List (List UInt8) := wrdGo [] l

theorem blk_dec (n b0 b1 b2 b3 : Nat) : blkR (decodeN n b0 b1 b2 b3).1 = true → (decodeN n b0 b1 b2 b3).2 = 1 ∧ (b0 = 32 ∨ b0 = 9) := by
  intro h
  simp only [blkR, Bool.or_eq_true, beq_iff_eq] at h
  rcases decodeN_cases n b0 b1 b2 b3 with ⟨h0, e⟩ | ⟨h1, _, _, h2, e⟩ | ⟨h1, _, _, _, h2, e⟩ | ⟨h1, h2⟩ | e
  · rw [e] at h ⊢; exact ⟨rfl, h⟩
  · rw [e] at h; simp only at h; omega
  · rw [e] at h; simp only at h; omega
  · omega
  · rw [e] at h; simp only at h; omega
theorem blk_not (n b0 b1 b2 b3 : Nat) (h : blkR (decodeN n b0 b1 b2 b3).1 = false) : b0 ≠ 32 ∧ b0 ≠ 9 := by
  constructor <;> intro e <;> (subst e; rw [decodeN_ascii _ _ _ _ _ (by omega)] at h; simp [blkR] at h)
theorem blk_iff (b : UInt8) : blk b = true ↔ b.toNat = 32 ∨ b.toNat = 9 := by simp [blk]
theorem blk_no {b : UInt8} (h : blk b = false) : b.toNat ≠ 32 ∧ b.toNat ≠ 9 := by simpa [blk] using h

/-- what a rune at the head of a list is, with regard to blanks -/
theorem head_dec (l : List UInt8) (hne : l ≠ []) : ((blkR (decodeL l).1 = true ∧ (decodeL l).2 = 1 ∧ ∃ b t, l = b :: t ∧ blk b = true) ∨
    (blkR (decodeL l).1 = false ∧ 1 ≤ (decodeL l).2 ∧ (decodeL l).2 ≤ l.length ∧ ∀ b ∈ l.take (decodeL l).2, blk b = false)) := by
  obtain ⟨b, t, rfl⟩ := List.exists_cons_of_ne_nil hne
  have hw := decodeL_width (b :: t)
  have e := decodeL_N (b :: t)
  have hc := decodeN_conts (b :: t).length ((b :: t).getD 0 0).toNat ((b :: t).getD 1 0).toNat ((b :: t).getD 2 0).toNat ((b :: t).getD 3 0).toNat
  have hle := decodeN_le_n' (b :: t).length ((b :: t).getD 0 0).toNat ((b :: t).getD 1 0).toNat ((b :: t).getD 2 0).toNat ((b :: t).getD 3 0).toNat (by simp)
  rw [← e] at hc hle
  cases hb : blkR (decodeL (b :: t)).1 with
  | true =>
    refine Or.inl ⟨rfl, ?_, b, t, rfl, ?_⟩
    · rw [e] at hb ⊢; exact (blk_dec _ _ _ _ _ hb).1
    · rw [e] at hb; have := (blk_dec _ _ _ _ _ hb).2; rw [blk_iff]; simpa using this
  | false =>
    refine Or.inr ⟨rfl, by omega, hle, ?_⟩
    have h0 : (b.toNat ≠ 32 ∧ b.toNat ≠ 9) := by rw [e] at hb; simpa using blk_not _ _ _ _ _ hb
    intro c hm
    obtain ⟨j, hj, hjc⟩ := List.getElem_of_mem hm
    rw [List.length_take] at hj
    rw [List.getElem_take] at hjc
    have hg : (b :: t).getD j 0 = c := by rw [List.getD_eq_getElem?_getD, List.getElem?_eq_getElem (by omega)]; exact hjc
    have hcase : j = 0 ∨ j = 1 ∨ j = 2 ∨ j = 3 := by omega
    have key : c.toNat ≠ 32 ∧ c.toNat ≠ 9 := by
      rcases hcase with rfl | rfl | rfl | rfl
      · have : c = b := by rw [← hg]; rfl
        rw [this]; exact h0
      · have := hc.1 (by omega); rw [hg] at this; omega
      · have := hc.2.1 (by omega); rw [hg] at this; omega
      · have := hc.2.2.1 (by omega); rw [hg] at this; omega
    simp [blk, key.1, key.2]

theorem wrdGo_app : ∀ (q cur t : List UInt8), (∀ b ∈ q, blk b = false) → wrdGo cur (q ++ t) = wrdGo (cur ++ q) t
  | [], cur, t, _ => by simp
  | b :: q, cur, t, h => by
    have hb := h b (by simp)
    rw [List.cons_append, wrdGo, if_neg (by simp [hb]), wrdGo_app q _ t (fun c hc => h c (by simp [hc]))]
    simp

theorem spansP_eq (s : ByteArray) : ∀ (f pos : Nat) (st : Option Nat) (acc : List (Nat × Nat)), s.size ≤ pos + f → pos ≤ s.size → (∀ a, st = some a → a < pos) →
    acc.map (fun p => pieceU s.data.toList p.1 p.2) ++ wrdGo (openPiece s.data.toList st pos) (s.data.toList.drop pos) = (closeSpans s (spansFromP blkR s f pos st acc)).map (fun p => pieceU s.data.toList p.1 p.2)
  | 0, pos, st, acc, h, hp, hst => by
    obtain rfl : pos = s.size := by omega
    have hd : s.data.toList.drop s.size = [] := List.drop_eq_nil_of_le (by rw [← size_eq]; exact Nat.le_refl _)
    rw [hd, wrdGo]
    cases st with
    | none => simp [spansFromP, closeSpans, openPiece]
    | some a =>
      have := pieceU_ne s.data.toList a s.size (hst a rfl) (by rw [← size_eq]; exact Nat.le_refl _)
      simp [spansFromP, closeSpans, openPiece, this]
  | f + 1, pos, st, acc, h, hp, hst => by
    by_cases hlt : pos < s.size
    · have hne : s.data.toList.drop pos ≠ [] := by
        intro h0
        have := congrArg List.length h0
        rw [List.length_drop, ← size_eq] at this
        simp at this
        omega
      have hd := head_dec _ hne
      rw [decodeL_drop, List.length_drop, ← size_eq] at hd
      simp only [spansFromP, if_pos hlt]
      rcases hd with ⟨hb, hk, b, t, ht, hbb⟩ | ⟨hb, hk1, hk2, hq⟩
      · rw [hk]
        have hdr : s.data.toList.drop (pos + 1) = t := by rw [← List.drop_drop, ht]; rfl
        simp only [hb, if_true]
        rw [ht, wrdGo, if_pos hbb]
        cases st with
        | none =>
          have ih := spansP_eq s f (pos + 1) none acc (by omega) (by omega) (fun a h => by cases h)
          rw [hdr] at ih
          simpa [openPiece] using ih
        | some a =>
          have hpn := pieceU_ne s.data.toList a pos (hst a rfl) (by rw [← size_eq]; omega)
          have ih := spansP_eq s f (pos + 1) none (acc ++ [(a, pos)]) (by omega) (by omega) (fun a h => by cases h)
          rw [hdr] at ih
          simpa [openPiece, hpn] using ih
      · generalize hK : (Utf8.decode s pos).2 = K at *
        simp only [hb, Bool.false_eq_true, if_false]
        have hsp : s.data.toList.drop pos = (s.data.toList.drop pos).take K ++ s.data.toList.drop (pos + K) := by
          rw [← List.drop_drop, List.take_append_drop]
        have hgo : ∀ cur, wrdGo cur (s.data.toList.drop pos) = wrdGo (cur ++ (s.data.toList.drop pos).take K) (s.data.toList.drop (pos + K)) := fun cur => by
          conv => lhs; rw [hsp]
          exact wrdGo_app _ _ _ hq
        rw [hgo]
        cases st with
        | none =>
          have ih := spansP_eq s f (pos + K) (some pos) acc (by omega) (by omega) (fun a h => by cases h; omega)
          have e : ([] : List UInt8) ++ (s.data.toList.drop pos).take K = pieceU s.data.toList pos (pos + K) := by
            unfold pieceU
            rw [List.nil_append, Nat.add_sub_cancel_left]
          simp only [openPiece] at ih ⊢
          rw [e]
          exact ih
        | some a =>
          have ih := spansP_eq s f (pos + K) (some a) acc (by omega) (by omega) (fun b h => by cases h; have := hst a rfl; omega)
          simp only [openPiece] at ih ⊢
          rw [pieceU_grow _ _ _ _ (Nat.le_of_lt (hst a rfl))]
          exact ih
    · obtain rfl : pos = s.size := by omega
      have hd : s.data.toList.drop s.size = [] := List.drop_eq_nil_of_le (by rw [← size_eq]; exact Nat.le_refl _)
      rw [hd, wrdGo, spansFromP_end blkR s _ _ _ _ hlt]
      cases st with
      | none => simp [closeSpans, openPiece]
      | some a =>
        have := pieceU_ne s.data.toList a s.size (hst a rfl) (by rw [← size_eq]; exact Nat.le_refl _)
        simp [closeSpans, openPiece, this]

/-- the library's fields are the words -/
theorem fields_wrds (s : ByteArray) : (goFieldsP blkR s).map (·.data.toList) = wrds s.data.toList := by
  have h := spansP_eq s s.size 0 none [] (by omega) (by omega) (fun a h => by cases h)
  simp only [List.map_nil, List.nil_append, openPiece, List.drop_zero] at h
  unfold wrds goFieldsP spansOfP
  rw [h, List.map_map]
  refine List.map_congr_left fun x _ => ?_
  show (s.extract x.1 x.2).data.toList = _
  rw [extract_data]
  unfold pieceU
  first | rfl | (rw [List.take_drop]; done) | simp [List.take_drop, List.drop_take]

/-- all blank -/
def allB (l : List UInt8) : Bool := l.all blk
theorem wrdGo_nil : ∀ (l cur : List UInt8), wrdGo cur l = [] ↔ cur = [] ∧ allB l = true
  | [], cur => by simp [wrdGo, allB]
  | b :: t, cur => by
    unfold wrdGo
    have e : allB (b :: t) = (blk b && allB t) := rfl
    cases hb : blk b with
    | true =>
      rw [e, hb, if_pos rfl]
      by_cases hc : cur = []
      · rw [if_pos hc, wrdGo_nil t]; simp [hc]
      · rw [if_neg hc]; simp [hc]
    | false =>
      rw [e, hb, if_neg (by simp), wrdGo_nil t]; simp
theorem wrds_nil (l : List UInt8) : wrds l = [] ↔ allB l = true := by unfold wrds; rw [wrdGo_nil]; simp

theorem mem_wrdGo : ∀ (l cur : List UInt8), (∀ b ∈ cur, blk b = false) → ∀ x ∈ wrdGo cur l, x ≠ [] ∧ ∀ b ∈ x, blk b = false
  | [], cur, hc, x, hx => by
    unfold wrdGo at hx
    by_cases h : cur = []
    · rw [if_pos h] at hx; cases hx
    · rw [if_neg h] at hx; simp at hx; subst hx; exact ⟨h, hc⟩
  | b :: t, cur, hc, x, hx => by
    unfold wrdGo at hx
    cases hb : blk b with
    | true =>
      rw [hb, if_pos rfl] at hx
      by_cases h : cur = []
      · rw [if_pos h] at hx; exact mem_wrdGo t [] (by simp) x hx
      · rw [if_neg h] at hx
        rcases List.mem_cons.1 hx with rfl | hx
        · exact ⟨h, hc⟩
        · exact mem_wrdGo t [] (by simp) x hx
    | false =>
      rw [hb, if_neg (by simp)] at hx
      exact mem_wrdGo t (cur ++ [b]) (fun c h => by rcases List.mem_append.1 h with h | h; exact hc c h; simp at h; subst h; exact hb) x hx
theorem mem_wrds {l x : List UInt8} (h : x ∈ wrds l) : x ≠ [] ∧ ∀ b ∈ x, blk b = false := mem_wrdGo l [] (by simp) x h

/-- words that are joined by one blank each are these words again -/
theorem wrds_join : ∀ (ws : List (List UInt8)), (∀ x ∈ ws, x ≠ [] ∧ ∀ b ∈ x, blk b = false) → wrds ([32].intercalate ws) = ws
  | [], _ => rfl
  | [x], h => by
    have hx := h x (by simp)
    have e : ([32] : List UInt8).intercalate [x] = x ++ [] := by simp [List.intercalate]
    unfold wrds
    rw [e, wrdGo_app x [] [] hx.2, List.nil_append, wrdGo, if_neg hx.1]
  | x :: y :: t, h => by
    have hx := h x (by simp)
    have ih := wrds_join (y :: t) (fun z hz => h z (by simp [hz]))
    have e : ([32] : List UInt8).intercalate (x :: y :: t) = x ++ (32 :: ([32] : List UInt8).intercalate (y :: t)) := by simp [List.intercalate]
    unfold wrds at ih ⊢
    rw [e, wrdGo_app x [] _ hx.2, List.nil_append, wrdGo, if_pos (by decide), if_neg hx.1, ih]
/-- blanks at the end, and a begun word, too -/
theorem wrdGo_snoc : ∀ (l cur : List UInt8), wrdGo cur (l ++ [32]) = wrdGo cur l
  | [], cur => by
    have e : blk 32 = true := by decide
    by_cases h : cur = [] <;> simp [h, wrdGo, e]
  | b :: t, cur => by
    rw [List.cons_append, wrdGo, wrdGo, wrdGo_snoc t, wrdGo_snoc t]
theorem wrds_snoc (l : List UInt8) : wrds (l ++ [32]) = wrds l := wrdGo_snoc l []
end Go.Proofs.YtlpjegclpilaaaaGreatDoor
