/- Instructions as texts, as plain facts on lists of bytes: the text of an instruction, the instruction of a text. No program stands in this text. -/
import Derived.Test.YtlpjegclpilaaaaGreatDoorIsMath
import Derived.Test.YtlpjegclpilaaaaGreatDoorAmWords
import Derived.Test.YtlpjegclpilaaaaGreatDoorAmNum
namespace Go.Proofs.YtlpjegclpilaaaaGreatDoor
open Go.Lib
set_option linter.unusedVariables false
/-- the operations: their names, and the letters of their parts -/
def ops : List (List UInt8 × List UInt8) := [([110, 111, 112], []), ([108, 105], [97, 105]), ([108, 117, 105], [97, 105]), ([109, 111, 118], [97, 98]), ([97, 100, 100], [97, 98]), ([115, 117, 98], [97, 98]), ([109, 117, 108], [97, 98]), ([100, 105, 118], [97, 98]), ([114, 101, 109], [97, 98]), ([97, 110, 100], [97, 98]), ([111, 114], [97, 98]), ([120, 111, 114], [97, 98]), ([115, 104, 108], [97, 98]), ([115, 104, 114], [97, 98]), ([115, 97, 114], [97, 98]), ([97, 100, 100, 105], [97, 98, 105]), ([99, 109, 112], [97, 98]), ([108, 98], [97, 98, 105]), ([108, 119], [97, 98, 105]), ([115, 98], [97, 98, 105]), ([115, 119], [97, 98, 105]), ([106, 109, 112], [105]), ([106, 122], [105]), ([106, 110, 122], [105]), ([106, 108, 116], [105]), ([106, 103, 101], [105]), ([106, 99], [105]), ([99, 97, 108, 108], [105]), ([106, 114], [97]), ([115, 121, 115], []), ([98, 114, 107], []), ([102, 108, 100], [97, 98, 105]), ([102, 115, 116], [97, 98, 105]), ([102, 97, 100, 100], [97, 98]), ([102, 115, 117, 98], [97, 98]), ([102, 109, 117, 108], [97, 98]), ([102, 100, 105, 118], [97, 98]), ([102, 115, 113, 114, 116], [97, 98]), ([102, 99, 109, 112], [97, 98]), ([102, 116, 111, 105], [97, 98]), ([105, 116, 111, 102], [97, 98]), ([102, 108, 97, 103, 115], [97])]
def nm (o : Nat) : List UInt8 := (ops.getD o ([], [])).1
def nd (o : Nat) : List UInt8 := (ops.getD o ([], [])).2
theorem ops_len : ops.length = 42 := rfl
theorem nm_big {o : Nat} (h : 42 ≤ o) : nm o = [] := by unfold nm; rw [List.getD_eq_getElem?_getD, List.getElem?_eq_none (by rw [ops_len]; exact h)]; rfl
theorem nd_big {o : Nat} (h : 42 ≤ o) : nd o = [] := by unfold nd; rw [List.getD_eq_getElem?_getD, List.getElem?_eq_none (by rw [ops_len]; exact h)]; rfl
/-- the first operation of a name; 42: there is none -/
def fnd (w : List UInt8) : Nat := ops.findIdx (fun p => p.1 == w)
theorem fnd_le (w : List UInt8) : fnd w ≤ 42 := by unfold fnd; rw [← ops_len]; exact List.findIdx_le_length
theorem nm_fin : ∀ o : Fin 42, nm o.val ≠ [] ∧ (nm o.val).all (fun b => !blk b && b.toNat != 37 && b.toNat != 10) = true ∧ fnd (nm o.val) = o.val ∧ (nm o.val).length ≤ 5 := by decide +kernel
theorem nm_ne {o : Nat} (h : o < 42) : nm o ≠ [] := (nm_fin ⟨o, h⟩).1
theorem nm_len (o : Nat) : (nm o).length ≤ 5 := by
  rcases Nat.lt_or_ge o 42 with h | h
  · exact (nm_fin ⟨o, h⟩).2.2.2
  · rw [nm_big h]; simp
theorem nm_no {o : Nat} : ∀ b ∈ nm o, blk b = false ∧ b.toNat ≠ 37 ∧ b.toNat ≠ 10 := by
  rcases Nat.lt_or_ge o 42 with h | h
  · intro b hb
    have := List.all_eq_true.1 (nm_fin ⟨o, h⟩).2.1 b hb
    simp only [Bool.and_eq_true, bne_iff_ne, Bool.not_eq_true'] at this
    exact ⟨this.1.1, this.1.2, this.2⟩
  · rw [nm_big h]; simp
theorem fnd_nm {o : Nat} (h : o < 42) : fnd (nm o) = o := (nm_fin ⟨o, h⟩).2.2.1
theorem nm_fnd {w : List UInt8} (h : fnd w < 42) : nm (fnd w) = w := by
  have h2 : ops.findIdx (fun p => p.1 == w) < ops.length := h
  have := List.findIdx_getElem (w := h2)
  unfold nm
  rw [show fnd w = ops.findIdx (fun p => p.1 == w) from rfl, List.getD_eq_getElem?_getD, List.getElem?_eq_getElem h2]
  simpa using this
theorem fnd_first {w : List UInt8} {k : Nat} (h : k < fnd w) : nm k ≠ w := by
  have h2 : k < ops.findIdx (fun p => p.1 == w) := h
  have hk : k < ops.length := by have := fnd_le w; rw [ops_len]; omega
  have := List.not_of_lt_findIdx h2
  unfold nm
  rw [List.getD_eq_getElem?_getD, List.getElem?_eq_getElem hk]
  simpa using this
theorem fnd_at {w : List UInt8} {k : Nat} (hk : k < 42) (h : nm k = w) : fnd w = k := by rw [← h]; exact fnd_nm hk
theorem nd_fin : ∀ o : Fin 42, nd o.val ∈ ([[], [97], [105], [97, 105], [97, 98], [97, 98, 105]] : List (List UInt8)) := by decide +kernel
theorem nd_cases (o : Nat) : nd o = [] ∨ nd o = [97] ∨ nd o = [105] ∨ nd o = [97, 105] ∨ nd o = [97, 98] ∨ nd o = [97, 98, 105] := by
  rcases Nat.lt_or_ge o 42 with h | h
  · simpa using nd_fin ⟨o, h⟩
  · exact .inl (nd_big h)
theorem nd_letters (o : Nat) : (nd o).Nodup ∧ ∀ c ∈ nd o, c = 97 ∨ c = 98 ∨ c = 105 := by
  rcases nd_cases o with h | h | h | h | h | h <;> rw [h] <;> exact ⟨by decide, by decide⟩
theorem nd_len (o : Nat) : (nd o).length ≤ 3 := by
  rcases nd_cases o with h | h | h | h | h | h <;> rw [h] <;> decide

/-! ### the instruction of a text -/
/-- a part's number, by its letter, of a word -/
def valBy (f : List UInt8 → Option Int) (c : UInt8) (w : List UInt8) : Option Int :=
  if c = 105 then f w else match w with | [] => none | b :: t => if b = 114 then f t else none
def put (c : UInt8) (n : Int) (x : Int × Int × Int) : Int × Int × Int := if c = 97 then (n, x.2.1, x.2.2) else if c = 98 then (x.1, n, x.2.2) else (x.1, x.2.1, n)
def part (c : UInt8) (x : Int × Int × Int) : Int := if c = 97 then x.1 else if c = 98 then x.2.1 else x.2.2
def flBy (f : List UInt8 → Option Int) : List UInt8 → List (List UInt8) → Int × Int × Int → Option (Int × Int × Int)
  | [], _, x => some x
  | _ :: _, [], _ => none
  | c :: cs, w :: ws, x => match valBy f c w with | none => none | some n => flBy f cs ws (put c n x)
noncomputable def chk (o : Nat) (y : Option (Int × Int × Int)) : Option (Nat × Int × Int × Int) := by
  classical exact match y with | none => none | some x => if InOk o x.1 x.2.1 x.2.2 then some (o, x.1, x.2.1, x.2.2) else none
noncomputable def prsBy (f : List UInt8 → Option Int) (l : List UInt8) : Option (Nat × Int × Int × Int) :=
  match wrds l with
  | [] => none
  | w :: ws => if ws.length = (nd (fnd w)).length then chk (fnd w) (flBy f (nd (fnd w)) ws (0, 0, 0)) else none
/-- the instruction of a text, or none -/
noncomputable def prs (l : List UInt8) : Option (Nat × Int × Int × Int) := prsBy numP l
theorem chk_none (o : Nat) : chk o none = none := rfl
theorem chk_ok {o : Nat} {x : Int × Int × Int} (h : InOk o x.1 x.2.1 x.2.2) : chk o (some x) = some (o, x.1, x.2.1, x.2.2) := by unfold chk; exact if_pos h
theorem chk_no {o : Nat} {x : Int × Int × Int} (h : ¬ InOk o x.1 x.2.1 x.2.2) : chk o (some x) = none := by unfold chk; exact if_neg h
theorem part_put (c d : UInt8) (n : Int) (x : Int × Int × Int) (hc : c = 97 ∨ c = 98 ∨ c = 105) (hd : d = 97 ∨ d = 98 ∨ d = 105) : part c (put d n x) = if c = d then n else part c x := by
  rcases hc with rfl | rfl | rfl <;> rcases hd with rfl | rfl | rfl <;> rfl
theorem fl_other (f : List UInt8 → Option Int) (c : UInt8) (hc : c = 97 ∨ c = 98 ∨ c = 105) : ∀ (cs : List UInt8) (ws : List (List UInt8)) (x y : Int × Int × Int), (∀ d ∈ cs, d = 97 ∨ d = 98 ∨ d = 105) → c ∉ cs → flBy f cs ws x = some y → part c y = part c x
  | [], _, x, y, _, _, h => by simp only [flBy, Option.some.injEq] at h; rw [h]
  | _ :: _, [], _, _, _, _, h => by cases h
  | d :: cs, w :: ws, x, y, hl, hn, h => by
    simp only [flBy] at h
    cases hv : valBy f d w with
    | none => rw [hv] at h; cases h
    | some n =>
      rw [hv] at h
      rw [fl_other f c hc cs ws _ y (fun e he => hl e (by simp [he])) (fun he => hn (by simp [he])) h, part_put c d n x hc (hl d (by simp)), if_neg (fun e => hn (by simp [e]))]
def Big (n : Int) : Prop := n < -999999999 ∨ 999999999 < n
theorem val_two {c : UInt8} {w : List UInt8} {n : Int} (h : valBy numP c w = some n) : valBy numD c w = some n ∨ Big n := by
  have key : ∀ t, numP t = some n → numD t = some n ∨ Big n := fun t ht => by
    by_cases hb : -999999999 ≤ n ∧ n ≤ 999999999
    · exact .inl (numD_of_numP ht hb.1 hb.2)
    · exact .inr (by unfold Big; omega)
  unfold valBy at h ⊢
  split
  · rename_i hc; rw [if_pos hc] at h; exact key _ h
  · rename_i hc; rw [if_neg hc] at h
    cases w with
    | nil => cases h
    | cons b t =>
      simp only at h ⊢
      split
      · rename_i hb; rw [if_pos hb] at h; exact key _ h
      · rename_i hb; rw [if_neg hb] at h; cases h
theorem val_one {c : UInt8} {w : List UInt8} {n : Int} (h : valBy numD c w = some n) : valBy numP c w = some n := by
  unfold valBy at h ⊢
  split
  · rename_i hc; rw [if_pos hc] at h; exact (numP_of_numD h).1
  · rename_i hc; rw [if_neg hc] at h
    cases w with
    | nil => cases h
    | cons b t =>
      simp only at h ⊢
      split
      · rename_i hb; rw [if_pos hb] at h; exact (numP_of_numD h).1
      · rename_i hb; rw [if_neg hb] at h; cases h
theorem fl_one : ∀ (cs : List UInt8) (ws : List (List UInt8)) (x y : Int × Int × Int), flBy numD cs ws x = some y → flBy numP cs ws x = some y
  | [], _, _, _, h => h
  | _ :: _, [], _, _, h => by cases h
  | c :: cs, w :: ws, x, y, h => by
    simp only [flBy] at h ⊢
    cases hv : valBy numD c w with
    | none => rw [hv] at h; cases h
    | some n => rw [hv] at h; rw [val_one hv]; exact fl_one cs ws _ y h
theorem fl_two : ∀ (cs : List UInt8) (ws : List (List UInt8)) (x y : Int × Int × Int), cs.Nodup → (∀ d ∈ cs, d = 97 ∨ d = 98 ∨ d = 105) → flBy numP cs ws x = some y → flBy numD cs ws x = some y ∨ ∃ c, Big (part c y)
  | [], _, _, _, _, _, h => .inl h
  | _ :: _, [], _, _, _, _, h => by cases h
  | c :: cs, w :: ws, x, y, hn, hl, h => by
    have hn2 := List.nodup_cons.1 hn
    have hl2 : ∀ d ∈ cs, d = 97 ∨ d = 98 ∨ d = 105 := fun d hd => hl d (by simp [hd])
    simp only [flBy] at h ⊢
    cases hv : valBy numP c w with
    | none => rw [hv] at h; cases h
    | some n =>
      rw [hv] at h
      rcases val_two hv with h2 | hb
      · rw [h2]; exact fl_two cs ws _ y hn2.2 hl2 h
      · have e := fl_other numP c (hl c (by simp)) cs ws _ y hl2 hn2.1 h
        rw [part_put c c n x (hl c (by simp)) (hl c (by simp)), if_pos rfl] at e
        exact .inr ⟨c, by rw [e]; exact hb⟩
theorem big_no {o : Nat} {x : Int × Int × Int} {c : UInt8} (h : Big (part c x)) : ¬ InOk o x.1 x.2.1 x.2.2 := by
  unfold Big part at h
  unfold InOk
  intro k
  split at h
  · omega
  · split at h <;> omega
/-- with words of nine digits at most it is the same -/
theorem prs_doc (l : List UInt8) : prsBy numD l = prs l := by
  unfold prs prsBy
  cases hw : wrds l with
  | nil => rfl
  | cons w ws =>
    simp only
    split
    · have hnd := nd_letters (fnd w)
      cases hD : flBy numD (nd (fnd w)) ws (0, 0, 0) with
      | some y => rw [fl_one _ _ _ _ hD]
      | none =>
        cases hP : flBy numP (nd (fnd w)) ws (0, 0, 0) with
        | none => rfl
        | some y =>
          rcases fl_two _ _ _ _ hnd.1 hnd.2 hP with h | ⟨c, hb⟩
          · rw [hD] at h; cases h
          · rw [chk_no (big_no hb)]; rfl
    · rfl
/-- an instruction that may be, and has no more than its text tells -/
def Tx (o : Nat) (a b m : Int) : Prop := InOk o a b m ∧ (97 ∉ nd o → a = 0) ∧ (98 ∉ nd o → b = 0) ∧ (105 ∉ nd o → m = 0)
theorem prs_tx {l : List UInt8} {o : Nat} {a b m : Int} (h : prs l = some (o, a, b, m)) : Tx o a b m ∧ o < 42 := by
  unfold prs prsBy at h
  cases hw : wrds l with
  | nil => rw [hw] at h; cases h
  | cons w ws =>
    rw [hw] at h
    simp only at h
    split at h
    · cases hP : flBy numP (nd (fnd w)) ws (0, 0, 0) with
      | none => rw [hP] at h; cases h
      | some y =>
        rw [hP] at h
        by_cases hi : InOk (fnd w) y.1 y.2.1 y.2.2
        · rw [chk_ok hi] at h
          have e := Option.some.inj h
          simp only [Prod.mk.injEq] at e
          obtain ⟨rfl, rfl, rfl, rfl⟩ := e
          have hnd := nd_letters (fnd w)
          refine ⟨⟨hi, fun hn => ?_, fun hn => ?_, fun hn => ?_⟩, by unfold InOk at hi; omega⟩
          · exact fl_other numP 97 (by decide) _ _ _ _ hnd.2 hn hP
          · exact fl_other numP 98 (by decide) _ _ _ _ hnd.2 hn hP
          · exact fl_other numP 105 (by decide) _ _ _ _ hnd.2 hn hP
        · rw [chk_no hi] at h; cases h
    · cases h

/-! ### the text of an instruction -/
def wdOf (a b m : Int) (c : UInt8) : List UInt8 := if c = 97 then 114 :: itoa a else if c = 98 then 114 :: itoa b else itoa m
def wds (o : Nat) (a b m : Int) : List (List UInt8) := nm o :: (nd o).map (wdOf a b m)
def txt (o : Nat) (a b m : Int) : List UInt8 := ([32] : List UInt8).intercalate (wds o a b m)
theorem wd_word (a b m : Int) (c : UInt8) : wdOf a b m c ≠ [] ∧ ∀ x ∈ wdOf a b m c, blk x = false ∧ x.toNat ≠ 37 ∧ x.toNat ≠ 10 := by
  have key : ∀ n, itoa n ≠ [] ∧ ∀ x ∈ itoa n, blk x = false ∧ x.toNat ≠ 37 ∧ x.toNat ≠ 10 := fun n => ⟨(itoa_word n).1, fun x hx => by
    have := (itoa_word n).2 x hx
    exact ⟨by simp [blk, this.1, this.2.1], this.2.2.1, this.2.2.2⟩⟩
  have key2 : ∀ n, ∀ x ∈ 114 :: itoa n, blk x = false ∧ x.toNat ≠ 37 ∧ x.toNat ≠ 10 := fun n x hx => by
    rcases List.mem_cons.1 hx with rfl | hx
    · decide
    · exact (key n).2 x hx
  unfold wdOf
  split
  · exact ⟨by simp, key2 a⟩
  · split
    · exact ⟨by simp, key2 b⟩
    · exact key m
theorem wds_words {o : Nat} (h : o < 42) (a b m : Int) : ∀ x ∈ wds o a b m, x ≠ [] ∧ ∀ y ∈ x, blk y = false := by
  intro x hx
  rcases List.mem_cons.1 hx with rfl | hx
  · exact ⟨nm_ne h, fun y hy => (nm_no y hy).1⟩
  · obtain ⟨c, _, rfl⟩ := List.mem_map.1 hx
    exact ⟨(wd_word a b m c).1, fun y hy => ((wd_word a b m c).2 y hy).1⟩
theorem txt_big {o : Nat} (h : 42 ≤ o) (a b m : Int) : txt o a b m = [] := by unfold txt wds; rw [nm_big h, nd_big h]; simp [List.intercalate]
theorem wrds_txt {o : Nat} (h : o < 42) (a b m : Int) : wrds (txt o a b m) = wds o a b m := wrds_join _ (wds_words h a b m)
theorem val_wd (a b m : Int) (c : UInt8) (hc : c = 97 ∨ c = 98 ∨ c = 105) (ha : -9223372036854775808 ≤ a ∧ a ≤ 9223372036854775807) (hb : -9223372036854775808 ≤ b ∧ b ≤ 9223372036854775807) (hm : -9223372036854775808 ≤ m ∧ m ≤ 9223372036854775807) :
    valBy numP c (wdOf a b m c) = some (part c (a, b, m)) := by
  rcases hc with rfl | rfl | rfl
  · show numP (itoa a) = _; exact numP_itoa a ha.1 ha.2
  · show numP (itoa b) = _; exact numP_itoa b hb.1 hb.2
  · show numP (itoa m) = _; exact numP_itoa m hm.1 hm.2
theorem fl_wds (a b m : Int) (ha : -9223372036854775808 ≤ a ∧ a ≤ 9223372036854775807) (hb : -9223372036854775808 ≤ b ∧ b ≤ 9223372036854775807) (hm : -9223372036854775808 ≤ m ∧ m ≤ 9223372036854775807) :
    ∀ (cs : List UInt8) (x : Int × Int × Int), (∀ d ∈ cs, d = 97 ∨ d = 98 ∨ d = 105) → ∃ y, flBy numP cs (cs.map (wdOf a b m)) x = some y ∧ ∀ c, (c = 97 ∨ c = 98 ∨ c = 105) → part c y = if c ∈ cs then part c (a, b, m) else part c x
  | [], x, _ => ⟨x, rfl, fun c _ => by simp⟩
  | d :: cs, x, hl => by
    have hd := hl d (by simp)
    obtain ⟨y, h1, h2⟩ := fl_wds a b m ha hb hm cs (put d (part d (a, b, m)) x) (fun e he => hl e (by simp [he]))
    refine ⟨y, ?_, fun c hc => ?_⟩
    · simp only [List.map_cons, flBy]; rw [val_wd a b m d hd ha hb hm]; exact h1
    · rw [h2 c hc, part_put c d _ x hc hd]
      by_cases h3 : c ∈ cs
      · simp [h3]
      · by_cases h4 : c = d
        · subst h4; simp [h3]
        · simp [h3, h4]
theorem prs_nil : prs [] = none := rfl
/-- the text of an instruction is read as it, where it may be and has no more than its text tells; else it is not -/
theorem prs_txt (o : Nat) (a b m : Int) (ha : -9223372036854775808 ≤ a ∧ a ≤ 9223372036854775807) (hb : -9223372036854775808 ≤ b ∧ b ≤ 9223372036854775807) (hm : -9223372036854775808 ≤ m ∧ m ≤ 9223372036854775807) :
    prs (txt o a b m) = some (o, a, b, m) ↔ Tx o a b m := by
  constructor
  · intro h; exact (prs_tx h).1
  · intro h
    have ho : o < 42 := by have := h.1; unfold InOk at this; omega
    obtain ⟨y, h1, h2⟩ := fl_wds a b m ha hb hm (nd o) (0, 0, 0) (nd_letters o).2
    have ea := h2 97 (by decide)
    have eb := h2 98 (by decide)
    have em := h2 105 (by decide)
    have fa : y.1 = a := by
      by_cases k : 97 ∈ nd o
      · rw [if_pos k] at ea; exact ea
      · rw [if_neg k] at ea; rw [h.2.1 k]; exact ea
    have fb : y.2.1 = b := by
      by_cases k : 98 ∈ nd o
      · rw [if_pos k] at eb; exact eb
      · rw [if_neg k] at eb; rw [h.2.2.1 k]; exact eb
    have fm : y.2.2 = m := by
      by_cases k : 105 ∈ nd o
      · rw [if_pos k] at em; exact em
      · rw [if_neg k] at em; rw [h.2.2.2 k]; exact em
    unfold prs prsBy
    rw [wrds_txt ho, wds]
    simp only
    rw [fnd_nm ho, if_pos (by simp), h1, chk_ok (by rw [fa, fb, fm]; exact h.1), fa, fb, fm]
/-- bytes of a text -/
theorem txt_bytes (o : Nat) (a b m : Int) : ∀ x ∈ txt o a b m, x.toNat ≠ 37 ∧ x.toNat ≠ 10 := by
  have key : ∀ ws : List (List UInt8), (∀ w ∈ ws, ∀ x ∈ w, x.toNat ≠ 37 ∧ x.toNat ≠ 10) → ∀ x ∈ ([32] : List UInt8).intercalate ws, x.toNat ≠ 37 ∧ x.toNat ≠ 10 := by
    intro ws
    induction ws with
    | nil => intro _ x hx; simp [List.intercalate] at hx
    | cons w ws ih =>
      intro h x hx
      cases ws with
      | nil => simp [List.intercalate] at hx; exact h w (by simp) x hx
      | cons v vs =>
        have e : ([32] : List UInt8).intercalate (w :: v :: vs) = w ++ (32 :: ([32] : List UInt8).intercalate (v :: vs)) := by simp [List.intercalate]
        rw [e] at hx
        rcases List.mem_append.1 hx with hx | hx
        · exact h w (by simp) x hx
        · rcases List.mem_cons.1 hx with rfl | hx
          · decide
          · exact ih (fun w' hw' => h w' (by simp [hw'])) x hx
  refine key _ ?_
  intro w hw
  rcases List.mem_cons.1 hw with rfl | hw
  · intro x hx; exact (nm_no x hx).2
  · obtain ⟨c, _, rfl⟩ := List.mem_map.1 hw
    intro x hx; exact ((wd_word a b m c).2 x hx).2
end Go.Proofs.YtlpjegclpilaaaaGreatDoor
