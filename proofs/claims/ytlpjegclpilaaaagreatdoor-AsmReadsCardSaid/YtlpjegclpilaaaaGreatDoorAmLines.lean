/- Lines of a text of bytes (split at the byte 10), what stands ahead of a note (the byte 37), and the numbers of a text's instructions. No program stands in this text. -/
import Derived.Test.YtlpjegclpilaaaaGreatDoorAmMath
import Derived.Lib.Split
import Derived.Lib.SplitLaws
namespace Go.Proofs.YtlpjegclpilaaaaGreatDoor
open Go.Lib
set_option linter.unusedVariables false
def lnsGo (cur : List UInt8) : List UInt8 → List (List UInt8)
  | [] => [cur]
  | b :: t => if b.toNat = 10 then cur :: lnsGo [] t else lnsGo (cur ++ [b]) t
/-- the lines of a text -/
def lns (l : List UInt8) : List (List UInt8) := lnsGo [] l
/-- what stands ahead of the first note -/
def ctl (l : List UInt8) : List UInt8 := l.takeWhile (fun b => b.toNat != 37)
theorem lnsGo_app : ∀ (q cur t : List UInt8), (∀ b ∈ q, b.toNat ≠ 10) → lnsGo cur (q ++ t) = lnsGo (cur ++ q) t
  | [], cur, t, _ => by simp
  | b :: q, cur, t, h => by
    rw [List.cons_append, lnsGo, if_neg (h b (by simp)), lnsGo_app q _ t (fun c hc => h c (by simp [hc]))]
    simp
theorem lns_none (l : List UInt8) (h : ∀ b ∈ l, b.toNat ≠ 10) : lns l = [l] := by
  unfold lns
  have := lnsGo_app l [] [] h
  rw [List.append_nil, List.nil_append] at this
  rw [this]; rfl
theorem lns_cons (q t : List UInt8) (h : ∀ b ∈ q, b.toNat ≠ 10) : lns (q ++ 10 :: t) = q :: lns t := by
  unfold lns
  rw [lnsGo_app q [] _ h, List.nil_append, lnsGo, if_pos (by decide)]
theorem occ_one (l : List UInt8) (c : UInt8) (i : Nat) : occAt l [c] i = true ↔ l[i]? = some c := by
  unfold occAt
  cases hd : l.drop i with
  | nil =>
    have : l[i]? = none := List.getElem?_eq_none (by have := congrArg List.length hd; simp at this; omega)
    rw [this]
    show false = true ↔ _
    exact ⟨fun h => absurd h (by decide), fun h => absurd h (by simp)⟩
  | cons b t =>
    have : l[i]? = some b := by have := congrArg List.head? hd; simpa [List.head?_drop] using this
    rw [this]
    show (c == b && true) = true ↔ _
    rw [Bool.and_true, beq_iff_eq]
    exact ⟨fun h => by rw [h], fun h => (Option.some.inj h).symm⟩
/-- a list, cut at the first byte of a kind, or without one -/
theorem first_byte (c : UInt8) (l : List UInt8) : (index l [c] = -1 ∧ c ∉ l) ∨ (∃ q t, l = q ++ c :: t ∧ c ∉ q ∧ index l [c] = (q.length : Int)) := by
  rcases index_spec l [c] with ⟨h, hn⟩ | ⟨i, h, hi, ho, hno⟩
  · refine .inl ⟨h, fun hm => ?_⟩
    obtain ⟨k, hk, e⟩ := List.getElem_of_mem hm
    have := hn k (by omega)
    rw [(occ_one l c k).2 (by rw [List.getElem?_eq_getElem hk, e])] at this
    cases this
  · have hg := (occ_one l c i).1 ho
    obtain ⟨hlt, he⟩ := List.getElem?_eq_some_iff.1 hg
    refine .inr ⟨l.take i, l.drop (i + 1), ?_, ?_, ?_⟩
    · conv => lhs; rw [← List.take_append_drop i l, List.drop_eq_getElem_cons hlt, he]
    · intro hm
      obtain ⟨k, hk, e⟩ := List.getElem_of_mem hm
      rw [List.length_take] at hk
      rw [List.getElem_take] at e
      have h1 : occAt l [c] k = true := (occ_one l c k).2 (by rw [List.getElem?_eq_getElem (by omega), e])
      have h2 := hno k (by omega)
      rw [h1] at h2; cases h2
    · rw [h, List.length_take, Nat.min_eq_left (by omega)]
theorem ten_of {b : UInt8} (h : b.toNat = 10) : b = 10 := UInt8.toNat_inj.1 h
theorem split_lns : ∀ (n : Nat) (l : List UInt8), l.length ≤ n → splitK [10] 0 (count l [10]) l = lns l
  | n, l, hn => by
    rcases first_byte 10 l with ⟨h, hno⟩ | ⟨q, t, rfl, hq, h⟩
    · rw [count_miss h, splitK, lns_none l (fun b hb e => hno (by rw [← ten_of e]; exact hb))]
    · rw [count_hit (by simp) h, Nat.add_comm, splitK, if_neg (by rw [h, beq_iff_eq]; omega), h, lns_cons q t (fun b hb e => hq (by rw [← ten_of e]; exact hb))]
      have e1 : ((q.length : Int)).toNat + 0 = q.length := by omega
      have e2 : ((q.length : Int)).toNat + ([10] : List UInt8).length = q.length + 1 := by simp
      have e3 : (q ++ 10 :: t).drop (q.length + 1) = t := by rw [← List.drop_drop]; simp
      have e4 : ([10] : List UInt8).length = 1 := rfl
      rw [e1, e2, e4, e3, List.take_left]
      cases n with
      | zero => simp at hn
      | succ n => rw [split_lns n t (by simp at hn; omega)]
  termination_by n => n
/-- the library's pieces are the lines -/
theorem pieces_lns (s : ByteArray) : (splitB ⟨#[10]⟩ 0 (countB s ⟨#[10]⟩) s).map (·.data.toList) = lns s.data.toList := by
  rw [splitB_data]
  exact split_lns _ _ (Nat.le_refl _)
theorem tw_all (p : UInt8 → Bool) (q : List UInt8) (h : ∀ b ∈ q, p b = true) : q.takeWhile p = q := by
  have := List.takeWhile_append_of_pos (l₂ := []) h
  simpa using this
theorem cut_ctl (l : List UInt8) : (cut l [37]).1 = ctl l := by
  unfold cut ctl
  have hb : ∀ b : UInt8, b ≠ 37 → (b.toNat != 37) = true := fun b h => by
    rw [bne_iff_ne]; intro e; exact h (UInt8.toNat_inj.1 e)
  rcases first_byte 37 l with ⟨h, hno⟩ | ⟨q, t, rfl, hq, h⟩
  · rw [if_neg (by omega)]
    show l = _
    exact (tw_all _ l (fun b hm => hb b (fun e => hno (by rw [← e]; exact hm)))).symm
  · rw [if_pos (by omega), h]
    show (q ++ 37 :: t).take ((q.length : Int)).toNat = _
    rw [Int.toNat_natCast, List.take_left, List.takeWhile_append_of_pos (fun b hm => hb b (fun e => hq (by rw [← e]; exact hm))), List.takeWhile_cons_of_neg (by decide), List.append_nil]
theorem ctl_no (q t : List UInt8) (h : ∀ b ∈ q, b.toNat ≠ 37) : ctl (q ++ 37 :: t) = q := by
  unfold ctl
  rw [List.takeWhile_append_of_pos (fun b hm => by rw [bne_iff_ne]; exact h b hm), List.takeWhile_cons_of_neg (by decide), List.append_nil]
theorem ctl_all (q : List UInt8) (h : ∀ b ∈ q, b.toNat ≠ 37) : ctl q = q := by
  unfold ctl
  exact tw_all _ q (fun b hm => by rw [bne_iff_ne]; exact h b hm)

/-- the numbers of a text's instructions, from its k-th line on; or the line that is wrong -/
noncomputable def prg : Nat → List (List UInt8) → List Int → List Int × Nat × Int
  | _, [], acc => (acc, 0, 0)
  | k, l :: r, acc => if wrds (ctl l) = [] then prg (k + 1) r acc else match prs (ctl l) with
    | none => ([], k, 22)
    | some x => prg (k + 1) r (acc ++ [innum (x.1 : Int) x.2.1 x.2.2.1 x.2.2.2])
theorem prs_wrds {l l' : List UInt8} (h : wrds l = wrds l') : prs l = prs l' := by unfold prs prsBy; rw [h]
theorem wrds_prs {l : List UInt8} {x : Nat × Int × Int × Int} (h : prs l = some x) : wrds l ≠ [] := by
  intro e; unfold prs prsBy at h; rw [e] at h; cases h
theorem prg_skip {k : Nat} {l : List UInt8} {r : List (List UInt8)} {acc : List Int} (h : wrds (ctl l) = []) : prg k (l :: r) acc = prg (k + 1) r acc := by
  rw [prg, if_pos h]
theorem prg_some {k : Nat} {l : List UInt8} {r : List (List UInt8)} {acc : List Int} {x : Nat × Int × Int × Int} (h : prs (ctl l) = some x) : prg k (l :: r) acc = prg (k + 1) r (acc ++ [innum (x.1 : Int) x.2.1 x.2.2.1 x.2.2.2]) := by
  rw [prg, if_neg (wrds_prs h), h]
theorem prg_bad {k : Nat} {l : List UInt8} {r : List (List UInt8)} {acc : List Int} (h : wrds (ctl l) ≠ []) (h2 : prs (ctl l) = none) : prg k (l :: r) acc = ([], k, 22) := by
  rw [prg, if_neg h, h2]
theorem ctl_nil : ctl [] = [] := rfl
theorem wrds_nil' : wrds [] = [] := rfl
theorem txt_len (o : Nat) (a b m : Int) (ha : -9223372036854775808 ≤ a ∧ a ≤ 9223372036854775807) (hb : -9223372036854775808 ≤ b ∧ b ≤ 9223372036854775807) (hm : -9223372036854775808 ≤ m ∧ m ≤ 9223372036854775807) : (txt o a b m).length ≤ 74 := by
  have la := itoa_length_le a ha.1 ha.2
  have lb := itoa_length_le b hb.1 hb.2
  have lm := itoa_length_le m hm.1 hm.2
  have ln := nm_len o
  have key : ∀ c, (wdOf a b m c).length ≤ 22 := by
    intro c; unfold wdOf
    split
    · simp; omega
    · split
      · simp; omega
      · omega
  unfold txt wds
  rcases nd_cases o with h | h | h | h | h | h <;> rw [h] <;> simp [List.intercalate] <;> have := key 97 <;> have := key 98 <;> have := key 105 <;> omega
end Go.Proofs.YtlpjegclpilaaaaGreatDoor
