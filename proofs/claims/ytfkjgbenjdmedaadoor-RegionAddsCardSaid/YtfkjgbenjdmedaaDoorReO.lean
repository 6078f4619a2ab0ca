/- The document's own list of pages: how each one is used, in memory; and the regions of such a list. Contracts, in any world; behind each there are only new blocks. -/
import Derived.Test.YtfkjgbenjdmedaaDoorReN
import Derived.Test.YtfkjgbenjdmedaaDoorReF
import Derived.Deep.OwnRows
namespace Go.Proofs.YtfkjgbenjdmedaaDoor
open Go.RowKit Go.Joins
set_option linter.unusedVariables false
set_option maxRecDepth 100000
/-- how a page is used, as a number, and back -/
def mv : Option Nat → Int
  | none => -1
  | some p => p
def mp (x : Int) : Option Nat := if x < 0 then none else some x.toNat
theorem mp_mv (o : Option Nat) : mp (mv o) = o := by
  cases o with
  | none => rfl
  | some p => unfold mp mv; simp only; rw [if_neg (by omega)]; simp
theorem mv_neg (o : Option Nat) : mv o < 0 ↔ o = none := by
  cases o with
  | none => simp [mv]
  | some p => simp only [mv]; constructor <;> intro h; omega; cases h
/-- the last one's end -/
def setLast (l : List Rg) (t : Int) : List Rg := match l.getLast? with | some x => l.dropLast ++ [⟨x.f, t, x.p⟩] | none => []
theorem setLast_snoc (m : List Rg) (x : Rg) (t : Int) : setLast (m ++ [x]) t = m ++ [⟨x.f, t, x.p⟩] := by unfold setLast; rw [List.getLast?_concat]; simp
/-- the regions of pages -/
def dl (g : Nat → Int) : Nat → List Rg
  | 0 => []
  | n + 1 => if g n < 0 then dl g n else if 0 < n ∧ g (n - 1) = g n then setLast (dl g n) (n + 1) else dl g n ++ [⟨n, n + 1, (g n).toNat⟩]
structure DlOk (g : Nat → Int) (n : Nat) : Prop where
  ok : ROk (dl g n)
  pgs : ∀ q : Int, rpg (dl g n) q = if 0 ≤ q ∧ q < n then mp (g q.toNat) else none
  below : ∀ s ∈ dl g n, s.t ≤ n
  last : 0 < n → 0 ≤ g (n - 1) → ∃ (m : List Rg) (x : Rg), dl g n = m ++ [x] ∧ x.t = (n : Int) ∧ x.p = (g (n - 1)).toNat
  ends : ∀ (m : List Rg) (x : Rg), dl g n = m ++ [x] → x.t = (n : Int) → 0 < n ∧ g (n - 1) = x.p
  len : (dl g n).length ≤ n
theorem dl_ok (g : Nat → Int) (h7 : ∀ i, i < 4096 → g i ≤ 7) : ∀ n, n ≤ 4096 → DlOk g n
  | 0, _ => { ok := trivial, pgs := fun q => by rw [if_neg (by omega)]; rfl, below := fun s hs => absurd hs List.not_mem_nil, last := fun h => absurd h (Nat.lt_irrefl 0), ends := fun m x h _ => by have := congrArg List.length h; simp [dl] at this, len := Nat.le_refl _ }
  | n + 1, hn => by
    have ih := dl_ok g h7 n (by omega)
    have h7n := h7 n (by omega)
    have hpq : ∀ (q : Int) (A : Option Nat), A = mp (g n) → (if 0 ≤ q ∧ q < (n : Int) then mp (g q.toNat) else none).or (if q = n then A else none) = if 0 ≤ q ∧ q < ((n + 1 : Nat) : Int) then mp (g q.toNat) else none := by
      intro q A hA
      by_cases c : q = n
      · subst c
        rw [if_neg (by omega), if_pos rfl, if_pos (by omega), hA]; simp
      · rw [if_neg c]
        by_cases d : 0 ≤ q ∧ q < (n : Int)
        · rw [if_pos d, if_pos (by omega)]; simp
        · rw [if_neg d, if_neg (by omega)]; rfl
    by_cases c : g n < 0
    · have e : dl g (n + 1) = dl g n := by simp only [dl]; rw [if_pos c]
      have hm : mp (g n) = none := by unfold mp; rw [if_pos c]
      refine { ok := by rw [e]; exact ih.ok, pgs := fun q => ?_, below := fun s hs => by rw [e] at hs; have := ih.below s hs; omega, last := fun _ h => ?_, ends := fun m x h ht => ?_, len := by rw [e]; have := ih.len; omega }
      · rw [e, ih.pgs q, ← hpq q none hm.symm]; simp
      · simp only [Nat.add_sub_cancel] at h; omega
      · rw [e] at h
        have := ih.below x (by rw [h]; simp)
        omega
    · have hm : mp (g n) = some (g n).toNat := by unfold mp; rw [if_neg c]
      by_cases d : 0 < n ∧ g (n - 1) = g n
      · obtain ⟨m, x, hx, hxt, hxp⟩ := ih.last d.1 (by omega)
        have e : dl g (n + 1) = m ++ [⟨x.f, ((n : Int) + 1), x.p⟩] := by simp only [dl]; rw [if_neg c, if_pos d, hx, setLast_snoc]
        have hok := ih.ok
        rw [hx] at hok
        obtain ⟨k1, k2, k3⟩ := (rch_append _ _).1 hok
        have hxo := okR_iff.1 k2.1
        refine { ok := ?_, pgs := fun q => ?_, below := fun s hs => ?_, last := fun _ _ => ⟨m, _, e, by simp only; omega, by simp only [Nat.add_sub_cancel]; rw [hxp, d.2]⟩, ends := fun m' x' h ht => ?_, len := ?_ }
        · rw [e]
          refine (rch_append _ _).2 ⟨k1, ⟨okR_iff.2 (by simp only; omega), fun s hs => by simp at hs, trivial⟩, fun a b ha hb => ?_⟩
          simp at hb
          have := folR_iff.1 (k3 a x ha (by simp))
          subst hb
          exact folR_iff.2 this
        · have hp := ih.pgs q
          rw [hx, rpg_append, rpg_one] at hp
          rw [e, rpg_append, rpg_one, ← hpq q _ hm.symm, ← hp, Option.or_assoc]
          congr 1
          by_cases f1 : inR x q = true
          · rw [if_pos f1, if_pos]; rfl
            rw [inR_iff] at f1 ⊢; simp only; omega
          · rw [if_neg f1]
            by_cases f2 : q = n
            · rw [if_pos f2, if_pos]
              · simp [hxp, d.2]
              · rw [inR_iff]; simp only; omega
            · rw [if_neg f2, if_neg]; rfl
              rw [inR_iff] at f1 ⊢; simp only; omega
        · rw [e] at hs
          rcases List.mem_append.1 hs with hs | hs
          · have := ih.below s (by rw [hx]; exact List.mem_append_left _ hs); omega
          · rw [List.mem_singleton.1 hs]; simp only; omega
        · rw [e] at h
          have := (List.append_inj' h rfl).2
          simp at this
          subst this
          simp only [Nat.add_sub_cancel]
          exact ⟨by omega, by rw [hxp]; omega⟩
        · have := ih.len
          rw [hx] at this
          rw [e]; simp at this ⊢; omega
      · have e : dl g (n + 1) = dl g n ++ [⟨n, (n : Int) + 1, (g n).toNat⟩] := by simp only [dl]; rw [if_neg c, if_neg d]
        refine { ok := ?_, pgs := fun q => ?_, below := fun s hs => ?_, last := fun _ _ => ⟨_, _, e, by simp only; omega, by simp only [Nat.add_sub_cancel]⟩, ends := fun m' x' h ht => ?_, len := by rw [e]; have := ih.len; simp; omega }
        · rw [e]
          refine (rch_append _ _).2 ⟨ih.ok, ⟨okR_iff.2 (by simp only; omega), fun s hs => by simp at hs, trivial⟩, fun a b ha hb => ?_⟩
          simp at hb
          subst hb
          have h1 := ih.below a (rgetLast_mem ha)
          refine folR_iff.2 ⟨by simp only; omega, ?_⟩
          rintro ⟨h2, h3⟩
          simp only at h2 h3
          obtain ⟨m, hm2⟩ : ∃ m, dl g n = m ++ [a] := by
            rcases rsnoc_of (dl g n) with h | ⟨m, b, h⟩
            · rw [h] at ha; cases ha
            · rw [h] at ha; simp at ha; subst ha; exact ⟨m, h⟩
          have h4 := ih.ends m a hm2 h2
          exact d ⟨h4.1, by omega⟩
        · rw [e, rpg_append, rpg_one, ih.pgs q, ← hpq q _ hm.symm]
          congr 1
          by_cases f2 : q = n
          · rw [if_pos f2, if_pos]; rw [inR_iff]; simp only; omega
          · rw [if_neg f2, if_neg]; rw [inR_iff]; simp only; omega
        · rw [e] at hs
          rcases List.mem_append.1 hs with hs | hs
          · have := ih.below s hs; omega
          · rw [List.mem_singleton.1 hs]; simp only; omega
        · rw [e] at h
          have := (List.append_inj' h rfl).2
          simp at this
          subst this
          simp only [Nat.add_sub_cancel]
          exact ⟨by omega, by omega⟩
/-- the regions of the pages of a list that may be are that list -/
theorem dl_same {g : Nat → Int} {l : List Rg} (h7 : ∀ i, i < 4096 → g i ≤ 7) (hl : ROk l) (h : ∀ i, i < 4096 → mp (g i) = rpg l i) : dl g 4096 = l := by
  have k := dl_ok g h7 4096 (Nat.le_refl _)
  refine ROk.uniq k.ok hl fun q => ?_
  rw [k.pgs q]
  by_cases c : 0 ≤ q ∧ q < ((4096 : Nat) : Int)
  · rw [if_pos c, h q.toNat (by omega), show ((q.toNat : Nat) : Int) = q by omega]
  · rw [if_neg c, hl.asc.pg_out (by omega)]
end Go.Proofs.YtfkjgbenjdmedaaDoor
