/- Files and folders as plain lists: what each method answers, and what becomes of the tree. -/
import Derived.Test.YtgoecdmnefjdnaaDoorPaMath
import Derived.Test.YtgoecdmnefjdnaaDoorPhMath
namespace Go.Proofs.YtgoecdmnefjdnaaDoor
set_option linter.unusedVariables false
/-- a node: a folder? the number above; has it a name? how often it is held; its bytes; its names -/
structure Pn where
  fd : Bool
  par : Int
  nam : Bool
  hol : Int
  dat : List Int
  nms : List (List UInt8 × Int)
/-- the node of a number -/
def nget {α : Type} : List (Int × α) → Int → Option α
  | [], _ => none
  | q :: r, i => if q.1 = i then some q.2 else nget r i
/-- another node at a number -/
def nset {α : Type} : List (Int × α) → Int → α → List (Int × α)
  | [], _, _ => []
  | q :: r, i, n => if q.1 = i then (i, n) :: r else q :: nset r i n
/-- without a number -/
def ndel {α : Type} : List (Int × α) → Int → List (Int × α)
  | [], _ => []
  | q :: r, i => if q.1 = i then r else q :: ndel r i
/-- the number of a name -/
def sget : List (List UInt8 × Int) → List UInt8 → Option Int
  | [], _ => none
  | q :: r, s => if q.1 = s then some q.2 else sget r s
def sdel : List (List UInt8 × Int) → List UInt8 → List (List UInt8 × Int)
  | [], _ => []
  | q :: r, s => if q.1 = s then r else q :: sdel r s
/-- the least free number -/
def frG {α : Type} (L : List (Int × α)) : Nat → Int → Int
  | 0, i => i
  | k + 1, i => if (nget L i).isSome = true then frG L k (i + 1) else i
def frN {α : Type} (L : List (Int × α)) : Int := frG L (L.length + 1) 1
theorem nget_nil {α : Type} (i : Int) : nget ([] : List (Int × α)) i = none := rfl
theorem nget_cons {α : Type} (q : Int × α) (r : List (Int × α)) (i : Int) : nget (q :: r) i = if q.1 = i then some q.2 else nget r i := rfl
theorem nget_append {α : Type} (i : Int) (A B : List (Int × α)) (h : ∀ q ∈ A, q.1 ≠ i) : nget (A ++ B) i = nget B i := by
  induction A with
  | nil => rfl
  | cons q r ih => rw [List.cons_append, nget_cons, if_neg (h q List.mem_cons_self)]; exact ih (fun x hx => h x (List.mem_cons_of_mem _ hx))
theorem nget_skip {α : Type} (A B : List (Int × α)) (q : Int × α) (i : Int) (hi : q.1 ≠ i) : nget (A ++ q :: B) i = nget (A ++ B) i := by
  induction A with
  | nil => rw [List.nil_append, List.nil_append, nget_cons, if_neg hi]
  | cons x r ih => rw [List.cons_append, List.cons_append, nget_cons, nget_cons, ih]
theorem nget_some {α : Type} : ∀ {L : List (Int × α)} {i : Int} {n : α}, nget L i = some n → ∃ L1 L2, L = L1 ++ (i, n) :: L2 ∧ (∀ q ∈ L1, q.1 ≠ i) ∧ (∀ m, nset L i m = L1 ++ (i, m) :: L2) ∧ ndel L i = L1 ++ L2
  | [], _, _, h => by cases h
  | q :: r, i, n, h => by
    unfold nget at h
    by_cases e : q.1 = i
    · rw [if_pos e] at h
      cases h
      exact ⟨[], r, by rw [← e]; rfl, by simp, fun m => by unfold nset; rw [if_pos e]; rfl, by unfold ndel; rw [if_pos e]; rfl⟩
    · rw [if_neg e] at h
      obtain ⟨L1, L2, h1, h2, h3, h4⟩ := nget_some h
      refine ⟨q :: L1, L2, by rw [h1]; rfl, fun x hx => ?_, fun m => by unfold nset; rw [if_neg e, h3]; rfl, by unfold ndel; rw [if_neg e, h4]; rfl⟩
      rcases List.mem_cons.1 hx with rfl | hx
      · exact e
      · exact h2 x hx
theorem nget_mem {α : Type} {L : List (Int × α)} {i : Int} {n : α} (h : nget L i = some n) : (i, n) ∈ L := by
  obtain ⟨L1, L2, rfl, -⟩ := nget_some h
  simp
theorem nget_none {α : Type} : ∀ {L : List (Int × α)} {i : Int}, nget L i = none → ∀ q ∈ L, q.1 ≠ i
  | [], _, _ => by simp
  | q :: r, i, h => by
    unfold nget at h
    by_cases e : q.1 = i
    · rw [if_pos e] at h; cases h
    · rw [if_neg e] at h
      intro x hx
      rcases List.mem_cons.1 hx with rfl | hx
      · exact e
      · exact nget_none h x hx
theorem nget_of_mem {α : Type} {L : List (Int × α)} {i : Int} {n : α} (hd : L.Pairwise fun x y => x.1 ≠ y.1) (h : (i, n) ∈ L) : nget L i = some n := by
  induction L with
  | nil => cases h
  | cons q r ih =>
    obtain ⟨h1, h2⟩ := List.pairwise_cons.1 hd
    unfold nget
    rcases List.mem_cons.1 h with rfl | h
    · rw [if_pos rfl]
    · rw [if_neg (h1 _ h)]; exact ih h2 h
theorem nget_map {α β : Type} (f : α → β) : ∀ (L : List (Int × α)) (i : Int), nget (L.map fun q => (q.1, f q.2)) i = (nget L i).map f
  | [], _ => rfl
  | q :: r, i => by
    rw [List.map_cons, nget_cons, nget_cons, nget_map f r i]
    by_cases e : q.1 = i
    · rw [if_pos e, if_pos e]; rfl
    · rw [if_neg e, if_neg e]
theorem sget_some : ∀ {l : List (List UInt8 × Int)} {s : List UInt8} {i : Int}, sget l s = some i → ∃ l1 l2, l = l1 ++ (s, i) :: l2 ∧ sdel l s = l1 ++ l2
  | [], _, _, h => by cases h
  | q :: r, s, i, h => by
    unfold sget at h
    by_cases e : q.1 = s
    · rw [if_pos e] at h
      cases h
      exact ⟨[], r, by rw [← e]; rfl, by unfold sdel; rw [if_pos e]; rfl⟩
    · rw [if_neg e] at h
      obtain ⟨l1, l2, h1, h2⟩ := sget_some h
      exact ⟨q :: l1, l2, by rw [h1]; rfl, by unfold sdel; rw [if_neg e, h2]; rfl⟩
theorem sget_none : ∀ {l : List (List UInt8 × Int)} {s : List UInt8}, sget l s = none → ∀ q ∈ l, q.1 ≠ s
  | [], _, _ => by simp
  | q :: r, s, h => by
    unfold sget at h
    by_cases e : q.1 = s
    · rw [if_pos e] at h; cases h
    · rw [if_neg e] at h
      intro x hx
      rcases List.mem_cons.1 hx with rfl | hx
      · exact e
      · exact sget_none h x hx
/-- so many numbers, so many nodes -/
theorem pigeon {α : Type} : ∀ (m : Nat) (L : List (Int × α)), (∀ j : Nat, 1 ≤ j → j ≤ m → nget L (j : Int) ≠ none) → m ≤ L.length
  | 0, L, _ => Nat.zero_le _
  | m + 1, L, h => by
    have h1 := h (m + 1) (by omega) (by omega)
    cases hg : nget L ((m + 1 : Nat) : Int) with
    | none => exact absurd hg h1
    | some n =>
      obtain ⟨L1, L2, rfl, h2, -, -⟩ := nget_some hg
      have := pigeon m (L1 ++ L2) (fun j h3 h4 => by rw [← nget_skip L1 L2 (((m + 1 : Nat) : Int), n) _ (by show ((m + 1 : Nat) : Int) ≠ _; omega)]; exact h j h3 (by omega))
      simp only [List.length_append, List.length_cons] at this ⊢
      omega
theorem frG_spec {α : Type} (L : List (Int × α)) : ∀ (k m : Nat), k + m = L.length + 1 → (∀ j : Nat, 1 ≤ j → j ≤ m → nget L (j : Int) ≠ none) → ∃ r : Nat, frG L k ((m : Int) + 1) = r ∧ 1 ≤ r ∧ r ≤ L.length + 1 ∧ nget L (r : Int) = none
  | 0, m, hk, h => by have := pigeon m L h; omega
  | k + 1, m, hk, h => by
    unfold frG
    cases hg : nget L ((m : Int) + 1) with
    | none => exact ⟨m + 1, by simp, by omega, by omega, by simpa using hg⟩
    | some n =>
      obtain ⟨r, h1, h2⟩ := frG_spec L k (m + 1) (by omega) (fun j h3 h4 => by
        rcases Nat.lt_or_ge m j with c | c
        · obtain rfl : j = m + 1 := by omega
          have e : (((m + 1 : Nat) : Int)) = (m : Int) + 1 := by omega
          rw [e, hg]; simp
        · exact h j h3 c)
      exact ⟨r, by rw [if_pos (by rfl), ← h1]; congr 1, h2⟩
theorem frN_spec {α : Type} (L : List (Int × α)) : ∃ r : Nat, frN L = r ∧ 1 ≤ r ∧ r ≤ L.length + 1 ∧ nget L (r : Int) = none := by
  have := frG_spec L (L.length + 1) 0 (by omega) (fun j h1 h2 => by omega)
  unfold frN
  simpa using this
theorem frG_reach {α : Type} (L : List (Int × α)) : ∀ (m k : Nat), k + m = L.length + 1 → (∀ j : Nat, 1 ≤ j → j ≤ m → nget L (j : Int) ≠ none) → frG L (L.length + 1) 1 = frG L k ((m : Int) + 1)
  | 0, k, hk, _ => by obtain rfl : k = L.length + 1 := by omega
                      rfl
  | m + 1, k, hk, h => by
    rw [frG_reach L m (k + 1) (by omega) (fun j h1 h2 => h j h1 (by omega))]
    have h1 := h (m + 1) (by omega) (by omega)
    have e : (((m + 1 : Nat) : Int)) = (m : Int) + 1 := by omega
    rw [e] at h1 ⊢
    cases hg : nget L ((m : Int) + 1) with
    | none => exact absurd hg h1
    | some n => show (if _ then _ else _) = _; rw [hg, if_pos (by rfl)]
theorem frN_eq {α : Type} (L : List (Int × α)) (m k : Nat) (hk : k + m = L.length + 1) (h : ∀ j : Nat, 1 ≤ j → j ≤ m → nget L (j : Int) ≠ none) (hn : nget L ((m : Int) + 1) = none) : frN L = (m : Int) + 1 := by
  unfold frN
  rw [frG_reach L m k hk h]
  cases k with
  | zero => rfl
  | succ k => show (if _ then _ else _) = _; rw [hn, if_neg (by simp)]
/-! ### what the methods answer -/
abbrev Pt := List (Int × Pn)
/-- is there something? -/
def oE {α : Type} : Option α → Int
  | none => 2
  | some _ => 0
/-- the error where a folder is asked for, a file -/
def fdE (L : Pt) (i : Int) : Int := match nget L i with | none => 2 | some n => if n.fd then 0 else 20
def flE (L : Pt) (i : Int) : Int := match nget L i with | none => 2 | some n => if n.fd then 21 else 0
def kdE (L : Pt) (i : Int) : Int := oE (nget L i)
/-- a node; one of no account where there is none -/
def nd0 : Pn := ⟨false, 0, false, 0, [], []⟩
def nat (L : Pt) (i : Int) : Pn := (nget L i).getD nd0
def s1 : List UInt8 := [46]
def s2 : List UInt8 := [46, 46]
def fnE (L : Pt) (i : Int) (s : List UInt8) : Int := if fdE L i ≠ 0 then fdE L i else if s = s1 ∨ s = s2 then 0 else oE (sget (nat L i).nms s)
def fnV (L : Pt) (i : Int) (s : List UInt8) : Int := if fdE L i ≠ 0 then 0 else if s = s1 then i else if s = s2 then (nat L i).par else (sget (nat L i).nms s).getD 0
def wkE (L : Pt) : Int → List (List UInt8) → Int
  | i, [] => fdE L i
  | i, s :: r => if fnE L i s ≠ 0 then fnE L i s else match r with | [] => 0 | _ :: _ => wkE L (fnV L i s) r
def wkV (L : Pt) : Int → List (List UInt8) → Int
  | i, [] => i
  | i, s :: r => wkV L (fnV L i s) r
def mkE (most : Int) (L : Pt) (i : Int) (s : List UInt8) (k : Int) : Int :=
  if fdE L i ≠ 0 then fdE L i else if ckN s ≠ 0 then ckN s else if fnE L i s = 0 then 17 else if k ≠ 0 ∧ k ≠ 1 then 22 else if (nat L i).nam = false then 2 else if most ≤ L.length then 28 else 0
/-- a new node -/
def fresh (i : Int) (k : Int) : Pn := ⟨k == 1, i, true, 0, [], []⟩
def mkL (L : Pt) (i : Int) (s : List UInt8) (k : Int) : Pt := nset L i { nat L i with nms := (nat L i).nms ++ [(s, frN L)] } ++ [(frN L, fresh i k)]
def mkV (most : Int) (L : Pt) (i : Int) (s : List UInt8) (k : Int) : Int := if mkE most L i s k = 0 then frN L else 0
/-- a node is removed that has no name and is not held -/
def tidyL (L : Pt) (i : Int) (n : Pn) : Pt := if n.nam = false ∧ n.hol = 0 then ndel L i else L
def unE (L : Pt) (i : Int) (s : List UInt8) : Int :=
  if fdE L i ≠ 0 then fdE L i else if s = s1 ∨ s = s2 then 22 else if fnE L i s ≠ 0 then fnE L i s else if (nat L (fnV L i s)).nms ≠ [] then 39 else 0
def unA (L : Pt) (i : Int) (s : List UInt8) : Pt := nset L i { nat L i with nms := sdel (nat L i).nms s }
def unB (L : Pt) (i : Int) (s : List UInt8) : Pt := nset (unA L i s) (fnV L i s) { nat (unA L i s) (fnV L i s) with nam := false }
def unL (L : Pt) (i : Int) (s : List UInt8) : Pt := tidyL (unB L i s) (fnV L i s) (nat (unB L i s) (fnV L i s))
def hoE (L : Pt) (i : Int) : Int := if kdE L i ≠ 0 then 2 else if (nat L i).hol = 1073741824 then 22 else 0
def hoL (L : Pt) (i : Int) : Pt := nset L i { nat L i with hol := (nat L i).hol + 1 }
def drE (L : Pt) (i : Int) : Int := if kdE L i ≠ 0 then 2 else if (nat L i).hol = 0 then 22 else 0
def drA (L : Pt) (i : Int) : Pt := nset L i { nat L i with hol := (nat L i).hol - 1 }
def drL (L : Pt) (i : Int) : Pt := tidyL (drA L i) i (nat (drA L i) i)
def rdE (L : Pt) (i off n : Int) : Int := if off < 0 ∨ n < 0 then 22 else flE L i
def rdB (L : Pt) (i off n : Int) : List Int := ((nat L i).dat.drop off.toNat).take n.toNat
def wrE (L : Pt) (i off : Int) (b : List Int) : Int := if off < 0 then 22 else if flE L i ≠ 0 then flE L i else if b = [] then 0 else if 4096 ≤ off then 28 else 0
/-- bytes laid into bytes, with zeros between -/
def lay (d : List Int) (o : Nat) (b : List Int) : List Int := splice (d ++ List.replicate (o + b.length - d.length) 0) o b
/-- what there is room for -/
def wrB (off : Int) (b : List Int) : List Int := b.take (4096 - off).toNat
def wrL (L : Pt) (i off : Int) (b : List Int) : Pt := if b = [] then L else nset L i { nat L i with dat := lay (nat L i).dat off.toNat (wrB off b) }
def wrR (L : Pt) (i off : Int) (b : List Int) : Pt := if wrE L i off b = 0 then wrL L i off b else L
def wrV (L : Pt) (i off : Int) (b : List Int) : Int := if wrE L i off b = 0 then (if b = [] then 0 else (wrB off b).length) else 0
end Go.Proofs.YtgoecdmnefjdnaaDoor
