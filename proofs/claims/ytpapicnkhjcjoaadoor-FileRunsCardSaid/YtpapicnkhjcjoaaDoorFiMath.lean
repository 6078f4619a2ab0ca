/- Open files as plain lists: what each method answers, and what becomes of the table. No program stands in this text. -/
import Derived.Test.YtpapicnkhjcjoaaDoorBa
namespace Go.Proofs.YtpapicnkhjcjoaaDoor
set_option linter.unusedVariables false
section
variable {α : Type}
/-- what stands at a number, the first time -/
def lget : List (Int × α) → Int → Option α
  | [], _ => none
  | q :: r, i => if q.1 = i then some q.2 else lget r i
/-- the place of a number; -1: it stands nowhere -/
def lix : List (Int × α) → Int → Int → Int
  | [], _, _ => -1
  | q :: r, i, j => if q.1 = i then j else lix r i (j + 1)
/-- the least number from 0 on that stands nowhere -/
def frF (L : List (Int × α)) : Nat → Int → Int
  | 0, i => i
  | k + 1, i => if (lget L i).isSome = true then frF L k (i + 1) else i
def frZ (L : List (Int × α)) : Int := frF L (L.length + 1) 0
theorem lget_append (i : Int) (A B : List (Int × α)) (h : ∀ q ∈ A, q.1 ≠ i) : lget (A ++ B) i = lget B i := by
  induction A with
  | nil => rfl
  | cons q r ih =>
    rw [List.cons_append]
    show (if _ then _ else _) = _
    rw [if_neg (h q List.mem_cons_self)]; exact ih (fun x hx => h x (List.mem_cons_of_mem _ hx))
theorem lget_skip (A B : List (Int × α)) (q : Int × α) (i : Int) (hi : q.1 ≠ i) : lget (A ++ q :: B) i = lget (A ++ B) i := by
  induction A with
  | nil => show (if _ then _ else _) = _; rw [if_neg hi]; rfl
  | cons x r ih =>
    rw [List.cons_append, List.cons_append]
    show (if _ then _ else _) = (if _ then _ else _)
    rw [ih]
theorem lget_some : ∀ {L : List (Int × α)} {i : Int} {n : α}, lget L i = some n → ∃ L1 L2, L = L1 ++ (i, n) :: L2 ∧ ∀ q ∈ L1, q.1 ≠ i
  | [], _, _, h => by cases h
  | q :: r, i, n, h => by
    unfold lget at h
    by_cases e : q.1 = i
    · rw [if_pos e] at h
      cases h
      exact ⟨[], r, by rw [← e]; rfl, by simp⟩
    · rw [if_neg e] at h
      obtain ⟨L1, L2, h1, h2⟩ := lget_some h
      refine ⟨q :: L1, L2, by rw [h1]; rfl, fun x hx => ?_⟩
      rcases List.mem_cons.1 hx with rfl | hx
      · exact e
      · exact h2 x hx
theorem lget_none : ∀ {L : List (Int × α)} {i : Int}, lget L i = none → ∀ q ∈ L, q.1 ≠ i
  | [], _, _ => by simp
  | q :: r, i, h => by
    unfold lget at h
    by_cases e : q.1 = i
    · rw [if_pos e] at h; cases h
    · rw [if_neg e] at h
      intro x hx
      rcases List.mem_cons.1 hx with rfl | hx
      · exact e
      · exact lget_none h x hx
theorem lget_not {L : List (Int × α)} {i : Int} (h : ∀ q ∈ L, q.1 ≠ i) : lget L i = none := by
  have := lget_append i L [] h
  rw [List.append_nil] at this
  exact this
/-- the place -/
theorem lix_some {L : List (Int × α)} {i : Int} {L1 L2 : List (Int × α)} {n : α} (h : L = L1 ++ (i, n) :: L2) (hn : ∀ q ∈ L1, q.1 ≠ i) (j : Int) : lix L i j = j + (L1.length : Int) := by
  subst h
  induction L1 generalizing j with
  | nil => show (if _ then _ else _) = _; rw [if_pos rfl]; simp
  | cons q r ih =>
    rw [List.cons_append]
    show (if _ then _ else _) = _
    rw [if_neg (hn q List.mem_cons_self), ih (fun x hx => hn x (List.mem_cons_of_mem _ hx)), List.length_cons]
    omega
theorem lix_none {L : List (Int × α)} {i : Int} (h : lget L i = none) (j : Int) : lix L i j = -1 := by
  induction L generalizing j with
  | nil => rfl
  | cons q r ih =>
    have h1 := lget_none h q List.mem_cons_self
    show (if _ then _ else _) = _
    rw [if_neg h1]
    exact ih (by unfold lget at h; rw [if_neg h1] at h; exact h) _
/-- so many numbers, so many entries -/
theorem pigeonZ : ∀ (m : Nat) (L : List (Int × α)), (∀ j : Nat, j < m → lget L (j : Int) ≠ none) → m ≤ L.length
  | 0, L, _ => Nat.zero_le _
  | m + 1, L, h => by
    have h1 := h m (by omega)
    cases hg : lget L (m : Int) with
    | none => exact absurd hg h1
    | some n =>
      obtain ⟨L1, L2, rfl, h2⟩ := lget_some hg
      have := pigeonZ m (L1 ++ L2) (fun j h3 => by rw [← lget_skip L1 L2 ((m : Int), n) _ (by show ((m : Nat) : Int) ≠ _; omega)]; exact h j (by omega))
      simp only [List.length_append, List.length_cons] at this ⊢
      omega
theorem frF_reach (L : List (Int × α)) : ∀ (m k : Nat), k + m = L.length + 1 → (∀ j : Nat, j < m → lget L (j : Int) ≠ none) → frF L (L.length + 1) 0 = frF L k (m : Int)
  | 0, k, hk, _ => by obtain rfl : k = L.length + 1 := by omega
                      rfl
  | m + 1, k, hk, h => by
    rw [frF_reach L m (k + 1) (by omega) (fun j h1 => h j (by omega))]
    have h1 := h m (by omega)
    cases hg : lget L (m : Int) with
    | none => exact absurd hg h1
    | some n =>
      show (if _ then _ else _) = _
      rw [hg, if_pos (by rfl)]
      congr 1
theorem frZ_eq (L : List (Int × α)) (m : Nat) (h : ∀ j : Nat, j < m → lget L (j : Int) ≠ none) (hn : lget L (m : Int) = none) : frZ L = (m : Int) := by
  have hm := pigeonZ m L h
  unfold frZ
  obtain ⟨k, hk⟩ : ∃ k, k + 1 + m = L.length + 1 := ⟨L.length - m, by omega⟩
  rw [frF_reach L m (k + 1) hk h]
  show (if _ then _ else _) = _
  rw [hn, if_neg (by simp)]
theorem frZ_spec (L : List (Int × α)) : ∃ m : Nat, frZ L = (m : Int) ∧ m ≤ L.length ∧ lget L (m : Int) = none ∧ ∀ j : Nat, j < m → lget L (j : Int) ≠ none := by
  have key : ∀ k m : Nat, k + m = L.length + 1 → (∀ j : Nat, j < m → lget L (j : Int) ≠ none) → ∃ m : Nat, m ≤ L.length ∧ lget L (m : Int) = none ∧ ∀ j : Nat, j < m → lget L (j : Int) ≠ none := by
    intro k
    induction k with
    | zero => intro m hk h; have := pigeonZ m L h; omega
    | succ k ih =>
      intro m hk h
      cases hg : lget L (m : Int) with
      | none => exact ⟨m, by omega, hg, h⟩
      | some n => exact ih (m + 1) (by omega) (fun j hj => by
          rcases Nat.lt_or_ge j m with c | c
          · exact h j c
          · obtain rfl : j = m := by omega
            rw [hg]; simp)
  obtain ⟨m, h1, h2, h3⟩ := key (L.length + 1) 0 (by omega) (fun j h => by omega)
  exact ⟨m, frZ_eq L m h3 h2, h1, h2, h3⟩
end
/-! ### files -/
structure Fl where
  k : Int
  id : Int
  off : Int
  rd : Bool
  wt : Bool
  nm : List UInt8
  rf : Int
def Fl.zero : Fl := ⟨0, 0, 0, false, false, [], 0⟩
/-- may a file be? -/
def flOk (f : Fl) : Prop := (0 ≤ f.k ∧ f.k ≤ 3) ∧ (0 ≤ f.id ∧ f.id ≤ 1073741824) ∧ (0 ≤ f.off ∧ f.off ≤ 1073741824) ∧ f.nm.length ≤ 256
instance (f : Fl) : Decidable (flOk f) := by unfold flOk; exact inferInstance
abbrev Ft := List (Int × Fl)
/-- a file's cells, an item's -/
def flC (f : Fl) : List Value := [.int .i64 f.k, .int .i64 f.id, .int .i64 f.off, .bool f.rd, .bool f.wt, .string (ba f.nm), .int .i64 f.rf]
def itC (q : Int × Fl) : List Value := .int .i64 q.1 :: flC q.2
def FlV (f : Fl) : Value := .agg #[.int .i64 f.k, .int .i64 f.id, .int .i64 f.off, .bool f.rd, .bool f.wt, .string (ba f.nm), .int .i64 f.rf]
/-- with a file in the place of a number's; without it, where nobody has it -/
def lwith : Ft → Int → Fl → Ft
  | [], _, _ => []
  | q :: r, n, f => if q.1 = n then (if 0 < f.rf then (n, f) :: lwith r n f else lwith r n f) else q :: lwith r n f
/-! what the methods answer -/
def fgE (L : Ft) (n : Int) : Int := match lget L n with | none => 9 | some _ => 0
def fgF (L : Ft) (n : Int) : Fl := (lget L n).getD Fl.zero
def foE (most : Int) (L : Ft) (f : Fl) : Int := if ¬ flOk f then 22 else if most ≤ (L.length : Int) then 23 else 0
def foN (most : Int) (L : Ft) (f : Fl) : Int := if foE most L f = 0 then frZ L else 0
def foL (most : Int) (L : Ft) (f : Fl) : Ft := if foE most L f = 0 then L ++ [(frZ L, { f with rf := 1 })] else L
def frB (L : Ft) (n by_ : Int) : Fl := { fgF L n with rf := (fgF L n).rf + by_ }
def frE (L : Ft) (n by_ : Int) : Int := if fgE L n ≠ 0 then fgE L n else if 1048576 < (frB L n by_).rf then 22 else 0
def frO (L : Ft) (n by_ : Int) : Fl := if frE L n by_ = 0 then frB L n by_ else Fl.zero
def frL (L : Ft) (n by_ : Int) : Ft := if frE L n by_ = 0 then lwith L n (frB L n by_) else L
def fmE (L : Ft) (n off : Int) : Int := if fgE L n ≠ 0 then fgE L n else if off < 0 ∨ 1073741824 < off then 22 else 0
def fmL (L : Ft) (n off : Int) : Ft := if fmE L n off = 0 then lwith L n { fgF L n with off := off } else L
/-- where a file stands -/
def skB (f : Fl) (off way size : Int) : Int := if way = 1 then off + f.off else if way = 2 then off + size else off
def skE (f : Fl) (off way size : Int) : Int := if f.k = 1 ∨ f.k = 2 then 29 else if ¬ flOk f ∨ way < 0 ∨ 2 < way ∨ size < 0 ∨ 1073741824 < size ∨ off < -1073741824 ∨ 1073741824 < off then 22 else if skB f off way size < 0 ∨ 1073741824 < skB f off way size then 22 else 0
def skN (f : Fl) (off way size : Int) : Int := if skE f off way size = 0 then skB f off way size else 0
end Go.Proofs.YtpapicnkhjcjoaaDoor
