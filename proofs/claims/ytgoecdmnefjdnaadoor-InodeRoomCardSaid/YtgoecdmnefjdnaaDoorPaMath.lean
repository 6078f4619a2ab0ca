/- Paths as lists of bytes: names, pieces between slashes, what stands ahead of the last one. No program stands in this text. -/
import Derived.Lib.TrimByte
import Derived.Lib.Join
namespace Go.Proofs.YtgoecdmnefjdnaaDoor
open Go.Lib
set_option linter.unusedVariables false
/-- a byte of a name -/
def okB (b : UInt8) : Bool := (decide (97 ≤ b.toNat) && decide (b.toNat ≤ 122)) || (decide (48 ≤ b.toNat) && decide (b.toNat ≤ 57)) || decide (b.toNat = 46) || decide (b.toNat = 95) || decide (b.toNat = 45)
/-- a name's error -/
def ckN (l : List UInt8) : Int := if l = [] then 2 else if 16 < l.length then 36 else if l.all okB = true then 0 else 22
def ckL : List (List UInt8) → Int
  | [] => 0
  | x :: t => if ckN x = 0 then ckL t else ckN x
/-- the error of names -/
def ckA (ls : List (List UInt8)) : Int := if 8 < ls.length then 90 else ckL ls
def segGo (cur : List UInt8) : List UInt8 → List (List UInt8)
  | [] => if cur = [] then [] else [cur]
  | b :: t => if b = 47 then (if cur = [] then segGo [] t else cur :: segGo [] t) else segGo (cur ++ [b]) t
/-- the pieces between slashes that are not empty -/
def segs (l : List UInt8) : List (List UInt8) := segGo [] l
def hd1 (x : List UInt8) : List (List UInt8) := if x = [] then [] else [x]
theorem segGo_app : ∀ (q cur t : List UInt8), (47 : UInt8) ∉ q → segGo cur (q ++ t) = segGo (cur ++ q) t
  | [], cur, t, _ => by simp
  | b :: q, cur, t, h => by
    have hb : b ≠ 47 := fun e => h (by simp [e])
    rw [List.cons_append, segGo, if_neg hb, segGo_app q _ t (fun hc => h (by simp [hc]))]
    simp
theorem segs_none (l : List UInt8) (h : (47 : UInt8) ∉ l) : segs l = hd1 l := by
  unfold segs
  have := segGo_app l [] [] h
  rw [List.append_nil, List.nil_append] at this
  rw [this]; rfl
theorem segs_cons (q t : List UInt8) (h : (47 : UInt8) ∉ q) : segs (q ++ 47 :: t) = hd1 q ++ segs t := by
  unfold segs
  rw [segGo_app q [] _ h, List.nil_append, segGo, if_pos rfl]
  unfold hd1
  by_cases hq : q = []
  · rw [if_pos hq, if_pos hq]; rfl
  · rw [if_neg hq, if_neg hq]; rfl
theorem segs_slash (t : List UInt8) : segs (47 :: t) = segs t := segs_cons [] t (by simp)
theorem segs_nil : segs [] = [] := rfl
/-- what is ahead of the first slash, what is behind it -/
def cutA (l : List UInt8) : List UInt8 := l.takeWhile (· != 47)
def cutB (l : List UInt8) : List UInt8 := (l.dropWhile (· != 47)).drop 1
theorem cutA_no (l : List UInt8) : (47 : UInt8) ∉ cutA l := fun h => by
  have := List.all_eq_true.1 (List.all_takeWhile (p := fun x => x != (47 : UInt8)) (l := l)) _ h
  simp at this
theorem pcut_len (l : List UInt8) (h : l ≠ []) : (cutB l).length < l.length := by
  unfold cutB
  rw [List.length_drop]
  have := (List.dropWhile_sublist (l := l) (fun x => x != (47 : UInt8))).length_le
  have : 0 < l.length := List.length_pos_iff.2 h
  omega
theorem segs_cut (l : List UInt8) : segs l = hd1 (cutA l) ++ segs (cutB l) := by
  have e := List.takeWhile_append_dropWhile (p := fun x => x != (47 : UInt8)) (l := l)
  cases hd : l.dropWhile (fun x => x != (47 : UInt8)) with
  | nil =>
    rw [hd, List.append_nil] at e
    have hn := cutA_no l
    unfold cutA cutB
    unfold cutA at hn
    rw [hd, List.drop_nil, segs_nil, List.append_nil]
    rw [e] at hn ⊢
    exact segs_none l hn
  | cons b t =>
    have hb : b = 47 := by
      have := List.head?_dropWhile_not (fun x => x != (47 : UInt8)) l
      rw [hd] at this
      simpa using this
    subst hb
    have hn := cutA_no l
    unfold cutB
    rw [hd, List.drop_one, List.tail_cons]
    rw [hd] at e
    conv => lhs; rw [← e]
    exact segs_cons _ _ hn
theorem segGo_clean : ∀ (l cur : List UInt8), (47 : UInt8) ∉ cur → ∀ x ∈ segGo cur l, x ≠ [] ∧ (47 : UInt8) ∉ x ∧ x.length ≤ cur.length + l.length
  | [], cur, hc, x, hx => by
    unfold segGo at hx
    split at hx
    · simp at hx
    · simp at hx; subst hx; exact ⟨by assumption, hc, by simp⟩
  | b :: t, cur, hc, x, hx => by
    unfold segGo at hx
    split at hx
    · split at hx
      · have := segGo_clean t [] (by simp) x hx
        exact ⟨this.1, this.2.1, by have := this.2.2; simp at this ⊢; omega⟩
      · rcases List.mem_cons.1 hx with rfl | hx
        · exact ⟨by assumption, hc, by simp⟩
        · have := segGo_clean t [] (by simp) x hx
          exact ⟨this.1, this.2.1, by have := this.2.2; simp at this ⊢; omega⟩
    · have := segGo_clean t (cur ++ [b]) (by simp; exact ⟨hc, fun e => by simp_all⟩) x hx
      exact ⟨this.1, this.2.1, by have := this.2.2; simp at this ⊢; omega⟩
theorem segs_clean (l x : List UInt8) (hx : x ∈ segs l) : x ≠ [] ∧ (47 : UInt8) ∉ x ∧ x.length ≤ l.length := by
  have := segGo_clean l [] (by simp) x hx
  simpa using this
theorem segGo_many : ∀ (l cur : List UInt8), (segGo cur l).length ≤ l.length + 1
  | [], cur => by unfold segGo; split <;> simp
  | b :: t, cur => by
    unfold segGo
    split
    · split
      · have := segGo_many t []; simp; omega
      · have := segGo_many t []; simp; omega
    · have := segGo_many t (cur ++ [b]); simp; omega
theorem segs_many (l : List UInt8) : (segs l).length ≤ l.length + 1 := segGo_many l []
theorem okB_no : okB 47 = false := by decide
theorem ckN_ok {x : List UInt8} (h : ckN x = 0) : x ≠ [] ∧ x.length ≤ 16 ∧ (47 : UInt8) ∉ x := by
  unfold ckN at h
  split at h
  · exact absurd h (by decide)
  · split at h
    · exact absurd h (by decide)
    · split at h
      · rename_i h1 h2 h3
        refine ⟨h1, by omega, fun hm => ?_⟩
        have := List.all_eq_true.1 h3 _ hm
        rw [okB_no] at this; cases this
      · exact absurd h (by decide)
theorem ckL_all : ∀ {ls : List (List UInt8)}, ckL ls = 0 ↔ ∀ x ∈ ls, ckN x = 0
  | [] => by simp [ckL]
  | x :: t => by
    unfold ckL
    by_cases h : ckN x = 0
    · rw [if_pos h, ckL_all]; simp [h]
    · rw [if_neg h]; simp [h]
theorem ckL_app : ∀ (a b : List (List UInt8)), ckL a = 0 → ckL (a ++ b) = ckL b
  | [], b, _ => rfl
  | x :: t, b, h => by
    unfold ckL at h
    by_cases hx : ckN x = 0
    · rw [if_pos hx] at h
      rw [List.cons_append, ckL, if_pos hx, ckL_app t b h]
    · rw [if_neg hx] at h; exact absurd h hx
theorem ckL_app_bad : ∀ (a b : List (List UInt8)), ckL a ≠ 0 → ckL (a ++ b) = ckL a
  | [], b, h => absurd rfl h
  | x :: t, b, h => by
    rw [List.cons_append]
    unfold ckL at h ⊢
    by_cases hx : ckN x = 0
    · rw [if_pos hx] at h ⊢; rw [if_pos hx]; exact ckL_app_bad t b h
    · rw [if_neg hx, if_neg hx]
theorem ckA_ok {ls : List (List UInt8)} : ckA ls = 0 ↔ ls.length ≤ 8 ∧ ∀ x ∈ ls, ckN x = 0 := by
  unfold ckA
  split
  · exact ⟨fun h => absurd h (by decide), fun h => by omega⟩
  · rw [ckL_all]; exact ⟨fun h => ⟨by omega, h⟩, fun h => h.2⟩
theorem ckA_take (ls : List (List UInt8)) : ckA (ls.take 9) = ckA ls := by
  unfold ckA
  rw [List.length_take]
  by_cases h : 8 < ls.length
  · rw [if_pos h, if_pos (by omega)]
  · rw [if_neg h, if_neg (by omega), List.take_of_length_le (by omega)]
theorem ckN_num (x : List UInt8) : ckN x = 0 ∨ ckN x = 2 ∨ ckN x = 36 ∨ ckN x = 22 := by unfold ckN; split <;> (try split) <;> (try split) <;> simp
/-- the path of names -/
def jn (ls : List (List UInt8)) : List UInt8 := 47 :: join ls [47]
def jnS (ls : List (List UInt8)) : List UInt8 := (ls.map (fun x => 47 :: x)).flatten
theorem jn_cons (x : List UInt8) (r : List (List UInt8)) : jn (x :: r) = jnS (x :: r) := by
  unfold jn jnS
  rw [join_cons]; rfl
theorem jn_of {ls : List (List UInt8)} (h : ls ≠ []) : jn ls = jnS ls := by
  obtain ⟨x, r, rfl⟩ := List.exists_cons_of_ne_nil h
  exact jn_cons x r
theorem jn_nil : jn [] = [47] := rfl
theorem jnS_snoc (a : List (List UInt8)) (x : List UInt8) : jnS (a ++ [x]) = jnS a ++ 47 :: x := by simp [jnS]
theorem jn_snoc (a : List (List UInt8)) (x : List UInt8) : jn (a ++ [x]) = (if a = [] then [47] else jn a ++ [47]) ++ x := by
  rw [jn_of (by simp), jnS_snoc]
  by_cases h : a = []
  · rw [if_pos h, h]; rfl
  · rw [if_neg h, jn_of h]; simp
theorem segs_jnS : ∀ (ls : List (List UInt8)) (t : List UInt8), (∀ x ∈ ls, x ≠ [] ∧ (47 : UInt8) ∉ x) → segs (jnS ls ++ 47 :: t) = ls ++ segs t
  | [], t, _ => segs_slash t
  | x :: r, t, h => by
    have e : jnS (x :: r) ++ 47 :: t = 47 :: (x ++ (jnS r ++ 47 :: t)) := by simp [jnS]
    obtain ⟨q, e2⟩ : ∃ q, jnS r ++ 47 :: t = 47 :: q := by cases r with
      | nil => exact ⟨t, rfl⟩
      | cons y r => exact ⟨y ++ (jnS r ++ 47 :: t), by simp [jnS]⟩
    have ih := segs_jnS r t (fun y hy => h y (by simp [hy]))
    rw [e, segs_slash]
    rw [e2, segs_slash] at ih
    rw [e2, segs_cons x q (h x (by simp)).2, ih]
    unfold hd1; rw [if_neg (h x (by simp)).1]; rfl
theorem segs_end (l : List UInt8) : segs (l ++ [47]) = segs l := by
  have : ∀ (l cur : List UInt8), segGo cur (l ++ [47]) = segGo cur l := by
    intro l
    induction l with
    | nil => intro cur; simp only [List.nil_append]; unfold segGo; rw [if_pos rfl]; unfold segGo; simp
    | cons b t ih => intro cur; rw [List.cons_append]; unfold segGo; rw [ih, ih]
  exact this l []
theorem segs_ends (l : List UInt8) : ∀ m, segs (l ++ List.replicate m 47) = segs l
  | 0 => by simp
  | m + 1 => by rw [List.replicate_succ', ← List.append_assoc, segs_end, segs_ends l m]
theorem segs_jn {ls : List (List UInt8)} (h : ckA ls = 0) : segs (jn ls) = ls := by
  have hc := (ckA_ok.1 h).2
  by_cases h0 : ls = []
  · subst h0; rfl
  · rw [jn_of h0, ← segs_end, segs_jnS ls [] (fun x hx => ⟨(ckN_ok (hc x hx)).1, (ckN_ok (hc x hx)).2.2⟩), segs_nil, List.append_nil]
/-- does it begin at the root -/
def rootB (l : List UInt8) : Bool := l.head? == some 47
/-- what stands ahead of the last name -/
def upOf (p : List UInt8) : List UInt8 := (trimRightB p 47).take ((trimRightB p 47).length - ((segs p).getLastD []).length)
theorem trim_rep (q : List UInt8) (h : q.getLast? ≠ some 47) : ∀ m, trimRightB (q ++ List.replicate m 47) 47 = q := by
  intro m
  unfold trimRightB
  rw [List.reverse_append, List.reverse_replicate]
  have : ∀ m, List.dropWhile (fun x => x == (47 : UInt8)) (List.replicate m 47 ++ q.reverse) = q.reverse := by
    intro m
    induction m with
    | zero =>
      rw [List.replicate_zero, List.nil_append]
      cases hq : q.reverse with
      | nil => rfl
      | cons b t =>
        have : b ≠ 47 := by
          intro e
          apply h
          rw [← List.reverse_reverse q, hq, List.getLast?_reverse, e]; rfl
        rw [List.dropWhile_cons]; simp [this]
    | succ m ih => rw [List.replicate_succ, List.cons_append, List.dropWhile_cons]; simp [ih]
  rw [this, List.reverse_reverse]
theorem last_ne {A s : List UInt8} (hs : s ≠ []) (hn : (47 : UInt8) ∉ s) : (A ++ s).getLast? ≠ some 47 := by
  rw [List.getLast?_append]
  cases h : s.getLast? with
  | none => exact absurd (List.getLast?_eq_none_iff.1 h) hs
  | some b => intro e; rw [Option.some_or, Option.some.injEq] at e; subst e; exact hn (List.mem_of_getLast? h)
/-- a path, parted at its last name -/
theorem up_at {p A s : List UInt8} {m : Nat} (hs : s ≠ []) (hn : (47 : UInt8) ∉ s) (hp : p = A ++ s ++ List.replicate m 47) (hl : (segs p).getLastD [] = s) : upOf p = A ∧ trimRightB p 47 = A ++ s := by
  have ht : trimRightB p 47 = A ++ s := by rw [hp]; exact trim_rep _ (last_ne hs hn) m
  unfold upOf
  rw [ht, hl]
  exact ⟨by simp, rfl⟩
theorem up_last {p A s : List UInt8} {L : List (List UInt8)} {m : Nat} (hl : segs p = L ++ [s]) (hp : p = A ++ s ++ List.replicate m 47) : upOf p = A ∧ trimRightB p 47 = A ++ s := by
  have hc := segs_clean p s (by rw [hl]; simp)
  exact up_at hc.1 hc.2.1 hp (by rw [hl]; simp)
theorem segGo_nil : ∀ (l cur : List UInt8), segGo cur l = [] → cur = [] ∧ ∃ m, l = List.replicate m 47
  | [], cur, h => by
    unfold segGo at h
    split at h
    · exact ⟨by assumption, 0, rfl⟩
    · cases h
  | b :: t, cur, h => by
    unfold segGo at h
    split at h
    · rename_i hb
      split at h
      · obtain ⟨-, m, rfl⟩ := segGo_nil t [] h
        exact ⟨by assumption, m + 1, by rw [hb]; rfl⟩
      · cases h
    · have := (segGo_nil t _ h).1
      simp at this
theorem cut_eq (l : List UInt8) : (l = cutA l ∧ cutB l = []) ∨ l = cutA l ++ 47 :: cutB l := by
  have e := List.takeWhile_append_dropWhile (p := fun x => x != (47 : UInt8)) (l := l)
  unfold cutA cutB
  cases hd : l.dropWhile (fun x => x != (47 : UInt8)) with
  | nil => rw [hd, List.append_nil] at e; exact .inl ⟨e.symm, rfl⟩
  | cons b t =>
    have hb : b = 47 := by
      have := List.head?_dropWhile_not (fun x => x != (47 : UInt8)) l
      rw [hd] at this
      simpa using this
    subst hb
    rw [hd] at e
    exact .inr e.symm
/-- a path with names is what is ahead of its last one, that, and slashes -/
theorem segs_last : ∀ (n : Nat) (p : List UInt8), p.length ≤ n → ∀ (L : List (List UInt8)) (s : List UInt8), segs p = L ++ [s] → ∃ A m, p = A ++ s ++ List.replicate m 47
  | n, p, hn, L, s, h => by
    by_cases hp : p = []
    · subst hp; rw [segs_nil] at h; simp at h
    · have hc := pcut_len p hp
      have hs := segs_cut p
      match n with
      | 0 => exact absurd (List.eq_nil_of_length_eq_zero (by omega)) hp
      | n + 1 =>
        by_cases hb : segs (cutB p) = []
        · rw [hb, List.append_nil, h] at hs
          unfold hd1 at hs
          split at hs
          · simp at hs
          · have h2 : s = cutA p := by
              have := congrArg List.getLast? hs
              simpa using this
            obtain ⟨-, m, hm⟩ := segGo_nil _ _ hb
            rcases cut_eq p with ⟨h3, h4⟩ | h3
            · exact ⟨[], 0, by rw [h2]; simpa using h3⟩
            · exact ⟨[], m + 1, by rw [h2, List.replicate_succ, ← hm]; simpa using h3⟩
        · obtain ⟨L2, s2, h2⟩ : ∃ L2 s2, segs (cutB p) = L2 ++ [s2] := ⟨_, _, (List.dropLast_concat_getLast hb).symm⟩
          rw [h, h2, ← List.append_assoc] at hs
          have h5 : s = s2 := by
            have := congrArg List.getLast? hs
            simpa using this
          obtain ⟨A, m, ha⟩ := segs_last n (cutB p) (by omega) L2 s2 h2
          rcases cut_eq p with ⟨h3, h4⟩ | h3
          · rw [h4] at hb; exact absurd rfl hb
          · exact ⟨cutA p ++ 47 :: A, m, by rw [h5]; conv => lhs; rw [h3, ha]
                                            simp⟩
/-- Split's error -/
def spE (p : List UInt8) : Int := if p = [] then 2 else ckA (segs p)
/-- what Last answers -/
def laN (p : List UInt8) : List UInt8 × List UInt8 × Int :=
  if spE p ≠ 0 then ([], [], spE p) else
  if segs p = [] ∨ (segs p).getLastD [] = [46] ∨ (segs p).getLastD [] = [46, 46] then ([], [], 22) else ((segs p).getLastD [], upOf p, 0)
theorem laN_err {p : List UInt8} (h : spE p ≠ 0) : laN p = ([], [], spE p) := by unfold laN; rw [if_pos h]
theorem laN_nil {p : List UInt8} (h : spE p = 0) (hn : segs p = []) : laN p = ([], [], 22) := by unfold laN; rw [if_neg (by simp [h]), if_pos (.inl hn)]
theorem laN_dot {p s : List UInt8} {L : List (List UInt8)} (h : spE p = 0) (hl : segs p = L ++ [s]) (hd : s = [46] ∨ s = [46, 46]) : laN p = ([], [], 22) := by
  have e : (segs p).getLastD [] = s := by rw [hl]; simp
  unfold laN; rw [if_neg (by simp [h]), e, if_pos (.inr hd)]
theorem laN_ok {p s A : List UInt8} {L : List (List UInt8)} {m : Nat} (h : spE p = 0) (hl : segs p = L ++ [s]) (h1 : s ≠ [46]) (h2 : s ≠ [46, 46]) (hp : p = A ++ s ++ List.replicate m 47) : laN p = (s, A, 0) := by
  have e : (segs p).getLastD [] = s := by rw [hl]; simp
  have hn : ¬ segs p = [] := by rw [hl]; simp
  unfold laN; rw [if_neg (by simp [h]), e, if_neg (by simp [hn, h1, h2]), (up_last hl hp).1]
/-- the document's way over a path: what it has, i bytes on -/
def PT (p : List UInt8) (i : Nat) (out : List (List UInt8)) (at_ : List Int) : Prop :=
  out.length = at_.length ∧ segs p = out ++ segs (p.drop i) ∧ ∀ n, out.length = n + 1 → ∃ a m : Nat, at_[n]? = some (a : Int) ∧ a ≤ p.length ∧ p.take i = p.take a ++ out.getLastD [] ++ List.replicate m 47
theorem PT.zero (p : List UInt8) : PT p 0 [] [] := ⟨rfl, by simp, fun n h => by simp at h⟩
theorem PT.slash {p : List UInt8} {i : Nat} {out : List (List UInt8)} {at_ : List Int} (h : PT p i out at_) (hi : i < p.length) (hb : p.getD i 0 = 47) : PT p (i + 1) out at_ := by
  obtain ⟨h1, h2, h3⟩ := h
  have hd : p.drop i = 47 :: p.drop (i + 1) := by
    rw [List.drop_eq_getElem_cons hi]
    rw [List.getD_eq_getElem?_getD, List.getElem?_eq_getElem hi] at hb
    simp at hb; rw [hb]
  refine ⟨h1, by rw [h2, hd, segs_slash], fun n hn => ?_⟩
  obtain ⟨a, m, e1, e2, e3⟩ := h3 n hn
  refine ⟨a, m + 1, e1, e2, ?_⟩
  rw [List.take_add_one, e3, List.getElem?_eq_getElem hi]
  have : p[i] = 47 := by rw [List.getD_eq_getElem?_getD, List.getElem?_eq_getElem hi] at hb; simpa using hb
  rw [this, List.replicate_succ', Option.toList_some]; simp
/-- a name from i to e -/
theorem PT.name {p : List UInt8} {i e : Nat} {out : List (List UInt8)} {at_ : List Int} (h : PT p i out at_) (hi : i < e) (he : e ≤ p.length) (hno : ∀ j, i ≤ j → j < e → p.getD j 0 ≠ 47) (hend : e < p.length → p.getD e 0 = 47) :
    PT p (e + 1) (out ++ [(p.take e).drop i]) (at_ ++ [(i : Int)]) := by
  obtain ⟨h1, h2, h3⟩ := h
  have hsn : (47 : UInt8) ∉ (p.take e).drop i := by
    intro hm
    obtain ⟨j, hj, ej⟩ := List.getElem_of_mem hm
    simp at hj
    rw [List.getElem_drop, List.getElem_take] at ej
    apply hno (i + j) (by omega) (by omega)
    rw [List.getD_eq_getElem?_getD, List.getElem?_eq_getElem (by omega), ej]; rfl
  have hne : (p.take e).drop i ≠ [] := by
    intro h0
    have := congrArg List.length h0
    simp at this; omega
  have hpt : p.take e = p.take i ++ (p.take e).drop i := by
    have := List.take_append_drop i (p.take e)
    rw [List.take_take, Nat.min_eq_left (by omega)] at this
    exact this.symm
  have hdr : p.drop i = (p.take e).drop i ++ p.drop e := by
    conv => lhs; rw [← List.take_append_drop e p, List.drop_append_of_le_length (by simp; omega)]
  have hseg : segs (p.drop i) = [(p.take e).drop i] ++ segs (p.drop (e + 1)) := by
    rcases Nat.lt_or_ge e p.length with hlt | hge
    · have hb := hend hlt
      have hd : p.drop e = 47 :: p.drop (e + 1) := by
        rw [List.drop_eq_getElem_cons hlt]
        rw [List.getD_eq_getElem?_getD, List.getElem?_eq_getElem hlt] at hb
        simp at hb; rw [hb]
      rw [hdr, hd, segs_cons _ _ hsn]
      unfold hd1; rw [if_neg hne]
    · rw [hdr, List.drop_eq_nil_of_le (show p.length ≤ e from hge), List.append_nil, List.drop_eq_nil_of_le (show p.length ≤ e + 1 by omega), segs_nil, List.append_nil, segs_none _ hsn]
      unfold hd1; rw [if_neg hne]
  refine ⟨by simp [h1], by rw [h2, hseg, List.append_assoc], fun n hn => ?_⟩
  rw [List.length_append, List.length_singleton] at hn
  refine ⟨i, if e < p.length then 1 else 0, by rw [List.getElem?_append_right (by omega)]; rw [show n - at_.length = 0 by omega]; rfl, by omega, ?_⟩
  rw [List.getLastD_concat, List.take_add_one]
  by_cases hlt : e < p.length
  · have hb := hend hlt
    rw [List.getD_eq_getElem?_getD, List.getElem?_eq_getElem hlt] at hb
    simp at hb
    rw [if_pos hlt, List.getElem?_eq_getElem hlt, hb, ← hpt]; rfl
  · rw [if_neg hlt, List.getElem?_eq_none (by omega), ← hpt]; simp
/-- at its end -/
theorem PT.done {p : List UInt8} {i : Nat} {out : List (List UInt8)} {at_ : List Int} (h : PT p i out at_) (hi : p.length ≤ i) :
    out = segs p ∧ at_.length = (segs p).length ∧ ∀ L s, segs p = L ++ [s] → ∃ a m : Nat, at_[L.length]? = some (a : Int) ∧ a ≤ p.length ∧ p = p.take a ++ s ++ List.replicate m 47 := by
  obtain ⟨h1, h2, h3⟩ := h
  rw [List.drop_eq_nil_of_le hi, segs_nil, List.append_nil] at h2
  refine ⟨h2.symm, by rw [h2, h1], fun L s hl => ?_⟩
  rw [h2] at hl
  subst hl
  obtain ⟨a, m, e1, e2, e3⟩ := h3 L.length (by simp)
  refine ⟨a, m, e1, e2, ?_⟩
  rw [List.take_of_length_le hi, List.getLastD_concat] at e3
  exact e3
/-- a path of names that end in x, with a slash behind it or not -/
theorem jn_last {L : List (List UInt8)} {x : List UInt8} (h : ckA (L ++ [x]) = 0) : segs (if L = [] then [47] else jn L ++ [47]) = L ∧ ckA L = 0 := by
  have hL : ckA L = 0 := by
    have := ckA_ok.1 h
    exact ckA_ok.2 ⟨by have := this.1; simp at this; omega, fun y hy => this.2 y (by simp [hy])⟩
  refine ⟨?_, hL⟩
  split
  · rename_i e; rw [e]; rfl
  · rw [segs_end, segs_jn hL]
end Go.Proofs.YtgoecdmnefjdnaaDoor
