/- Programs as bytes, as plain lists: told, read, and what comes back. No program stands in this text. -/
import Derived.Test.YtealjgfijlencaaDoorBase
namespace Go.Proofs.YtealjgfijlencaaDoor
set_option linter.unusedVariables false
/-- pages of a program -/
structure Sg where
  f : Int
  t : Int
  p : Int
  d : List Int
def nb2 (n : Int) : List Int := [n % 256, n / 256 % 256]
def nb4 (n : Int) : List Int := [n % 256, n / 256 % 256, n / 65536 % 256, n / 16777216 % 256]
def sgB (s : Sg) : List Int := nb2 s.f ++ nb2 s.t ++ [s.p] ++ nb2 (s.d.length : Int) ++ s.d
def sgsB : List Sg → List Int
  | [] => []
  | s :: r => sgB s ++ sgsB r
/-- a program as bytes -/
def imB (e : Int) (L : List Sg) : List Int := [104, 120, 48, 49] ++ nb4 e ++ [(L.length : Int)] ++ sgsB L
def sgOk (last : Int) (s : Sg) : Bool := !(decide (s.f < last) || decide (s.t ≤ s.f) || decide (4080 < s.t) || decide (7 < s.p) || decide (65535 < (s.d.length : Int)) || decide (256 * (s.t - s.f) < (s.d.length : Int)))
def chOk : Int → List Sg → Bool
  | _, [] => true
  | last, s :: r => sgOk last s && chOk s.t r
def runsB (pg : Int) : List Sg → Bool
  | [] => false
  | s :: r => (decide (4 ≤ s.p) && decide (s.f ≤ pg) && decide (pg < s.t)) || runsB pg r
/-- may a program be? -/
def imOk (e : Int) (L : List Sg) : Bool := decide (1 ≤ L.length) && decide (L.length ≤ 8) && decide (e % 4 = 0) && chOk 0 L && runsB (e / 256) L
/-- so many pages' bytes read -/
def decS : Nat → List Int → Option (List Sg × List Int)
  | 0, r => some ([], r)
  | k + 1, r =>
    if r.length < 7 then none
    else if (r.length : Int) - 7 < r.getD 5 0 + 256 * r.getD 6 0 then none
    else match decS k (r.drop (7 + (r.getD 5 0 + 256 * r.getD 6 0).toNat)) with
      | none => none
      | some (L, q) => some (⟨r.getD 0 0 + 256 * r.getD 1 0, r.getD 2 0 + 256 * r.getD 3 0, r.getD 4 0, (r.drop 7).take (r.getD 5 0 + 256 * r.getD 6 0).toNat⟩ :: L, q)
def wh4 (b : List Int) : Int := b.getD 4 0 + 256 * b.getD 5 0 + 65536 * b.getD 6 0 + 16777216 * b.getD 7 0
def headOk (b : List Int) : Bool := decide (9 ≤ b.length) && decide (b.getD 0 0 = 104) && decide (b.getD 1 0 = 120) && decide (b.getD 2 0 = 48) && decide (b.getD 3 0 = 49)
/-- the program of bytes -/
def imD (b : List Int) : Option (Int × List Sg) :=
  if headOk b = false then none
  else match decS (b.getD 8 0).toNat (b.drop 9) with
    | none => none
    | some (L, q) => if q = [] ∧ imOk (wh4 b) L = true then some (wh4 b, L) else none
/-! ### told and read again -/
theorem chOk_mem : ∀ {L : List Sg} {last : Int}, 0 ≤ last → chOk last L = true → ∀ s ∈ L, 0 ≤ s.f ∧ s.f < s.t ∧ s.t ≤ 4080 ∧ s.p ≤ 7 ∧ (s.d.length : Int) ≤ 65535
  | [], _, _, _, s, hs => by cases hs
  | x :: r, last, h0, h, s, hs => by
    unfold chOk at h
    rw [Bool.and_eq_true] at h
    have h1 := h.1
    unfold sgOk at h1
    simp only [Bool.not_eq_true', Bool.or_eq_false_iff, decide_eq_false_iff_not] at h1
    rcases List.mem_cons.1 hs with rfl | hs
    · omega
    · exact chOk_mem (last := x.t) (by omega) h.2 s hs
theorem two_of (n : Int) (h : 0 ≤ n ∧ n < 65536) : n % 256 + 256 * (n / 256 % 256) = n := by omega
theorem decS_enc : ∀ (L : List Sg) (q : List Int), (∀ s ∈ L, 0 ≤ s.f ∧ s.f < s.t ∧ s.t ≤ 4080 ∧ s.p ≤ 7 ∧ (s.d.length : Int) ≤ 65535) → decS L.length (sgsB L ++ q) = some (L, q)
  | [], q, _ => rfl
  | s :: r, q, h => by
    have hs := h s List.mem_cons_self
    have ih := decS_enc r q (fun x hx => h x (List.mem_cons_of_mem _ hx))
    have e : sgsB (s :: r) ++ q = (s.f % 256) :: (s.f / 256 % 256) :: (s.t % 256) :: (s.t / 256 % 256) :: s.p :: ((s.d.length : Int) % 256) :: ((s.d.length : Int) / 256 % 256) :: (s.d ++ (sgsB r ++ q)) := by
      show (sgB s ++ sgsB r) ++ q = _
      unfold sgB nb2
      simp
    rw [e]
    show decS (r.length + 1) _ = _
    unfold decS
    have n0 : ((s.d.length : Int) % 256 + 256 * ((s.d.length : Int) / 256 % 256)) = (s.d.length : Int) := two_of _ (by omega)
    simp only [List.length_cons, List.getD_cons_zero, List.getD_cons_succ]
    rw [n0, Int.toNat_natCast, if_neg (by omega), if_neg (by simp only [List.length_append]; omega)]
    have d7 : ∀ (a b c d e f g : Int) (l : List Int) (k : Nat), List.drop (7 + k) (a :: b :: c :: d :: e :: f :: g :: l) = l.drop k := fun a b c d e f g l k => by
      rw [show 7 + k = k + 7 by omega]; rfl
    rw [d7, List.drop_left' rfl, ih]
    have d0 : ∀ (a b c d e f g : Int) (l : List Int), List.drop 7 (a :: b :: c :: d :: e :: f :: g :: l) = l := fun a b c d e f g l => rfl
    rw [d0, List.take_left' rfl, two_of _ (by omega), two_of _ (by omega)]
/-- more behind is more left over -/
theorem decS_app : ∀ (k : Nat) (r x : List Int) (L : List Sg) (q : List Int), decS k r = some (L, q) → decS k (r ++ x) = some (L, q ++ x)
  | 0, r, x, L, q, h => by
    unfold decS at h ⊢
    cases h; rfl
  | k + 1, r, x, L, q, h => by
    unfold decS at h ⊢
    by_cases c1 : r.length < 7
    · rw [if_pos c1] at h; cases h
    · rw [if_neg c1] at h
      have g : ∀ i, i < 7 → (r ++ x).getD i 0 = r.getD i 0 := fun i hi => by
        rw [List.getD_eq_getElem?_getD, List.getD_eq_getElem?_getD, List.getElem?_append_left (by omega)]
      rw [g 5 (by omega), g 6 (by omega), g 0 (by omega), g 1 (by omega), g 2 (by omega), g 3 (by omega), g 4 (by omega)]
      by_cases c2 : (r.length : Int) - 7 < r.getD 5 0 + 256 * r.getD 6 0
      · rw [if_pos c2] at h; cases h
      · rw [if_neg c2] at h
        rw [if_neg (by rw [List.length_append]; omega), if_neg (by rw [List.length_append]; omega)]
        generalize hn : (r.getD 5 0 + 256 * r.getD 6 0).toNat = n at *
        have hn7 : 7 + n ≤ r.length := by omega
        rw [List.drop_append_of_le_length hn7, List.drop_append_of_le_length (by omega), List.take_append_of_le_length (by rw [List.length_drop]; omega)]
        cases hd : decS k (List.drop (7 + n) r) with
        | none => rw [hd] at h; cases h
        | some Lq =>
          obtain ⟨L1, q1⟩ := Lq
          rw [hd] at h
          rw [decS_app k _ x L1 q1 hd]
          cases h; rfl
/-- what is read is told -/
theorem decS_back : ∀ (k : Nat) (r : List Int) (L : List Sg) (q : List Int), (∀ x ∈ r, 0 ≤ x ∧ x ≤ 255) → decS k r = some (L, q) → r = sgsB L ++ q ∧ L.length = k
  | 0, r, L, q, hb, h => by unfold decS at h; cases h; exact ⟨rfl, rfl⟩
  | k + 1, r, L, q, hb, h => by
    unfold decS at h
    by_cases c1 : r.length < 7
    · rw [if_pos c1] at h; cases h
    · rw [if_neg c1] at h
      by_cases c2 : (r.length : Int) - 7 < r.getD 5 0 + 256 * r.getD 6 0
      · rw [if_pos c2] at h; cases h
      · rw [if_neg c2] at h
        cases hd : decS k (List.drop (7 + (r.getD 5 0 + 256 * r.getD 6 0).toNat) r) with
        | none => rw [hd] at h; cases h
        | some Lq =>
          obtain ⟨L1, q1⟩ := Lq
          rw [hd] at h
          obtain ⟨h1, h2⟩ := decS_back k _ L1 q1 (fun x hx => hb x (List.mem_of_mem_drop hx)) hd
          cases h
          refine ⟨?_, by rw [List.length_cons, h2]⟩
          match r, c1, c2, hb, h1 with
          | a0 :: a1 :: a2 :: a3 :: a4 :: a5 :: a6 :: l, c1, c2, hb, h1 =>
            simp only [List.getD_cons_zero, List.getD_cons_succ, List.length_cons] at c2 h1 ⊢
            have b0 := hb a0 (by simp)
            have b1 := hb a1 (by simp)
            have b2 := hb a2 (by simp)
            have b3 := hb a3 (by simp)
            have b5 := hb a5 (by simp)
            have b6 := hb a6 (by simp)
            have d7 : ∀ (k : Nat), List.drop (7 + k) (a0 :: a1 :: a2 :: a3 :: a4 :: a5 :: a6 :: l) = l.drop k := fun k => by
              rw [show 7 + k = k + 7 by omega]; rfl
            have d0 : List.drop 7 (a0 :: a1 :: a2 :: a3 :: a4 :: a5 :: a6 :: l) = l := rfl
            rw [d7] at h1
            rw [d0]
            have ln : (l.take (a5 + 256 * a6).toNat).length = (a5 + 256 * a6).toNat := by rw [List.length_take]; omega
            show _ = sgB _ ++ sgsB L1 ++ q
            unfold sgB nb2
            dsimp only
            rw [ln, show (((a5 + 256 * a6).toNat : Nat) : Int) = a5 + 256 * a6 by omega]
            rw [show (a0 + 256 * a1) % 256 = a0 by omega, show (a0 + 256 * a1) / 256 % 256 = a1 by omega, show (a2 + 256 * a3) % 256 = a2 by omega, show (a2 + 256 * a3) / 256 % 256 = a3 by omega, show (a5 + 256 * a6) % 256 = a5 by omega, show (a5 + 256 * a6) / 256 % 256 = a6 by omega]
            have hl : l = l.take (a5 + 256 * a6).toNat ++ (sgsB L1 ++ q) := by rw [← h1, List.take_append_drop]
            simp only [List.append_assoc, List.cons_append, List.nil_append]
            rw [← hl]
          | [], c1, _, _, _ => exact absurd (by simp) c1
          | [_], c1, _, _, _ => exact absurd (by simp) c1
          | [_, _], c1, _, _, _ => exact absurd (by simp) c1
          | [_, _, _], c1, _, _, _ => exact absurd (by simp) c1
          | [_, _, _, _], c1, _, _, _ => exact absurd (by simp) c1
          | [_, _, _, _, _], c1, _, _, _ => exact absurd (by simp) c1
          | [_, _, _, _, _, _], c1, _, _, _ => exact absurd (by simp) c1
theorem imOk_parts {e : Int} {L : List Sg} (h : imOk e L = true) : 1 ≤ L.length ∧ L.length ≤ 8 ∧ e % 4 = 0 ∧ chOk 0 L = true ∧ runsB (e / 256) L = true := by
  unfold imOk at h
  simp only [Bool.and_eq_true, decide_eq_true_eq] at h
  exact ⟨h.1.1.1.1, h.1.1.1.2, h.1.1.2, h.1.2, h.2⟩
theorem imB_cons (e : Int) (L : List Sg) : imB e L = 104 :: 120 :: 48 :: 49 :: (e % 256) :: (e / 256 % 256) :: (e / 65536 % 256) :: (e / 16777216 % 256) :: (L.length : Int) :: sgsB L := by
  unfold imB nb4; simp
theorem four_of (e : Int) (h : 0 ≤ e ∧ e < 4294967296) : e % 256 + 256 * (e / 256 % 256) + 65536 * (e / 65536 % 256) + 16777216 * (e / 16777216 % 256) = e := by omega
theorem imD_more {e : Int} {L : List Sg} (he : 0 ≤ e ∧ e < 4294967296) (h : imOk e L = true) (x : List Int) : imD (imB e L ++ x) = if x = [] then some (e, L) else none := by
  have hp := imOk_parts h
  have hd := decS_enc L x (chOk_mem (Int.le_refl 0) hp.2.2.2.1)
  rw [imB_cons]
  simp only [List.cons_append]
  unfold imD
  have e1 : headOk (104 :: 120 :: 48 :: 49 :: (e % 256) :: (e / 256 % 256) :: (e / 65536 % 256) :: (e / 16777216 % 256) :: (L.length : Int) :: (sgsB L ++ x)) = true := by unfold headOk; simp
  have e2 : wh4 (104 :: 120 :: 48 :: 49 :: (e % 256) :: (e / 256 % 256) :: (e / 65536 % 256) :: (e / 16777216 % 256) :: (L.length : Int) :: (sgsB L ++ x)) = e := by
    unfold wh4; simp only [List.getD_cons_zero, List.getD_cons_succ]; exact four_of e he
  have e3 : List.drop 9 (104 :: 120 :: 48 :: 49 :: (e % 256) :: (e / 256 % 256) :: (e / 65536 % 256) :: (e / 16777216 % 256) :: (L.length : Int) :: (sgsB L ++ x)) = sgsB L ++ x := rfl
  rw [e1, e2, e3, if_neg (by simp)]
  simp only [List.getD_cons_zero, List.getD_cons_succ]
  rw [Int.toNat_natCast, hd]
  by_cases c : x = []
  · subst c
    show (if _ then _ else _) = _
    rw [if_pos ⟨rfl, h⟩, if_pos rfl]
  · show (if _ then _ else _) = _
    rw [if_neg (fun d => c d.1), if_neg c]
/-- told and read: the same -/
theorem imD_imB {e : Int} {L : List Sg} (he : 0 ≤ e ∧ e < 4294967296) (h : imOk e L = true) : imD (imB e L) = some (e, L) := by
  have := imD_more he h []
  rwa [List.append_nil, if_pos rfl] at this
theorem imD_cut {e : Int} {L : List Sg} (he : 0 ≤ e ∧ e < 4294967296) (h : imOk e L = true) (k : Nat) (hk : k < (imB e L).length) : imD ((imB e L).take k) = none := by
  have hp := imOk_parts h
  cases hc : imD ((imB e L).take k) with
  | none => rfl
  | some eL =>
    exfalso
    unfold imD at hc
    by_cases c1 : headOk ((imB e L).take k) = false
    · rw [if_pos c1] at hc; cases hc
    · rw [if_neg c1] at hc
      have hh : 9 ≤ ((imB e L).take k).length := by
        have c2 : headOk ((imB e L).take k) = true := by simpa using c1
        unfold headOk at c2
        simp only [Bool.and_eq_true, decide_eq_true_eq] at c2
        exact c2.1.1.1.1
      have hk9 : 9 ≤ k := by rw [List.length_take] at hh; omega
      have g8 : ((imB e L).take k).getD 8 0 = (L.length : Int) := by
        rw [List.getD_eq_getElem?_getD, List.getElem?_take_of_lt (by omega), imB_cons]; rfl
      rw [g8, Int.toNat_natCast] at hc
      cases hd : decS L.length (List.drop 9 ((imB e L).take k)) with
      | none => rw [hd] at hc; cases hc
      | some Lq =>
        obtain ⟨L1, q1⟩ := Lq
        rw [hd] at hc
        have ha := decS_app _ _ ((imB e L).drop k) L1 q1 hd
        have hj : List.drop 9 ((imB e L).take k) ++ (imB e L).drop k = sgsB L := by
          have : List.drop 9 ((imB e L).take k ++ (imB e L).drop k) = List.drop 9 ((imB e L).take k) ++ (imB e L).drop k := List.drop_append_of_le_length hh
          rw [← this, List.take_append_drop, imB_cons]; rfl
        rw [hj] at ha
        have hx := decS_enc L [] (chOk_mem (Int.le_refl 0) hp.2.2.2.1)
        rw [List.append_nil] at hx
        rw [hx] at ha
        have hn : q1 ++ (imB e L).drop k = [] := (Prod.mk.inj (Option.some.inj ha)).2.symm
        have := (List.append_eq_nil_iff.1 hn).2
        rw [List.drop_eq_nil_iff] at this
        omega
/-- read and told: the same -/
theorem imB_imD {b : List Int} {e : Int} {L : List Sg} (hb : ∀ x ∈ b, 0 ≤ x ∧ x ≤ 255) (h : imD b = some (e, L)) : imB e L = b ∧ imOk e L = true ∧ 0 ≤ e ∧ e < 4294967296 := by
  unfold imD at h
  by_cases c1 : headOk b = false
  · rw [if_pos c1] at h; cases h
  · rw [if_neg c1] at h
    have c2 : headOk b = true := by simpa using c1
    unfold headOk at c2
    simp only [Bool.and_eq_true, decide_eq_true_eq] at c2
    cases hd : decS (b.getD 8 0).toNat (b.drop 9) with
    | none => rw [hd] at h; cases h
    | some Lq =>
      obtain ⟨L1, q1⟩ := Lq
      rw [hd] at h
      have h3 : (if q1 = [] ∧ imOk (wh4 b) L1 = true then some (wh4 b, L1) else none) = some (e, L) := h
      by_cases c3 : q1 = [] ∧ imOk (wh4 b) L1 = true
      · rw [if_pos c3] at h3
        obtain ⟨rfl, hok⟩ := c3
        obtain ⟨h1, h2⟩ := decS_back _ _ _ _ (fun x hx => hb x (List.mem_of_mem_drop hx)) hd
        obtain ⟨he1, hL1⟩ := Prod.mk.inj (Option.some.inj h3)
        subst hL1
        rw [← he1]
        clear h h3 he1
        rw [List.append_nil] at h1
        obtain ⟨⟨⟨⟨c9, c4⟩, c5⟩, c6⟩, c7⟩ := c2
        match b, c9, c4, c5, c6, c7, hb, h1, h2, hok with
        | a0 :: a1 :: a2 :: a3 :: a4 :: a5 :: a6 :: a7 :: a8 :: l, _, c4, c5, c6, c7, hb, h1, h2, hok =>
          simp only [List.getD_cons_zero, List.getD_cons_succ] at c4 c5 c6 c7 h2
          have b4 := hb a4 (by simp)
          have b5 := hb a5 (by simp)
          have b6 := hb a6 (by simp)
          have b7 := hb a7 (by simp)
          have b8 := hb a8 (by simp)
          have ew : wh4 (a0 :: a1 :: a2 :: a3 :: a4 :: a5 :: a6 :: a7 :: a8 :: l) = a4 + 256 * a5 + 65536 * a6 + 16777216 * a7 := rfl
          rw [ew] at hok ⊢
          refine ⟨?_, hok, by omega, by omega⟩
          rw [imB_cons, h2, ← h1]
          rw [show (a4 + 256 * a5 + 65536 * a6 + 16777216 * a7) % 256 = a4 by omega, show (a4 + 256 * a5 + 65536 * a6 + 16777216 * a7) / 256 % 256 = a5 by omega, show (a4 + 256 * a5 + 65536 * a6 + 16777216 * a7) / 65536 % 256 = a6 by omega, show (a4 + 256 * a5 + 65536 * a6 + 16777216 * a7) / 16777216 % 256 = a7 by omega, show ((a8.toNat : Nat) : Int) = a8 by omega, c4, c5, c6, c7]
          rfl
        | [], h, _, _, _, _, _, _, _, _ => exact absurd h (by simp)
        | [_], h, _, _, _, _, _, _, _, _ => exact absurd h (by simp)
        | [_, _], h, _, _, _, _, _, _, _, _ => exact absurd h (by simp)
        | [_, _, _], h, _, _, _, _, _, _, _, _ => exact absurd h (by simp)
        | [_, _, _, _], h, _, _, _, _, _, _, _, _ => exact absurd h (by simp)
        | [_, _, _, _, _], h, _, _, _, _, _, _, _, _ => exact absurd h (by simp)
        | [_, _, _, _, _, _], h, _, _, _, _, _, _, _, _ => exact absurd h (by simp)
        | [_, _, _, _, _, _, _], h, _, _, _, _, _, _, _, _ => exact absurd h (by simp)
        | [_, _, _, _, _, _, _, _], h, _, _, _, _, _, _, _, _ => exact absurd h (by simp)
      · rw [if_neg c3] at h3; cases h3
end Go.Proofs.YtealjgfijlencaaDoor
