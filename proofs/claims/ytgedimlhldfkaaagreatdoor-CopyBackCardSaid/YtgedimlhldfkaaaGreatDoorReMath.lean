/- Regions of pages as plain lists: which page is used how; what may be; parts of them, and what is joined. No program. -/
namespace Go.Proofs.YtgedimlhldfkaaaGreatDoor
set_option linter.unusedVariables false
structure Rg where
  f : Int
  t : Int
  p : Nat
theorem Rg.eq {a b : Rg} (h1 : a.f = b.f) (h2 : a.t = b.t) (h3 : a.p = b.p) : a = b := by
  cases a; cases b; simp at h1 h2 h3; subst h1 h2 h3; rfl
/-- pages that may be -/
def okP (a b : Int) : Bool := decide (0 ≤ a) && decide (a < b) && decide (b ≤ 4096)
/-- a region that may be -/
def okR (r : Rg) : Bool := okP r.f r.t && decide (r.p ≤ 7)
theorem okP_iff {a b : Int} : okP a b = true ↔ 0 ≤ a ∧ a < b ∧ b ≤ 4096 := by
  unfold okP; simp [and_assoc]
theorem okR_iff {r : Rg} : okR r = true ↔ 0 ≤ r.f ∧ r.f < r.t ∧ r.t ≤ 4096 ∧ r.p ≤ 7 := by
  unfold okR; rw [Bool.and_eq_true, okP_iff, decide_eq_true_eq]
  constructor
  · rintro ⟨⟨a, b, c⟩, d⟩; exact ⟨a, b, c, d⟩
  · rintro ⟨a, b, c, d⟩; exact ⟨⟨a, b, c⟩, d⟩
/-- one goes on with the next one -/
def oneR (a b : Rg) : Bool := decide (a.t = b.f) && decide (a.p = b.p)
/-- one may stand behind another one -/
def folR (a b : Rg) : Bool := decide (a.t ≤ b.f) && !oneR a b
theorem oneR_iff {a b : Rg} : oneR a b = true ↔ a.t = b.f ∧ a.p = b.p := by unfold oneR; simp
theorem folR_iff {a b : Rg} : folR a b = true ↔ a.t ≤ b.f ∧ ¬ (a.t = b.f ∧ a.p = b.p) := by
  unfold folR; rw [Bool.and_eq_true, decide_eq_true_eq, Bool.not_eq_true', ← Bool.not_eq_true, oneR_iff]
/-- each may be, and stands behind the one ahead of it by R -/
def RCh (R : Rg → Rg → Prop) : List Rg → Prop
  | [] => True
  | r :: l => okR r = true ∧ (∀ s, l.head? = some s → R r s) ∧ RCh R l
def RFol (a b : Rg) : Prop := folR a b = true
def RBef (a b : Rg) : Prop := a.t ≤ b.f
/-- a list that may be -/
def ROk (l : List Rg) : Prop := RCh RFol l
/-- one that ascends -/
def RAsc (l : List Rg) : Prop := RCh RBef l
theorem RCh.mono {R S : Rg → Rg → Prop} (h : ∀ a b, R a b → S a b) : ∀ {l : List Rg}, RCh R l → RCh S l
  | [], _ => trivial
  | r :: l, ⟨a, b, c⟩ => ⟨a, fun s hs => h _ _ (b s hs), c.mono h⟩
theorem ROk.asc {l : List Rg} (h : ROk l) : RAsc l := RCh.mono (fun a b k => (folR_iff.1 k).1) h
theorem RCh.mem {R : Rg → Rg → Prop} : ∀ {l : List Rg}, RCh R l → ∀ r ∈ l, okR r = true
  | [], _, r, h => absurd h List.not_mem_nil
  | x :: l, ⟨a, b, c⟩, r, h => by
    rcases List.mem_cons.1 h with rfl | h
    · exact a
    · exact c.mem r h
theorem rch_cons {R : Rg → Rg → Prop} {r : Rg} {l : List Rg} : RCh R (r :: l) ↔ okR r = true ∧ (∀ s, l.head? = some s → R r s) ∧ RCh R l := Iff.rfl
theorem rch_append {R : Rg → Rg → Prop} : ∀ (l m : List Rg), RCh R (l ++ m) ↔ RCh R l ∧ RCh R m ∧ ∀ a b, l.getLast? = some a → m.head? = some b → R a b
  | [], m => ⟨fun h => ⟨trivial, h, fun a b ha => by simp at ha⟩, fun h => h.2.1⟩
  | [r], m => by
    rw [List.singleton_append, rch_cons]
    constructor
    · rintro ⟨a, b, c⟩; exact ⟨⟨a, fun s hs => by simp at hs, trivial⟩, c, fun x y hx hy => by simp at hx; subst hx; exact b y hy⟩
    · rintro ⟨⟨a, _, _⟩, c, d⟩; exact ⟨a, fun y hy => d r y (by simp) hy, c⟩
  | r :: s :: l, m => by
    rw [List.cons_append, rch_cons, rch_append (s :: l) m, rch_cons (r := r) (l := s :: l)]
    rw [show (r :: s :: l).getLast? = (s :: l).getLast? by simp [List.getLast?_cons_cons]]
    simp only [List.cons_append, List.head?_cons]
    constructor
    · rintro ⟨a, b, c, d, e⟩; exact ⟨⟨a, b, c⟩, d, e⟩
    · rintro ⟨⟨a, b, c⟩, d, e⟩; exact ⟨a, b, c, d, e⟩
theorem RCh.at_ {R : Rg → Rg → Prop} {l : List Rg} (h : RCh R l) (i : Nat) (hi : i < l.length) : okR l[i] = true := RCh.mem h _ (List.getElem_mem hi)
theorem rch_iff {R : Rg → Rg → Prop} : ∀ (l : List Rg), RCh R l ↔ ∀ i (h : i < l.length), okR l[i] = true ∧ ∀ j, j + 1 = i → ∀ (hj : j < l.length), R l[j] l[i]
  | [] => ⟨fun _ i h => absurd h (Nat.not_lt_zero _), fun _ => trivial⟩
  | r :: l => by
    rw [rch_cons, rch_iff l]
    constructor
    · rintro ⟨a, b, c⟩ i hi
      match i, hi with
      | 0, hi => exact ⟨a, fun j h => by omega⟩
      | 1, hi =>
        have hl : 0 < l.length := by simpa using hi
        refine ⟨(c 0 hl).1, fun j hj _ => ?_⟩
        obtain rfl : j = 0 := by omega
        refine b _ ?_
        rw [List.head?_eq_getElem?, List.getElem?_eq_getElem hl]; rfl
      | i + 2, hi =>
        have hl : i + 1 < l.length := by simp at hi; omega
        obtain ⟨x, y⟩ := c (i + 1) hl
        refine ⟨x, fun j hj hj2 => ?_⟩
        obtain rfl : j = i + 1 := by omega
        exact y i rfl (by omega)
    · intro k
      refine ⟨(k 0 (by simp)).1, fun s hs => ?_, fun i hi => ?_⟩
      · have hl : 0 < l.length := by cases l <;> simp_all
        have := (k 1 (by simpa using hl)).2 0 rfl (by simp)
        rw [List.head?_eq_getElem?, List.getElem?_eq_getElem hl] at hs
        rw [← Option.some.inj hs]
        exact this
      · obtain ⟨x, y⟩ := k (i + 1) (by simpa using hi)
        refine ⟨x, fun j h0 hj => ?_⟩
        exact y (j + 1) (by omega) (by simpa using hj)
open Classical in
noncomputable def rokb (l : List Rg) : Bool := if ROk l then true else false
theorem rokb_iff {l : List Rg} : rokb l = true ↔ ROk l := by unfold rokb; split <;> simp_all
theorem rokb_not {l : List Rg} : rokb l = false ↔ ¬ ROk l := by unfold rokb; split <;> simp_all
/-- does a region have a page? -/
def inR (r : Rg) (q : Int) : Bool := decide (r.f ≤ q) && decide (q < r.t)
theorem inR_iff {r : Rg} {q : Int} : inR r q = true ↔ r.f ≤ q ∧ q < r.t := by unfold inR; simp
theorem inR_not {r : Rg} {q : Int} : inR r q = false ↔ ¬ (r.f ≤ q ∧ q < r.t) := by rw [← Bool.not_eq_true, inR_iff]
/-- how a page is used -/
def rpg : List Rg → Int → Option Nat
  | [], _ => none
  | r :: l, q => if inR r q = true then some r.p else rpg l q
theorem rpg_nil (q : Int) : rpg [] q = none := rfl
theorem rpg_append (l m : List Rg) (q : Int) : rpg (l ++ m) q = (rpg l q).or (rpg m q) := by
  induction l with
  | nil => simp [rpg]
  | cons r l ih => simp only [List.cons_append, rpg]; split <;> simp_all
theorem rpg_one (r : Rg) (q : Int) : rpg [r] q = if inR r q = true then some r.p else none := rfl
theorem rpg_none {l : List Rg} {q : Int} : rpg l q = none ↔ ∀ r ∈ l, inR r q = false := by
  induction l with
  | nil => simp [rpg]
  | cons r l ih =>
    simp only [rpg, List.mem_cons, forall_eq_or_imp]
    cases h : inR r q <;> simp [ih]
theorem rpg_some {l : List Rg} {q : Int} {n : Nat} (h : rpg l q = some n) : ∃ r ∈ l, inR r q = true ∧ r.p = n := by
  induction l with
  | nil => simp [rpg] at h
  | cons r l ih =>
    simp only [rpg] at h
    split at h
    · rename_i c; exact ⟨r, List.mem_cons_self, c, Option.some.inj h⟩
    · obtain ⟨s, a, b⟩ := ih h; exact ⟨s, List.mem_cons_of_mem _ a, b⟩
theorem RAsc.above {r : Rg} {l : List Rg} (h : RAsc (r :: l)) : ∀ s ∈ l, r.t ≤ s.f := by
  induction l generalizing r with
  | nil => intro s hs; exact absurd hs List.not_mem_nil
  | cons x l ih =>
    obtain ⟨a, b, c⟩ := h
    intro s hs
    have hx : r.t ≤ x.f := b x rfl
    rcases List.mem_cons.1 hs with rfl | hs
    · exact hx
    · have := ih c s hs
      have := okR_iff.1 c.1
      omega
theorem RAsc.below {l : List Rg} {r : Rg} (h : RAsc (l ++ [r])) : ∀ s ∈ l, s.t ≤ r.f := by
  induction l with
  | nil => intro s hs; exact absurd hs List.not_mem_nil
  | cons x l ih =>
    intro s hs
    rcases List.mem_cons.1 hs with rfl | hs
    · exact RAsc.above h r (by simp)
    · exact ih h.2.2 s hs
/-- in a list that ascends a page is in one region at most: that one tells -/
theorem RAsc.pg_at {l : List Rg} (h : RAsc l) {r : Rg} (hr : r ∈ l) {q : Int} (hq : inR r q = true) : rpg l q = some r.p := by
  induction l with
  | nil => exact absurd hr List.not_mem_nil
  | cons x l ih =>
    simp only [rpg]
    rcases List.mem_cons.1 hr with rfl | hr
    · rw [if_pos hq]
    · have := RAsc.above h r hr
      have k := inR_iff.1 hq
      rw [if_neg (by rw [inR_iff]; omega)]
      exact ih h.2.2 hr
theorem RAsc.pg_out {l : List Rg} (h : RAsc l) {q : Int} (hq : q < 0 ∨ 4096 ≤ q) : rpg l q = none := by
  rw [rpg_none]
  intro r hr
  have := okR_iff.1 (RCh.mem h r hr)
  rw [inR_not]; omega
theorem ROk.not_next {r : Rg} {l : List Rg} (h : ROk (r :: l)) : rpg l r.t ≠ some r.p := by
  intro e
  obtain ⟨s, hs, hq, hp⟩ := rpg_some e
  cases l with
  | nil => exact absurd hs List.not_mem_nil
  | cons x l =>
    have hx := folR_iff.1 (h.2.1 x rfl)
    have hok := okR_iff.1 (RCh.mem h.2.2 x List.mem_cons_self)
    rw [inR_iff] at hq
    rcases List.mem_cons.1 hs with rfl | hs
    · exact hx.2 ⟨by omega, hp.symm⟩
    · have := RAsc.above (ROk.asc h.2.2) s hs
      omega
/-- a list that may be is told by how its pages are used -/
theorem ROk.uniq : ∀ {l m : List Rg}, ROk l → ROk m → (∀ q, rpg l q = rpg m q) → l = m
  | [], [], _, _, _ => rfl
  | [], s :: m, _, hm, h => by
    have hs := okR_iff.1 hm.1
    have := h s.f
    simp only [rpg] at this
    rw [if_pos (by rw [inR_iff]; omega)] at this
    cases this
  | r :: l, [], hl, _, h => by
    have hs := okR_iff.1 hl.1
    have := h r.f
    simp only [rpg] at this
    rw [if_pos (by rw [inR_iff]; omega)] at this
    cases this
  | r :: l, s :: m, hl, hm, h => by
    have key : ∀ {r s : Rg} {l m : List Rg}, ROk (r :: l) → ROk (s :: m) → (∀ q, rpg (r :: l) q = rpg (s :: m) q) → s.f ≤ r.f := by
      intro r s l m hl hm h
      have hs := okR_iff.1 hl.1
      have e := h r.f
      rw [RAsc.pg_at hl.asc List.mem_cons_self (by rw [inR_iff]; omega)] at e
      obtain ⟨u, hu, hq, _⟩ := rpg_some e.symm
      rw [inR_iff] at hq
      have hso := okR_iff.1 hm.1
      rcases List.mem_cons.1 hu with rfl | hu
      · omega
      · have := RAsc.above hm.asc u hu; omega
    have hf : r.f = s.f := Int.le_antisymm (key hm hl (fun q => (h q).symm)) (key hl hm h)
    have hr := okR_iff.1 hl.1
    have hs := okR_iff.1 hm.1
    have hp : r.p = s.p := by
      have e := h r.f
      rw [RAsc.pg_at hl.asc List.mem_cons_self (by rw [inR_iff]; omega), RAsc.pg_at hm.asc List.mem_cons_self (by rw [inR_iff]; omega)] at e
      exact Option.some.inj e
    have key2 : ∀ {r s : Rg} {l m : List Rg}, ROk (r :: l) → ROk (s :: m) → (∀ q, rpg (r :: l) q = rpg (s :: m) q) → r.f = s.f → r.p = s.p → s.t ≤ r.t := by
      intro r s l m hl hm h hf hp
      have hr := okR_iff.1 hl.1
      have hs := okR_iff.1 hm.1
      by_cases c : s.t ≤ r.t
      · exact c
      · exfalso
        have e := h r.t
        rw [RAsc.pg_at hm.asc List.mem_cons_self (by rw [inR_iff]; omega)] at e
        simp only [rpg] at e
        rw [if_neg (by rw [inR_iff]; omega)] at e
        exact ROk.not_next hl (by rw [e, hp])
    have ht : r.t = s.t := Int.le_antisymm (key2 hm hl (fun q => (h q).symm) hf.symm hp.symm) (key2 hl hm h hf hp)
    obtain rfl : r = s := Rg.eq hf ht hp
    rw [ROk.uniq hl.2.2 hm.2.2 fun q => ?_]
    by_cases c : q < r.t
    · have e1 : rpg l q = none := rpg_none.2 fun u hu => by
        have := RAsc.above hl.asc u hu
        rw [inR_not]; omega
      have e2 : rpg m q = none := rpg_none.2 fun u hu => by
        have := RAsc.above hm.asc u hu
        rw [inR_not]; omega
      rw [e1, e2]
    · have e := h q
      simp only [rpg] at e
      rwa [if_neg (by rw [inR_iff]; omega), if_neg (by rw [inR_iff]; omega)] at e
/-- a region without the pages ahead of one, and those from another one on -/
def rclip (r : Rg) (a b : Int) : Rg := ⟨max r.f a, min r.t b, r.p⟩
def rone (r : Rg) (a b : Int) : List Rg := if max r.f a < min r.t b then [rclip r a b] else []
def rpart (l : List Rg) (a b : Int) : List Rg := l.flatMap fun r => rone r a b
theorem rpart_push (l : List Rg) (r : Rg) (a b : Int) : rpart (l ++ [r]) a b = rpart l a b ++ rone r a b := by simp [rpart]
theorem rpart_cons (l : List Rg) (r : Rg) (a b : Int) : rpart (r :: l) a b = rone r a b ++ rpart l a b := by simp [rpart]
theorem rpg_clip (r : Rg) (a b q : Int) : rpg (rone r a b) q = if a ≤ q ∧ q < b then rpg [r] q else none := by
  unfold rone
  by_cases c : max r.f a < min r.t b
  · rw [if_pos c]
    simp only [rpg]
    by_cases d : a ≤ q ∧ q < b
    · rw [if_pos d]
      by_cases e : inR r q = true
      · rw [if_pos e, if_pos]
        · rfl
        · rw [inR_iff] at e ⊢; simp only [rclip]; omega
      · rw [if_neg e, if_neg]
        rw [inR_iff] at e ⊢; simp only [rclip]; omega
    · rw [if_neg d, if_neg]
      rw [inR_iff]; simp only [rclip]; omega
  · rw [if_neg c]
    simp only [rpg]
    by_cases d : a ≤ q ∧ q < b
    · rw [if_pos d, if_neg]
      rw [inR_iff]; omega
    · rw [if_neg d]
theorem rpg_part (l : List Rg) (a b q : Int) : rpg (rpart l a b) q = if a ≤ q ∧ q < b then rpg l q else none := by
  induction l with
  | nil => simp [rpart, rpg]
  | cons r l ih =>
    rw [rpart_cons, rpg_append, rpg_clip, ih, show r :: l = [r] ++ l from rfl, rpg_append]
    split <;> rfl
theorem rclip_ok {r : Rg} {a b : Int} (h : okR r = true) (c : max r.f a < min r.t b) : okR (rclip r a b) = true := by
  rw [okR_iff] at h ⊢
  simp only [rclip]; omega
theorem rone_cases (r : Rg) (a b : Int) : (rone r a b = [] ∧ ¬ max r.f a < min r.t b) ∨ (rone r a b = [rclip r a b] ∧ max r.f a < min r.t b) := by
  unfold rone; split
  · rename_i h; exact .inr ⟨rfl, h⟩
  · rename_i h; exact .inl ⟨rfl, h⟩
theorem rpart_mem {l : List Rg} {a b : Int} {x : Rg} (h : x ∈ rpart l a b) : ∃ r ∈ l, x = rclip r a b ∧ max r.f a < min r.t b := by
  unfold rpart at h
  obtain ⟨r, hr, hx⟩ := List.mem_flatMap.1 h
  rcases rone_cases r a b with ⟨e, _⟩ | ⟨e, c⟩
  · rw [e] at hx; exact absurd hx List.not_mem_nil
  · rw [e] at hx; exact ⟨r, hr, List.mem_singleton.1 hx, c⟩
theorem rpart_head {l : List Rg} {r : Rg} {a b : Int} (hl : ROk (r :: l)) {s : Rg} (h : (rpart l a b).head? = some s) (c : max r.f a < min r.t b) : RFol (rclip r a b) s := by
  cases l with
  | nil => simp [rpart] at h
  | cons x l =>
    have hx := folR_iff.1 (hl.2.1 x rfl)
    have hr := okR_iff.1 hl.1
    have hxo := okR_iff.1 hl.2.2.1
    rw [rpart_cons] at h
    rcases rone_cases x a b with ⟨e, d⟩ | ⟨e, d⟩
    · rw [e] at h
      obtain ⟨y, hy, e2, d2⟩ := rpart_mem (List.mem_of_head? h)
      have h1 := RAsc.above (ROk.asc hl.2.2) y hy
      subst e2
      refine folR_iff.2 ?_
      simp only [rclip]; omega
    · rw [e] at h
      simp at h
      subst h
      refine folR_iff.2 ?_
      simp only [rclip]; omega
theorem ROk.part {l : List Rg} (h : ROk l) (a b : Int) : ROk (rpart l a b) := by
  induction l with
  | nil => trivial
  | cons r l ih =>
    rw [rpart_cons]
    rcases rone_cases r a b with ⟨e, d⟩ | ⟨e, d⟩
    · rw [e]; exact ih h.2.2
    · rw [e]
      exact ⟨rclip_ok h.1 d, fun s hs => rpart_head h hs d, ih h.2.2⟩
theorem rpart_len (l : List Rg) (a b : Int) : (rpart l a b).length ≤ l.length := by
  induction l with
  | nil => simp [rpart]
  | cons r l ih =>
    rw [rpart_cons]
    rcases rone_cases r a b with ⟨e, d⟩ | ⟨e, d⟩ <;> rw [e] <;> simp <;> omega
theorem rgetLast_mem {α : Type} {l : List α} {a : α} (h : l.getLast? = some a) : a ∈ l := List.mem_of_getLast? h
/-- what is cut out -/
def cutL (l : List Rg) (a b : Int) : List Rg := rpart l 0 a ++ rpart l b 4096
theorem ROk.cutL {l : List Rg} (h : ROk l) {a b : Int} (hab : a < b) : ROk (cutL l a b) := by
  refine (rch_append _ _).2 ⟨h.part _ _, h.part _ _, fun x y hx hy => ?_⟩
  obtain ⟨r, _, rfl, c⟩ := rpart_mem (rgetLast_mem hx)
  obtain ⟨s, _, rfl, d⟩ := rpart_mem (List.mem_of_head? hy)
  refine folR_iff.2 ?_
  simp only [rclip]; omega
theorem rpg_cutL {l : List Rg} (h : ROk l) {a b : Int} (hab : a < b) (q : Int) : rpg (cutL l a b) q = if a ≤ q ∧ q < b then none else rpg l q := by
  unfold Go.Proofs.YtgedimlhldfkaaaGreatDoor.cutL
  rw [rpg_append, rpg_part, rpg_part]
  by_cases c : q < 0 ∨ 4096 ≤ q
  · rw [h.asc.pg_out c]; simp
  · by_cases d : a ≤ q ∧ q < b
    · rw [if_neg (by omega), if_neg (by omega), if_pos d]; rfl
    · rw [if_neg d]
      by_cases e : q < a
      · rw [if_pos (by omega), if_neg (by omega)]; simp
      · rw [if_neg (by omega), if_pos (by omega)]; simp
/-- one more region, joined with the last one where that goes on with it -/
def rjstep (acc : List Rg) (r : Rg) : List Rg :=
  match acc.getLast? with
  | some x => if oneR x r = true then acc.dropLast ++ [⟨x.f, r.t, x.p⟩] else acc ++ [r]
  | none => [r]
def rjoins (l : List Rg) : List Rg := l.foldl rjstep []
theorem rjoins_push (l : List Rg) (r : Rg) : rjoins (l ++ [r]) = rjstep (rjoins l) r := by simp [rjoins]
theorem rsnoc_ind {α : Type} {P : List α → Prop} (h0 : P []) (h1 : ∀ l a, P l → P (l ++ [a])) (l : List α) : P l := by
  have : ∀ m : List α, P m.reverse := by
    intro m
    induction m with
    | nil => exact h0
    | cons a m ih => rw [List.reverse_cons]; exact h1 _ _ ih
  have := this l.reverse
  rwa [List.reverse_reverse] at this
theorem rsnoc_of {α : Type} (l : List α) : l = [] ∨ ∃ m a, l = m ++ [a] := by
  rcases List.eq_nil_or_concat l with h | ⟨m, a, h⟩
  · exact .inl h
  · exact .inr ⟨m, a, by simpa using h⟩
theorem rjstep_nil (r : Rg) : rjstep [] r = [r] := rfl
theorem rjstep_snoc (m : List Rg) (x r : Rg) : rjstep (m ++ [x]) r = if oneR x r = true then m ++ [⟨x.f, r.t, x.p⟩] else m ++ [x] ++ [r] := by
  unfold rjstep; rw [List.getLast?_concat]; simp
theorem rjstep_len (l : List Rg) (r : Rg) : (rjstep l r).length ≤ l.length + 1 := by
  rcases rsnoc_of l with rfl | ⟨m, x, rfl⟩
  · rw [rjstep_nil]; simp
  · rw [rjstep_snoc]; split <;> simp
theorem rjoins_len (l : List Rg) : (rjoins l).length ≤ l.length := by
  induction l using rsnoc_ind with
  | h0 => simp [rjoins]
  | h1 l a ih => rw [rjoins_push]; have := rjstep_len (rjoins l) a; simp; omega
theorem rjoins_ok (l : List Rg) (h : RAsc l) : ROk (rjoins l) ∧ (∀ q, rpg (rjoins l) q = rpg l q) ∧ ∀ x y, (rjoins l).getLast? = some x → l.getLast? = some y → x.t = y.t := by
  induction l using rsnoc_ind with
  | h0 => exact ⟨trivial, fun _ => rfl, fun x y h => by simp [rjoins] at h⟩
  | h1 l r ih =>
    have hbelow := h.below
    obtain ⟨h1, h2, h3⟩ := (rch_append _ _).1 h
    obtain ⟨i1, i2, i3⟩ := ih h1
    have hr := h2.1
    have hro := okR_iff.1 hr
    rw [rjoins_push]
    rcases rsnoc_of (rjoins l) with e | ⟨m, x, e⟩
    · rw [e, rjstep_nil]
      refine ⟨⟨hr, fun s hs => by simp at hs, trivial⟩, fun q => ?_, fun a b ha hb => ?_⟩
      · rw [rpg_append, ← i2, e]; rfl
      · simp at ha hb; rw [← ha, ← hb]
    · rw [e, rjstep_snoc]
      rw [e] at i1 i2 i3
      obtain ⟨k1, k2, k3⟩ := (rch_append _ _).1 i1
      have hxo := okR_iff.1 k2.1
      have hxt : x.t ≤ r.f := by
        rcases rsnoc_of l with rfl | ⟨l', y, rfl⟩
        · have := congrArg List.length e; simp [rjoins] at this
        · have := i3 x y (by simp) (by simp)
          have := hbelow y (by simp)
          omega
      have hmb : ∀ s ∈ m, s.t ≤ x.f := i1.asc.below
      by_cases c : oneR x r = true
      · rw [if_pos c]
        rw [oneR_iff] at c
        refine ⟨(rch_append _ _).2 ⟨k1, ⟨okR_iff.2 (by simp only; omega), fun s hs => by simp at hs, trivial⟩, fun a b ha hb => ?_⟩, fun q => ?_, fun a b ha hb => ?_⟩
        · simp at hb
          have := folR_iff.1 (k3 a x ha (by simp))
          subst hb
          exact folR_iff.2 this
        · rw [rpg_append (l := l), ← i2, rpg_append, rpg_append]
          simp only [rpg]
          rw [Option.or_assoc]
          congr 1
          by_cases d1 : inR x q = true
          · rw [if_pos d1, if_pos]; rfl
            rw [inR_iff] at d1 ⊢; simp only; omega
          · rw [if_neg d1]
            by_cases d2 : inR r q = true
            · rw [if_pos d2, if_pos, c.2]; rfl
              rw [inR_iff] at d2 ⊢; simp only; omega
            · rw [if_neg d2, if_neg]; rfl
              rw [inR_iff] at d1 d2 ⊢; simp only; omega
        · simp at ha hb; rw [← ha, ← hb]
      · rw [if_neg c]
        refine ⟨(rch_append _ _).2 ⟨i1, ⟨hr, fun s hs => by simp at hs, trivial⟩, fun a b ha hb => ?_⟩, fun q => ?_, fun a b ha hb => ?_⟩
        · simp at ha hb
          subst ha hb
          rw [oneR_iff] at c
          exact folR_iff.2 ⟨hxt, c⟩
        · rw [rpg_append (l := l), ← i2, rpg_append (l := m ++ [x])]
        · simp at ha hb; rw [← ha, ← hb]
/-- regions, but that the pages of one more are as that one says -/
def preL (l : List Rg) (r : Rg) : List Rg := rpart l 0 r.f ++ [r] ++ rpart l r.t 4096
def layL (l : List Rg) (r : Rg) : List Rg := rjoins (preL l r)
theorem preL_asc {l : List Rg} (h : ROk l) {r : Rg} (hr : okR r = true) : RAsc (preL l r) := by
  have ho := okR_iff.1 hr
  refine (rch_append _ _).2 ⟨(rch_append _ _).2 ⟨(h.part _ _).asc, ⟨hr, fun s hs => by simp at hs, trivial⟩, fun x y hx hy => ?_⟩, (h.part _ _).asc, fun x y hx hy => ?_⟩
  · obtain ⟨s, _, rfl, c⟩ := rpart_mem (rgetLast_mem hx)
    simp at hy; subst hy
    show min s.t r.f ≤ r.f
    omega
  · obtain ⟨s, _, rfl, c⟩ := rpart_mem (List.mem_of_head? hy)
    simp at hx; subst hx
    show r.t ≤ max s.f r.t
    omega
theorem ROk.layL {l : List Rg} (h : ROk l) {r : Rg} (hr : okR r = true) : ROk (layL l r) := (rjoins_ok _ (preL_asc h hr)).1
theorem rpg_layL {l : List Rg} (h : ROk l) {r : Rg} (hr : okR r = true) (q : Int) : rpg (layL l r) q = if inR r q = true then some r.p else rpg l q := by
  have ho := okR_iff.1 hr
  unfold Go.Proofs.YtgedimlhldfkaaaGreatDoor.layL
  rw [(rjoins_ok _ (preL_asc h hr)).2.1]
  unfold preL
  rw [rpg_append, rpg_append, rpg_part, rpg_part, rpg_one]
  by_cases c : q < 0 ∨ 4096 ≤ q
  · have e : ¬ inR r q = true := by rw [inR_iff]; omega
    rw [h.asc.pg_out c, if_neg e]; simp
  · by_cases d : inR r q = true
    · rw [if_pos d, if_pos d]; rw [inR_iff] at d; rw [if_neg (by omega)]; rfl
    · rw [if_neg d, if_neg d]; rw [inR_iff] at d
      by_cases e : q < r.f
      · rw [if_pos (by omega), if_neg (by omega)]; simp
      · rw [if_neg (by omega), if_pos (by omega)]; simp
theorem layL_len (l : List Rg) (r : Rg) : (layL l r).length ≤ 2 * l.length + 1 := by
  have := rjoins_len (preL l r)
  have := rpart_len l 0 r.f
  have := rpart_len l r.t 4096
  unfold layL preL at *
  simp at *; omega
/-- a list that may be has no more regions than pages -/
theorem RAsc.len {l : List Rg} (h : RAsc l) : (l.length : Int) ≤ 4096 := by
  have key : ∀ (l : List Rg) (b : Int), b ≤ 4096 → RAsc l → (∀ s ∈ l, b ≤ s.f) → (l.length : Int) ≤ 4096 - b := by
    intro l
    induction l with
    | nil => intro b hb h hs; simp; omega
    | cons r l ih =>
      intro b hb h hs
      have hr := okR_iff.1 h.1
      have := hs r List.mem_cons_self
      have := ih r.t (by omega) h.2.2 (RAsc.above h)
      simp only [List.length_cons]; omega
  have := key l 0 (by omega) h fun s hs => (okR_iff.1 (RCh.mem h s hs)).1
  omega
end Go.Proofs.YtgedimlhldfkaaaGreatDoor
