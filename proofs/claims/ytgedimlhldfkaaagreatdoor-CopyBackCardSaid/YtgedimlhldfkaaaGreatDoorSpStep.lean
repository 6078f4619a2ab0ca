/- Plain facts on several tables in one row of frames, of no program: which frames are whose, how often each is had, what a step makes of it. -/
import Derived.Test.YtgedimlhldfkaaaGreatDoorTbJ
import Derived.Test.YtgedimlhldfkaaaGreatDoorPhF
import Derived.Test.YtgedimlhldfkaaaGreatDoorReMath
namespace Go.Proofs.YtgedimlhldfkaaaGreatDoor
open Go.RowKit
set_option linter.unusedVariables false
set_option maxRecDepth 100000
/-- a frame's bytes -/
def fby (bs : List Int) (f : Nat) : List Int := cut bs (f * 256) 256
section
variable {k : Nat} {bs cs : List Int}
theorem fby_len (hl : bs.length = k * 256) {f : Nat} (hf : f < k) : (fby bs f).length = 256 := cut_len _ _ _ (by omega)
theorem fby_get (hl : bs.length = k * 256) {f i : Nat} (hf : f < k) (hi : i < 256) : (fby bs f).getD i 0 = bs.getD (f * 256 + i) 0 := cut_get _ _ _ _ (by omega) hi
theorem fby_nm (hl : bs.length = k * 256) {f q : Nat} (hf : f < k) (hq : q < 64) : nm bs f q = nm (fby bs f) 0 q := by
  have G := fun i (hi : i < 256) => fby_get (i := i) hl hf hi
  unfold nm
  rw [G _ (by omega), G _ (by omega), G _ (by omega), G _ (by omega)]
  simp only [Nat.zero_mul, Nat.zero_add, Nat.add_assoc]
theorem nm_of_fby (hl : bs.length = k * 256) (hl' : cs.length = k * 256) {f q : Nat} (hf : f < k) (hq : q < 64) (e : fby cs f = fby bs f) : nm cs f q = nm bs f q := by
  rw [fby_nm hl hf hq, fby_nm hl' hf hq, e]
theorem fby_pt (hl : bs.length = k * 256) {f g p : Nat} (v : Int) (hf : f < k) (hg : g < k) (hp : p < 64) (hne : f ≠ g) : fby (pt bs f p v) g = fby bs g :=
  cut_splice_other bs f g (4 * p) (by4 v) (by omega) (by omega) (by simp [by4]; omega) hne
theorem fby_zr (hl : bs.length = k * 256) {f g : Nat} (hf : f < k) (hg : g < k) : fby (zr bs f) g = if g = f then List.replicate 256 0 else fby bs g := by
  split
  · rename_i e; subst e
    have := cut_splice_at bs (g * 256) (List.replicate 256 0) (by rw [List.length_replicate]; omega)
    rwa [List.length_replicate] at this
  · have := cut_splice_other bs f g 0 (List.replicate 256 0) (by omega) (by omega) (by rw [List.length_replicate]; omega) (fun e => by omega)
    rwa [Nat.add_zero] at this
theorem fby_nw (hl : bs.length = k * 256) {t u h g : Nat} (ht : t < k) (hh : h < k) (hu : u < 64) (hg : g < k) (h1 : g ≠ t) (h2 : g ≠ h) : fby (nw bs t u h) g = fby bs g := by
  unfold nw
  rw [fby_pt (zr_len hl hh) _ ht hg hu (fun e => h1 e.symm), fby_zr hl hh hg, if_neg h2]
theorem fby_sp (hl : bs.length = k * 256) {f g o : Nat} (c : List Int) (hf : f < k) (hg : g < k) (ho : o + c.length ≤ 256) : fby (splice bs (f * 256 + o) c) g = if g = f then splice (fby bs f) o c else fby bs g := by
  split
  · rename_i e; subst e; exact cut_splice_frame bs g o c (by omega) ho
  · exact cut_splice_other bs f g o c (by omega) (by omega) ho (fun e => by omega)
end
/-- which frame an entry's number tells -/
def pv (v : Int) : Option Nat := if v = 0 then none else some (fo v)
/-- which frame a page lies in -/
def pf (bs : List Int) (t p : Nat) : Option Nat := pv (pgn bs t p)
theorem pv_zero : pv 0 = none := rfl
theorem pv_pos {v : Int} (h : v ≠ 0) : pv v = some (fo v) := by unfold pv; rw [if_neg h]
theorem pf_none {bs : List Int} {t p : Nat} : pf bs t p = none ↔ pgn bs t p = 0 := by unfold pf pv; split <;> simp_all
theorem pf_some {bs : List Int} {t p f : Nat} : pf bs t p = some f ↔ pgn bs t p ≠ 0 ∧ fo (pgn bs t p) = f := by unfold pf pv; split <;> simp_all
/-- a sum of the first n -/
def sumN (F : Nat → Nat) : Nat → Nat
  | 0 => 0
  | n + 1 => sumN F n + F n
theorem sumN_congr {F G : Nat → Nat} (n : Nat) (h : ∀ i, i < n → F i = G i) : sumN F n = sumN G n := by
  induction n with
  | zero => rfl
  | succ n ih => unfold sumN; rw [ih fun i hi => h i (by omega), h n (by omega)]
theorem sumN_upd {F G : Nat → Nat} (n j : Nat) (hj : j < n) (h : ∀ i, i < n → i ≠ j → F i = G i) : sumN F n + G j = sumN G n + F j := by
  induction n with
  | zero => omega
  | succ n ih =>
    unfold sumN
    by_cases c : j = n
    · subst c
      rw [sumN_congr j fun i hi => h i (by omega) (by omega)]; omega
    · have := ih (by omega) fun i hi hn => h i (by omega) hn
      have := h n (by omega) (fun e => c e.symm)
      omega
theorem sumN_le {F : Nat → Nat} (n j : Nat) (hj : j < n) : F j ≤ sumN F n := by
  induction n with
  | zero => omega
  | succ n ih =>
    unfold sumN
    by_cases c : j = n
    · subst c; omega
    · have := ih (by omega); omega
theorem sumN_two {F : Nat → Nat} (n i j : Nat) (hi : i < n) (hj : j < n) (hne : i ≠ j) : F i + F j ≤ sumN F n := by
  induction n with
  | zero => omega
  | succ n ih =>
    unfold sumN
    by_cases c : j = n
    · subst c; have := sumN_le (F := F) j i (by omega); omega
    · by_cases d : i = n
      · subst d; have := sumN_le (F := F) i j (by omega); omega
      · have := ih (by omega) (by omega); omega
theorem sumN_zero {F : Nat → Nat} (n : Nat) (h : ∀ i, i < n → F i = 0) : sumN F n = 0 := by
  induction n with
  | zero => rfl
  | succ n ih => unfold sumN; rw [ih fun i hi => h i (by omega), h n (by omega)]
theorem sumN_pos {F : Nat → Nat} (n : Nat) (h : 0 < sumN F n) : ∃ i, i < n ∧ 0 < F i := by
  induction n with
  | zero => simp [sumN] at h
  | succ n ih =>
    unfold sumN at h
    by_cases c : 0 < F n
    · exact ⟨n, by omega, c⟩
    · obtain ⟨i, h1, h2⟩ := ih (by omega); exact ⟨i, by omega, h2⟩
section
variable {α : Type} {F : α → Nat} {l : List α}
theorem suml_set (i : Nat) (hi : i < l.length) (a : α) : ((l.set i a).map F).sum + F l[i] = (l.map F).sum + F a := by
  induction l generalizing i with
  | nil => simp at hi
  | cons x l ih =>
    cases i with
    | zero => simp; omega
    | succ i => have := ih i (by simpa using hi); simp at this ⊢; omega
theorem suml_le (i : Nat) (hi : i < l.length) : F l[i] ≤ (l.map F).sum := by
  induction l generalizing i with
  | nil => simp at hi
  | cons x l ih =>
    cases i with
    | zero => simp
    | succ i => have := ih i (by simpa using hi); simp at this ⊢; omega
theorem suml_two (i j : Nat) (hi : i < l.length) (hj : j < l.length) (hne : i ≠ j) : F l[i] + F l[j] ≤ (l.map F).sum := by
  induction l generalizing i j with
  | nil => simp at hi
  | cons x l ih =>
    cases i with
    | zero =>
      cases j with
      | zero => omega
      | succ j => have := suml_le (F := F) j (by simpa using hj); simp at this ⊢; omega
    | succ i =>
      cases j with
      | zero => have := suml_le (F := F) i (by simpa using hi); simp at this ⊢; omega
      | succ j => have := ih i j (by simpa using hi) (by simpa using hj) (by omega); simp at this ⊢; omega
theorem suml_zero (h : ∀ i (hi : i < l.length), F l[i] = 0) : (l.map F).sum = 0 := by
  induction l with
  | nil => rfl
  | cons x l ih =>
    have h0 := h 0 (by simp)
    have := ih fun i hi => by have := h (i + 1) (by simpa using hi); simpa using this
    simp at h0 ⊢; omega
theorem suml_pos (h : 0 < (l.map F).sum) : ∃ i, ∃ hi : i < l.length, 0 < F l[i] := by
  by_cases c : ∃ i, ∃ hi : i < l.length, 0 < F l[i]
  · exact c
  · have e : (l.map F).sum = 0 := suml_zero fun i hi => Nat.eq_zero_of_not_pos fun k => c ⟨i, hi, k⟩
    omega
theorem suml_congr {β : Type} {G : β → Nat} {m : List β} (hl : l.length = m.length) (h : ∀ i (hi : i < l.length) (hm : i < m.length), F l[i] = G m[i]) : (l.map F).sum = (m.map G).sum := by
  induction l generalizing m with
  | nil => cases m with
    | nil => rfl
    | cons y m => simp at hl
  | cons x l ih =>
    cases m with
    | nil => simp at hl
    | cons y m =>
      have h0 := h 0 (by simp) (by simp)
      have := ih (m := m) (by simpa using hl) fun i hi hm => by have := h (i + 1) (by simpa using hi) (by simpa using hm); simpa using this
      simp at h0 ⊢; omega
theorem suml_upd {G : α → Nat} {m : List α} (hl : l.length = m.length) (j : Nat) (hj : j < l.length) (h : ∀ i (hi : i < l.length) (hm : i < m.length), i ≠ j → F l[i] = G m[i]) : (l.map F).sum + G (m[j]'(by omega)) = (m.map G).sum + F l[j] := by
  induction l generalizing m j with
  | nil => simp at hj
  | cons x l ih =>
    cases m with
    | nil => simp at hl
    | cons y m =>
      cases j with
      | zero =>
        have := suml_congr (F := F) (G := G) (l := l) (m := m) (by simpa using hl) fun i hi hm => by have := h (i + 1) (by simpa using hi) (by simpa using hm) (by omega); simpa using this
        simp at this ⊢; omega
      | succ j =>
        have h0 := h 0 (by simp) (by simp) (by omega)
        have := ih (m := m) (by simpa using hl) j (by simpa using hj) fun i hi hm hne => by have := h (i + 1) (by simpa using hi) (by simpa using hm) (by omega); simpa using this
        simp at h0 this ⊢; omega
end
open Classical in
/-- 1 of what is so, 0 of what is not -/
noncomputable def b2 (P : Prop) : Nat := if P then 1 else 0
theorem b2_yes {P : Prop} (h : P) : b2 P = 1 := by unfold b2; rw [if_pos h]
theorem b2_no {P : Prop} (h : ¬ P) : b2 P = 0 := by unfold b2; rw [if_neg h]
theorem b2_iff {P Q : Prop} (h : P ↔ Q) : b2 P = b2 Q := by rw [propext h]
theorem b2_le (P : Prop) : b2 P ≤ 1 := by unfold b2; split <;> omega
theorem b2_pos {P : Prop} (h : 0 < b2 P) : P := by unfold b2 at h; split at h; assumption; omega
/-- how often a table has a frame: for itself, for a page -/
noncomputable def sn (bs : List Int) (t f : Nat) : Nat := b2 (Mine bs t f) + sumN (fun p => b2 (pf bs t p = some f)) 4096
section
variable {n k : Nat} {a b : Nat → Prop} {bs cs : List Int} {t : Nat}
theorem Good.mine_lt (h : Good n a bs t) {f : Nat} (hm : Mine bs t f) : f < n ∧ a f := by
  rcases hm with rfl | ⟨u, h1, h2, h3⟩
  · exact ⟨h.lt, h.mine⟩
  · have := h.frame h1 h2; rw [h3] at this; exact ⟨this.1, this.2.1⟩
theorem Good.own (h : Good n a bs t) : Good n (fun f => a f ∧ Mine bs t f) bs t :=
  ⟨h.lt, ⟨h.mine, .inl rfl⟩, fun u hu => by
    by_cases c : nm bs t u = 0
    · exact .inl c
    · obtain ⟨g1, g2, g3, g4⟩ := h.frame hu c
      exact .inr ⟨_, g1, ⟨g2, .inr ⟨u, hu, c, rfl⟩⟩, g3, g4⟩, h.one, h.pg⟩
/-- a table's frames are as they were -/
def Kpt (bs cs : List Int) (t : Nat) : Prop := ∀ f, Mine bs t f → fby cs f = fby bs f
section
theorem Kpt.nm (h : Good n a bs t) (hn : n ≤ k) (hl : bs.length = k * 256) (hl' : cs.length = k * 256) (K : Kpt bs cs t) {f q : Nat} (hm : Mine bs t f) (hq : q < 64) : nm cs f q = nm bs f q := nm_of_fby hl hl' (by have := (h.mine_lt hm).1; omega) hq (K f hm)
theorem Kpt.up (h : Good n a bs t) (hn : n ≤ k) (hl : bs.length = k * 256) (hl' : cs.length = k * 256) (K : Kpt bs cs t) {u : Nat} (hu : u < 64) : Go.Proofs.YtgedimlhldfkaaaGreatDoor.nm cs t u = Go.Proofs.YtgedimlhldfkaaaGreatDoor.nm bs t u := K.nm h hn hl hl' (.inl rfl) hu
theorem Kpt.pgn (h : Good n a bs t) (hn : n ≤ k) (hl : bs.length = k * 256) (hl' : cs.length = k * 256) (K : Kpt bs cs t) {q : Nat} (hq : q < 4096) : pgn cs t q = pgn bs t q := by
  have e := K.up h hn hl hl' (u := q / 64) (by omega)
  unfold Go.Proofs.YtgedimlhldfkaaaGreatDoor.pgn lof
  rw [e]
  split
  · rfl
  · rename_i c
    exact K.nm h hn hl hl' (.inr ⟨q / 64, by omega, c, rfl⟩) (by omega)
theorem Kpt.mine (h : Good n a bs t) (hn : n ≤ k) (hl : bs.length = k * 256) (hl' : cs.length = k * 256) (K : Kpt bs cs t) (f : Nat) : Mine cs t f ↔ Mine bs t f := by
  unfold Mine lof
  constructor
  · rintro (e | ⟨u, h1, h2, h3⟩)
    · exact .inl e
    · rw [K.up h hn hl hl' h1] at h2 h3; exact .inr ⟨u, h1, h2, h3⟩
  · rintro (e | ⟨u, h1, h2, h3⟩)
    · exact .inl e
    · rw [← K.up h hn hl hl' h1] at h2 h3; exact .inr ⟨u, h1, h2, h3⟩
theorem Kpt.good (h : Good n a bs t) (hn : n ≤ k) (hl : bs.length = k * 256) (hl' : cs.length = k * 256) (K : Kpt bs cs t) (hb : ∀ f, f < n → a f → Mine bs t f → b f) : Good n b cs t :=
  (Good.other h.own fun f q hf hm hq => K.nm h hn hl hl' hm.2 hq).mark fun i hi hm => hb i hi hm.1 hm.2
theorem Kpt.sn (h : Good n a bs t) (hn : n ≤ k) (hl : bs.length = k * 256) (hl' : cs.length = k * 256) (K : Kpt bs cs t) (f : Nat) : sn cs t f = sn bs t f := by
  unfold Go.Proofs.YtgedimlhldfkaaaGreatDoor.sn
  rw [b2_iff (K.mine h hn hl hl' f), sumN_congr 4096 (F := fun p => b2 (pf cs t p = some f)) (G := fun p => b2 (pf bs t p = some f)) fun p hp => by unfold pf; rw [K.pgn h hn hl hl' hp]]
end
/-- one page's number is another one -/
theorem sn_page {p : Nat} {v : Int} (hp : p < 4096) (hm : ∀ f, Mine cs t f ↔ Mine bs t f) (h : ∀ q, q < 4096 → pgn cs t q = if q = p then v else pgn bs t q) (f : Nat) :
    sn cs t f + b2 (pf bs t p = some f) = sn bs t f + b2 (pv v = some f) := by
  have U := sumN_upd (F := fun q => b2 (pf cs t q = some f)) (G := fun q => b2 (pf bs t q = some f)) 4096 p hp fun i hi hne => by
    unfold pf; rw [h i hi, if_neg hne]
  have e : pf cs t p = pv v := by unfold pf; rw [h p hp, if_pos rfl]
  simp only [e] at U
  unfold sn
  rw [b2_iff (hm f)]; omega
/-- one frame more for an upper part -/
theorem sn_more {g : Nat} (hg : ¬ Mine bs t g) (hm : ∀ f, Mine cs t f ↔ Mine bs t f ∨ f = g) (h : ∀ q, q < 4096 → pgn cs t q = pgn bs t q) (f : Nat) : sn cs t f = sn bs t f + b2 (f = g) := by
  unfold sn
  rw [sumN_congr 4096 (F := fun p => b2 (pf cs t p = some f)) (G := fun p => b2 (pf bs t p = some f)) fun p hp => by unfold pf; rw [h p hp], b2_iff (hm f)]
  by_cases c : f = g
  · subst c; rw [b2_yes (Or.inr rfl), b2_no hg, b2_yes rfl]; omega
  · rw [b2_no c, b2_iff (show (Mine bs t f ∨ f = g) ↔ Mine bs t f from ⟨fun x => x.resolve_right c, .inl⟩)]; omega
theorem sn_mine {f : Nat} (h : Mine bs t f) : 1 ≤ sn bs t f := by unfold sn; rw [b2_yes h]; omega
theorem sn_page_le {p f : Nat} (hp : p < 4096) (h : pf bs t p = some f) : b2 (Mine bs t f) + 1 ≤ sn bs t f := by
  have := sumN_le (F := fun p => b2 (pf bs t p = some f)) 4096 p hp
  simp only [b2_yes h] at this
  unfold sn; omega
theorem sn_two {p q f : Nat} (hp : p < 4096) (hq : q < 4096) (hne : p ≠ q) (h : pf bs t p = some f) (h' : pf bs t q = some f) : 2 ≤ sn bs t f := by
  have := sumN_two (F := fun p => b2 (pf bs t p = some f)) 4096 p q hp hq hne
  simp only [b2_yes h, b2_yes h'] at this
  unfold sn; omega
theorem sn_pos {f : Nat} (h : 0 < sn bs t f) : Mine bs t f ∨ ∃ p, p < 4096 ∧ pf bs t p = some f := by
  unfold sn at h
  by_cases c : 0 < b2 (Mine bs t f)
  · exact .inl (b2_pos c)
  · obtain ⟨p, hp, h1⟩ := sumN_pos 4096 (show 0 < sumN (fun p => b2 (pf bs t p = some f)) 4096 by omega)
    exact .inr ⟨p, hp, b2_pos h1⟩
end
/-- a space: its block, its table's block, the table's first frame, its regions; is it there still? -/
structure Sq where
  sb : Nat
  tb : Nat
  t : Nat
  L : List Rg
  on : Bool
/-- how often all have a frame -/
noncomputable def sq (bs : List Int) (f : Nat) (s : Sq) : Nat := if s.on = true then sn bs s.t f else 0
noncomputable def cntS (bs : List Int) (S : List Sq) (f : Nat) : Nat := (S.map (sq bs f)).sum
/-- somebody's table has the frame -/
def Mn (bs : List Int) (S : List Sq) (f : Nat) : Prop := ∃ i, ∃ hi : i < S.length, S[i].on = true ∧ Mine bs S[i].t f
/-- tables in one row of frames, each frame had as often as it is taken, but for d of them that nobody has yet -/
structure PurD (k : Nat) (rs bs : List Int) (S : List Sq) (d : Nat → Nat) : Prop where
  hl : bs.length = k * 256
  hr : rs.length = k
  good : ∀ i (hi : i < S.length), S[i].on = true → Good k (fun f => rs.getD f 0 = 1) bs S[i].t
  fk : ∀ i (hi : i < S.length), S[i].on = true → ∀ p, p < 4096 → ∀ f, pf bs S[i].t p = some f → f < k
  cnt : ∀ f, f < k → rs.getD f 0 = ((cntS bs S f + d f : Nat) : Int)
section
variable {k : Nat} {rs bs qs cs : List Int} {S T : List Sq} {d e : Nat → Nat}
theorem PurD.mine_lt (h : PurD k rs bs S d) {i : Nat} (hi : i < S.length) (ho : S[i].on = true) {f : Nat} (hm : Mine bs S[i].t f) : f < k ∧ rs.getD f 0 = 1 := (h.good i hi ho).mine_lt hm
theorem PurD.sn_le (h : PurD k rs bs S d) {i : Nat} (hi : i < S.length) (ho : S[i].on = true) (f : Nat) : sn bs S[i].t f ≤ cntS bs S f := by
  have := suml_le (F := sq bs f) i hi
  unfold sq at this
  rw [if_pos ho] at this
  exact this
theorem PurD.sn_le2 (h : PurD k rs bs S d) {i j : Nat} (hi : i < S.length) (ho : S[i].on = true) (hj : j < S.length) (ho' : S[j].on = true) (hne : i ≠ j) (f : Nat) : sn bs S[i].t f + sn bs S[j].t f ≤ cntS bs S f := by
  have := suml_two (F := sq bs f) i j hi hj hne
  unfold sq at this
  rw [if_pos ho, if_pos ho'] at this
  exact this
/-- a frame of a table is no other one's, and no page's -/
theorem PurD.mine_one (h : PurD k rs bs S d) {i : Nat} (hi : i < S.length) (ho : S[i].on = true) {f : Nat} (hm : Mine bs S[i].t f) : d f = 0 ∧ (∀ j (hj : j < S.length), S[j].on = true → Mine bs S[j].t f → j = i) ∧ ∀ j (hj : j < S.length), S[j].on = true → ∀ p, p < 4096 → pf bs S[j].t p ≠ some f := by
  have ⟨l1, r1⟩ := h.mine_lt hi ho hm
  have c := h.cnt f l1
  have s1 := sn_mine hm
  have s2 := h.sn_le hi ho f
  refine ⟨by omega, fun j hj hoj hmj => ?_, fun j hj hoj p hp hpf => ?_⟩
  · by_cases e : j = i
    · exact e
    · have := h.sn_le2 hj hoj hi ho e f
      have := sn_mine hmj
      omega
  · by_cases e : j = i
    · subst e
      have := sn_page_le hp hpf
      rw [b2_yes hm] at this; omega
    · have := h.sn_le2 hj hoj hi ho e f
      have := sn_page_le hp hpf
      omega
theorem PurD.mn_lt (h : PurD k rs bs S d) {f : Nat} (hm : Mn bs S f) : f < k ∧ rs.getD f 0 = 1 ∧ d f = 0 := by
  obtain ⟨i, hi, ho, hm⟩ := hm
  exact ⟨(h.mine_lt hi ho hm).1, (h.mine_lt hi ho hm).2, (h.mine_one hi ho hm).1⟩
/-- a page's frame is no table's -/
theorem PurD.page_not (h : PurD k rs bs S d) {i : Nat} (hi : i < S.length) (ho : S[i].on = true) {p f : Nat} (hp : p < 4096) (hf : pf bs S[i].t p = some f) : ¬ Mn bs S f := by
  rintro ⟨j, hj, hoj, hm⟩
  exact (h.mine_one hj hoj hm).2.2 i hi ho p hp hf
theorem PurD.page_lt (h : PurD k rs bs S d) {i : Nat} (hi : i < S.length) (ho : S[i].on = true) {p f : Nat} (hp : p < 4096) (hf : pf bs S[i].t p = some f) : f < k ∧ 1 + d f ≤ rs.getD f 0 := by
  have l := h.fk i hi ho p hp f hf
  have := sn_page_le hp hf
  have := h.sn_le hi ho f
  have := h.cnt f l
  exact ⟨l, by omega⟩
/-- what nobody has -/
theorem PurD.none_of (h : PurD k rs bs S d) {f : Nat} (hf : f < k) (h0 : rs.getD f 0 = d f) : (∀ i (hi : i < S.length), S[i].on = true → ¬ Mine bs S[i].t f) ∧ ∀ i (hi : i < S.length), S[i].on = true → ∀ p, p < 4096 → pf bs S[i].t p ≠ some f := by
  have c := h.cnt f hf
  refine ⟨fun i hi ho hm => ?_, fun i hi ho p hp hpf => ?_⟩
  · have := h.sn_le hi ho f; have := sn_mine hm; omega
  · have := h.sn_le hi ho f; have := sn_page_le hp hpf; omega
/-- a step that touches one table at most: the others keep their frames -/
theorem PurD.step (h : PurD k rs bs S d) {i : Nat} (hi : i < S.length) (ho : S[i].on = true) (hl' : cs.length = k * 256) (hr' : qs.length = k) (hg : Good k (fun f => qs.getD f 0 = 1) cs S[i].t)
    (hk : ∀ p, p < 4096 → ∀ f, pf cs S[i].t p = some f → f < k)
    (K : ∀ j (hj : j < S.length), S[j].on = true → j ≠ i → Kpt bs cs S[j].t) (hq : ∀ f, Mn bs S f → qs.getD f 0 = 1)
    (hc : ∀ f, f < k → qs.getD f 0 - rs.getD f 0 = (sn cs S[i].t f : Int) - sn bs S[i].t f + (e f : Int) - d f) : PurD k qs cs S e := by
  refine ⟨hl', hr', fun j hj hoj => ?_, fun j hj hoj p hp f hf => ?_, fun f hf => ?_⟩
  · by_cases c : j = i
    · subst c; exact hg
    · exact (K j hj hoj c).good (h.good j hj hoj) (Nat.le_refl _) h.hl hl' fun f _ _ hm => hq f ⟨j, hj, hoj, hm⟩
  · by_cases c : j = i
    · subst c; exact hk p hp f hf
    · unfold pf at hf
      rw [(K j hj hoj c).pgn (h.good j hj hoj) (Nat.le_refl _) h.hl hl' hp] at hf
      exact h.fk j hj hoj p hp f hf
  · have U := suml_upd (F := sq cs f) (G := sq bs f) (l := S) (m := S) rfl i hi fun j hj _ hne => by
      unfold sq
      split
      · rename_i hoj
        exact (K j hj hoj hne).sn (h.good j hj hoj) (Nat.le_refl _) h.hl hl' f
      · rfl
    have e1 : sq cs f S[i] = sn cs S[i].t f := by unfold sq; rw [if_pos ho]
    have e2 : sq bs f S[i] = sn bs S[i].t f := by unfold sq; rw [if_pos ho]
    rw [e1, e2] at U
    have c := h.cnt f hf
    have := hc f hf
    unfold cntS at c ⊢
    omega
end
end Go.Proofs.YtgedimlhldfkaaaGreatDoor
namespace Go.Proofs.YtgedimlhldfkaaaGreatDoor
open Go.RowKit
set_option linter.unusedVariables false
set_option maxRecDepth 100000
/-- one page's number is another one -/
structure Chg (k : Nat) (bs cs : List Int) (S : List Sq) (i p : Nat) (v : Int) : Prop where
  pg : ∀ j (hj : j < S.length), S[j].on = true → ∀ q, q < 4096 → pgn cs S[j].t q = if j = i ∧ q = p then v else pgn bs S[j].t q
  up : ∀ j (hj : j < S.length), S[j].on = true → ∀ u, u < 64 → nm cs S[j].t u = nm bs S[j].t u
  bt : ∀ f, f < k → ¬ Mn bs S f → fby cs f = fby bs f
/-- one upper part has a frame that it had not -/
structure Grw (k : Nat) (bs cs : List Int) (S : List Sq) (i u g : Nat) : Prop where
  pg : ∀ j (hj : j < S.length), S[j].on = true → ∀ q, q < 4096 → pgn cs S[j].t q = pgn bs S[j].t q
  up : ∀ j (hj : j < S.length), S[j].on = true → ∀ s, s < 64 → nm cs S[j].t s = if j = i ∧ s = u then upn g else nm bs S[j].t s
  bt : ∀ f, f < k → ¬ Mn bs S f → f ≠ g → fby cs f = fby bs f
/-- no number of any table is another one -/
structure Sam (bs cs : List Int) (S : List Sq) : Prop where
  pg : ∀ j (hj : j < S.length), S[j].on = true → ∀ q, q < 4096 → pgn cs S[j].t q = pgn bs S[j].t q
  up : ∀ j (hj : j < S.length), S[j].on = true → ∀ u, u < 64 → nm cs S[j].t u = nm bs S[j].t u
theorem mine_up {bs cs : List Int} {t : Nat} (h : ∀ u, u < 64 → nm cs t u = nm bs t u) (f : Nat) : Mine cs t f ↔ Mine bs t f := by
  unfold Mine lof
  constructor
  · rintro (e | ⟨u, h1, h2, h3⟩)
    · exact .inl e
    · rw [h u h1] at h2 h3; exact .inr ⟨u, h1, h2, h3⟩
  · rintro (e | ⟨u, h1, h2, h3⟩)
    · exact .inl e
    · rw [← h u h1] at h2 h3; exact .inr ⟨u, h1, h2, h3⟩
theorem mine_grow {bs cs : List Int} {t u g : Nat} (hu : u < 64) (h0 : nm bs t u = 0) (h : ∀ s, s < 64 → nm cs t s = if s = u then upn g else nm bs t s) (f : Nat) : Mine cs t f ↔ Mine bs t f ∨ f = g := by
  have hp := upn_pos g
  unfold Mine lof
  constructor
  · rintro (e | ⟨s, h1, h2, h3⟩)
    · exact .inl (.inl e)
    · rw [h s h1] at h2 h3
      by_cases c : s = u
      · rw [if_pos c, fo_upn] at h3; exact .inr h3.symm
      · rw [if_neg c] at h2 h3; exact .inl (.inr ⟨s, h1, h2, h3⟩)
  · rintro ((e | ⟨s, h1, h2, h3⟩) | rfl)
    · exact .inl e
    · have c : s ≠ u := fun e => h2 (e ▸ h0)
      exact .inr ⟨s, h1, by rw [h s h1, if_neg c]; exact h2, by rw [h s h1, if_neg c]; exact h3⟩
    · exact .inr ⟨u, hu, by rw [h u hu, if_pos rfl]; omega, by rw [h u hu, if_pos rfl, fo_upn]⟩
theorem mn_up {bs cs : List Int} {S : List Sq} (h : ∀ j (hj : j < S.length), S[j].on = true → ∀ u, u < 64 → nm cs S[j].t u = nm bs S[j].t u) (f : Nat) : Mn cs S f ↔ Mn bs S f := by
  unfold Mn
  constructor
  · rintro ⟨i, hi, ho, hm⟩; exact ⟨i, hi, ho, (mine_up (h i hi ho) f).1 hm⟩
  · rintro ⟨i, hi, ho, hm⟩; exact ⟨i, hi, ho, (mine_up (h i hi ho) f).2 hm⟩
theorem Chg.mn {k : Nat} {bs cs : List Int} {S : List Sq} {i p : Nat} {v : Int} (h : Chg k bs cs S i p v) (f : Nat) : Mn cs S f ↔ Mn bs S f := mn_up h.up f
theorem Sam.mn {bs cs : List Int} {S : List Sq} (h : Sam bs cs S) (f : Nat) : Mn cs S f ↔ Mn bs S f := mn_up h.up f
theorem Grw.mn {k : Nat} {bs cs : List Int} {S : List Sq} {i u g : Nat} (h : Grw k bs cs S i u g) (hi : i < S.length) (ho : S[i].on = true) (hu : u < 64) (h0 : nm bs S[i].t u = 0) (f : Nat) : Mn cs S f ↔ Mn bs S f ∨ f = g := by
  have own : ∀ j (hj : j < S.length), S[j].on = true → (Mine cs S[j].t f ↔ Mine bs S[j].t f ∨ (j = i ∧ f = g)) := fun j hj hoj => by
    by_cases c : j = i
    · subst c
      rw [mine_grow (g := g) hu h0 (fun s hs => by rw [h.up j hj hoj s hs]; simp) f]; simp
    · rw [mine_up (bs := bs) (cs := cs) (t := S[j].t) (fun s hs => by rw [h.up j hj hoj s hs, if_neg (fun x => c x.1)]) f]; simp [c]
  unfold Mn
  constructor
  · rintro ⟨j, hj, hoj, hm⟩
    rcases (own j hj hoj).1 hm with hm | hm
    · exact .inl ⟨j, hj, hoj, hm⟩
    · exact .inr hm.2
  · rintro (⟨j, hj, hoj, hm⟩ | e)
    · exact ⟨j, hj, hoj, (own j hj hoj).2 (.inl hm)⟩
    · exact ⟨i, hi, ho, (own i hi ho).2 (.inr ⟨rfl, e⟩)⟩
section
variable {k : Nat} {rs bs qs cs : List Int} {S T : List Sq} {d e : Nat → Nat}
/-- other numbers of how often frames are taken, and of whom nobody has yet -/
theorem PurD.refs (h : PurD k rs bs S d) (hr' : qs.length = k) (hm : ∀ f, Mn bs S f → qs.getD f 0 = 1) (hc : ∀ f, f < k → qs.getD f 0 - rs.getD f 0 = (e f : Int) - d f) : PurD k qs bs S e :=
  ⟨h.hl, hr', fun i hi ho => (h.good i hi ho).own.mark fun f hf hx => hm f ⟨i, hi, ho, hx.2⟩, h.fk, fun f hf => by have := h.cnt f hf; have := hc f hf; omega⟩
/-- the entry of a page that has a place for it -/
theorem PurD.lay (h : PurD k rs bs S d) {i : Nat} (hi : i < S.length) (ho : S[i].on = true) {p : Nat} {v : Int} (hp : p < 4096) (h1 : nm bs S[i].t (p / 64) ≠ 0) (hv : Pn v) (v0 : 0 ≤ v) (v1 : v ≤ 4294967295) (hf : ∀ f, pv v = some f → f < k)
    (he : ∀ f, f < k → e f + b2 (pv v = some f) = d f + b2 (pf bs S[i].t p = some f)) :
    PurD k rs (pt bs (lof bs S[i].t (p / 64)) (p % 64) v) S e ∧ Chg k bs (pt bs (lof bs S[i].t (p / 64)) (p % 64) v) S i p v := by
  have g := h.good i hi ho
  have hmF : Mine bs S[i].t (lof bs S[i].t (p / 64)) := .inr ⟨p / 64, by omega, h1, rfl⟩
  obtain ⟨f1, f2⟩ := h.mine_lt hi ho hmF
  have hl' : (pt bs (lof bs S[i].t (p / 64)) (p % 64) v).length = k * 256 := pt_len h.hl f1 (by omega)
  have U := up_lay (p := p % 64) (v := v) g h.hl (Nat.le_refl _) (show p / 64 < 64 by omega) (by omega) h1 v0 v1
  have P := pgn_lay (v := v) g h.hl (Nat.le_refl _) hp h1 v0 v1
  have G := g.lay (p := p % 64) (v := v) h.hl (Nat.le_refl _) (show p / 64 < 64 by omega) (by omega) h1 hv v0 v1
  have M := mine_up U
  have B : ∀ f, f < k → f ≠ lof bs S[i].t (p / 64) → fby (pt bs (lof bs S[i].t (p / 64)) (p % 64) v) f = fby bs f := fun f hf hne => fby_pt h.hl v f1 hf (by omega) (fun e => hne e.symm)
  have K : ∀ j (hj : j < S.length), S[j].on = true → j ≠ i → Kpt bs (pt bs (lof bs S[i].t (p / 64)) (p % 64) v) S[j].t := fun j hj hoj hne f hm =>
    B f (h.mine_lt hj hoj hm).1 fun e => hne ((h.mine_one hi ho hmF).2.1 j hj hoj (e ▸ hm))
  generalize pt bs (lof bs S[i].t (p / 64)) (p % 64) v = cs at *
  refine ⟨h.step hi ho hl' h.hr G (fun q hq f hpf => ?_) K (fun f hm => (h.mn_lt hm).2.1) (fun f hk => ?_), ⟨fun j hj hoj q hq => ?_, fun j hj hoj u hu => ?_, fun f hk hm => B f hk fun e => hm ⟨i, hi, ho, e ▸ hmF⟩⟩⟩
  · unfold pf at hpf
    rw [P q hq] at hpf
    split at hpf
    · exact hf f hpf
    · exact h.fk i hi ho q hq f hpf
  · have := sn_page hp M P f
    have := he f hk
    omega
  · by_cases c : j = i
    · subst c; rw [P q hq]; simp
    · rw [(K j hj hoj c).pgn (h.good j hj hoj) (Nat.le_refl _) h.hl hl' hq, if_neg (fun x => c x.1)]
  · by_cases c : j = i
    · subst c; exact U u hu
    · exact (K j hj hoj c).up (h.good j hj hoj) (Nat.le_refl _) h.hl hl' hu
/-- a frame for an upper part that has none -/
theorem PurD.grow (h : PurD k rs bs S d) {i : Nat} (hi : i < S.length) (ho : S[i].on = true) {u g : Nat} (hu : u < 64) (h0 : nm bs S[i].t u = 0) (hg : g < k) (hk : k ≤ 1024) (hz : rs.getD g 0 = 0) :
    PurD k (rs.set g 1) (nw bs S[i].t u g) S d ∧ Grw k bs (nw bs S[i].t u g) S i u g := by
  have gd := h.good i hi ho
  have hd : d g = 0 := by have := h.cnt g hg; omega
  have hno := h.none_of hg (by rw [hz, hd]; rfl)
  have ht := gd.lt
  have hna : ¬ rs.getD g 0 = 1 := by omega
  have hr : g < rs.length := by rw [h.hr]; exact hg
  have hl' := nw_len (t := S[i].t) (u := u) (i := g) h.hl hg ht hu
  have U := up_grow gd h.hl (Nat.le_refl _) hg (by omega) hu hna
  have P := pgn_grow gd h.hl (Nat.le_refl _) hg (by omega) hu h0 hna
  have S1 := fun f => getD_set rs g f 1 hr
  have G := gd.grow (u := u) (i := g) h.hl (Nat.le_refl _) hg (by omega) hu h0 hna (b := fun j => (rs.set g 1).getD j 0 = 1) (fun j hj a => by show (rs.set g 1).getD j 0 = 1; rw [S1]; split; rfl; exact a) (by show (rs.set g 1).getD g 0 = 1; rw [S1, if_pos rfl])
  have M := mine_grow hu h0 U
  have B : ∀ f, f < k → f ≠ S[i].t → f ≠ g → fby (nw bs S[i].t u g) f = fby bs f := fun f hf h1 h2 => fby_nw h.hl ht hg hu hf h1 h2
  have K : ∀ j (hj : j < S.length), S[j].on = true → j ≠ i → Kpt bs (nw bs S[i].t u g) S[j].t := fun j hj hoj hne f hm =>
    B f (h.mine_lt hj hoj hm).1 (fun e => hne ((h.mine_one hi ho (.inl rfl)).2.1 j hj hoj (e ▸ hm))) (fun e => hno.1 j hj hoj (e ▸ hm))
  generalize nw bs S[i].t u g = cs at *
  refine ⟨h.step hi ho hl' (by rw [List.length_set]; exact h.hr) G (fun q hq f hpf => ?_) K (fun f hm => by rw [S1]; split; rfl; exact (h.mn_lt hm).2.1) (fun f hk => ?_), ⟨fun j hj hoj q hq => ?_, fun j hj hoj s hs => ?_, fun f hk hm hne => B f hk (fun e => hm ⟨i, hi, ho, .inl e⟩) hne⟩⟩
  · unfold pf at hpf
    rw [P q hq] at hpf
    exact h.fk i hi ho q hq f hpf
  · have := sn_more (hno.1 i hi ho) M P f
    rw [S1]
    by_cases c : f = g
    · subst c; rw [b2_yes rfl] at this; rw [if_pos rfl]; omega
    · rw [b2_no c] at this; rw [if_neg c]; omega
  · by_cases c : j = i
    · subst c; exact P q hq
    · exact (K j hj hoj c).pgn (h.good j hj hoj) (Nat.le_refl _) h.hl hl' hq
  · by_cases c : j = i
    · subst c; rw [U s hs]; simp
    · rw [(K j hj hoj c).up (h.good j hj hoj) (Nat.le_refl _) h.hl hl' hs, if_neg (fun x => c x.1)]
/-- other bytes where no table has its frames -/
theorem PurD.data (h : PurD k rs bs S d) (hl' : cs.length = k * 256) (hb : ∀ f, f < k → Mn bs S f → fby cs f = fby bs f) : PurD k rs cs S d ∧ Sam bs cs S := by
  have K : ∀ j (hj : j < S.length), S[j].on = true → Kpt bs cs S[j].t := fun j hj hoj f hm => hb f (h.mine_lt hj hoj hm).1 ⟨j, hj, hoj, hm⟩
  have P := fun j (hj : j < S.length) (hoj : S[j].on = true) q (hq : q < 4096) => (K j hj hoj).pgn (h.good j hj hoj) (Nat.le_refl _) h.hl hl' hq
  refine ⟨⟨hl', h.hr, fun j hj hoj => (K j hj hoj).good (h.good j hj hoj) (Nat.le_refl _) h.hl hl' fun f _ a _ => a, fun j hj hoj p hp f hf => ?_, fun f hf => ?_⟩, ⟨P, fun j hj hoj u hu => (K j hj hoj).up (h.good j hj hoj) (Nat.le_refl _) h.hl hl' hu⟩⟩
  · unfold pf at hf; rw [P j hj hoj p hp] at hf; exact h.fk j hj hoj p hp f hf
  · rw [h.cnt f hf]
    have : cntS cs S f = cntS bs S f := suml_congr rfl fun j hj _ => by
      unfold sq
      split
      · rename_i hoj; exact (K j hj hoj).sn (h.good j hj hoj) (Nat.le_refl _) h.hl hl' f
      · rfl
    rw [this]
/-- regions are no part of it -/
theorem PurD.same (h : PurD k rs bs S d) (hl : T.length = S.length) (he : ∀ i (hi : i < S.length) (hi' : i < T.length), T[i].t = S[i].t ∧ T[i].on = S[i].on) : PurD k rs bs T d := by
  refine ⟨h.hl, h.hr, fun i hi ho => ?_, fun i hi ho => ?_, fun f hf => ?_⟩
  · have := he i (by omega) hi; rw [this.1]; exact h.good i (by omega) (by rw [← this.2]; exact ho)
  · have := he i (by omega) hi; rw [this.1]; exact h.fk i (by omega) (by rw [← this.2]; exact ho)
  · rw [h.cnt f hf]
    have : cntS bs T f = cntS bs S f := suml_congr hl fun i hi hi' => by unfold sq; rw [(he i hi' hi).1, (he i hi' hi).2]
    rw [this]
/-- a table more, in a frame that nobody has -/
theorem PurD.push (h : PurD k rs bs S d) {g : Nat} (hg : g < k) (hz : rs.getD g 0 = 0) (s : Sq) (hs : s.t = g) (ho : s.on = true) :
    PurD k (rs.set g 1) (zr bs g) (S ++ [s]) d ∧ Sam bs (zr bs g) S ∧ (∀ u, u < 64 → nm (zr bs g) g u = 0) ∧ (∀ f, f < k → f ≠ g → fby (zr bs g) f = fby bs f) := by
  have hd : d g = 0 := by have := h.cnt g hg; omega
  have hno := h.none_of hg (by rw [hz, hd]; rfl)
  have hl' := zr_len h.hl hg
  have hr : g < rs.length := by rw [h.hr]; exact hg
  have S1 := fun f => getD_set rs g f 1 hr
  have B := fun f (hf : f < k) => fby_zr h.hl hg hf
  obtain ⟨h2, sm⟩ := h.data hl' fun f hf ⟨j, hj, hoj, hm⟩ => by
    rw [B f hf]; exact if_neg (fun (e : f = g) => hno.1 j hj hoj (e ▸ hm))
  have Z : ∀ u, u < 64 → nm (zr bs g) g u = 0 := fun u hu => by rw [zr_nm h.hl hg g u hu, if_pos rfl]
  have G : Good k (fun f => (rs.set g 1).getD f 0 = 1) (zr bs g) g := Good.start h.hl (Nat.le_refl _) hg (by show (rs.set g 1).getD g 0 = 1; rw [S1, if_pos rfl])
  have M : ∀ f, Mine (zr bs g) g f ↔ f = g := fun f => ⟨fun hm => hm.elim id fun ⟨u, h1, h2, _⟩ => absurd (Z u h1) h2, .inl⟩
  have P : ∀ q, q < 4096 → pf (zr bs g) g q = none := fun q hq => pf_none.2 (pgn_none Z q hq)
  have hno2 := h2.none_of hg (by rw [hz, hd]; rfl)
  refine ⟨⟨hl', by rw [List.length_set]; exact h.hr, fun i hi hoi => ?_, fun i hi hoi p hp f hf => ?_, fun f hf => ?_⟩, sm, Z, fun f hf hne => by rw [B f hf, if_neg hne]⟩
  · by_cases c : i < S.length
    · rw [List.getElem_append_left c] at hoi ⊢
      refine (h2.good i c hoi).own.mark fun f hf hx => ?_
      show (rs.set g 1).getD f 0 = 1
      rw [S1]; split
      · rfl
      · exact hx.1
    · have e : i = S.length := by simp at hi; omega
      subst e
      rw [List.getElem_append_right (Nat.le_refl _)] at hoi ⊢
      simp only [Nat.sub_self, List.getElem_cons_zero] at hoi ⊢
      rw [hs]; exact G
  · by_cases c : i < S.length
    · rw [List.getElem_append_left c] at hoi hf
      exact h2.fk i c hoi p hp f hf
    · have e : i = S.length := by simp at hi; omega
      subst e
      rw [List.getElem_append_right (Nat.le_refl _)] at hf
      simp only [Nat.sub_self, List.getElem_cons_zero] at hf
      rw [hs, P p hp] at hf; cases hf
  · have e : cntS (zr bs g) (S ++ [s]) f = cntS (zr bs g) S f + sn (zr bs g) g f := by
      unfold cntS; rw [List.map_append, List.sum_append]; simp [sq, ho, hs]
    have e2 : sn (zr bs g) g f = b2 (f = g) := by
      unfold sn; rw [b2_iff (M f), sumN_zero 4096 fun p hp => b2_no (by rw [P p hp]; intro x; cases x)]
      omega
    have c := h2.cnt f hf
    rw [e, e2, S1]
    by_cases x : f = g
    · subst x; rw [if_pos rfl, b2_yes rfl]; omega
    · rw [if_neg x, b2_no x]; omega
/-- a table less: what it had nobody has -/
theorem PurD.off (h : PurD k rs bs S d) {i : Nat} (hi : i < S.length) (ho : S[i].on = true) (s : Sq) (hs : s.on = false) : PurD k rs bs (S.set i s) (fun f => d f + sn bs S[i].t f) := by
  refine ⟨h.hl, h.hr, fun j hj hoj => ?_, fun j hj hoj p hp f hf => ?_, fun f hf => ?_⟩
  · have hj' : j < S.length := by simpa using hj
    rw [List.getElem_set] at hoj ⊢
    split at hoj
    · rw [hs] at hoj; cases hoj
    · rename_i c; simp only [if_neg c] ; exact h.good j hj' hoj
  · have hj' : j < S.length := by simpa using hj
    rw [List.getElem_set] at hoj hf
    split at hoj
    · rw [hs] at hoj; cases hoj
    · rename_i c; simp only [if_neg c] at hf; exact h.fk j hj' hoj p hp f hf
  · have U := suml_set (F := sq bs f) (l := S) i hi s
    have e1 : sq bs f s = 0 := by unfold sq; rw [hs]; rfl
    have e2 : sq bs f S[i] = sn bs S[i].t f := by unfold sq; rw [if_pos ho]
    have c := h.cnt f hf
    unfold cntS at c ⊢
    omega
end
end Go.Proofs.YtgedimlhldfkaaaGreatDoor
