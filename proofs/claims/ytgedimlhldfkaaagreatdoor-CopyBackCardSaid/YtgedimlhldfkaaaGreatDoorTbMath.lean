/- Plain facts on tables of two levels, of no program: numbers of four bytes in frames of bytes, and what a table is in them. -/
import Derived.Test.YtgedimlhldfkaaaGreatDoorPhMath
import Derived.Test.YtgedimlhldfkaaaGreatDoorEnE
namespace Go.Proofs.YtgedimlhldfkaaaGreatDoor
open Go.RowKit
set_option linter.unusedVariables false
set_option maxRecDepth 100000
/-- the number at a place of a frame -/
def nm (bs : List Int) (f p : Nat) : Int := bs.getD (f * 256 + 4 * p) 0 + 256 * bs.getD (f * 256 + 4 * p + 1) 0 + 65536 * bs.getD (f * 256 + 4 * p + 2) 0 + 16777216 * bs.getD (f * 256 + 4 * p + 3) 0
/-- a number's bytes -/
def by4 (v : Int) : List Int := [v % 256, v / 256 % 256, v / 65536 % 256, v / 16777216]
/-- a number laid down at a place of a frame -/
def pt (bs : List Int) (f p : Nat) (v : Int) : List Int := splice bs (f * 256 + 4 * p) (by4 v)
/-- a frame made noughts -/
def zr (bs : List Int) (f : Nat) : List Int := splice bs (f * 256) (List.replicate 256 0)
theorem by4_oct (v : Int) (h0 : 0 ≤ v) (h1 : v ≤ 4294967295) : Oct (by4 v) := by
  intro x hx
  simp only [by4, List.mem_cons, List.not_mem_nil, or_false] at hx
  omega
theorem nm_bd {bs : List Int} (h : Oct bs) (f p : Nat) : 0 ≤ nm bs f p ∧ nm bs f p ≤ 4294967295 := by
  have h0 := h.get (f * 256 + 4 * p)
  have h1 := h.get (f * 256 + 4 * p + 1)
  have h2 := h.get (f * 256 + 4 * p + 2)
  have h3 := h.get (f * 256 + 4 * p + 3)
  unfold nm; omega
theorem pt_len {bs : List Int} {many f p : Nat} {v : Int} (hl : bs.length = many * 256) (hf : f < many) (hp : p < 64) : (pt bs f p v).length = many * 256 := by
  unfold pt; rw [splice_len _ _ _ (by simp [by4]; omega)]; exact hl
theorem zr_len {bs : List Int} {many f : Nat} (hl : bs.length = many * 256) (hf : f < many) : (zr bs f).length = many * 256 := by
  unfold zr; rw [splice_len _ _ _ (by rw [List.length_replicate]; omega)]; exact hl
theorem pt_get {bs : List Int} {many f p : Nat} {v : Int} (hl : bs.length = many * 256) (hf : f < many) (hp : p < 64) (i : Nat) :
    (pt bs f p v).getD i 0 = if f * 256 + 4 * p ≤ i ∧ i < f * 256 + 4 * p + 4 then (by4 v).getD (i - (f * 256 + 4 * p)) 0 else bs.getD i 0 := by
  unfold pt; rw [splice_get _ _ _ (by simp [by4]; omega)]; rfl
theorem zr_get {bs : List Int} {many f : Nat} (hl : bs.length = many * 256) (hf : f < many) (i : Nat) : (zr bs f).getD i 0 = if f * 256 ≤ i ∧ i < f * 256 + 256 then 0 else bs.getD i 0 := by
  unfold zr
  rw [splice_get _ _ _ (by rw [List.length_replicate]; omega), List.length_replicate]
  split
  · exact zeros_get _ _
  · rfl
theorem pt_nm {bs : List Int} {many f p : Nat} {v : Int} (hl : bs.length = many * 256) (hf : f < many) (hp : p < 64) (h0 : 0 ≤ v) (h1 : v ≤ 4294967295) (g q : Nat) (hq : q < 64) :
    nm (pt bs f p v) g q = if g = f ∧ q = p then v else nm bs g q := by
  have G := pt_get (v := v) hl hf hp
  unfold nm
  rw [G, G, G, G]
  by_cases c : g = f ∧ q = p
  · obtain ⟨rfl, rfl⟩ := c
    rw [if_pos ⟨by omega, by omega⟩, if_pos ⟨by omega, by omega⟩, if_pos ⟨by omega, by omega⟩, if_pos ⟨by omega, by omega⟩, if_pos ⟨rfl, rfl⟩]
    rw [show g * 256 + 4 * q - (g * 256 + 4 * q) = 0 from by omega, show g * 256 + 4 * q + 1 - (g * 256 + 4 * q) = 1 from by omega, show g * 256 + 4 * q + 2 - (g * 256 + 4 * q) = 2 from by omega, show g * 256 + 4 * q + 3 - (g * 256 + 4 * q) = 3 from by omega]
    show v % 256 + 256 * (v / 256 % 256) + 65536 * (v / 65536 % 256) + 16777216 * (v / 16777216) = v
    omega
  · rw [if_neg c, if_neg (by omega), if_neg (by omega), if_neg (by omega), if_neg (by omega)]
theorem zr_nm {bs : List Int} {many f : Nat} (hl : bs.length = many * 256) (hf : f < many) (g q : Nat) (hq : q < 64) :
    nm (zr bs f) g q = if g = f then 0 else nm bs g q := by
  have G := zr_get hl hf
  unfold nm
  rw [G, G, G, G]
  by_cases c : g = f
  · subst c
    rw [if_pos ⟨by omega, by omega⟩, if_pos ⟨by omega, by omega⟩, if_pos ⟨by omega, by omega⟩, if_pos ⟨by omega, by omega⟩, if_pos rfl]; rfl
  · rw [if_neg c, if_neg (by omega), if_neg (by omega), if_neg (by omega), if_neg (by omega)]
/-- the number of the entry of a frame with lower parts -/
def upn (i : Nat) : Int := (i : Int) * 256 + 129
/-- which frame an upper part's number tells -/
def fo (v : Int) : Nat := (v / 256).toNat
theorem fo_upn (i : Nat) : fo (upn i) = i := by unfold fo upn; omega
theorem upn_pos (i : Nat) : 129 ≤ upn i := by unfold upn; omega
theorem upn_is (i : Nat) (h : i < 1024) : EnNum (upn i) := by unfold EnNum upn; omega
/-- a number that is no entry's, 0 excepted, is none of a table's -/
def Pn (v : Int) : Prop := v = 0 ∨ (1 ≤ v ∧ EnNum v)
theorem Pn.zero : Pn 0 := .inl rfl
/-- a table in frames of bytes: its first frame, its upper parts, its pages; n: only frames below n are had by it, and each of them has the mark a -/
structure Good (n : Nat) (a : Nat → Prop) (bs : List Int) (t : Nat) : Prop where
  lt : t < n
  mine : a t
  up : ∀ u, u < 64 → nm bs t u = 0 ∨ ∃ i, i < n ∧ a i ∧ i ≠ t ∧ nm bs t u = upn i
  one : ∀ u s, u < 64 → s < 64 → nm bs t u ≠ 0 → nm bs t u = nm bs t s → u = s
  pg : ∀ u p, u < 64 → p < 64 → nm bs t u ≠ 0 → Pn (nm bs (fo (nm bs t u)) p)
/-- the frame of the lower parts of an upper one -/
def lof (bs : List Int) (t u : Nat) : Nat := fo (nm bs t u)
/-- a page's number; 0 of none -/
def pgn (bs : List Int) (t p : Nat) : Int := if nm bs t (p / 64) = 0 then 0 else nm bs (lof bs t (p / 64)) (p % 64)
section
variable {n : Nat} {a : Nat → Prop} {bs : List Int} {t : Nat}
theorem Good.frame (h : Good n a bs t) {u : Nat} (hu : u < 64) (hn : nm bs t u ≠ 0) : lof bs t u < n ∧ a (lof bs t u) ∧ lof bs t u ≠ t ∧ nm bs t u = upn (lof bs t u) := by
  rcases h.up u hu with h0 | ⟨i, h1, h2, h3, h4⟩
  · exact absurd h0 hn
  · have e : lof bs t u = i := by unfold lof; rw [h4, fo_upn]
    rw [e]; exact ⟨h1, h2, h3, h4⟩
theorem Good.apart (h : Good n a bs t) {u s : Nat} (hu : u < 64) (hs : s < 64) (h1 : nm bs t u ≠ 0) (h2 : nm bs t s ≠ 0) (e : lof bs t u = lof bs t s) : u = s :=
  h.one u s hu hs h1 (by rw [(h.frame hu h1).2.2.2, (h.frame hs h2).2.2.2, e])
theorem Good.pn (h : Good n a bs t) (p : Nat) (hp : p < 4096) : Pn (pgn bs t p) := by
  unfold pgn
  split
  · exact Pn.zero
  · exact h.pg _ _ (by omega) (by omega) (by assumption)
theorem Good.mark {b : Nat → Prop} (h : Good n a bs t) (k : ∀ i, i < n → a i → b i) : Good n b bs t :=
  ⟨h.lt, k _ h.lt h.mine, fun u hu => (h.up u hu).imp id fun ⟨i, h1, h2, h3⟩ => ⟨i, h1, k i h1 h2, h3⟩, h.one, h.pg⟩
/-- other bytes where none of the table's frames is -/
theorem Good.other {cs : List Int} (h : Good n a bs t) (k : ∀ f q, f < n → a f → q < 64 → nm cs f q = nm bs f q) : Good n a cs t := by
  have e : ∀ u, u < 64 → nm cs t u = nm bs t u := fun u hu => k t u h.lt h.mine hu
  refine ⟨h.lt, h.mine, fun u hu => by rw [e u hu]; exact h.up u hu, fun u s hu hs h1 h2 => ?_, fun u p hu hp h1 => ?_⟩
  · rw [e u hu] at h1 h2; rw [e s hs] at h2; exact h.one u s hu hs h1 h2
  · rw [e u hu] at h1 ⊢
    obtain ⟨f1, f2, f3, f4⟩ := h.frame hu h1
    show Pn (nm cs (lof bs t u) p)
    rw [k _ p f1 f2 hp]; exact h.pg u p hu hp h1
theorem Good.lay {many : Nat} (h : Good n a bs t) (hl : bs.length = many * 256) (hn : n ≤ many) {u p : Nat} {v : Int} (hu : u < 64) (hp : p < 64) (h1 : nm bs t u ≠ 0) (hv : Pn v) (hv0 : 0 ≤ v) (hv1 : v ≤ 4294967295) : Good n a (pt bs (lof bs t u) p v) t := by
  obtain ⟨f1, f2, f3, f4⟩ := h.frame hu h1
  have G := pt_nm (v := v) (f := lof bs t u) (p := p) hl (by omega) hp hv0 hv1
  have e : ∀ s, s < 64 → nm (pt bs (lof bs t u) p v) t s = nm bs t s := fun s hs => by rw [G _ _ hs, if_neg (fun c => f3 c.1.symm)]
  refine ⟨h.lt, h.mine, fun s hs => by rw [e s hs]; exact h.up s hs, fun s r hs hr k1 k2 => ?_, fun s q hs hq k1 => ?_⟩
  · rw [e s hs] at k1 k2; rw [e r hr] at k2; exact h.one s r hs hr k1 k2
  · rw [e s hs] at k1 ⊢
    rw [G _ _ hq]
    split
    · exact hv
    · exact h.pg s q hs hq k1
theorem pgn_lay {many : Nat} (h : Good n a bs t) (hl : bs.length = many * 256) (hn : n ≤ many) {p : Nat} {v : Int} (hp : p < 4096) (h1 : nm bs t (p / 64) ≠ 0) (hv0 : 0 ≤ v) (hv1 : v ≤ 4294967295) (q : Nat) (hq : q < 4096) :
    pgn (pt bs (lof bs t (p / 64)) (p % 64) v) t q = if q = p then v else pgn bs t q := by
  obtain ⟨f1, f2, f3, f4⟩ := h.frame (u := p / 64) (by omega) h1
  have ap := fun c1 => h.apart (u := q / 64) (s := p / 64) (by omega) (by omega) c1 h1
  have G := pt_nm (v := v) (f := lof bs t (p / 64)) (p := p % 64) hl (by omega) (by omega) hv0 hv1
  generalize hF : lof bs t (p / 64) = F at *
  have e : ∀ s, s < 64 → nm (pt bs F (p % 64) v) t s = nm bs t s := fun s hs => by rw [G _ _ hs, if_neg (fun c => f3 c.1.symm)]
  have el : lof (pt bs F (p % 64) v) t (q / 64) = lof bs t (q / 64) := by unfold lof; rw [e _ (by omega)]
  unfold pgn
  rw [e _ (show q / 64 < 64 by omega), el]
  by_cases c : q = p
  · subst c
    rw [if_pos rfl, if_neg h1, hF]
    have := G F (q % 64) (by omega)
    rw [if_pos ⟨rfl, rfl⟩] at this
    exact this
  · rw [if_neg c]
    split
    · rfl
    · rename_i k1
      have := G (lof bs t (q / 64)) (q % 64) (by omega)
      rw [if_neg] at this
      · exact this
      · rintro ⟨c1, c2⟩
        have := ap k1 c1
        omega
theorem up_lay {many : Nat} (h : Good n a bs t) (hl : bs.length = many * 256) (hn : n ≤ many) {u p : Nat} {v : Int} (hu : u < 64) (hp : p < 64) (h1 : nm bs t u ≠ 0) (hv0 : 0 ≤ v) (hv1 : v ≤ 4294967295) (s : Nat) (hs : s < 64) :
    nm (pt bs (lof bs t u) p v) t s = nm bs t s := by
  obtain ⟨f1, f2, f3, f4⟩ := h.frame hu h1
  rw [pt_nm (v := v) (f := lof bs t u) (p := p) hl (by omega) hp hv0 hv1 _ _ hs, if_neg (fun c => f3 c.1.symm)]
/-- a new frame for an upper part -/
def nw (bs : List Int) (t u i : Nat) : List Int := pt (zr bs i) t u (upn i)
theorem nw_nm {many : Nat} (hl : bs.length = many * 256) {u i : Nat} (hi : i < many) (ht : t < many) (h10 : i < 1024) (hu : u < 64) (g q : Nat) (hq : q < 64) :
    nm (nw bs t u i) g q = if g = t ∧ q = u then upn i else if g = i then 0 else nm bs g q := by
  unfold nw
  rw [pt_nm (zr_len hl hi) ht hu (by have := upn_pos i; omega) (by unfold upn; omega) g q hq, zr_nm hl hi g q hq]
theorem nw_len {many : Nat} (hl : bs.length = many * 256) {u i : Nat} (hi : i < many) (ht : t < many) (hu : u < 64) : (nw bs t u i).length = many * 256 := pt_len (zr_len hl hi) ht hu
theorem Good.grow {many : Nat} (h : Good n a bs t) (hl : bs.length = many * 256) (hn : n ≤ many) {u i : Nat} (hi : i < n) (h10 : i < 1024) (hu : u < 64) (h0 : nm bs t u = 0) (hna : ¬ a i) {b : Nat → Prop} (hb : ∀ j, j < n → a j → b j) (hbi : b i) : Good n b (nw bs t u i) t := by
  have ht := h.lt
  have hit : i ≠ t := fun e => hna (e ▸ h.mine)
  have G := nw_nm (t := t) (u := u) (i := i) hl (by omega) (by omega) h10 hu
  have e : ∀ s, s < 64 → nm (nw bs t u i) t s = if s = u then upn i else nm bs t s := fun s hs => by
    rw [G _ _ hs]
    by_cases c : s = u
    · rw [if_pos ⟨rfl, c⟩, if_pos c]
    · rw [if_neg (fun k => c k.2), if_neg (fun k => hit k.symm), if_neg c]
  have ap : ∀ s, s < 64 → nm bs t s ≠ upn i := fun s hs k => by
    have := h.frame hs (by rw [k]; have := upn_pos i; omega)
    have e2 : lof bs t s = i := by unfold lof; rw [k, fo_upn]
    rw [e2] at this
    exact hna this.2.1
  refine ⟨h.lt, hb _ h.lt h.mine, fun s hs => ?_, fun s r hs hr k1 k2 => ?_, fun s q hs hq k1 => ?_⟩
  · rw [e s hs]
    split
    · exact .inr ⟨i, hi, hbi, hit, rfl⟩
    · exact (h.up s hs).imp id fun ⟨j, h1, h2, h3⟩ => ⟨j, h1, hb j h1 h2, h3⟩
  · rw [e s hs] at k1 k2; rw [e r hr] at k2
    by_cases c1 : s = u
    · by_cases c2 : r = u
      · rw [c1, c2]
      · rw [if_pos c1, if_neg c2] at k2; exact absurd k2.symm (ap r hr)
    · rw [if_neg c1] at k1 k2
      by_cases c2 : r = u
      · rw [if_pos c2] at k2; exact absurd k2 (ap s hs)
      · rw [if_neg c2] at k2; exact h.one s r hs hr k1 k2
  · rw [e s hs] at k1 ⊢
    rw [G _ _ hq]
    by_cases c1 : s = u
    · rw [if_pos c1, fo_upn, if_neg (fun k => hit k.1), if_pos rfl]; exact Pn.zero
    · rw [if_neg c1] at k1 ⊢
      obtain ⟨f1, f2, f3, f4⟩ := h.frame hs k1
      rw [if_neg (fun k => f3 k.1), if_neg (fun (k : fo (nm bs t s) = i) => hna (by have g := f2; unfold lof at g; rwa [k] at g))]
      exact h.pg s q hs hq k1
theorem up_grow {many : Nat} (h : Good n a bs t) (hl : bs.length = many * 256) (hn : n ≤ many) {u i : Nat} (hi : i < n) (h10 : i < 1024) (hu : u < 64) (hna : ¬ a i) (s : Nat) (hs : s < 64) :
    nm (nw bs t u i) t s = if s = u then upn i else nm bs t s := by
  have ht := h.lt
  have hit : i ≠ t := fun e => hna (e ▸ h.mine)
  rw [nw_nm (t := t) (u := u) (i := i) hl (by omega) (by omega) h10 hu _ _ hs]
  by_cases c : s = u
  · rw [if_pos ⟨rfl, c⟩, if_pos c]
  · rw [if_neg (fun k => c k.2), if_neg (fun k => hit k.symm), if_neg c]
theorem pgn_grow {many : Nat} (h : Good n a bs t) (hl : bs.length = many * 256) (hn : n ≤ many) {u i : Nat} (hi : i < n) (h10 : i < 1024) (hu : u < 64) (h0 : nm bs t u = 0) (hna : ¬ a i) (q : Nat) (hq : q < 4096) :
    pgn (nw bs t u i) t q = pgn bs t q := by
  have ht := h.lt
  have hit : i ≠ t := fun e => hna (e ▸ h.mine)
  have G := nw_nm (t := t) (u := u) (i := i) hl (by omega) (by omega) h10 hu
  have eu := up_grow h hl hn hi h10 hu hna _ (show q / 64 < 64 by omega)
  unfold pgn lof
  rw [eu]
  by_cases c : q / 64 = u
  · rw [if_pos c, c, if_pos h0, if_neg (by have := upn_pos i; omega), fo_upn, G _ _ (by omega), if_neg (fun k => hit k.1), if_pos rfl]
  · rw [if_neg c]
    split
    · rfl
    · rename_i k1
      obtain ⟨f1, f2, f3, f4⟩ := h.frame (u := q / 64) (by omega) k1
      rw [G _ _ (by omega), if_neg (fun k => f3 k.1), if_neg (fun (k : fo (nm bs t (q / 64)) = i) => hna (by have g := f2; unfold lof at g; rwa [k] at g))]
/-- a table that was just made -/
theorem Good.start {many : Nat} {cs : List Int} (hl : cs.length = many * 256) (hn : n ≤ many) {i : Nat} (hi : i < n) (ha : a i) : Good n a (zr cs i) i := by
  have G := fun q hq => zr_nm hl (show i < many by omega) i q hq
  simp only [if_true] at G
  exact ⟨hi, ha, fun u hu => .inl (G u hu), fun u s hu hs k1 _ => absurd (G u hu) k1, fun u p hu hp k1 => absurd (G u hu) k1⟩
end
/-- the first k upper parts that have a frame, and their frames -/
def ups (bs : List Int) (t : Nat) : Nat → List (Nat × Nat)
  | 0 => []
  | k + 1 => if nm bs t k = 0 then ups bs t k else ups bs t k ++ [(k, lof bs t k)]
theorem ups_skip {bs : List Int} {t k : Nat} (h : nm bs t k = 0) : ups bs t (k + 1) = ups bs t k := by rw [ups, if_pos h]
theorem ups_push {bs : List Int} {t k : Nat} (h : nm bs t k ≠ 0) : ups bs t (k + 1) = ups bs t k ++ [(k, lof bs t k)] := by rw [ups, if_neg h]
theorem ups_len (bs : List Int) (t k : Nat) : (ups bs t k).length ≤ k := by
  induction k with
  | zero => exact Nat.le_refl _
  | succ k ih =>
    unfold ups
    split
    · omega
    · rw [List.length_append, List.length_singleton]; omega
theorem ups_prefix (bs : List Int) (t k m : Nat) : ups bs t k <+: ups bs t (k + m) := by
  induction m with
  | zero => exact List.prefix_refl _
  | succ m ih =>
    rw [← Nat.add_assoc]
    refine ih.trans ?_
    by_cases d : nm bs t (k + m) = 0
    · rw [ups_skip d]; exact List.prefix_refl _
    · rw [ups_push d]; exact List.prefix_append _ _
theorem ups_mem {bs : List Int} {t k : Nat} {x : Nat × Nat} (h : x ∈ ups bs t k) : x.1 < k ∧ nm bs t x.1 ≠ 0 ∧ x.2 = lof bs t x.1 := by
  induction k with
  | zero => cases h
  | succ k ih =>
    unfold ups at h
    split at h
    · obtain ⟨h1, h2⟩ := ih h; exact ⟨by omega, h2⟩
    · rename_i hn
      rcases List.mem_append.1 h with h | h
      · obtain ⟨h1, h2⟩ := ih h; exact ⟨by omega, h2⟩
      · rw [List.mem_singleton] at h; subst h; exact ⟨by simp, hn, rfl⟩
/-- how many of the first k upper parts have a frame -/
def nup (bs : List Int) (t k : Nat) : Nat := (ups bs t k).length
theorem ups_congr {bs cs : List Int} {t : Nat} (k : Nat) (h : ∀ s, s < k → nm cs t s = nm bs t s) : ups cs t k = ups bs t k := by
  induction k with
  | zero => rfl
  | succ k ih =>
    have e := h k (by omega)
    unfold ups lof
    rw [e, ih fun s hs => h s (by omega)]
theorem nup_grow {bs cs : List Int} {t u i : Nat} (k : Nat) (h : ∀ s, s < k → nm cs t s = if s = u then upn i else nm bs t s) (h0 : nm bs t u = 0) : nup cs t k = nup bs t k + if u < k then 1 else 0 := by
  unfold nup
  induction k with
  | zero => rfl
  | succ k ih =>
    have e := h k (by omega)
    have g := ih fun s hs => h s (by omega)
    by_cases c : k = u
    · subst c
      rw [if_pos rfl] at e
      rw [ups_push (by rw [e]; have := upn_pos i; omega), ups_skip h0, List.length_append, g, if_neg (by omega), if_pos (by omega)]; rfl
    · rw [if_neg c] at e
      rw [show (if u < k + 1 then 1 else 0) = (if u < k then 1 else 0) from by by_cases d : u < k <;> simp [d] <;> omega]
      by_cases d : nm bs t k = 0
      · rw [ups_skip d, ups_skip (by rw [e]; exact d), g]
      · rw [ups_push d, ups_push (by rw [e]; exact d), List.length_append, List.length_append, g]; simp; omega
theorem ups_nil {bs : List Int} {t : Nat} (k : Nat) (h : ∀ s, s < k → nm bs t s = 0) : ups bs t k = [] := by
  induction k with
  | zero => rfl
  | succ k ih => rw [ups_skip (h k (by omega)), ih fun s hs => h s (by omega)]
/-- the first k pages that have entries -/
def pgs (f : Nat → Int) : Nat → List Int
  | 0 => []
  | k + 1 => if f k = 0 then pgs f k else pgs f k ++ [(k : Int)]
theorem pgs_skip {f : Nat → Int} {k : Nat} (h : f k = 0) : pgs f (k + 1) = pgs f k := by rw [pgs, if_pos h]
theorem pgs_push {f : Nat → Int} {k : Nat} (h : f k ≠ 0) : pgs f (k + 1) = pgs f k ++ [(k : Int)] := by rw [pgs, if_neg h]
theorem pgs_len (f : Nat → Int) (k : Nat) : (pgs f k).length ≤ k := by
  induction k with
  | zero => exact Nat.le_refl _
  | succ k ih =>
    unfold pgs
    split
    · omega
    · rw [List.length_append, List.length_singleton]; omega
theorem pgs_congr {f g : Nat → Int} (k : Nat) (h : ∀ j, j < k → f j = g j) : pgs f k = pgs g k := by
  induction k with
  | zero => rfl
  | succ k ih => unfold pgs; rw [h k (by omega), ih fun j hj => h j (by omega)]
theorem pgs_more {f : Nat → Int} (k m : Nat) (h : ∀ j, k ≤ j → j < k + m → f j = 0) : pgs f (k + m) = pgs f k := by
  induction m with
  | zero => rfl
  | succ m ih => rw [← Nat.add_assoc, pgs_skip (h _ (by omega) (by omega)), ih fun j h1 h2 => h j h1 (by omega)]
/-- the first k pages of an upper part that have entries -/
def pgk (f : Nat → Int) (u : Nat) : Nat → List Int
  | 0 => []
  | k + 1 => if f (u * 64 + k) = 0 then pgk f u k else pgk f u k ++ [((u * 64 + k : Nat) : Int)]
theorem pgk_skip {f : Nat → Int} {u k : Nat} (h : f (u * 64 + k) = 0) : pgk f u (k + 1) = pgk f u k := by rw [pgk, if_pos h]
theorem pgk_push {f : Nat → Int} {u k : Nat} (h : f (u * 64 + k) ≠ 0) : pgk f u (k + 1) = pgk f u k ++ [((u * 64 + k : Nat) : Int)] := by rw [pgk, if_neg h]
theorem pgk_len (f : Nat → Int) (u k : Nat) : (pgk f u k).length ≤ k := by
  induction k with
  | zero => exact Nat.le_refl _
  | succ k ih =>
    unfold pgk
    split
    · omega
    · rw [List.length_append, List.length_singleton]; omega
theorem pgs_part (f : Nat → Int) (u k : Nat) : pgs f (u * 64 + k) = pgs f (u * 64) ++ pgk f u k := by
  induction k with
  | zero => simp [pgk]
  | succ k ih =>
    rw [← Nat.add_assoc]
    by_cases d : f (u * 64 + k) = 0
    · rw [pgs_skip d, pgk_skip d, ih]
    · rw [pgs_push d, pgk_push d, ih, List.append_assoc]
/-- the pages of some upper parts -/
def pgl (f : Nat → Int) (l : List (Nat × Nat)) : List Int := l.flatMap fun x => pgk f x.1 64
theorem pgl_push (f : Nat → Int) (l : List (Nat × Nat)) (x : Nat × Nat) : pgl f (l ++ [x]) = pgl f l ++ pgk f x.1 64 := by simp [pgl]
theorem pgl_len (f : Nat → Int) (l : List (Nat × Nat)) : (pgl f l).length ≤ 64 * l.length := by
  induction l with
  | nil => simp [pgl]
  | cons x l ih =>
    have := pgk_len f x.1 64
    have e : pgl f (x :: l) = pgk f x.1 64 ++ pgl f l := by simp [pgl]
    rw [e, List.length_append, List.length_cons]; omega
theorem pgl_ups (bs : List Int) (t k : Nat) : pgl (pgn bs t) (ups bs t k) = pgs (pgn bs t) (k * 64) := by
  induction k with
  | zero => rfl
  | succ k ih =>
    rw [show (k + 1) * 64 = k * 64 + 64 from by omega]
    by_cases d : nm bs t k = 0
    · rw [ups_skip d, ih, pgs_more]
      intro j h1 h2
      unfold pgn; rw [show j / 64 = k from by omega, if_pos d]
    · rw [ups_push d, pgl_push, ih, ← pgs_part]
theorem pgn_part (bs : List Int) (t u q : Nat) (hq : q < 64) (h : nm bs t u ≠ 0) : pgn bs t (u * 64 + q) = nm bs (lof bs t u) q := by
  unfold pgn; rw [show (u * 64 + q) / 64 = u from by omega, show (u * 64 + q) % 64 = q from by omega, if_neg h]
end Go.Proofs.YtgedimlhldfkaaaGreatDoor
