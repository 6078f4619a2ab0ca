/- One space of pages as a memory of bytes: a page read and written where it may be and frames are free. Contracts, in any world. -/
import Derived.Test.YtgedimlhldfkaaaGreatDoorSpQ
import Derived.Test.YtgedimlhldfkaaaGreatDoorNumF
import Derived.Defers
import Derived.Recover
namespace Go.Proofs.YtgedimlhldfkaaaGreatDoor
open Go.RowKit
set_option linter.unusedVariables false
set_option maxRecDepth 100000
/-- the byte at an address -/
def mby (bs : List Int) (t a : Nat) : Int := match pf bs t (a / 256) with
  | none => 0
  | some f => (fby bs f).getD (a % 256) 0
/-- pages without a frame, among so many -/
def hole (bs : List Int) (t lo : Nat) : Nat → Nat
  | 0 => 0
  | c + 1 => hole bs t lo c + if pf bs t (lo + c) = none then 1 else 0
/-- bytes of a memory -/
def mrd (M : Nat → Int) (a k : Nat) : List Int := (List.range k).map fun i => M (a + i)
/-- bytes laid down -/
def mwr (M : Nat → Int) (a : Nat) (l : List Int) : Nat → Int := fun x => if a ≤ x ∧ x < a + l.length then l.getD (x - a) 0 else M x
section
variable {bs cs : List Int} {t lo p : Nat} {M : Nat → Int}
theorem mby_none {a : Nat} (h : pf bs t (a / 256) = none) : mby bs t a = 0 := by unfold mby; rw [h]
theorem mby_some {a f : Nat} (h : pf bs t (a / 256) = some f) : mby bs t a = (fby bs f).getD (a % 256) 0 := by unfold mby; rw [h]
theorem hole_pos {c : Nat} (h1 : lo ≤ p) (h2 : p < lo + c) (h : pf bs t p = none) : 1 ≤ hole bs t lo c := by
  induction c with
  | zero => omega
  | succ c ih =>
    unfold hole
    by_cases e : p = lo + c
    · subst e; rw [if_pos h]; omega
    · have := ih (by omega); omega
theorem hole_eq {c : Nat} (h : ∀ q, lo ≤ q → q < lo + c → (pf cs t q = none ↔ pf bs t q = none)) : hole cs t lo c = hole bs t lo c := by
  induction c with
  | zero => rfl
  | succ c ih =>
    unfold hole
    rw [ih fun q a b => h q a (by omega)]
    have := h (lo + c) (by omega) (by omega)
    by_cases e : pf bs t (lo + c) = none
    · rw [if_pos e, if_pos (this.2 e)]
    · rw [if_neg e, if_neg fun x => e (this.1 x)]
theorem hole_fill {c : Nat} (h1 : lo ≤ p) (h2 : p < lo + c) (h3 : pf bs t p = none) (h4 : pf cs t p ≠ none) (h : ∀ q, lo ≤ q → q < lo + c → q ≠ p → (pf cs t q = none ↔ pf bs t q = none)) : hole cs t lo c + 1 = hole bs t lo c := by
  induction c with
  | zero => omega
  | succ c ih =>
    unfold hole
    by_cases e : p = lo + c
    · subst e
      rw [hole_eq fun q a b => h q a (by omega) (by omega), if_pos h3, if_neg h4]
    · have e1 := ih (by omega) fun q a b => h q a (by omega)
      have := h (lo + c) (by omega) (by omega) (by omega)
      by_cases e : pf bs t (lo + c) = none
      · rw [if_pos e, if_pos (this.2 e)]; omega
      · rw [if_neg e, if_neg fun x => e (this.1 x)]; omega
theorem gd_left (l m : List Int) (i : Nat) (h : i < l.length) : (l ++ m).getD i 0 = l.getD i 0 := by
  rw [List.getD_eq_getElem?_getD, List.getD_eq_getElem?_getD, List.getElem?_append_left h]
theorem gd_right (l m : List Int) (i : Nat) (h : l.length ≤ i) : (l ++ m).getD i 0 = m.getD (i - l.length) 0 := by
  rw [List.getD_eq_getElem?_getD, List.getD_eq_getElem?_getD, List.getElem?_append_right h]
theorem mrd_len (M : Nat → Int) (a k : Nat) : (mrd M a k).length = k := by simp [mrd]
theorem mrd_get (M : Nat → Int) (a k i : Nat) (h : i < k) : (mrd M a k).getD i 0 = M (a + i) := by
  rw [getD_eq _ _ (by rw [mrd_len]; exact h)]; simp [mrd]
theorem mrd_add (M : Nat → Int) (a j k : Nat) : mrd M a (j + k) = mrd M a j ++ mrd M (a + j) k := by
  refine ext_getD (by simp [mrd_len]) fun i hi => ?_
  rw [mrd_len] at hi
  rw [mrd_get _ _ _ _ hi]
  by_cases c : i < j
  · rw [gd_left _ _ _ (by rw [mrd_len]; exact c), mrd_get _ _ _ _ c]
  · rw [gd_right _ _ _ (by rw [mrd_len]; omega), mrd_len, mrd_get _ _ _ _ (by omega)]
    congr 1; omega
theorem mrd_congr {N : Nat → Int} {a k : Nat} (h : ∀ x, a ≤ x → x < a + k → M x = N x) : mrd M a k = mrd N a k :=
  ext_getD (by simp [mrd_len]) fun i hi => by
    rw [mrd_len] at hi
    rw [mrd_get _ _ _ _ hi, mrd_get _ _ _ _ hi]; exact h _ (by omega) (by omega)
theorem mwr_nil (M : Nat → Int) (a : Nat) : mwr M a [] = M := by
  funext x; unfold mwr; rw [if_neg (by simp)]
theorem mwr_add (M : Nat → Int) (a : Nat) (l m : List Int) : mwr (mwr M a l) (a + l.length) m = mwr M a (l ++ m) := by
  funext x
  unfold mwr
  rw [List.length_append]
  by_cases c : a + l.length ≤ x ∧ x < a + l.length + m.length
  · rw [if_pos c, if_pos (by omega), gd_right _ _ _ (by omega)]; congr 1; omega
  · rw [if_neg c]
    by_cases d : a ≤ x ∧ x < a + l.length
    · rw [if_pos d, if_pos (by omega), gd_left _ _ _ (by omega)]
    · rw [if_neg d, if_neg (by omega)]
theorem mrd_mwr (M : Nat → Int) (a : Nat) (l : List Int) : mrd (mwr M a l) a l.length = l :=
  ext_getD (by simp [mrd_len]) fun i hi => by
    rw [mrd_len] at hi
    rw [mrd_get _ _ _ _ hi]; unfold mwr; rw [if_pos (by omega), Nat.add_sub_cancel_left]
theorem mrd_off {a b k : Nat} {l : List Int} (h : b + k ≤ a ∨ a + l.length ≤ b) : mrd (mwr M a l) b k = mrd M b k :=
  mrd_congr fun x h1 h2 => by unfold mwr; rw [if_neg (by omega)]
theorem mwr_oct {l : List Int} (h : ∀ x, 0 ≤ M x ∧ M x ≤ 255) (a : Nat) (hl : Oct l) : ∀ x, 0 ≤ mwr M a l x ∧ mwr M a l x ≤ 255 := fun x => by
  unfold mwr
  split
  · exact hl.get _
  · exact h x
theorem mrd_oct (h : ∀ x, 0 ≤ M x ∧ M x ≤ 255) (a k : Nat) : Oct (mrd M a k) := fun x hx => by
  obtain ⟨i, _, rfl⟩ := List.mem_map.1 hx; exact h _
end
/-- one space, its bytes, and frames enough for all of its pages -/
structure Ct (n sb tb lo c : Nat) (L : List Rg) (rs bs : List Int) (M : Nat → Int) : Prop where
  st : Pst n rs bs [⟨sb, tb, 0, L, true⟩]
  m : ∀ a, a < 1048576 → mby bs 0 a = M a
  one : ∀ q f, q < 4096 → pf bs 0 q = some f → rs.getD f 0 = 1
  inj : ∀ q p f, q < 4096 → p < 4096 → pf bs 0 q = some f → pf bs 0 p = some f → q = p
  room : (tk rs n).length + hole bs 0 lo c + (if nm bs 0 0 = 0 then 1 else 0) ≤ n
  hi : lo + c ≤ 64
structure Cs (w : World) (n fb rb mb qb sb tb lo c : Nat) (L : List Rg) (rs bs : List Int) (M : Nat → Int) : Prop where
  gm : GM w n fb rb mb qb rs bs [⟨sb, tb, 0, L, true⟩]
  pl : Ct n sb tb lo c L rs bs M
section
variable {w w' : World} {n fb rb mb qb sb tb lo c : Nat} {rs bs qs cs c1 : List Int} {L : List Rg} {M : Nat → Int} {p f P : Nat} {u : Int}
theorem Cs.new (h : Cs w n fb rb mb qb sb tb lo c L rs bs M) (k : New w w') : Cs w' n fb rb mb qb sb tb lo c L rs bs M := ⟨h.gm.new k, h.pl⟩
theorem Ct.free (h : Ct n sb tb lo c L rs bs M) (h1 : lo ≤ p) (h2 : p < lo + c) {b : Bool} (hr : rpg L (p : Int) = some P) (hu : b = true ∨ usP P u = true) : rchE n rs bs ⟨sb, tb, 0, L, true⟩ (p : Int) u b = 0 := by
  have hh := h.hi
  cases e : pf bs 0 p with
  | none =>
    have e1 := pf_none.1 e
    refine rchE_new hr hu (by rw [pgI_in _ _ _ (by omega)]; exact e1) ?_
    have := hole_pos h1 h2 e
    have t := h.room
    rw [show ((p : Int)).toNat / 64 = 0 by omega]
    show (if nm bs 0 0 = 0 then 2 else 1) ≤ _
    by_cases z : nm bs 0 0 = 0
    · rw [if_pos z] at t ⊢; omega
    · rw [if_neg z] at t ⊢; omega
  | some f =>
    have e1 := pf_some.1 e
    refine rchE_old hr hu (by rw [pgI_in _ _ _ (by omega)]; exact e1.1) fun _ y => ?_
    rw [pgI_in _ _ _ (by omega)] at y
    rw [show pgn bs (Sq.t ⟨sb, tb, 0, L, true⟩) p = pgn bs 0 p from rfl, e1.2, h.one p f (by omega) e] at y
    omega
theorem Ct.eff (h : Ct n sb tb lo c L rs bs M) (s1 : Pst n qs cs [⟨sb, tb, 0, L, true⟩]) (h1 : lo ≤ p) (h2 : p < lo + c) (hi : 0 < [(⟨sb, tb, 0, L, true⟩ : Sq)].length)
    (r : RchS n rs bs [⟨sb, tb, 0, L, true⟩] 0 hi p u qs cs f) : Ct n sb tb lo c L qs cs M := by
  have hh := h.hi
  have hp : p / 64 = 0 := by omega
  have PFq : ∀ q x, q < 4096 → pf cs 0 q = some x → PF cs [⟨sb, tb, 0, L, true⟩] x := fun q x hq e => ⟨0, by simp, rfl, q, hq, e⟩
  cases r with
  | split f0 g _ y1 y2 =>
    have := h.one p f0 (by omega) y1
    omega
  | keep f y1 y2 E =>
    have pg : ∀ q, q < 4096 → pf cs 0 q = pf bs 0 q := fun q hq => by
      have t := E.pg 0 (by simp) rfl q hq
      refine t.trans ?_
      by_cases e : q = p
      · rw [if_pos ⟨rfl, e⟩, e]; exact y1.symm
      · rw [if_neg fun x => e x.2]; rfl
    have n0 : nm bs 0 0 ≠ 0 := by have t := nm_of_pf y1; rwa [hp] at t
    have n1 : nm cs 0 0 ≠ 0 := (E.up 0 (by simp) rfl 0 (by omega)).2 (.inl n0)
    refine ⟨s1, fun a ha => ?_, fun q x hq e => ?_, fun q r x hq hr e e2 => ?_, ?_, h.hi⟩
    · rw [← h.m a ha]
      have e := pg (a / 256) (by omega)
      cases e2 : pf bs 0 (a / 256) with
      | none => rw [mby_none (e.trans e2), mby_none e2]
      | some x => rw [mby_some (e.trans e2), mby_some e2, E.da x (PFq _ _ (by omega) (e.trans e2))]
    · exact h.one q x hq ((pg q hq) ▸ e)
    · exact h.inj q r x hq hr ((pg q hq) ▸ e) ((pg r hr) ▸ e2)
    · have t := h.room
      have t2 := E.tk
      rw [hole_eq (cs := cs) (bs := bs) fun q a b => by rw [pg q (by omega)], if_neg n1]
      rw [if_neg n0] at t
      exact t
  | fill g y1 y2 y3 E =>
    have fresh : ∀ q, q < 4096 → pf bs 0 q ≠ some f := fun q hq => y2 0 (by simp) rfl q hq
    have pg : ∀ q, q < 4096 → pf cs 0 q = if q = p then some f else pf bs 0 q := fun q hq => by
      have t := E.pg 0 (by simp) rfl q hq
      refine t.trans ?_
      by_cases e : q = p
      · rw [if_pos ⟨rfl, e⟩, if_pos e]
      · rw [if_neg (fun x => e x.2), if_neg e]; rfl
    have n1 : nm cs 0 0 ≠ 0 := (E.up 0 (by simp) rfl 0 (by omega)).2 (.inr ⟨rfl, hp.symm, by simp⟩)
    refine ⟨s1, fun a ha => ?_, fun q x hq e => ?_, fun q r x hq hr e e2 => ?_, ?_, h.hi⟩
    · rw [← h.m a ha]
      have e := pg (a / 256) (by omega)
      by_cases z : a / 256 = p
      · rw [if_pos z] at e
        have e0 : pf bs 0 (a / 256) = none := by rw [z]; exact y1
        rw [mby_some e, mby_none e0, E.da f (PFq _ _ (by omega) e), if_pos rfl, zeros_get]
      · rw [if_neg z] at e
        cases e2 : pf bs 0 (a / 256) with
        | none => rw [mby_none (e.trans e2), mby_none e2]
        | some x =>
          rw [mby_some (e.trans e2), mby_some e2, E.da x (PFq _ _ (by omega) (e.trans e2)), if_neg]
          rintro rfl
          exact fresh _ (by omega) e2
    · rw [E.rf x (PFq q x hq e)]
      by_cases z : x = f
      · rw [if_pos z]
      · rw [if_neg z]
        rw [pg q hq] at e
        split at e
        · exact absurd (Option.some.inj e).symm z
        · exact h.one q x hq e
    · rw [pg q hq] at e
      rw [pg r hr] at e2
      split at e
      · obtain rfl := Option.some.inj e
        split at e2
        · omega
        · exact absurd e2 (fresh r hr)
      · split at e2
        · obtain rfl := Option.some.inj e2
          exact absurd e (fresh q hq)
        · exact h.inj q r x hq hr e e2
    · have t := h.room
      have t2 := E.tk
      rw [hp] at t2
      have t3 : ((tk qs n).length : Int) = (tk rs n).length + (1 + b2 (nm bs 0 0 = 0)) := t2
      have e := hole_fill (cs := cs) (bs := bs) (t := 0) h1 h2 y1 (by rw [pg p (by omega), if_pos rfl]; simp) fun q a b d => by rw [pg q (by omega), if_neg d]
      rw [if_neg n1]
      by_cases z : nm bs 0 0 = 0
      · rw [b2_yes z] at t3; rw [if_pos z] at t; omega
      · rw [b2_no z] at t3; rw [if_neg z] at t; omega
theorem Ct.data {o : Nat} {l : List Int} (h : Ct n sb tb lo c L qs c1 M) (s1 : Pst n qs cs [⟨sb, tb, 0, L, true⟩]) (h1 : lo ≤ p) (h2 : p < lo + c) (hl : o + l.length ≤ 256)
    (hf : pf c1 0 p = some f) (hD : EffD n c1 cs [⟨sb, tb, 0, L, true⟩] (fun x => if x = f then splice (fby c1 f) o l else fby c1 x)) : Ct n sb tb lo c L qs cs (mwr M (p * 256 + o) l) := by
  have hh := h.hi
  have pg : ∀ q, q < 4096 → pf cs 0 q = pf c1 0 q := fun q hq => hD.pg 0 (by simp) rfl q hq
  have nn : nm cs 0 0 = 0 ↔ nm c1 0 0 = 0 := by
    have t : nm cs 0 0 ≠ 0 ↔ nm c1 0 0 ≠ 0 := hD.up 0 (by simp) rfl 0 (by omega)
    exact ⟨fun x => Decidable.byContradiction fun y => t.2 y x, fun x => Decidable.byContradiction fun y => t.1 y x⟩
  have PFq : ∀ q x, q < 4096 → pf cs 0 q = some x → PF cs [⟨sb, tb, 0, L, true⟩] x := fun q x hq e => ⟨0, by simp, rfl, q, hq, e⟩
  have hfl := h.st.pur.page_lt (i := 0) (by simp) rfl (p := p) (by omega) hf
  have hfy := fby_len h.st.pur.hl hfl.1
  refine ⟨s1, fun a ha => ?_, fun q x hq e => ?_, fun q r x hq hr e e2 => ?_, ?_, h.hi⟩
  · have e := pg (a / 256) (by omega)
    have hm := h.m a ha
    unfold mwr
    by_cases z : a / 256 = p
    · have e1 : pf c1 0 (a / 256) = some f := by rw [z]; exact hf
      rw [mby_some (e.trans e1), hD.da f (PFq _ _ (by omega) (e.trans e1)), if_pos rfl, splice_get _ _ _ (by omega)]
      rw [mby_some e1] at hm
      by_cases y : o ≤ a % 256 ∧ a % 256 < o + l.length
      · rw [if_pos y, if_pos (by omega)]; congr 1; omega
      · rw [if_neg y, if_neg (by omega)]; exact hm
    · rw [if_neg (by omega), ← hm]
      cases e2 : pf c1 0 (a / 256) with
      | none => rw [mby_none (e.trans e2), mby_none e2]
      | some x =>
        rw [mby_some (e.trans e2), mby_some e2, hD.da x (PFq _ _ (by omega) (e.trans e2)), if_neg]
        rintro rfl
        exact z (h.inj _ p x (by omega) (by omega) e2 hf)
  · exact h.one q x hq ((pg q hq) ▸ e)
  · exact h.inj q r x hq hr ((pg q hq) ▸ e) ((pg r hr) ▸ e2)
  · have t := h.room
    rw [hole_eq (cs := cs) (bs := c1) fun q a b => by rw [pg q (by omega)]]
    by_cases z : nm c1 0 0 = 0
    · rw [if_pos z] at t; rw [if_pos (nn.2 z)]; exact t
    · rw [if_neg z] at t; rw [if_neg fun x => z (nn.1 x)]; exact t
/-- bytes of a page read -/
theorem ci_read (h : Cs w n fb rb mb qb sb tb lo c L rs bs M) (a k : Nat) (u : Int) (hk : a % 256 + k ≤ 256) (h1 : lo ≤ a / 256) (h2 : a / 256 < lo + c) (hr : rpg L ((a / 256 : Nat) : Int) = some P) (hu2 : u ≠ 2) (hu : (u == 0) = true ∨ usP P u = true) :
    Calls Tryz.prog 9 #[.pointer (some ⟨sb, 0, none⟩), .int .u32 (a : Int), .int .i64 (k : Int), .int .u8 u] w fun e w' => ∃ v qs cs, e = .returned (.tuple #[v, .nilIface]) ∧ OwnB w.heap.size w' v (mrd M a k) ∧ Cs w' n fb rb mb qb sb tb lo c L qs cs M ∧ But (fun g => g = rb ∨ g = qb) w w' := by
  have hh := h.pl.hi
  have hp : plc a (k : Int) = true := plc_iff.2 ⟨by omega, by omega, by omega⟩
  have e0 : rdE n rs bs ([⟨sb, tb, 0, L, true⟩] : List Sq)[0] a k u = 0 := by
    unfold rdE
    rw [if_pos hp]
    exact h.pl.free h1 h2 hr hu
  refine (Read_st h.gm h.pl.st (i := 0) (by simp) rfl a k u (by omega) (by omega)).mono ?_
  rintro e w' ⟨v, l, qs, cs, rfl, o1, g1, b1, s1, hx⟩
  rw [e0] at hx ⊢
  obtain ⟨_, _, f, r, hf, hl⟩ := hx.resolve_left fun y => y.1 rfl
  have C := h.pl.eff s1 h1 h2 _ r
  have hpf : pf cs 0 (a / 256) = some f := r.at_ rfl (by omega)
  have hfy := fby_len s1.pur.hl hf
  refine ⟨v, qs, cs, rfl, ?_, ⟨g1, C⟩, b1⟩
  have : l = mrd M a k := by
    rw [hl]
    refine ext_getD (by rw [cut_len _ _ _ (by simp; omega), mrd_len]; simp) fun i hi => ?_
    rw [cut_len _ _ _ (by simp; omega)] at hi
    simp at hi
    rw [cut_get _ _ _ _ (by simp; omega) (by simpa using hi), mrd_get _ _ _ _ hi, ← C.m (a + i) (by omega)]
    have e1 : (a + i) / 256 = a / 256 := by omega
    rw [mby_some (by rw [e1]; exact hpf)]
    congr 1; omega
  rw [← this]; exact o1
/-- bytes of a page written -/
theorem ci_write (h : Cs w n fb rb mb qb sb tb lo c L rs bs M) (a : Nat) (q : Option Addr) (cap : Nat) (l : List Int) (b : Bool) (hk : a % 256 + l.length ≤ 256) (h1 : lo ≤ a / 256) (h2 : a / 256 < lo + c) (hr : rpg L ((a / 256 : Nat) : Int) = some P) (hu : b = true ∨ usP P 2 = true) (hc : Oct l) (hv : BytsK (fun g => g = rb ∨ g = qb) w (.slice q l.length cap) l) :
    Calls Tryz.prog 16 #[.pointer (some ⟨sb, 0, none⟩), .int .u32 (a : Int), .slice q l.length cap, .bool b] w fun e w' => ∃ qs cs, e = .returned .nilIface ∧ Cs w' n fb rb mb qb sb tb lo c L qs cs (mwr M a l) ∧ But (fun g => g = rb ∨ g = qb) w w' := by
  have hh := h.pl.hi
  have hp : plc a (l.length : Int) = true := plc_iff.2 ⟨by omega, by omega, by omega⟩
  have e0 : wrE n rs bs ([⟨sb, tb, 0, L, true⟩] : List Sq)[0] a l.length b = 0 := by
    unfold wrE
    rw [if_pos hp]
    exact h.pl.free h1 h2 hr hu
  refine (Write_st h.gm h.pl.st (i := 0) (by simp) rfl a q cap l b (by omega) (by unfold maxLen; omega) hc hv).mono ?_
  rintro e w' ⟨qs, cs, rfl, g1, b1, s1, hx⟩
  rw [e0] at hx ⊢
  obtain ⟨_, _, f, c1, r, s2, hf, hpf, hD⟩ := hx.resolve_left fun y => y.1 rfl
  have Z := (h.pl.eff s2 h1 h2 _ r).data (o := a % 256) (l := l) s1 h1 h2 (by omega) hpf hD
  rw [show a / 256 * 256 + a % 256 = a by omega] at Z
  exact ⟨qs, cs, rfl, ⟨g1, Z⟩, b1⟩
end
end Go.Proofs.YtgedimlhldfkaaaGreatDoor
namespace Go.Proofs.YtgedimlhldfkaaaGreatDoor
open Go.RowKit
set_option linter.unusedVariables false
set_option maxRecDepth 100000
/-- how many of so many bytes are in an address's page -/
def pc (a n : Nat) : Nat := min (256 - a % 256) n
theorem pc_in (a n : Nat) : pc a n ≤ n ∧ a % 256 + pc a n ≤ 256 ∧ (0 < n → 0 < pc a n) := by unfold pc; omega
/-- bytes read so far, page by page -/
inductive InP (k : Nat) (S : List Sq) (i : Nat) (hi : i < S.length) (a n : Nat) (rs bs : List Int) : Nat → List Int → List Int → List Int → Prop
  | nil : InP k S i hi a n rs bs 0 rs bs []
  | snoc {j : Nat} {qs cs qt ct L : List Int} {f : Nat} : InP k S i hi a n rs bs j qs cs L → j < n → rdE k qs cs S[i] (a + j) (pc (a + j) (n - j) : Nat) 1 = 0 → RchS k qs cs S i hi ((a + j) / 256) 1 qt ct f → Pst k qt ct S → f < k →
      InP k S i hi a n rs bs (j + pc (a + j) (n - j)) qt ct (L ++ cut (fby ct f) ((a + j) % 256) (pc (a + j) (n - j)))
/-- bytes laid down so far -/
inductive OutP (k : Nat) (S : List Sq) (i : Nat) (hi : i < S.length) (a : Nat) (l : List Int) (rs bs : List Int) : Nat → List Int → List Int → Prop
  | nil : OutP k S i hi a l rs bs 0 rs bs
  | snoc {j : Nat} {qs cs qt c1 ct : List Int} {f : Nat} : OutP k S i hi a l rs bs j qs cs → j < l.length → wrE k qs cs S[i] (a + j) (pc (a + j) (l.length - j)) false = 0 → RchS k qs cs S i hi ((a + j) / 256) 2 qt c1 f → Pst k qt c1 S → f < k → pf c1 S[i].t ((a + j) / 256) = some f →
      EffD k c1 ct S (fun x => if x = f then splice (fby c1 f) ((a + j) % 256) (cut l j (pc (a + j) (l.length - j))) else fby c1 x) → Pst k qt ct S → OutP k S i hi a l rs bs (j + pc (a + j) (l.length - j)) qt ct
/-- bytes of a text read so far -/
inductive TxP (k : Nat) (S : List Sq) (i : Nat) (hi : i < S.length) (a : Nat) (rs bs : List Int) : List Int → List Int → List Int → Prop
  | nil : TxP k S i hi a rs bs [] rs bs
  | snoc {qs cs qt ct L : List Int} {f : Nat} : TxP k S i hi a rs bs L qs cs → rdE k qs cs S[i] (a + L.length) 1 1 = 0 → RchS k qs cs S i hi ((a + L.length) / 256) 1 qt ct f → Pst k qt ct S → f < k → (fby ct f).getD ((a + L.length) % 256) 0 ≠ 0 →
      TxP k S i hi a rs bs (L ++ [(fby ct f).getD ((a + L.length) % 256) 0]) qt ct
section
variable {k i a n j fb rb mb qb sb tb lo c P : Nat} {S : List Sq} {hi : i < S.length} {rs bs qs cs l L : List Int} {R : List Rg} {M : Nat → Int}
theorem rdE_plc {s : Sq} {m : Nat} {u x : Int} (h : rdE k rs bs s m x u = 0) : plc m x = true := by
  unfold rdE at h
  split at h
  · assumption
  · cases h
theorem wrE_plc {s : Sq} {m x : Nat} {b : Bool} (h : wrE k rs bs s m x b = 0) : plc m x = true := by
  unfold wrE at h
  split at h
  · assumption
  · cases h
theorem InP.le (h : InP k S i hi a n rs bs j qs cs L) : j ≤ n ∧ (j = 0 ∨ a + j ≤ 1048576) ∧ L.length = j := by
  induction h with
  | nil => exact ⟨Nat.zero_le _, .inl rfl, rfl⟩
  | @snoc j qs cs qt ct L f h1 h2 h3 h4 h5 h6 ih =>
    have hp := plc_iff.1 (rdE_plc h3)
    have hc := pc_in (a + j) (n - j)
    refine ⟨by omega, .inr ?_, ?_⟩
    · omega
    · rw [List.length_append, cut_len _ _ _ (by rw [fby_len h5.pur.hl h6]; omega), ih.2.2]
theorem OutP.le (h : OutP k S i hi a l rs bs j qs cs) : j ≤ l.length ∧ (j = 0 ∨ a + j ≤ 1048576) := by
  induction h with
  | nil => exact ⟨Nat.zero_le _, .inl rfl⟩
  | @snoc j qs cs qt c1 ct f h1 h2 h3 h4 h5 h6 h7 h8 h9 ih =>
    have hp := plc_iff.1 (wrE_plc h3)
    have hc := pc_in (a + j) (l.length - j)
    exact ⟨by omega, .inr (by omega)⟩
theorem TxP.le (h : TxP k S i hi a rs bs L qs cs) : L = [] ∨ a + L.length ≤ 1048576 := by
  induction h with
  | nil => exact .inl rfl
  | @snoc qs cs qt ct L f h1 h3 h4 h5 h6 h7 ih =>
    have hp := plc_iff.1 (rdE_plc h3)
    rw [List.length_append, List.length_singleton]
    exact .inr (by omega)
/-- so with one space that has frames enough -/
theorem Ct.inp {hi : 0 < [(⟨sb, tb, 0, R, true⟩ : Sq)].length} (C : Ct k sb tb lo c R rs bs M) (h : InP k [⟨sb, tb, 0, R, true⟩] 0 hi a n rs bs j qs cs L) (h1 : lo * 256 ≤ a) (h2 : a + n ≤ (lo + c) * 256) : Ct k sb tb lo c R qs cs M ∧ L = mrd M a j := by
  induction h with
  | nil => exact ⟨C, rfl⟩
  | @snoc j qs cs qt ct L f g1 g2 g3 g4 g5 g6 ih =>
    have hc := pc_in (a + j) (n - j)
    have hh := C.hi
    have C2 := ih.1.eff g5 (by omega) (by omega) _ g4
    refine ⟨C2, ?_⟩
    rw [mrd_add, ih.2]
    congr 1
    have hpf : pf ct 0 ((a + j) / 256) = some f := g4.at_ rfl (by omega)
    have hfy := fby_len g5.pur.hl g6
    refine ext_getD (by rw [cut_len _ _ _ (by omega), mrd_len]) fun x hx => ?_
    rw [cut_len _ _ _ (by omega)] at hx
    rw [cut_get _ _ _ _ (by omega) hx, mrd_get _ _ _ _ hx, ← C2.m (a + j + x) (by omega)]
    have e1 : (a + j + x) / 256 = (a + j) / 256 := by omega
    rw [mby_some (by rw [e1]; exact hpf)]
    congr 1; omega
theorem Ct.outp {hi : 0 < [(⟨sb, tb, 0, R, true⟩ : Sq)].length} (C : Ct k sb tb lo c R rs bs M) (h : OutP k [⟨sb, tb, 0, R, true⟩] 0 hi a l rs bs j qs cs) (h1 : lo * 256 ≤ a) (h2 : a + l.length ≤ (lo + c) * 256) : Ct k sb tb lo c R qs cs (mwr M a (cut l 0 j)) := by
  induction h with
  | nil => rw [cut_none, mwr_nil]; exact C
  | @snoc j qs cs qt c1 ct f g1 g2 g3 g4 g5 g6 g7 g8 g9 ih =>
    have hc := pc_in (a + j) (l.length - j)
    have hh := C.hi
    have C2 := (ih.eff g5 (by omega) (by omega) _ g4).data (o := (a + j) % 256) g9 (by omega) (by omega) (by rw [cut_len _ _ _ (by omega)]; omega) g7 g8
    rw [show (a + j) / 256 * 256 + (a + j) % 256 = a + j by omega] at C2
    have e1 : (cut l 0 j).length = j := cut_len _ _ _ (by omega)
    have e2 := mwr_add M a (cut l 0 j) (cut l j (pc (a + j) (l.length - j)))
    rw [e1] at e2
    rw [e2] at C2
    have e3 : cut l 0 (j + pc (a + j) (l.length - j)) = cut l 0 j ++ cut l j (pc (a + j) (l.length - j)) := by
      unfold cut
      rw [List.drop_zero, List.take_add]
    rw [e3]; exact C2
theorem Ct.txp {hi : 0 < [(⟨sb, tb, 0, R, true⟩ : Sq)].length} (C : Ct k sb tb lo c R rs bs M) (h : TxP k [⟨sb, tb, 0, R, true⟩] 0 hi a rs bs L qs cs) (h1 : lo * 256 ≤ a) (h2 : a + L.length ≤ (lo + c) * 256) : Ct k sb tb lo c R qs cs M ∧ L = mrd M a L.length ∧ ∀ x, x < L.length → M (a + x) ≠ 0 := by
  induction h with
  | nil => exact ⟨C, rfl, fun x hx => by simp at hx⟩
  | @snoc qs cs qt ct L f g3 g4 g5 g6 g7 g8 ih =>
    rw [List.length_append, List.length_singleton] at h2
    obtain ⟨i1, i2, i3⟩ := ih (by omega)
    have hh := C.hi
    have C2 := i1.eff g6 (by omega) (by omega) _ g5
    have hpf : pf ct 0 ((a + L.length) / 256) = some f := g5.at_ rfl (by omega)
    have e : (fby ct f).getD ((a + L.length) % 256) 0 = M (a + L.length) := by rw [← C2.m (a + L.length) (by omega), mby_some hpf]
    refine ⟨C2, ?_, fun x hx => ?_⟩
    · rw [List.length_append, List.length_singleton, mrd_add, ← i2, e]; simp [mrd]
    · rw [List.length_append, List.length_singleton] at hx
      by_cases z : x = L.length
      · rw [z, ← e]; exact g8
      · exact i3 x (by omega)
theorem Ct.rd_ok (C : Ct k sb tb lo c R rs bs M) {m : Nat} (h1 : lo * 256 ≤ a) (h2 : a + m ≤ (lo + c) * 256) (hm : 0 < m) (hk : a % 256 + m ≤ 256) {u : Int} (hr : rpg R ((a / 256 : Nat) : Int) = some P) (hu : (u == 0) = true ∨ usP P u = true) : rdE k rs bs ⟨sb, tb, 0, R, true⟩ a m u = 0 := by
  have hh := C.hi
  unfold rdE
  rw [if_pos (plc_iff.2 ⟨by omega, by omega, by omega⟩)]
  exact C.free (by omega) (by omega) hr hu
theorem Ct.wr_ok (C : Ct k sb tb lo c R rs bs M) {m : Nat} (h1 : lo * 256 ≤ a) (h2 : a + m ≤ (lo + c) * 256) (hm : 0 < m) (hk : a % 256 + m ≤ 256) {b : Bool} (hr : rpg R ((a / 256 : Nat) : Int) = some P) (hu : b = true ∨ usP P 2 = true) : wrE k rs bs ⟨sb, tb, 0, R, true⟩ a m b = 0 := by
  have hh := C.hi
  unfold wrE
  rw [if_pos (plc_iff.2 ⟨by omega, by omega, by omega⟩)]
  exact C.free (by omega) (by omega) hr hu
end
end Go.Proofs.YtgedimlhldfkaaaGreatDoor
namespace Go.Proofs.YtgedimlhldfkaaaGreatDoor
open Go.RowKit Go.Extern.Stop Go.Stop Go.Extern
set_option linter.unusedVariables false
set_option maxRecDepth 100000
theorem piece_any (a n : Nat) (w : World) (ha : a < 4294967296) (hn : n ≤ 4096) : Calls Tryz.prog 73 #[.int .u32 (a : Int), .int .i64 (n : Int)] w fun e w' => e = .returned (.int .i64 (pc a n : Nat)) ∧ w = w' := by
  go_enter Tryz.func73, Tryz.ntmps73
  go_wp2
  all_goals
    go_ret
    refine ⟨ret_int ?_, rfl⟩
    unfold pc
    omega
theorem is_typeOf (v : Value) (w : World) : (ReflectliteType.typeOf #[.iface 98 v]).run Tryz.prog w = .ok (.iface 226 (.agg #[.pointer (some ⟨1, 98, none⟩)])) w := by kernel_rfl
/-- what stands in for a type's Comparable -/
def cmpM : Array Value → Sem Value := ReflectliteType.method fun t => do Rtype.noPackHeld "Comparable" t; pure (.bool (← typeInfo t).comparable)
theorem is_comparable (w : World) : (cmpM #[.agg #[.pointer (some ⟨1, 98, none⟩)]]).run Tryz.prog w = .ok (.bool true) w := by kernel_rfl
theorem is_method (h : Value) (w : World) : (Go.method 381 226 (.agg #[h]) "Comparable").run Tryz.prog w = .ok (182, .agg #[h]) w := by kernel_rfl
theorem is_equal (w : World) : (binOp .eql 25 (.iface 98 (.int .i64 14)) (.iface 98 (.int .i64 14))).run Tryz.prog w = .ok (.bool true) w := by kernel_rfl
theorem no_is (v : Value) (w : World) : (Instr.typeAssert (.iface 98 v) 25 250 true).run Tryz.prog w = .ok (.tuple #[.nilIface, .bool false]) w := run_typeAssert_lacksB Tryz.underlying250 (by kernel_rfl) (by kernel_rfl) v 25 w
theorem no_unwrap (v : Value) (w : World) : (Instr.typeAssert (.iface 98 v) 25 234 true).run Tryz.prog w = .ok (.tuple #[.nilIface, .bool false]) w := run_typeAssert_lacksB Tryz.underlying234 (by kernel_rfl) (by kernel_rfl) v 25 w
theorem no_unwraps (v : Value) (w : World) : (Instr.typeAssert (.iface 98 v) 25 236 true).run Tryz.prog w = .ok (.tuple #[.nilIface, .bool false]) w := run_typeAssert_lacksB Tryz.underlying236 (by kernel_rfl) (by kernel_rfl) v 25 w
theorem is_unlike12 (w : World) : (binOp .eql 25 (.iface 98 (.int .i64 12)) (.iface 98 (.int .i64 14))).run Tryz.prog w = .ok (.bool false) w := by kernel_rfl
theorem is_unlike22 (w : World) : (binOp .eql 25 (.iface 98 (.int .i64 22)) (.iface 98 (.int .i64 14))).run Tryz.prog w = .ok (.bool false) w := by kernel_rfl
set_option maxHeartbeats 1000000 in
theorem is_fault (w : World) : Calls Tryz.prog 126 #[.iface 98 (.int .i64 14), .iface 98 (.int .i64 14)] w fun e w' => e = .returned (.bool true) ∧ w = w' := by
  have h8 := @run_callFunc_extern Tryz.prog 142 _ ReflectliteType.typeOf Tryz.func142 (by kernel_rfl) (by kernel_rfl) (by kernel_rfl) (by kernel_rfl)
  have h32 := @run_callFunc_extern Tryz.prog 182 _ cmpM Tryz.func182 (by kernel_rfl) (by kernel_rfl) (by kernel_rfl) (by kernel_rfl)
  have tT := is_typeOf
  have cT := is_comparable
  have mR := is_method
  have heq := is_equal
  go_enter Tryz.func126, Tryz.ntmps126
  go_wp2
  refine wp_loop_rounds 1 ?_
  rw [rounds_succ]
  go_wp2
  go_ret
  exact ⟨rfl, rfl⟩
set_option maxHeartbeats 1000000 in
theorem is_full (w : World) : Calls Tryz.prog 126 #[.iface 98 (.int .i64 12), .iface 98 (.int .i64 14)] w fun e w' => e = .returned (.bool false) ∧ w = w' := by
  have h8 := @run_callFunc_extern Tryz.prog 142 _ ReflectliteType.typeOf Tryz.func142 (by kernel_rfl) (by kernel_rfl) (by kernel_rfl) (by kernel_rfl)
  have h32 := @run_callFunc_extern Tryz.prog 182 _ cmpM Tryz.func182 (by kernel_rfl) (by kernel_rfl) (by kernel_rfl) (by kernel_rfl)
  have tT := is_typeOf
  have cT := is_comparable
  have mR := is_method
  have heq := is_unlike12
  have u1 := no_is
  have u2 := no_unwrap
  have u3 := no_unwraps
  go_enter Tryz.func126, Tryz.ntmps126
  go_wp2
  refine wp_loop_rounds 1 ?_
  rw [rounds_succ]
  go_wp2
  go_ret
  exact ⟨rfl, rfl⟩
theorem is_unlike0 (w : World) : (binOp .eql 25 .nilIface (.iface 98 (.int .i64 14))).run Tryz.prog w = .ok (.bool false) w := by kernel_rfl
theorem nofault_nil (w : World) : Calls Tryz.prog 74 #[.nilIface] w fun e w' => e = .returned .nilIface ∧ w = w' := by
  have X := fun w => (show Calls Tryz.prog 126 #[.nilIface, .iface 98 (.int .i64 14)] w fun e w' => e = .returned (.bool false) ∧ w = w' by
    have heq := is_unlike0
    go_enter Tryz.func126, Tryz.ntmps126
    go_wp2
    go_ret
    exact ⟨rfl, rfl⟩)
  go_enter Tryz.func74, Tryz.ntmps74
  go_wp2_with fail
  refine (X _).mono ?_
  rintro e w1 ⟨rfl, rfl⟩
  go_wp2
  go_ret
  exact ⟨rfl, rfl⟩
theorem nofault_14 (w : World) : Calls Tryz.prog 74 #[.iface 98 (.int .i64 14)] w fun e w' => e = .returned (.iface 98 (.int .i64 5)) ∧ w = w' := by
  go_enter Tryz.func74, Tryz.ntmps74
  go_wp2_with fail
  refine (is_fault _).mono ?_
  rintro e w1 ⟨rfl, rfl⟩
  go_wp2
  go_ret
  exact ⟨rfl, rfl⟩
theorem nofault_12 (w : World) : Calls Tryz.prog 74 #[.iface 98 (.int .i64 12)] w fun e w' => e = .returned (.iface 98 (.int .i64 12)) ∧ w = w' := by
  go_enter Tryz.func74, Tryz.ntmps74
  go_wp2_with fail
  refine (is_full _).mono ?_
  rintro e w1 ⟨rfl, rfl⟩
  go_wp2
  go_ret
  exact ⟨rfl, rfl⟩
end Go.Proofs.YtgedimlhldfkaaaGreatDoor
