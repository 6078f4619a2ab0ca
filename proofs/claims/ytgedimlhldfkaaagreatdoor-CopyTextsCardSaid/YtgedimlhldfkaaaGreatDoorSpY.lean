/- Plain facts on spaces over one row of frames, of no program: what may be, and what a step makes of pages, frames and bytes, as others see it. -/
import Derived.Test.YtgedimlhldfkaaaGreatDoorSpN
import Derived.Test.YtgedimlhldfkaaaGreatDoorReL
namespace Go.Proofs.YtgedimlhldfkaaaGreatDoor
open Go.RowKit
set_option linter.unusedVariables false
set_option maxRecDepth 100000
/-- a frame of a page -/
def PF (bs : List Int) (S : List Sq) (f : Nat) : Prop := ∃ j, ∃ hj : j < S.length, S[j].on = true ∧ ∃ q, q < 4096 ∧ pf bs S[j].t q = some f
/-- a space's pages and its regions tell the same -/
structure PgOk (rs bs : List Int) (s : Sq) : Prop where
  ok : ROk s.L
  pm : ∀ p, p < 4096 → ∀ f, pf bs s.t p = some f → rpg s.L (p : Int) = some (pgn bs s.t p % 8).toNat
  cw : ∀ p, p < 4096 → ∀ f, pf bs s.t p = some f → 1 < rs.getD f 0 → cwb (pgn bs s.t p) = true
/-- spaces that may be -/
structure Pst (k : Nat) (rs bs : List Int) (S : List Sq) : Prop where
  pur : PurD k rs bs S (fun _ => 0)
  ok : ∀ i (hi : i < S.length), S[i].on = true → PgOk rs bs S[i]
/-- what a step at one page makes of pages, frames and bytes -/
structure Eff (k : Nat) (rs bs qs cs : List Int) (S : List Sq) (i p : Nat) (nf : Option Nat) (R : Nat → Int) (D : Nat → List Int) (dt : Int) : Prop where
  pg : ∀ j (hj : j < S.length), S[j].on = true → ∀ q, q < 4096 → pf cs S[j].t q = if j = i ∧ q = p then nf else pf bs S[j].t q
  up : ∀ j (hj : j < S.length), S[j].on = true → ∀ u, u < 64 → (nm cs S[j].t u ≠ 0 ↔ (nm bs S[j].t u ≠ 0 ∨ (j = i ∧ u = p / 64 ∧ nf ≠ none)))
  nu : ∀ j (hj : j < S.length), S[j].on = true → nup cs S[j].t 64 = nup bs S[j].t 64 + b2 (j = i ∧ nf ≠ none ∧ nm bs S[j].t (p / 64) = 0)
  rf : ∀ f, PF cs S f → qs.getD f 0 = R f
  da : ∀ f, PF cs S f → fby cs f = D f
  tk : ((tk qs k).length : Int) = (tk rs k).length + dt
section
variable {k : Nat} {rs bs qs cs : List Int} {S : List Sq} {d e : Nat → Nat} {i p f n : Nat}
theorem PurD.pf_not (h : PurD k rs bs S d) (hf : PF bs S f) : ¬ Mn bs S f ∧ f < k := by
  obtain ⟨j, hj, hoj, q, hq, e⟩ := hf
  exact ⟨h.page_not hj hoj hq e, (h.page_lt hj hoj hq e).1⟩
theorem SetE.eff_up {v : Int} (h : SetE k bs cs S i p v n) (hi : i < S.length) (ho : S[i].on = true) (hp : p < 4096) :
    (∀ j (hj : j < S.length), S[j].on = true → ∀ u, u < 64 → (nm cs S[j].t u ≠ 0 ↔ (nm bs S[j].t u ≠ 0 ∨ (j = i ∧ u = p / 64)))) ∧
    ∀ j (hj : j < S.length), S[j].on = true → nup cs S[j].t 64 = nup bs S[j].t 64 + b2 (j = i ∧ nm bs S[j].t (p / 64) = 0) := by
  refine ⟨fun j hj hoj u hu => ?_, fun j hj hoj => ?_⟩
  · rw [h.up j hj hoj u hu]
    by_cases c : j = i ∧ u = p / 64 ∧ nm bs S[j].t u = 0
    · rw [if_pos c]
      have := upn_pos n
      exact ⟨fun _ => .inr ⟨c.1, c.2.1⟩, fun _ => by omega⟩
    · rw [if_neg c]
      constructor
      · exact .inl
      · rintro (x | ⟨x, y⟩)
        · exact x
        · exact fun z => c ⟨x, y, z⟩
  · by_cases c : j = i ∧ nm bs S[j].t (p / 64) = 0
    · rw [b2_yes c]
      obtain ⟨rfl, c⟩ := c
      have := nup_grow (bs := bs) (cs := cs) (t := S[j].t) (u := p / 64) (i := n) 64 (fun s hs => by
        rw [h.up j hj hoj s hs]
        by_cases x : s = p / 64
        · subst x; rw [if_pos ⟨rfl, rfl, c⟩, if_pos rfl]
        · rw [if_neg (fun y => x y.2.1), if_neg x]) c
      rw [if_pos (by omega)] at this
      exact this
    · rw [b2_no c]
      unfold nup
      exact congrArg List.length (ups_congr (bs := bs) (cs := cs) (t := S[j].t) 64 fun s hs => by rw [h.up j hj hoj s hs]; exact if_neg (by rintro ⟨x, rfl, y⟩; exact c ⟨x, y⟩))
theorem Sam.pfs (h : Sam bs cs S) {j : Nat} (hj : j < S.length) (hoj : S[j].on = true) {q : Nat} (hq : q < 4096) : pf cs S[j].t q = pf bs S[j].t q := by unfold pf; rw [h.pg j hj hoj q hq]
theorem Sam.nup (h : Sam bs cs S) {j : Nat} (hj : j < S.length) (hoj : S[j].on = true) : Go.Proofs.YtgedimlhldfkaaaGreatDoor.nup cs S[j].t 64 = Go.Proofs.YtgedimlhldfkaaaGreatDoor.nup bs S[j].t 64 := by
  unfold Go.Proofs.YtgedimlhldfkaaaGreatDoor.nup
  exact congrArg List.length (ups_congr (bs := bs) (cs := cs) (t := S[j].t) 64 fun s hs => h.up j hj hoj s hs)
theorem tk_one {g : Nat} (hr : rs.length = k) (hg : g < k) (hz : rs.getD g 0 = 0) : ((tk (rs.set g 1) k).length : Int) = (tk rs k).length + 1 := by
  have t := tk_len_set rs g 1 k (by rw [hr]; exact hg)
  rw [if_pos hg, hz, if_pos (by decide : (0 : Int) < 1), if_neg (by decide : ¬ (0 : Int) < 0)] at t
  omega
/-- a page that had no frame, filled -/
theorem Pst.fill (h : Pst k rs bs S) (hk : k ≤ 1024) (hi : i < S.length) (ho : S[i].on = true) (hp : p < 4096) (hf : pf bs S[i].t p = none) (P : Nat) (hP : P ≤ 7) (hpg : rpg S[i].L (p : Int) = some P) {g : Nat} (hg : g < k) (hz : rs.getD g 0 = 0)
    (hn : nm bs S[i].t (p / 64) = 0 → n < k ∧ (rs.set g 1).getD n 0 = 0) :
    Pst k (layR (rs.set g 1) bs S[i].t p n) (zr (layB bs S[i].t p (ennum g P false) n) g) S ∧
    Eff k rs bs (layR (rs.set g 1) bs S[i].t p n) (zr (layB bs S[i].t p (ennum g P false) n) g) S i p (some g) (fun f => if f = g then 1 else rs.getD f 0) (fun f => if f = g then List.replicate 256 0 else fby bs f) (1 + b2 (nm bs S[i].t (p / 64) = 0)) ∧
    (∀ j (hj : j < S.length), S[j].on = true → ∀ q, q < 4096 → pf bs S[j].t q ≠ some g) := by
  obtain ⟨r1, r2, r3, r4⟩ := h.pur.fill hk hi ho hp hf (P : Int) (by omega) (by omega) hg hz n hn
  obtain ⟨_, _, _, v3, v4, v5, v6⟩ := ennum_pv g (P : Int) false (by omega) (by omega) (by omega)
  have hd0 := h.pur.cnt g hg
  have hng := h.pur.none_of hg (by rw [hz]; rfl)
  obtain ⟨u1, u2⟩ := r2.eff_up hi ho hp
  have hgl : g < rs.length := by rw [h.pur.hr]; exact hg
  have hl1 : (rs.set g 1).length = k := by rw [List.length_set]; exact h.pur.hr
  have hlr : ∀ x, (layR (rs.set g 1) bs S[i].t p n).getD x 0 = if nm bs S[i].t (p / 64) = 0 ∧ x = n then 1 else if x = g then 1 else rs.getD x 0 := fun x => by
    rw [layR_get (fun e => by rw [hl1]; exact (hn e).1), getD_set _ _ _ _ hgl]
  have hnn : nm bs S[i].t (p / 64) = 0 → Mn (layB bs S[i].t p (ennum g P false) n) S n := fun e => by
    have e2 := r2.up i hi ho (p / 64) (by omega)
    rw [if_pos ⟨rfl, rfl, e⟩] at e2
    exact ⟨i, hi, ho, .inr ⟨p / 64, by omega, by rw [e2]; have := upn_pos n; omega, by unfold lof; rw [e2, fo_upn]⟩⟩
  have hl2 : (layB bs S[i].t p (ennum g P false) n).length = k * 256 := by
    unfold layB
    split
    · rename_i e
      exact pt_len (nw_len h.pur.hl (hn e).1 (h.pur.good i hi ho).lt (by omega)) (hn e).1 (by omega)
    · rename_i e
      exact pt_len h.pur.hl ((h.pur.good i hi ho).frame (u := p / 64) (by omega) e).1 (by omega)
  have hb : ∀ x, x < k → fby (zr (layB bs S[i].t p (ennum g P false) n) g) x = if x = g then List.replicate 256 0 else fby (layB bs S[i].t p (ennum g P false) n) x := fun x hx => fby_zr hl2 hg hx
  have htk : ((tk (layR (rs.set g 1) bs S[i].t p n) k).length : Int) = (tk rs k).length + (1 + b2 (nm bs S[i].t (p / 64) = 0)) := by
    have t1 := tk_one h.pur.hr hg hz
    unfold layR
    by_cases c : nm bs S[i].t (p / 64) = 0
    · rw [if_pos c, b2_yes c, tk_one hl1 (hn c).1 (hn c).2, t1]; omega
    · rw [if_neg c, b2_no c, t1]; omega
  generalize layB bs S[i].t p (ennum g P false) n = c1 at *
  generalize layR (rs.set g 1) bs S[i].t p n = q2 at *
  generalize zr c1 g = c2 at *
  have hpg2 : ∀ j (hj : j < S.length), S[j].on = true → ∀ q, q < 4096 → pgn c2 S[j].t q = if j = i ∧ q = p then ennum g P false else pgn bs S[j].t q := fun j hj hoj q hq => by rw [r3.pg j hj hoj q hq, r2.pg j hj hoj q hq]
  have hpf2 : ∀ j (hj : j < S.length), S[j].on = true → ∀ q, q < 4096 → pf c2 S[j].t q = if j = i ∧ q = p then some g else pf bs S[j].t q := fun j hj hoj q hq => by
    unfold pf
    rw [hpg2 j hj hoj q hq]
    split
    · exact v4
    · rfl
  have hPF : ∀ x, PF c2 S x → ¬ Mn c1 S x ∧ x < k := fun x hx => by
    obtain ⟨a, b⟩ := r1.pf_not hx
    exact ⟨fun y => a ((r3.mn x).2 y), b⟩
  refine ⟨⟨r1, fun j hj hoj => ⟨(h.ok j hj hoj).ok, fun q hq f hqf => ?_, fun q hq f hqf h1 => ?_⟩⟩, ⟨hpf2, fun j hj hoj u hu => ?_, fun j hj hoj => ?_, fun f hPf => ?_, fun f hPf => ?_, htk⟩, hng.2⟩
  · rw [hpf2 j hj hoj q hq] at hqf
    rw [hpg2 j hj hoj q hq]
    by_cases c : j = i ∧ q = p
    · obtain ⟨rfl, rfl⟩ := c
      rw [if_pos ⟨rfl, rfl⟩, v5]
      rw [hpg]; congr 1
    · rw [if_neg c] at hqf ⊢
      exact (h.ok j hj hoj).pm q hq f hqf
  · have hx := hPF f ⟨j, hj, hoj, q, hq, hqf⟩
    rw [hpf2 j hj hoj q hq] at hqf
    rw [hpg2 j hj hoj q hq]
    by_cases c : j = i ∧ q = p
    · rw [if_pos c] at hqf
      obtain rfl := Option.some.inj hqf
      rw [hlr] at h1
      split at h1
      · omega
      · rw [if_pos rfl] at h1; omega
    · rw [if_neg c] at hqf ⊢
      refine (h.ok j hj hoj).cw q hq f hqf ?_
      rw [hlr] at h1
      split at h1
      · omega
      · split at h1
        · omega
        · exact h1
  · have : nm c2 S[j].t u = nm c1 S[j].t u := r3.up j hj hoj u hu
    rw [this, u1 j hj hoj u hu]
    exact ⟨fun x => x.imp id fun y => ⟨y.1, y.2, by simp⟩, fun x => x.imp id fun y => ⟨y.1, y.2.1⟩⟩
  · rw [r3.nup hj hoj, u2 j hj hoj]
    congr 1
    exact b2_iff ⟨fun x => ⟨x.1, by simp, x.2⟩, fun x => ⟨x.1, x.2.2⟩⟩
  · have hx := hPF f hPf
    rw [hlr, if_neg (fun (y : nm bs S[i].t (p / 64) = 0 ∧ f = n) => hx.1 (y.2 ▸ hnn y.1))]
  · have hx := hPF f hPf
    rw [hb f hx.2]
    by_cases c : f = g
    · rw [if_pos c, if_pos c]
    · rw [if_neg c, if_neg c]; exact r2.bt f hx.2 hx.1
/-- what a step on one page makes, where no upper part gets a frame -/
theorem Chg.eff {v : Int} {nf : Option Nat} (h : Chg k bs cs S i p v) (hv : pv v = nf) (hi : i < S.length) (h0 : nm bs S[i].t (p / 64) ≠ 0) {R : Nat → Int} {D : Nat → List Int} {dt : Int}
    (h1 : ∀ f, PF cs S f → qs.getD f 0 = R f) (h2 : ∀ f, PF cs S f → fby cs f = D f) (h3 : ((tk qs k).length : Int) = (tk rs k).length + dt) : Eff k rs bs qs cs S i p nf R D dt := by
  refine ⟨fun j hj hoj q hq => ?_, fun j hj hoj u hu => ?_, fun j hj hoj => ?_, h1, h2, h3⟩
  · unfold pf; rw [h.pg j hj hoj q hq]; split
    · exact hv
    · rfl
  · rw [h.up j hj hoj u hu]
    refine ⟨.inl, fun x => x.elim id ?_⟩
    rintro ⟨rfl, rfl, _⟩; exact h0
  · rw [b2_no (by rintro ⟨rfl, _, x⟩; exact h0 x)]
    unfold nup
    exact congrArg List.length (ups_congr (bs := bs) (cs := cs) (t := S[j].t) 64 fun s hs => h.up j hj hoj s hs)
/-- a page of its own: not shared any more, or used otherwise; the frame is the same -/
theorem Pst.recode (h : Pst k rs bs S) (hk : k ≤ 1024) (hi : i < S.length) (ho : S[i].on = true) (hp : p < 4096) (hf : pf bs S[i].t p = some f) (P : Int) (c : Bool) (q0 : 0 ≤ P) (q1 : P ≤ 7) :
    PurD k rs (pt bs (lof bs S[i].t (p / 64)) (p % 64) (ennum f P c)) S (fun _ => 0) ∧ Eff k rs bs rs (pt bs (lof bs S[i].t (p / 64)) (p % 64) (ennum f P c)) S i p (some f) (fun f => rs.getD f 0) (fby bs) 0 ∧
    Chg k bs (pt bs (lof bs S[i].t (p / 64)) (p % 64) (ennum f P c)) S i p (ennum f P c) := by
  obtain ⟨r1, r2⟩ := h.pur.recode hk hi ho hp hf P c q0 q1
  have hl := h.pur.page_lt hi ho hp hf
  obtain ⟨_, _, _, _, v4, _⟩ := ennum_pv f P c (by omega) q0 q1
  refine ⟨r1, r2.eff v4 hi (nm_of_pf hf) (fun _ _ => rfl) (fun x hx => ?_) (by omega), r2⟩
  obtain ⟨a, b⟩ := r1.pf_not hx
  exact r2.bt x b fun y => a ((r2.mn x).2 y)
theorem Pst.uncow (h : Pst k rs bs S) (hk : k ≤ 1024) (hi : i < S.length) (ho : S[i].on = true) (hp : p < 4096) (hf : pf bs S[i].t p = some f) (h1 : ¬ 1 < rs.getD f 0) :
    Pst k rs (pt bs (lof bs S[i].t (p / 64)) (p % 64) (ennum f (pgn bs S[i].t p % 8) false)) S ∧ Eff k rs bs rs (pt bs (lof bs S[i].t (p / 64)) (p % 64) (ennum f (pgn bs S[i].t p % 8) false)) S i p (some f) (fun f => rs.getD f 0) (fby bs) 0 := by
  obtain ⟨r1, r2, r3⟩ := h.recode hk hi ho hp hf (pgn bs S[i].t p % 8) false (by omega) (by omega)
  have hl := h.pur.page_lt hi ho hp hf
  obtain ⟨_, _, _, _, _, v5, _⟩ := ennum_pv f (pgn bs S[i].t p % 8) false (by omega) (by omega) (by omega)
  refine ⟨⟨r1, fun j hj hoj => ⟨(h.ok j hj hoj).ok, fun q hq x hqx => ?_, fun q hq x hqx hx1 => ?_⟩⟩, r2⟩
  · rw [r2.pg j hj hoj q hq] at hqx
    rw [r3.pg j hj hoj q hq]
    by_cases c : j = i ∧ q = p
    · obtain ⟨rfl, rfl⟩ := c
      rw [if_pos ⟨rfl, rfl⟩, v5]
      exact (h.ok j hj hoj).pm q hq f hf
    · rw [if_neg c] at hqx ⊢; exact (h.ok j hj hoj).pm q hq x hqx
  · rw [r2.pg j hj hoj q hq] at hqx
    rw [r3.pg j hj hoj q hq]
    by_cases c : j = i ∧ q = p
    · rw [if_pos c] at hqx
      obtain rfl := Option.some.inj hqx
      exact absurd hx1 h1
    · rw [if_neg c] at hqx ⊢; exact (h.ok j hj hoj).cw q hq x hqx hx1
/-- a page that was shared gets a frame of its own -/
theorem Pst.split (h : Pst k rs bs S) (hk : k ≤ 1024) (hi : i < S.length) (ho : S[i].on = true) (hp : p < 4096) (hf : pf bs S[i].t p = some f) (h1 : 1 < rs.getD f 0) {g : Nat} (hg : g < k) (hz : rs.getD g 0 = 0) :
    Good k (fun f => rs.getD f 0 = 1) (splice bs (g * 256 + 0) (fby bs f)) S[i].t ∧ nm (splice bs (g * 256 + 0) (fby bs f)) S[i].t (p / 64) ≠ 0 ∧
    Pst k ((rs.set g 1).set f (rs.getD f 0 - 1)) (pt (splice bs (g * 256 + 0) (fby bs f)) (lof (splice bs (g * 256 + 0) (fby bs f)) S[i].t (p / 64)) (p % 64) (ennum g (pgn bs S[i].t p % 8) false)) S ∧
    Eff k rs bs ((rs.set g 1).set f (rs.getD f 0 - 1)) (pt (splice bs (g * 256 + 0) (fby bs f)) (lof (splice bs (g * 256 + 0) (fby bs f)) S[i].t (p / 64)) (p % 64) (ennum g (pgn bs S[i].t p % 8) false)) S i p (some g)
      (fun x => if x = f then rs.getD f 0 - 1 else if x = g then 1 else rs.getD x 0) (fun x => if x = g then fby bs f else fby bs x) 1 ∧
    (∀ j (hj : j < S.length), S[j].on = true → ∀ q, q < 4096 → pf bs S[j].t q ≠ some g) := by
  obtain ⟨g1, g2, r1, r2, r3, r4⟩ := h.pur.split hk hi ho hp hf (pgn bs S[i].t p % 8) (by omega) (by omega) h1 hg hz
  obtain ⟨_, _, _, v3, v4, v5, v6⟩ := ennum_pv g (pgn bs S[i].t p % 8) false (by omega) (by omega) (by omega)
  have hl := h.pur.page_lt hi ho hp hf
  have hfg : f ≠ g := fun e => by rw [e] at h1; omega
  have hng := h.pur.none_of hg (by rw [hz]; rfl)
  have hgl : g < rs.length := by rw [h.pur.hr]; exact hg
  have hfl : f < (rs.set g 1).length := by rw [List.length_set, h.pur.hr]; exact hl.1
  have hfy := fby_len h.pur.hl hl.1
  have hR : ∀ x, ((rs.set g 1).set f (rs.getD f 0 - 1)).getD x 0 = if x = f then rs.getD f 0 - 1 else if x = g then 1 else rs.getD x 0 := fun x => by rw [getD_set _ _ _ _ hfl, getD_set _ _ _ _ hgl]
  have hsp : ∀ x, x < k → fby (splice bs (g * 256 + 0) (fby bs f)) x = if x = g then fby bs f else fby bs x := fun x hx => by
    rw [fby_sp h.pur.hl _ hg hx (by rw [hfy]; omega)]
    split
    · rename_i e
      have h2 := fby_len h.pur.hl hg
      unfold splice
      rw [List.take_zero, List.nil_append, hfy, List.drop_of_length_le (by rw [h2]; omega), List.append_nil]
    · rfl
  have htk : ((tk ((rs.set g 1).set f (rs.getD f 0 - 1)) k).length : Int) = (tk rs k).length + 1 := by
    have t1 := tk_one h.pur.hr hg hz
    have t2 := tk_len_set (rs.set g 1) f (rs.getD f 0 - 1) k hfl
    rw [getD_set _ _ _ _ hgl, if_neg hfg, if_pos hl.1, if_pos (show 0 < rs.getD f 0 - 1 by omega), if_pos (show 0 < rs.getD f 0 by omega)] at t2
    omega
  generalize (rs.set g 1).set f (rs.getD f 0 - 1) = q2 at *
  generalize hc1 : splice bs (g * 256 + 0) (fby bs f) = c1 at *
  generalize pt c1 (lof c1 S[i].t (p / 64)) (p % 64) (ennum g (pgn bs S[i].t p % 8) false) = c2 at *
  have hpg2 : ∀ j (hj : j < S.length), S[j].on = true → ∀ q, q < 4096 → pgn c2 S[j].t q = if j = i ∧ q = p then ennum g (pgn bs S[i].t p % 8) false else pgn bs S[j].t q := fun j hj hoj q hq => by rw [r3.pg j hj hoj q hq, r2.pg j hj hoj q hq]
  have EF := r3.eff (rs := rs) (qs := q2) v4 hi g2 (R := fun x => if x = f then rs.getD f 0 - 1 else if x = g then 1 else rs.getD x 0) (D := fun x => if x = g then fby bs f else fby bs x) (fun x _ => hR x) (fun x hx => by
    obtain ⟨a, b⟩ := r1.pf_not hx
    rw [r3.bt x b (fun y => a ((r3.mn x).2 y))]; exact hsp x b) htk
  have EF2 : Eff k rs bs q2 c2 S i p (some g) (fun x => if x = f then rs.getD f 0 - 1 else if x = g then 1 else rs.getD x 0) (fun x => if x = g then fby bs f else fby bs x) 1 :=
    ⟨fun j hj hoj q hq => by rw [EF.pg j hj hoj q hq, r2.pfs hj hoj hq], fun j hj hoj u hu => by rw [EF.up j hj hoj u hu, r2.up j hj hoj u hu], fun j hj hoj => by
      rw [EF.nu j hj hoj, r2.nup hj hoj]; congr 1
      exact b2_iff (by rw [r2.up j hj hoj _ (by omega)]), EF.rf, EF.da, EF.tk⟩
  refine ⟨g1, g2, ⟨r1, fun j hj hoj => ⟨(h.ok j hj hoj).ok, fun q hq x hqx => ?_, fun q hq x hqx hx1 => ?_⟩⟩, EF2, hng.2⟩
  · rw [EF2.pg j hj hoj q hq] at hqx
    rw [hpg2 j hj hoj q hq]
    by_cases c : j = i ∧ q = p
    · obtain ⟨rfl, rfl⟩ := c
      rw [if_pos ⟨rfl, rfl⟩, v5]
      exact (h.ok j hj hoj).pm q hq f hf
    · rw [if_neg c] at hqx ⊢; exact (h.ok j hj hoj).pm q hq x hqx
  · rw [EF2.pg j hj hoj q hq] at hqx
    rw [hpg2 j hj hoj q hq]
    by_cases c : j = i ∧ q = p
    · rw [if_pos c] at hqx
      obtain rfl := Option.some.inj hqx
      rw [hR, if_neg (fun e => hfg e.symm), if_pos rfl] at hx1; omega
    · rw [if_neg c] at hqx ⊢
      refine (h.ok j hj hoj).cw q hq x hqx ?_
      rw [hR] at hx1
      split at hx1
      · rename_i e; subst e; omega
      · split at hx1
        · omega
        · exact hx1
/-- a page dropped -/
theorem Pst.drop (h : Pst k rs bs S) (hi : i < S.length) (ho : S[i].on = true) (hp : p < 4096) (hf : pf bs S[i].t p = some f) :
    Pst k (rs.set f (rs.getD f 0 - 1)) (pt bs (lof bs S[i].t (p / 64)) (p % 64) 0) S ∧
    Eff k rs bs (rs.set f (rs.getD f 0 - 1)) (pt bs (lof bs S[i].t (p / 64)) (p % 64) 0) S i p none (fun x => if x = f then rs.getD f 0 - 1 else rs.getD x 0) (fby bs) (- b2 (rs.getD f 0 = 1)) := by
  obtain ⟨r1, r2⟩ := h.pur.drop hi ho hp hf
  have hl := h.pur.page_lt hi ho hp hf
  have hfl : f < rs.length := by rw [h.pur.hr]; exact hl.1
  have hR : ∀ x, (rs.set f (rs.getD f 0 - 1)).getD x 0 = if x = f then rs.getD f 0 - 1 else rs.getD x 0 := fun x => getD_set _ _ _ _ hfl
  have htk : ((tk (rs.set f (rs.getD f 0 - 1)) k).length : Int) = (tk rs k).length + - b2 (rs.getD f 0 = 1) := by
    have t := tk_len_set rs f (rs.getD f 0 - 1) k hfl
    rw [if_pos hl.1, if_pos (show 0 < rs.getD f 0 by omega)] at t
    by_cases c : rs.getD f 0 = 1
    · rw [if_neg (by omega)] at t; rw [b2_yes c]; omega
    · rw [if_pos (by omega)] at t; rw [b2_no c]; omega
  have EF := r2.eff (rs := rs) (qs := rs.set f (rs.getD f 0 - 1)) pv_zero hi (nm_of_pf hf) (R := fun x => if x = f then rs.getD f 0 - 1 else rs.getD x 0) (D := fby bs) (fun x _ => hR x) (fun x hx => by
    obtain ⟨a, b⟩ := r1.pf_not hx
    exact r2.bt x b fun y => a ((r2.mn x).2 y)) htk
  refine ⟨⟨r1, fun j hj hoj => ⟨(h.ok j hj hoj).ok, fun q hq x hqx => ?_, fun q hq x hqx hx1 => ?_⟩⟩, EF⟩
  · rw [EF.pg j hj hoj q hq] at hqx
    rw [r2.pg j hj hoj q hq]
    by_cases c : j = i ∧ q = p
    · rw [if_pos c] at hqx; cases hqx
    · rw [if_neg c] at hqx ⊢; exact (h.ok j hj hoj).pm q hq x hqx
  · rw [EF.pg j hj hoj q hq] at hqx
    rw [r2.pg j hj hoj q hq]
    by_cases c : j = i ∧ q = p
    · rw [if_pos c] at hqx; cases hqx
    · rw [if_neg c] at hqx ⊢
      refine (h.ok j hj hoj).cw q hq x hqx ?_
      rw [hR] at hx1
      split at hx1
      · rename_i e; subst e; omega
      · exact hx1
/-- bytes of a page written -/
theorem Pst.write (h : Pst k rs bs S) (hi : i < S.length) (ho : S[i].on = true) (hp : p < 4096) (hf : pf bs S[i].t p = some f) {o : Nat} {l : List Int} (hl : o + l.length ≤ 256) :
    Pst k rs (splice bs (f * 256 + o) l) S ∧ Sam bs (splice bs (f * 256 + o) l) S ∧ ∀ x, x < k → fby (splice bs (f * 256 + o) l) x = if x = f then splice (fby bs f) o l else fby bs x := by
  have hlt := h.pur.page_lt hi ho hp hf
  have hno := h.pur.page_not hi ho hp hf
  have hB : ∀ x, x < k → fby (splice bs (f * 256 + o) l) x = if x = f then splice (fby bs f) o l else fby bs x := fun x hx => fby_sp h.pur.hl l hlt.1 hx hl
  obtain ⟨r1, r2⟩ := h.pur.data (cs := splice bs (f * 256 + o) l) (by rw [splice_len _ _ _ (by rw [h.pur.hl]; omega)]; exact h.pur.hl) fun x hx hm => by
    rw [hB x hx]; exact if_neg (fun (e : x = f) => hno (e ▸ hm))
  refine ⟨⟨r1, fun j hj hoj => ⟨(h.ok j hj hoj).ok, fun q hq x hqx => ?_, fun q hq x hqx hx1 => ?_⟩⟩, r2, hB⟩
  · rw [r2.pfs hj hoj hq] at hqx
    rw [r2.pg j hj hoj q hq]
    exact (h.ok j hj hoj).pm q hq x hqx
  · rw [r2.pfs hj hoj hq] at hqx
    rw [r2.pg j hj hoj q hq]
    exact (h.ok j hj hoj).cw q hq x hqx hx1
end
end Go.Proofs.YtgedimlhldfkaaaGreatDoor
namespace Go.Proofs.YtgedimlhldfkaaaGreatDoor
open Go.RowKit
set_option linter.unusedVariables false
set_option maxRecDepth 100000
/-- may a page be used so? -/
def usP (P : Nat) (u : Int) : Bool := decide (u = 1 ∨ u = 2 ∨ u = 4) && usb P u
theorem usd_usP {f : Int} {P : Nat} {u : Int} (h0 : 0 ≤ f) (h1 : f < 1024) (h2 : P ≤ 7) : usd f P u = usP P u := by
  unfold usd usP
  rw [if_pos ⟨h0, h1, by omega⟩]
  by_cases c : u = 1 ∨ u = 2 ∨ u = 4
  · rw [if_pos c]; simp [c]
  · rw [if_neg c]; simp [c]
theorem spAt_some {l : List Rg} (hl : ROk l) {q : Int} {r : Rg} (h : atO l q = some r) : rpg l q = some r.p ∧ okR r = true := by
  unfold atO at h
  rw [if_pos (rokb_iff.2 hl)] at h
  have hm := List.mem_of_find?_eq_some h
  have hq := List.find?_some h
  exact ⟨hl.asc.pg_at hm hq, RCh.mem hl r hm⟩
theorem spAt_none {l : List Rg} (hl : ROk l) {q : Int} (h : atO l q = none) : rpg l q = none := by
  unfold atO at h
  rw [if_pos (rokb_iff.2 hl), List.find?_eq_none] at h
  exact rpg_none.2 fun r hr => by have := h r hr; simpa using this
theorem full_nofree {rs : List Int} {k : Nat} (hl : rs.length = k) (h : (tk rs k).length = k) : NoFree rs k := fun j hj hz => by
  have e := tk_one hl hj hz
  have := tk_len (rs.set j 1) k
  omega
/-- the error of a page made reachable -/
noncomputable def rchE (k : Nat) (rs bs : List Int) (s : Sq) (m u : Int) (b : Bool) : Int :=
  match rpg s.L m with
  | none => 14
  | some P => if b = false ∧ usP P u = false then 14
    else if pgI bs s.t m = 0 then (if (k : Int) - (tk rs k).length < (if nm bs s.t (m.toNat / 64) = 0 then 2 else 1) then 12 else 0)
    else if u = 2 ∧ 1 < rs.getD (fo (pgI bs s.t m)) 0 ∧ (tk rs k).length = k then 12 else 0
/-- what it makes of the page -/
inductive RchS (k : Nat) (rs bs : List Int) (S : List Sq) (i : Nat) (hi : i < S.length) (p : Nat) (u : Int) : List Int → List Int → Nat → Prop
  | keep {cs : List Int} (f : Nat) : pf bs S[i].t p = some f → (u = 2 → ¬ 1 < rs.getD f 0) → Eff k rs bs rs cs S i p (some f) (fun x => rs.getD x 0) (fby bs) 0 → RchS k rs bs S i hi p u rs cs f
  | fill {qs cs : List Int} (g : Nat) : pf bs S[i].t p = none → (∀ j (hj : j < S.length), S[j].on = true → ∀ q, q < 4096 → pf bs S[j].t q ≠ some g) → g < k →
      Eff k rs bs qs cs S i p (some g) (fun f => if f = g then 1 else rs.getD f 0) (fun f => if f = g then List.replicate 256 0 else fby bs f) (1 + b2 (nm bs S[i].t (p / 64) = 0)) → RchS k rs bs S i hi p u qs cs g
  | split {qs cs : List Int} (f g : Nat) : u = 2 → pf bs S[i].t p = some f → 1 < rs.getD f 0 → (∀ j (hj : j < S.length), S[j].on = true → ∀ q, q < 4096 → pf bs S[j].t q ≠ some g) → g < k →
      Eff k rs bs qs cs S i p (some g) (fun x => if x = f then rs.getD f 0 - 1 else if x = g then 1 else rs.getD x 0) (fun x => if x = g then fby bs f else fby bs x) 1 → RchS k rs bs S i hi p u qs cs g
/-- the answer of a page made reachable, and what is then -/
def RchDone (k fb rb mb qb : Nat) (rs bs : List Int) (S : List Sq) (i : Nat) (hi : i < S.length) (m u : Int) (b : Bool) (w : World) (e : Ending) (w' : World) : Prop :=
  ∃ (x : Nat) (qs cs : List Int), e = .returned (.tuple #[.int .i64 x, erN (rchE k rs bs S[i] m u b)]) ∧ GM w' k fb rb mb qb qs cs S ∧ But (fun g => g = rb ∨ g = qb) w w' ∧ Pst k qs cs S ∧
    ((rchE k rs bs S[i] m u b ≠ 0 ∧ x = 0 ∧ qs = rs ∧ cs = bs) ∨ (rchE k rs bs S[i] m u b = 0 ∧ ∃ p : Nat, m = (p : Int) ∧ p < 4096 ∧ RchS k rs bs S i hi p u qs cs x))
section
variable {w w' : World} {k fb rb mb qb many : Nat} {rs bs qs cs : List Int} {S T : List Sq} {i : Nat}
theorem RchDone.no {m u : Int} {b : Bool} {e : Ending} (hi : i < S.length) (c : Int) (hc : rchE k rs bs S[i] m u b = c) (h0 : c ≠ 0) (st : Pst k rs bs S) (x : GDid k fb rb mb qb rs bs S (.tuple #[.int .i64 0, .iface 98 (.int .i64 c)]) w e w') : RchDone k fb rb mb qb rs bs S i hi m u b w e w' :=
  ⟨0, rs, bs, by rw [hc, erN_pos h0]; exact x.1, x.2.1, x.2.2, st, .inl ⟨by rw [hc]; exact h0, rfl, rfl, rfl⟩⟩
theorem RchDone.yes {m u : Int} {b : Bool} {e : Ending} {f p : Nat} (hi : i < S.length) (hc : rchE k rs bs S[i] m u b = 0) (hm : m = (p : Int)) (hp : p < 4096) (st : Pst k qs cs S) (hs : RchS k rs bs S i hi p u qs cs f) (x : GDid k fb rb mb qb qs cs S (.tuple #[.int .i64 f, .nilIface]) w e w') : RchDone k fb rb mb qb rs bs S i hi m u b w e w' :=
  ⟨f, qs, cs, by rw [hc, erN_zero]; exact x.1, x.2.1, x.2.2, st, .inr ⟨hc, p, hm, hp, hs⟩⟩
theorem Pst.same_eff (h : Pst k rs bs S) {p f : Nat} (hi : i < S.length) (hf : pf bs S[i].t p = some f) : Eff k rs bs rs bs S i p (some f) (fun x => rs.getD x 0) (fby bs) 0 := by
  refine ⟨fun j hj hoj q hq => ?_, fun j hj hoj u hu => ⟨.inl, ?_⟩, fun j hj hoj => ?_, fun _ _ => rfl, fun _ _ => rfl, by omega⟩
  · split
    · rename_i c; obtain ⟨rfl, rfl⟩ := c; exact hf
    · rfl
  · rintro (x | ⟨rfl, rfl, _⟩)
    · exact x
    · exact nm_of_pf hf
  · rw [b2_no (by rintro ⟨rfl, _, x⟩; exact nm_of_pf hf x)]; rfl
theorem reach_st (h : GM w k fb rb mb qb rs bs S) (st : Pst k rs bs S) (hi : i < S.length) (ho : S[i].on = true) (m u : Int) (b : Bool) :
    Calls Tryz.prog 40 #[.pointer (some ⟨S[i].sb, 0, none⟩), .int .i64 m, .int .u8 u, .bool b] w (RchDone k fb rb mb qb rs bs S i hi m u b w) := by
  have gd := st.pur.good i hi ho
  have hk := h.bd
  have OK := st.ok i hi ho
  cases hat : atO S[i].L m with
  | none =>
    have hr := spAt_none OK.ok hat
    have hv : pgI bs S[i].t m = 0 := by
      by_cases c : 0 ≤ m ∧ m < 4096
      · obtain ⟨p, rfl⟩ := Int.eq_ofNat_of_zero_le c.1
        rw [pgI_in _ _ _ (by omega)]
        by_cases z : pgn bs S[i].t p = 0
        · exact z
        · have := OK.pm p (by omega) _ (pv_pos z)
          rw [hr] at this; cases this
      · exact pgI_out _ _ _ c
    exact (reach_out h hi ho gd m u b hv hat).mono fun e w' x => RchDone.no hi 14 (by unfold rchE; rw [hr]) (by decide) st x
  | some r =>
    obtain ⟨hr, hrk⟩ := spAt_some OK.ok hat
    have hr7 := (okR_iff.1 hrk).2.2.2
    have hm : 0 ≤ m ∧ m < 4096 := by
      by_cases c : m < 0 ∨ 4096 ≤ m
      · rw [OK.ok.asc.pg_out c] at hr; cases hr
      · omega
    obtain ⟨p, rfl⟩ := Int.eq_ofNat_of_zero_le hm.1
    have hp : p < 4096 := by omega
    have hpI := pgI_in bs S[i].t p hp
    have hE : rchE k rs bs S[i] (p : Int) u b = if b = false ∧ usP r.p u = false then 14
        else if pgn bs S[i].t p = 0 then (if (k : Int) - (tk rs k).length < (if nm bs S[i].t (p / 64) = 0 then 2 else 1) then 12 else 0)
        else if u = 2 ∧ 1 < rs.getD (fo (pgn bs S[i].t p)) 0 ∧ (tk rs k).length = k then 12 else 0 := by
      unfold rchE
      rw [hr, hpI]
      rfl
    by_cases z : pgn bs S[i].t p = 0
    · have hv : pgI bs S[i].t p = 0 := by rw [hpI]; exact z
      have hpf := pf_none.2 z
      by_cases a : b = false ∧ usP r.p u = false
      · obtain ⟨rfl, a2⟩ := a
        exact (reach_no_new h hi ho gd p u r hv hat (by rw [usd_usP (by omega) (by omega) hr7]; exact a2)).mono fun e w' x => RchDone.no hi 14 (by rw [hE, if_pos ⟨rfl, a2⟩]) (by decide) st x
      · rw [if_neg a, if_pos z] at hE
        have GO : ∀ (x0 : Nat) (er : Value) (qs cs : List Int), (∀ W, GM W k fb rb mb qb rs bs S → Calls Tryz.prog 85 #[.pointer (some ⟨S[i].sb, 0, none⟩), .int .i64 p, .int .u8 (r.p : Int)] W (GDid k fb rb mb qb qs cs S (.tuple #[.int .i64 x0, er]) W)) →
            Calls Tryz.prog 40 #[.pointer (some ⟨S[i].sb, 0, none⟩), .int .i64 p, .int .u8 u, .bool b] w (GDid k fb rb mb qb qs cs S (.tuple #[.int .i64 x0, er]) w) := fun x0 er qs cs X0 => by
          cases b with
          | true => exact reach_fill_t h hi ho gd p u r hv hat x0 er X0
          | false =>
            have : usP r.p u = true := by cases hx : usP r.p u with
              | true => rfl
              | false => exact absurd ⟨rfl, hx⟩ a
            exact reach_fill_f h hi ho gd p u r hv hat (by rw [usd_usP (by omega) (by omega) hr7]; exact this) x0 er X0
        rcases h.free_or with ⟨e1, e2⟩ | ⟨e1, g, hg, hgn, hgz⟩
        · rw [if_pos (by split <;> omega)] at hE
          exact (GO 0 _ rs bs fun W H => fill_no1 H hi ho p r.p e2).mono fun e w' x => RchDone.no hi 12 hE (by decide) st x
        · have t1 := tk_one h.len hg hgz
          have hl1 : (rs.set g 1).length = k := by rw [List.length_set]; exact h.len
          by_cases n0 : nm bs S[i].t (p / 64) = 0 ∧ (tk (rs.set g 1) k).length = k
          · rw [if_pos (by rw [if_pos n0.1]; omega)] at hE
            exact (GO 0 _ rs bs fun W H => fill_no2 H hi ho gd p hp r.p (by omega) (by omega) g hg hgn hgz n0.1 (full_nofree hl1 n0.2)).mono fun e w' x => RchDone.no hi 12 hE (by decide) st x
          · have hlt := tk_len (rs.set g 1) k
            obtain ⟨n, hn⟩ : ∃ n, nm bs S[i].t (p / 64) = 0 → n < k ∧ NoFree (rs.set g 1) n ∧ (rs.set g 1).getD n 0 = 0 := by
              by_cases y : nm bs S[i].t (p / 64) = 0
              · obtain ⟨n, hn⟩ := free_some (h.fits.set g 1 (by omega) (by omega)) hl1 (by have := fun e => n0 ⟨y, e⟩; omega)
                exact ⟨n, fun _ => hn⟩
              · exact ⟨0, fun e => absurd e y⟩
            have hE0 : rchE k rs bs S[i] (p : Int) u b = 0 := by
              rw [hE, if_neg]
              split
              · rename_i y; have := fun e => n0 ⟨y, e⟩; omega
              · omega
            obtain ⟨s1, s2, s3⟩ := st.fill hk.2 hi ho hp hpf r.p hr7 hr hg hgz (n := n) (fun e => ⟨(hn e).1, (hn e).2.2⟩)
            exact (GO g _ _ _ fun W H => fill_ok H hi ho gd p hp r.p (by omega) (by omega) g hg hgn hgz n hn).mono fun e w' x => RchDone.yes hi hE0 rfl hp s1 (RchS.fill g hpf s3 hg s2) x
    · have hpf : pf bs S[i].t p = some (fo (pgn bs S[i].t p)) := pv_pos z
      have hl := st.pur.page_lt hi ho hp hpf
      obtain ⟨d1, d2, d3, d4, d5, d6⟩ := page_dc gd hp hpf
      have hP : pgn bs S[i].t p % 8 = (r.p : Int) := by
        have := OK.pm p hp _ hpf
        rw [hr] at this
        have := Option.some.inj this
        omega
      have hus : usd (dcf (pgI bs S[i].t p)) (dcp (pgI bs S[i].t p)) u = usP r.p u := by
        rw [hpI, d2, d3, hP]
        exact usd_usP (by omega) (by omega) hr7
      have hb : dcb (pgI bs S[i].t p) = true := by rw [hpI]; exact d1
      have hp0 : 0 ≤ dcp (pgI bs S[i].t p) := by rw [hpI, d3]; omega
      by_cases a : b = false ∧ usP r.p u = false
      · obtain ⟨rfl, a2⟩ := a
        exact (reach_no_old h hi ho gd p u hb hp0 (by rw [hus]; exact a2)).mono fun e w' x => RchDone.no hi 14 (by rw [hE, if_pos ⟨rfl, a2⟩]) (by decide) st x
      · rw [if_neg a, if_neg z] at hE
        have ay : b = false → usP r.p u = true := fun e => by
          cases hx : usP r.p u with
          | true => rfl
          | false => exact absurd ⟨e, hx⟩ a
        generalize hfo : fo (pgn bs S[i].t p) = f at *
        have fin : ∀ (x : Value), x = .tuple #[.int .i64 (dcf (pgI bs S[i].t p)), .nilIface] → x = .tuple #[.int .i64 f, .nilIface] := fun x e => by rw [e, hpI, d2]
        by_cases u2 : u = 2
        · subst u2
          cases hz : cwb (pgn bs S[i].t p) with
          | false =>
            have hn1 : ¬ 1 < rs.getD f 0 := fun k1 => by rw [OK.cw p hp f hpf k1] at hz; cases hz
            have hz2 : dcc (pgI bs S[i].t p) = false := by rw [hpI, d4]; exact hz
            have hE0 : rchE k rs bs S[i] (p : Int) 2 b = 0 := by rw [hE, if_neg (fun y => hn1 y.2.1)]
            have KEEP := RchS.keep (u := 2) (hi := hi) f hpf (fun _ => hn1) (st.same_eff hi hpf)
            cases b with
            | true => exact (reach_keep_t h hi ho gd p hb hp0 hz2).mono fun e w' x => RchDone.yes hi hE0 rfl hp st KEEP ⟨by rw [x.1, fin _ rfl], x.2⟩
            | false => exact (reach_keep_f h hi ho gd p hb hp0 (by rw [hus]; exact ay rfl) hz2).mono fun e w' x => RchDone.yes hi hE0 rfl hp st KEEP ⟨by rw [x.1, fin _ rfl], x.2⟩
          | true =>
            have hz2 : dcc (pgI bs S[i].t p) = true := by rw [hpI, d4]; exact hz
            have GO : ∀ (x0 : Nat) (er : Value) (qs cs : List Int), (∀ W, GM W k fb rb mb qb rs bs S → Calls Tryz.prog 86 #[.pointer (some ⟨S[i].sb, 0, none⟩), .int .i64 p, .agg #[.int .i64 f, .int .u8 (pgn bs S[i].t p % 8), .bool true]] W (GDid k fb rb mb qb qs cs S (.tuple #[.int .i64 x0, er]) W)) →
                Calls Tryz.prog 40 #[.pointer (some ⟨S[i].sb, 0, none⟩), .int .i64 p, .int .u8 2, .bool b] w (GDid k fb rb mb qb qs cs S (.tuple #[.int .i64 x0, er]) w) := fun x0 er qs cs X0 => by
              have X1 : ∀ W, GM W k fb rb mb qb rs bs S → Calls Tryz.prog 86 #[.pointer (some ⟨S[i].sb, 0, none⟩), .int .i64 p, .agg #[.int .i64 (dcf (pgI bs S[i].t p)), .int .u8 (dcp (pgI bs S[i].t p)), .bool true]] W (GDid k fb rb mb qb qs cs S (.tuple #[.int .i64 x0, er]) W) := by
                rw [hpI, d2, d3]; exact X0
              cases b with
              | true => exact reach_split_t h hi ho gd p hb hp0 hz2 x0 er X1
              | false => exact reach_split_f h hi ho gd p hb hp0 (by rw [hus]; exact ay rfl) hz2 x0 er X1
            by_cases n1 : 1 < rs.getD f 0
            · rcases h.free_or with ⟨e1, e2⟩ | ⟨e1, g, hg, hgn, hgz⟩
              · exact (GO 0 _ rs bs fun W H => split_no H hi ho p f hl.1 _ true n1 e2).mono fun e w' x => RchDone.no hi 12 (by rw [hE, if_pos ⟨rfl, n1, e1⟩]) (by decide) st x
              · obtain ⟨s1, s2, s3, s4, s5⟩ := st.split hk.2 hi ho hp hpf n1 hg hgz
                exact (GO g _ _ _ fun W H => split_ok H hi ho p hp f hl.1 (pgn bs S[i].t p % 8) true (by omega) (by omega) n1 g hg hgn hgz s1 s2).mono fun e w' x =>
                  RchDone.yes hi (by rw [hE, if_neg (fun y => by omega)]) rfl hp s3 (RchS.split f g rfl hpf n1 s5 hg s4) x
            · obtain ⟨s1, s2⟩ := st.uncow hk.2 hi ho hp hpf n1
              exact (GO f _ _ _ fun W H => split_free H hi ho gd p hp f hl.1 (pgn bs S[i].t p % 8) true (by omega) (by omega) n1 (nm_of_pf hpf)).mono fun e w' x =>
                RchDone.yes hi (by rw [hE, if_neg (fun y => n1 y.2.1)]) rfl hp s1 (RchS.keep f hpf (fun _ => n1) s2) x
        · have hE0 : rchE k rs bs S[i] (p : Int) u b = 0 := by rw [hE, if_neg (fun y => u2 y.1)]
          have KEEP := RchS.keep (u := u) (hi := hi) f hpf (fun e => absurd e u2) (st.same_eff hi hpf)
          cases b with
          | true => exact (reach_old_t h hi ho gd p u hb hp0 u2).mono fun e w' x => RchDone.yes hi hE0 rfl hp st KEEP ⟨by rw [x.1, fin _ rfl], x.2⟩
          | false => exact (reach_old_f h hi ho gd p u hb hp0 (by rw [hus]; exact ay rfl) u2).mono fun e w' x => RchDone.yes hi hE0 rfl hp st KEEP ⟨by rw [x.1, fin _ rfl], x.2⟩
end
end Go.Proofs.YtgedimlhldfkaaaGreatDoor
namespace Go.Proofs.YtgedimlhldfkaaaGreatDoor
open Go.RowKit
set_option linter.unusedVariables false
set_option maxRecDepth 100000
/-- no page is another one's; other bytes -/
structure EffD (k : Nat) (bs cs : List Int) (S : List Sq) (D : Nat → List Int) : Prop where
  pg : ∀ j (hj : j < S.length), S[j].on = true → ∀ q, q < 4096 → pf cs S[j].t q = pf bs S[j].t q
  up : ∀ j (hj : j < S.length), S[j].on = true → ∀ u, u < 64 → (nm cs S[j].t u ≠ 0 ↔ nm bs S[j].t u ≠ 0)
  nu : ∀ j (hj : j < S.length), S[j].on = true → nup cs S[j].t 64 = nup bs S[j].t 64
  da : ∀ f, PF cs S f → fby cs f = D f
noncomputable def rdE (k : Nat) (rs bs : List Int) (s : Sq) (at_ : Nat) (n u : Int) : Int := if plc at_ n = true then rchE k rs bs s ((at_ / 256 : Nat) : Int) u (u == 0) else 14
noncomputable def wrE (k : Nat) (rs bs : List Int) (s : Sq) (at_ n : Nat) (b : Bool) : Int := if plc at_ n = true then rchE k rs bs s ((at_ / 256 : Nat) : Int) 2 b else 14
/-- the answer of bytes read, and what is then -/
def ReadC (c : Int) (k fb rb mb qb : Nat) (rs bs : List Int) (S : List Sq) (i : Nat) (hi : i < S.length) (at_ : Nat) (n u : Int) (w : World) (e : Ending) (w' : World) : Prop :=
  ∃ (v : Value) (l : List Int) (qs cs : List Int), e = .returned (.tuple #[v, erN c]) ∧ OwnB w.heap.size w' v l ∧ GM w' k fb rb mb qb qs cs S ∧ But (fun g => g = rb ∨ g = qb) w w' ∧ Pst k qs cs S ∧
    ((c ≠ 0 ∧ l = [] ∧ qs = rs ∧ cs = bs) ∨ (c = 0 ∧ plc at_ n = true ∧ ∃ f, RchS k rs bs S i hi (at_ / 256) u qs cs f ∧ f < k ∧ l = cut (fby cs f) (at_ % 256) n.toNat))
def ReadDone (k fb rb mb qb : Nat) (rs bs : List Int) (S : List Sq) (i : Nat) (hi : i < S.length) (at_ : Nat) (n u : Int) (w : World) (e : Ending) (w' : World) : Prop := ReadC (rdE k rs bs S[i] at_ n u) k fb rb mb qb rs bs S i hi at_ n u w e w'
/-- the answer of bytes written, and what is then -/
def WrtC (c : Int) (k fb rb mb qb : Nat) (rs bs : List Int) (S : List Sq) (i : Nat) (hi : i < S.length) (at_ : Nat) (l : List Int) (b : Bool) (w : World) (e : Ending) (w' : World) : Prop :=
  ∃ (qs cs : List Int), e = .returned (erN c) ∧ GM w' k fb rb mb qb qs cs S ∧ But (fun g => g = rb ∨ g = qb) w w' ∧ Pst k qs cs S ∧
    ((c ≠ 0 ∧ qs = rs ∧ cs = bs) ∨ (c = 0 ∧ plc at_ l.length = true ∧ ∃ f c1, RchS k rs bs S i hi (at_ / 256) 2 qs c1 f ∧ Pst k qs c1 S ∧ f < k ∧ pf c1 S[i].t (at_ / 256) = some f ∧ EffD k c1 cs S (fun x => if x = f then splice (fby c1 f) (at_ % 256) l else fby c1 x)))
def WrtDone (k fb rb mb qb : Nat) (rs bs : List Int) (S : List Sq) (i : Nat) (hi : i < S.length) (at_ : Nat) (l : List Int) (b : Bool) (w : World) (e : Ending) (w' : World) : Prop := WrtC (wrE k rs bs S[i] at_ l.length b) k fb rb mb qb rs bs S i hi at_ l b w e w'
section
variable {w w' : World} {k fb rb mb qb many : Nat} {rs bs qs cs : List Int} {S T : List Sq} {i : Nat}
theorem RchS.at_ {p : Nat} {u : Int} {f : Nat} {hi : i < S.length} (h : RchS k rs bs S i hi p u qs cs f) (ho : S[i].on = true) (hp : p < 4096) : pf cs S[i].t p = some f := by
  cases h with
  | keep f h1 h2 h3 => have := h3.pg i hi ho p hp; rwa [if_pos ⟨rfl, rfl⟩] at this
  | fill g h1 h2 h3 h4 => have := h4.pg i hi ho p hp; rwa [if_pos ⟨rfl, rfl⟩] at this
  | split f g h1 h2 h3 h4 h5 h6 => have := h6.pg i hi ho p hp; rwa [if_pos ⟨rfl, rfl⟩] at this
theorem rchE_bd (k : Nat) (rs bs : List Int) (s : Sq) (m u : Int) (b : Bool) : rchE k rs bs s m u b = 0 ∨ rchE k rs bs s m u b = 12 ∨ rchE k rs bs s m u b = 14 := by
  have two : ∀ (P : Prop) [Decidable P], (if P then (12 : Int) else 0) = 0 ∨ (if P then (12 : Int) else 0) = 12 ∨ (if P then (12 : Int) else 0) = 14 := fun P _ => by
    by_cases c : P
    · rw [if_pos c]; exact .inr (.inl rfl)
    · rw [if_neg c]; exact .inl rfl
  unfold rchE
  cases rpg s.L m with
  | none => exact .inr (.inr rfl)
  | some P =>
    dsimp only
    by_cases c : b = false ∧ usP P u = false
    · rw [if_pos c]; exact .inr (.inr rfl)
    · rw [if_neg c]
      by_cases d : pgI bs s.t m = 0
      · rw [if_pos d]; exact two _
      · rw [if_neg d]; exact two _
theorem Reach_st (h : GM w k fb rb mb qb rs bs S) (st : Pst k rs bs S) (hi : i < S.length) (ho : S[i].on = true) (m u : Int) :
    Calls Tryz.prog 8 #[.pointer (some ⟨S[i].sb, 0, none⟩), .int .i64 m, .int .u8 u] w (RchDone k fb rb mb qb rs bs S i hi m u (u == 0) w) := by
  have X := reach_st h st hi ho m u (u == 0)
  clear h
  generalize S[i].sb = sb at *
  go_enter Tryz.func8, Tryz.ntmps8
  go_wp2_with fail
  refine X.mono ?_
  rintro e w1 ⟨x, qs, cs, rfl, h1, b1, s1, hx⟩
  go_wp2
  go_ret2
  exact ⟨x, qs, cs, rfl, h1, b1, s1, hx⟩
set_option maxHeartbeats 1000000 in
theorem Read_st (h : GM w k fb rb mb qb rs bs S) (st : Pst k rs bs S) (hi : i < S.length) (ho : S[i].on = true) (at_ : Nat) (n u : Int) (ha : at_ < 4294967296) (hn : -9223372036854775808 ≤ n ∧ n ≤ 9223372036854775807) :
    Calls Tryz.prog 9 #[.pointer (some ⟨S[i].sb, 0, none⟩), .int .u32 at_, .int .i64 n, .int .u8 u] w (ReadDone k fb rb mb qb rs bs S i hi at_ n u w) := by
  cases hp : plc at_ n with
  | false =>
    refine (Read_no h hi ho at_ n u ha hn hp).mono fun e w' x => ?_
    have e1 : rdE k rs bs S[i] at_ n u = 14 := by unfold rdE; rw [if_neg (by rw [hp]; exact Bool.false_ne_true)]
    exact ⟨.slice none 0 0, [], rs, bs, by rw [e1, erN_pos (by decide)]; exact x.1, OwnB.nil _ _, x.2 ▸ h, x.2 ▸ But.refl _ _, st, .inl ⟨by rw [e1]; decide, rfl, rfl, rfl⟩⟩
  | true =>
    have e1 : rdE k rs bs S[i] at_ n u = rchE k rs bs S[i] ((at_ / 256 : Nat) : Int) u (u == 0) := by unfold rdE; rw [if_pos hp]
    have hq := plc_iff.1 hp
    obtain ⟨n, rfl⟩ := Int.eq_ofNat_of_zero_le hq.2.1
    have X := Reach_st h st hi ho ((at_ / 256 : Nat) : Int) u
    obtain ⟨v, hb, _⟩ := (h.has hi ho).box
    have SB := (h.rbqb.2 i hi).1
    have X0 := sgone_no hb
    have Y := place_any w at_ n ha hn
    unfold plcV at Y
    rw [if_pos hp] at Y
    have Z := fun W qs cs f (H : GM W k fb rb mb qb qs cs S) (hf : f < k) => read_any f (at_ % 256) n H.ph hf (by omega)
    unfold Got at Z
    have HB := Lib.hid hb
    have HX := Lib.hid X
    have hne := rchE_bd k rs bs S[i] ((at_ / 256 : Nat) : Int) u (u == 0)
    unfold RchDone at X
    show Calls _ _ _ _ (ReadC (rdE k rs bs S[i] at_ n u) k fb rb mb qb rs bs S i hi at_ n u w)
    rw [e1]
    generalize rchE k rs bs S[i] ((at_ / 256 : Nat) : Int) u (u == 0) = c at *
    have hp3 : at_ / 256 < 4096 := hq.1
    clear h hb hn
    go_enter Tryz.func9, Tryz.ntmps9
    go_wp2_with fail
    refine X0.mono ?_
    rintro e w1 ⟨rfl, rfl⟩
    go_wp2_with fail
    refine Y.mono ?_
    rintro e w1 ⟨rfl, rfl⟩
    go_wp2_with fail
    refine X.mono ?_
    rintro e w1 ⟨x, qs, cs, rfl, h1, b1, s1, ⟨hc, rfl, rfl, rfl⟩ | ⟨rfl, p, hpe, hp4, hr⟩⟩
    · rw [erN_pos hc]
      go_wp2
      go_ret2
      exact ⟨_, [], qs, cs, by rw [erN_pos hc]; rfl, OwnB.nil _ _, h1, b1, s1, .inl ⟨hc, rfl, rfl, rfl⟩⟩
    · rw [erN_zero]
      obtain rfl : p = at_ / 256 := by omega
      have hpf := hr.at_ ho hp4
      have hfl := (s1.pur.page_lt hi ho hp4 hpf).1
      obtain ⟨c0, c1, c2, c3⟩ := Box.four (Box.but HB.out b1 SB)
      have Z1 := Z _ _ _ x h1 hfl
      have hcc : cut cs (x * 256 + at_ % 256) n = cut (fby cs x) (at_ % 256) n := by unfold fby; rw [cut_cut _ _ _ _ _ (by omega)]
      rw [hcc] at Z1
      have hl : (cut (fby cs x) (at_ % 256) n).length = n := cut_len _ _ _ (by rw [fby_len s1.pur.hl hfl]; omega)
      have HL : ∃ L, L = cut (fby cs x) (at_ % 256) n := ⟨_, rfl⟩
      obtain ⟨L, hL⟩ := HL
      rw [← hL] at Z1
      have HLL := Lib.hid hL
      clear hcc hl hL
      go_wp2_with fail
      refine Z1.mono ?_
      rintro e w2 ⟨rfl, hx, n2⟩
      go_wp2
      go_ret2
      have hlm : L.length ≤ maxLen := by rw [HLL.out, cut_len _ _ _ (by rw [fby_len s1.pur.hl hfl]; omega)]; unfold maxLen; omega
      refine ⟨_, L, qs, cs, rfl, ?_, h1.new n2, b1.trans (But.of_new _ n2), s1, .inr ⟨rfl, hp, x, hr, hfl, HLL.out⟩⟩
      exact ⟨by simp [cells8], .inr ⟨_, L.length, _, rfl, b1.size, hx, Nat.le_refl _, hlm, by simp [cells8], by rw [Nat.mul_one]; exact List.take_of_length_le (by simp [cells8])⟩⟩
set_option maxHeartbeats 1000000 in
theorem Write_st (h : GM w k fb rb mb qb rs bs S) (st : Pst k rs bs S) (hi : i < S.length) (ho : S[i].on = true) (at_ : Nat) (p : Option Addr) (cap : Nat) (l : List Int) (b : Bool) (ha : at_ < 4294967296) (hn : l.length ≤ maxLen) (hc : Oct l) (hv : BytsK (fun g => g = rb ∨ g = qb) w (.slice p l.length cap) l) :
    Calls Tryz.prog 16 #[.pointer (some ⟨S[i].sb, 0, none⟩), .int .u32 at_, .slice p l.length cap, .bool b] w (WrtDone k fb rb mb qb rs bs S i hi at_ l b w) := by
  cases hp : plc at_ l.length with
  | false =>
    refine (Write_no h hi ho at_ p l.length cap b ha hn hp).mono fun e w' x => ?_
    have e1 : wrE k rs bs S[i] at_ l.length b = 14 := by unfold wrE; rw [if_neg (by rw [hp]; exact Bool.false_ne_true)]
    exact ⟨rs, bs, by rw [e1, erN_pos (by decide)]; exact x.1, x.2 ▸ h, x.2 ▸ But.refl _ _, st, .inl ⟨by rw [e1]; decide, rfl, rfl⟩⟩
  | true =>
    have e1 : wrE k rs bs S[i] at_ l.length b = rchE k rs bs S[i] ((at_ / 256 : Nat) : Int) 2 b := by unfold wrE; rw [if_pos hp]
    have hq := plc_iff.1 hp
    have X := reach_st h st hi ho ((at_ / 256 : Nat) : Int) 2 b
    obtain ⟨v, hb, _⟩ := (h.has hi ho).box
    have SB := (h.rbqb.2 i hi).1
    have X0 := sgone_no hb
    have Y := place_any w at_ l.length ha (by omega)
    unfold plcV at Y
    rw [if_pos hp] at Y
    have Z := fun W qs cs f (H : GM W k fb rb mb qb qs cs S) hv (hf : f < k) => g_write H f (at_ % 256) (.slice p l.length cap) l hv hc hf (by omega)
    have HB := Lib.hid hb
    unfold RchDone at X
    show Calls _ _ _ _ (WrtC (wrE k rs bs S[i] at_ l.length b) k fb rb mb qb rs bs S i hi at_ l b w)
    rw [e1]
    generalize rchE k rs bs S[i] ((at_ / 256 : Nat) : Int) 2 b = c at *
    have hp3 : at_ / 256 < 4096 := hq.1
    have hn2 : l.length ≤ 9223372036854775807 := by omega
    clear h hb
    go_enter Tryz.func16, Tryz.ntmps16
    go_wp2_with fail
    refine X0.mono ?_
    rintro e w1 ⟨rfl, rfl⟩
    go_wp2_with fail
    refine Y.mono ?_
    rintro e w1 ⟨rfl, rfl⟩
    go_wp2_with fail
    refine X.mono ?_
    rintro e w1 ⟨x, qs, cs, rfl, h1, b1, s1, ⟨hc0, rfl, rfl, rfl⟩ | ⟨rfl, p', hpe, hp4, hr⟩⟩
    · rw [erN_pos hc0]
      go_wp2
      go_ret
      exact ⟨qs, cs, by rw [erN_pos hc0]; rfl, h1, b1, s1, .inl ⟨hc0, rfl, rfl⟩⟩
    · rw [erN_zero]
      obtain rfl : p' = at_ / 256 := by omega
      have hpf := hr.at_ ho hp4
      have hfl := (s1.pur.page_lt hi ho hp4 hpf).1
      obtain ⟨t1, t2, t3⟩ := s1.write hi ho hp4 hpf (o := at_ % 256) (l := l) (by omega)
      obtain ⟨c0, c1, c2, c3⟩ := Box.four (Box.but HB.out b1 SB)
      have Z1 := Z _ _ _ x h1 (hv _ b1) hfl
      have HS := Lib.hid t1
      have HM := Lib.hid t2
      have HT := Lib.hid t3
      clear t1 t2 t3
      go_wp2_with fail
      refine Z1.mono ?_
      rintro e w2 ⟨rfl, h2, b2⟩
      go_wp2
      go_ret
      refine ⟨qs, _, rfl, h2, b1.trans b2, HS.out, .inr ⟨rfl, hp, x, cs, hr, s1, hfl, hpf, ⟨fun j hj hoj q hq => HM.out.pfs hj hoj hq, fun j hj hoj u hu => by rw [HM.out.up j hj hoj u hu], fun j hj hoj => HM.out.nup hj hoj, fun f hf => HT.out f (HS.out.pur.pf_not hf).2⟩⟩⟩
/-- other regions, that tell the pages' uses as well -/
theorem Pst.relay (h : Pst k rs bs S) (hi : i < S.length) (ho : S[i].on = true) (L : List Rg) (hL : ROk L) (hp : ∀ p, p < 4096 → ∀ f, pf bs S[i].t p = some f → rpg L (p : Int) = rpg S[i].L (p : Int)) : Pst k rs bs (S.set i (S[i].lay L)) := by
  refine ⟨h.pur.relay hi L, fun j hj hoj => ?_⟩
  rw [set_at hi _ j hj] at hoj ⊢
  have hj' : j < S.length := by simpa using hj
  by_cases c : j = i
  · subst c
    rw [if_pos rfl] at hoj ⊢
    exact ⟨hL, fun p hp' f hf => by rw [show (S[j].lay L).L = L from rfl, hp p hp' f hf]; exact (h.ok j hj' ho).pm p hp' f hf, (h.ok j hj' ho).cw⟩
  · rw [if_neg c] at hoj ⊢
    exact h.ok j hj' hoj
theorem adL_ok {l : List Rg} {r : Rg} (hl : ROk l) (hc : adE l r = 0) : ROk (adL l r) ∧ (∀ q, rpg (adL l r) q = if inR r q = true then some r.p else rpg l q) ∧ (∀ q, inR r q = true → rpg l q = none) ∧ okR r = true := by
  have hr : okR r = true := by
    cases h : okR r with
    | true => rfl
    | false => unfold adE at hc; rw [if_neg (by rw [h]; simp)] at hc; cases hc
  rcases adE_cases hl hr with ⟨_, h2, h3⟩ | ⟨h1, _⟩
  · rw [h2]
    exact ⟨ROk.layL hl hr, rpg_layL hl hr, fun q hq => by have := inR_iff.1 hq; exact h3 q this.1 this.2, hr⟩
  · rw [hc] at h1; cases h1
theorem ctL_ok {l : List Rg} {a b : Int} (hl : ROk l) (hc : ctE l a b = 0) : ROk (ctL l a b) ∧ (∀ q, rpg (ctL l a b) q = if a ≤ q ∧ q < b then none else rpg l q) ∧ 0 ≤ a ∧ a < b ∧ b ≤ 4096 := by
  have hk : okP a b = true := by
    cases h : okP a b with
    | true => rfl
    | false => unfold ctE at hc; rw [if_neg (by rw [h]; simp)] at hc; cases hc
  have hab := okP_iff.1 hk
  unfold ctL
  rw [if_pos hc]
  exact ⟨ROk.cutL hl hab.2.1, rpg_cutL hl hab.2.1, hab⟩
theorem prL_ok {l : List Rg} {r : Rg} (hl : ROk l) (hc : prE l r = 0) : ROk (prL l r) ∧ (∀ q, rpg (prL l r) q = if inR r q = true then some r.p else rpg l q) ∧ okR r = true := by
  have hr : okR r = true := by
    cases h : okR r with
    | true => rfl
    | false => unfold prE at hc; rw [if_neg (by rw [h]; simp)] at hc; cases hc
  rcases prE_cases hl hr with ⟨_, h2, _⟩ | ⟨h1, _⟩
  · rw [h2]
    exact ⟨ROk.layL hl hr, rpg_layL hl hr, hr⟩
  · rw [hc] at h1; cases h1
/-- Map: the state then -/
theorem Map_st (h : GM w k fb rb mb qb rs bs S) (st : Pst k rs bs S) (hi : i < S.length) (ho : S[i].on = true) (r : Rg) :
    Calls Tryz.prog 13 #[.pointer (some ⟨S[i].sb, 0, none⟩), .agg #[.int .i64 r.f, .int .i64 r.t, .int .u8 (r.p : Int)]] w fun e w' =>
      ∃ T, LayDid k fb rb mb qb rs bs T S[i].sb (adE S[i].L r) w e w' ∧ Pst k rs bs T ∧ T = if adE S[i].L r = 0 then S.set i (S[i].lay (adL S[i].L r)) else S := by
  by_cases c : adE S[i].L r = 0
  · refine (Map_ok h hi ho r c).mono fun e w' x => ?_
    obtain ⟨a1, a2, a3, _⟩ := adL_ok (st.ok i hi ho).ok c
    refine ⟨_, by rw [c]; exact x, st.relay hi ho _ a1 fun p hp f hf => ?_, by rw [if_pos c]⟩
    rw [a2]
    split
    · rename_i y
      have e1 := a3 _ y
      rw [(st.ok i hi ho).pm p hp f hf] at e1; cases e1
    · rfl
  · exact (Map_no h hi ho r c).mono fun e w' x => ⟨S, x, st, by rw [if_neg c]⟩
/-- pages dropped one by one: what is then -/
theorem DrpC.st {t : Nat} {l : List Int} (h : DrpC t l rs bs qs cs) (st : Pst k rs bs S) (hi : i < S.length) (ho : S[i].on = true) (ht : t = S[i].t) : Pst k qs cs S ∧ ∀ q : Nat, q < 4096 → pf cs S[i].t q = if (q : Int) ∈ l then none else pf bs S[i].t q := by
  subst ht
  induction h with
  | nil => exact ⟨st, fun q _ => by rw [if_neg (by simp)]⟩
  | snoc p f h1 hp hf ih =>
    rename_i l0 r0 b0 q0 c0
    obtain ⟨g1, g2⟩ := ih st
    obtain ⟨r1, r2⟩ := g1.drop hi ho hp hf
    refine ⟨r1, fun q hq => ?_⟩
    rw [r2.pg i hi ho q hq]
    by_cases c : q = p
    · subst c; rw [if_pos ⟨rfl, rfl⟩, if_pos (by simp)]
    · rw [if_neg (fun x => c x.2), g2 q hq]
      have : ((q : Int) ∈ l0 ++ [(p : Int)]) ↔ ((q : Int) ∈ l0) := by
        rw [List.mem_append, List.mem_singleton]
        exact ⟨fun x => x.resolve_right (by omega), .inl⟩
      simp only [this]
/-- Unmap: the state then -/
theorem Unmap_st (h : GM w k fb rb mb qb rs bs S) (st : Pst k rs bs S) (hi : i < S.length) (ho : S[i].on = true) (x y : Int) :
    Calls Tryz.prog 14 #[.pointer (some ⟨S[i].sb, 0, none⟩), .int .i64 x, .int .i64 y] w fun e w' =>
      e = .returned (erN (ctE S[i].L x y)) ∧ ∃ qs cs T, GM w' k fb rb mb qb qs cs T ∧ But (fun g => (g = rb ∨ g = qb) ∨ g = S[i].sb) w w' ∧ Pst k qs cs T ∧
        ((ctE S[i].L x y ≠ 0 ∧ qs = rs ∧ cs = bs ∧ T = S) ∨ (ctE S[i].L x y = 0 ∧ T = S.set i (S[i].lay (ctL S[i].L x y)) ∧ DrpC S[i].t ((pgs (pgn bs S[i].t) 4096).filter fun p => !outR x y p) rs bs qs cs ∧ Pst k qs cs S)) := by
  by_cases c : ctE S[i].L x y = 0
  · refine (Unmap_ok h hi ho st.pur x y c).mono ?_
    rintro e w' ⟨rfl, qs, cs, h1, b1, hd⟩
    obtain ⟨s1, s2⟩ := hd.st st hi ho rfl
    obtain ⟨a1, a2, a3⟩ := ctL_ok (st.ok i hi ho).ok c
    refine ⟨by rw [c]; rfl, qs, cs, _, h1, b1, s1.relay hi ho _ a1 fun p hp f hf => ?_, .inr ⟨c, rfl, hd, s1⟩⟩
    rw [a2, if_neg]
    rintro ⟨y1, y2⟩
    rw [s2 p hp] at hf
    split at hf
    · cases hf
    · rename_i z
      exact z (List.mem_filter.2 ⟨pgs_mem.2 ⟨p, hp, rfl, (pf_some.1 hf).1⟩, by unfold outR; simp; omega⟩)
  · refine (Unmap_no h hi ho x y c).mono ?_
    rintro e w' ⟨rfl, h1, b1⟩
    exact ⟨rfl, rs, bs, S, h1, b1.mono (fun _ _ x => .inr x), st, .inl ⟨c, rfl, rfl, rfl⟩⟩
/-- pages used in another way, one by one: what is then -/
theorem PrtC.st {t : Nat} {l : List Int} {P : Int} (h : PrtC t P l bs cs) (st : Pst k rs bs S) (hk : k ≤ 1024) (q0 : 0 ≤ P) (q1 : P ≤ 7) (hi : i < S.length) (ho : S[i].on = true) (ht : t = S[i].t) :
    PurD k rs cs S (fun _ => 0) ∧ EffD k bs cs S (fby bs) ∧ (∀ j (hj : j < S.length), S[j].on = true → j ≠ i → ∀ q, q < 4096 → pgn cs S[j].t q = pgn bs S[j].t q) ∧
    (∀ q : Nat, q < 4096 → pgn cs S[i].t q % 8 = (if (q : Int) ∈ l then (if pgn bs S[i].t q = 0 then pgn cs S[i].t q % 8 else P) else pgn bs S[i].t q % 8)) ∧ ∀ q : Nat, q < 4096 → cwb (pgn bs S[i].t q) = true → cwb (pgn cs S[i].t q) = true := by
  subst ht
  induction h with
  | nil => exact ⟨st.pur, ⟨fun _ _ _ _ _ => rfl, fun _ _ _ _ _ => Iff.rfl, fun _ _ _ => rfl, fun _ _ => rfl⟩, fun _ _ _ _ _ _ => rfl, fun q _ => by rw [if_neg (by simp)], fun _ _ x => x⟩
  | snoc p f h1 hp hf ih =>
    rename_i l0 bs cs0
    obtain ⟨g1, g2, g3, g4, g5⟩ := ih st
    obtain ⟨r1, r2⟩ := g1.recode hk hi ho hp hf P (cwb (pgn cs0 S[i].t p)) q0 q1
    have hl := g1.page_lt hi ho hp hf
    obtain ⟨_, _, _, _, v4, v5, v6⟩ := ennum_pv f P (cwb (pgn cs0 S[i].t p)) (by omega) q0 q1
    have EF := r2.eff (rs := rs) (qs := rs) v4 hi (nm_of_pf hf) (R := fun x => rs.getD x 0) (D := fby cs0) (dt := 0) (fun _ _ => rfl) (fun x hx => by
      obtain ⟨a, b⟩ := r1.pf_not hx
      exact r2.bt x b fun y => a ((r2.mn x).2 y)) (by omega)
    have hpf : ∀ j (hj : j < S.length), S[j].on = true → ∀ q, q < 4096 → pf (pt cs0 (lof cs0 S[i].t (p / 64)) (p % 64) (ennum f P (cwb (pgn cs0 S[i].t p)))) S[j].t q = pf cs0 S[j].t q := fun j hj hoj q hq => by
      rw [EF.pg j hj hoj q hq]
      split
      · rename_i c; obtain ⟨rfl, rfl⟩ := c; exact hf.symm
      · rfl
    refine ⟨r1, ⟨fun j hj hoj q hq => by rw [hpf j hj hoj q hq, g2.pg j hj hoj q hq], fun j hj hoj u hu => by rw [r2.up j hj hoj u hu, g2.up j hj hoj u hu], fun j hj hoj => ?_, fun x hx => ?_⟩, fun j hj hoj hne q hq => by rw [r2.pg j hj hoj q hq, if_neg (fun x => hne x.1), g3 j hj hoj hne q hq], fun q hq => ?_, fun q hq hc => ?_⟩
    · rw [EF.nu j hj hoj, b2_no (by rintro ⟨rfl, _, x⟩; exact nm_of_pf hf x), Nat.add_zero, g2.nu j hj hoj]
    · rw [EF.da x hx]
      refine g2.da x ?_
      obtain ⟨j, hj, hoj, q, hq, e⟩ := hx
      exact ⟨j, hj, hoj, q, hq, by rw [← hpf j hj hoj q hq]; exact e⟩
    · rw [r2.pg i hi ho q hq]
      by_cases c : q = p
      · subst c
        rw [if_pos ⟨rfl, rfl⟩, if_pos (by simp), v5, if_neg]
        have := g2.pg i hi ho q hq
        rw [hf] at this
        exact (pf_some.1 this.symm).1
      · rw [if_neg (fun x => c x.2), g4 q hq]
        have : ((q : Int) ∈ l0 ++ [(p : Int)]) ↔ ((q : Int) ∈ l0) := by
          rw [List.mem_append, List.mem_singleton]
          exact ⟨fun x => x.resolve_right (by omega), .inl⟩
        by_cases d : (q : Int) ∈ l0
        · rw [if_pos d, if_pos (this.2 d)]
          by_cases e : pgn bs S[i].t q = 0
          · rw [if_pos e, if_pos e]
          · rw [if_neg e, if_neg e]
        · rw [if_neg d, if_neg (fun z => d (this.1 z))]
    · rw [r2.pg i hi ho q hq]
      by_cases c : q = p
      · subst c; rw [if_pos ⟨rfl, rfl⟩, v6]; exact g5 q hq hc
      · rw [if_neg (fun x => c x.2)]; exact g5 q hq hc
/-- Protect: the state then -/
theorem Protect_st (h : GM w k fb rb mb qb rs bs S) (st : Pst k rs bs S) (hi : i < S.length) (ho : S[i].on = true) (x y : Int) (P : Nat) :
    Calls Tryz.prog 15 #[.pointer (some ⟨S[i].sb, 0, none⟩), .int .i64 x, .int .i64 y, .int .u8 (P : Int)] w fun e w' =>
      e = .returned (erN (prE S[i].L ⟨x, y, P⟩)) ∧ ∃ cs T, GM w' k fb rb mb qb rs cs T ∧ But (fun g => (g = rb ∨ g = qb) ∨ g = S[i].sb) w w' ∧ Pst k rs cs T ∧ EffD k bs cs S (fby bs) ∧ T = if prE S[i].L ⟨x, y, P⟩ = 0 then S.set i (S[i].lay (prL S[i].L ⟨x, y, P⟩)) else S := by
  by_cases c : prE S[i].L ⟨x, y, P⟩ = 0
  · obtain ⟨a1, a2, a3⟩ := prL_ok (st.ok i hi ho).ok c
    have aP := (okR_iff.1 a3).2.2.2
    refine (Protect_ok h hi ho st.pur x y P c).mono ?_
    rintro e w' ⟨rfl, qs, cs, h1, b1, rfl, hd⟩
    obtain ⟨p1, p2, p3, p4, p5⟩ := hd.st st h.bd.2 (by omega) (by exact_mod_cast aP) hi ho rfl
    refine ⟨by rw [c]; rfl, cs, _, h1, b1, ⟨p1.relay hi _, fun j hj hoj => ?_⟩, p2, by rw [if_pos c]⟩
    rw [set_at hi _ j hj] at hoj ⊢
    have hj' : j < S.length := by simpa using hj
    by_cases d : j = i
    · subst d
      rw [if_pos rfl] at hoj ⊢
      refine ⟨a1, fun q hq f hf => ?_, fun q hq f hf h1 => ?_⟩
      · have hf' : pf bs S[j].t q = some f := by rw [← p2.pg j hj' ho q hq]; exact hf
        have hz := (pf_some.1 hf').1
        have e4 := p4 q hq
        show rpg (prL S[j].L ⟨x, y, P⟩) (q : Int) = some (pgn cs S[j].t q % 8).toNat
        rw [a2]
        by_cases m : inR ⟨x, y, P⟩ (q : Int) = true
        · have m' := inR_iff.1 m
          rw [if_pos m]
          rw [if_pos (List.mem_filter.2 ⟨pgs_mem.2 ⟨q, hq, rfl, hz⟩, by unfold outR; simp at m' ⊢; omega⟩), if_neg hz] at e4
          rw [e4]; rfl
        · rw [if_neg m]
          rw [if_neg (fun z => by
            have z2 := (List.mem_filter.1 z).2
            unfold outR at z2
            apply m
            rw [inR_iff]
            simp at z2 ⊢; omega)] at e4
          rw [e4]
          exact (st.ok j hj' ho).pm q hq f hf'
      · have hf' : pf bs S[j].t q = some f := by rw [← p2.pg j hj' ho q hq]; exact hf
        exact p5 q hq ((st.ok j hj' ho).cw q hq f hf' h1)
    · rw [if_neg d] at hoj ⊢
      refine ⟨(st.ok j hj' hoj).ok, fun q hq f hf => ?_, fun q hq f hf h1 => ?_⟩
      · have hf' : pf bs S[j].t q = some f := by rw [← p2.pg j hj' hoj q hq]; exact hf
        rw [p3 j hj' hoj d q hq]; exact (st.ok j hj' hoj).pm q hq f hf'
      · have hf' : pf bs S[j].t q = some f := by rw [← p2.pg j hj' hoj q hq]; exact hf
        rw [p3 j hj' hoj d q hq]; exact (st.ok j hj' hoj).cw q hq f hf' h1
  · refine (Protect_no h hi ho x y P c).mono ?_
    rintro e w' ⟨rfl, h1, b1⟩
    exact ⟨rfl, bs, S, h1, b1.mono (fun _ _ x => .inr x), st, ⟨fun _ _ _ _ _ => rfl, fun _ _ _ _ _ => Iff.rfl, fun _ _ _ => rfl, fun _ _ => rfl⟩, by rw [if_neg c]⟩
end
end Go.Proofs.YtgedimlhldfkaaaGreatDoor
namespace Go.Proofs.YtgedimlhldfkaaaGreatDoor
open Go.RowKit
set_option linter.unusedVariables false
set_option maxRecDepth 100000
section
variable {w w' : World} {k fb rb mb qb many : Nat} {rs bs qs cs : List Int} {S T : List Sq} {i : Nat}
theorem sn_le (bs : List Int) (t f : Nat) : sn bs t f ≤ 4097 := by
  have key : ∀ n, sumN (fun p => b2 (pf bs t p = some f)) n ≤ n := fun n => by
    induction n with
    | zero => exact Nat.le_refl _
    | succ n ih => unfold sumN; have := b2_le (pf bs t n = some f); omega
  unfold sn
  have := key 4096
  have := b2_le (Mine bs t f)
  omega
theorem cntS_le (bs : List Int) (S : List Sq) (f : Nat) : cntS bs S f ≤ 4097 * S.length := by
  induction S with
  | nil => exact Nat.zero_le _
  | cons s S ih =>
    have e : cntS bs (s :: S) f = sq bs f s + cntS bs S f := by simp [cntS]
    have : sq bs f s ≤ 4097 := by
      unfold sq
      split
      · exact sn_le _ _ _
      · omega
    rw [e, List.length_cons]; omega
/-- no frame is had too often -/
theorem Pst.small (h : Pst k rs bs S) (hS : S.length ≤ 100000) {f : Nat} (hf : f < k) : rs.getD f 0 ≤ 500000000 := by
  have c := h.pur.cnt f hf
  have := cntS_le bs S f
  omega
theorem PgOk.more {s : Sq} (h : PgOk rs bs s) (hp : ∀ q, q < 4096 → pgn cs s.t q = pgn bs s.t q) (hr : ∀ q, q < 4096 → ∀ f, pf bs s.t q = some f → 1 < qs.getD f 0 → 1 < rs.getD f 0) : PgOk qs cs s := by
  have e : ∀ q, q < 4096 → pf cs s.t q = pf bs s.t q := fun q hq => by unfold pf; rw [hp q hq]
  exact ⟨h.ok, fun q hq f hf => by rw [hp q hq]; exact h.pm q hq f (by rw [← e q hq]; exact hf), fun q hq f hf h1 => by
    rw [hp q hq]
    have hf' : pf bs s.t q = some f := by rw [← e q hq]; exact hf
    exact h.cw q hq f hf' (hr q hq f hf' h1)⟩
/-- a space more, that has nothing -/
theorem Pst.push (h : Pst k rs bs S) {g : Nat} (hg : g < k) (hz : rs.getD g 0 = 0) (s : Sq) (hs : s.t = g) (ho : s.on = true) (hL : ROk s.L) : Pst k (rs.set g 1) (zr bs g) (S ++ [s]) ∧ Sam bs (zr bs g) S ∧ (∀ u, u < 64 → nm (zr bs g) g u = 0) ∧ (∀ f, f < k → f ≠ g → fby (zr bs g) f = fby bs f) := by
  obtain ⟨r1, r2, r3, r4⟩ := h.pur.push hg hz s hs ho
  refine ⟨⟨r1, fun j hj hoj => ?_⟩, r2, r3, r4⟩
  by_cases c : j < S.length
  · rw [List.getElem_append_left c] at hoj ⊢
    refine (h.ok j c hoj).more (fun q hq => r2.pg j c hoj q hq) fun q hq f hf h1 => ?_
    rw [getD_set _ _ _ _ (by rw [h.pur.hr]; exact hg)] at h1
    split at h1
    · omega
    · exact h1
  · have e : j = S.length := by simp at hj; omega
    subst e
    rw [List.getElem_append_right (Nat.le_refl _)] at hoj ⊢
    simp only [Nat.sub_self, List.getElem_cons_zero] at hoj ⊢
    have hp : ∀ q, q < 4096 → pf (zr bs g) s.t q = none := fun q hq => pf_none.2 (by rw [hs]; exact pgn_none r3 q hq)
    refine ⟨hL, fun q hq f hf => ?_, fun q hq f hf => ?_⟩
    · rw [hp q hq] at hf; cases hf
    · rw [hp q hq] at hf; cases hf
/-- what a fork makes, as others see it: pages, upper parts, frames, bytes -/
structure FrkS (k : Nat) (rs bs qs cs : List Int) (S T : List Sq) (i : Nat) (hi : i < S.length) (L : List Int) : Prop where
  len : T.length = S.length + 1
  old : ∀ j (hj : j < S.length) (hj' : j < T.length), T[j] = S[j]
  new : ∀ (hj : S.length < T.length), T[S.length].on = true ∧ T[S.length].L = S[i].L ∧ (∀ q, q < 4096 → pf cs T[S.length].t q = pf bs S[i].t q) ∧ (∀ u : Nat, u < 64 → (nm cs T[S.length].t u ≠ 0 ↔ ∃ x ∈ L, x / 64 = (u : Int))) ∧ ((1 + nup cs T[S.length].t 64 : Nat) : Int) = (tbs L).1
  pg : ∀ j (hj : j < S.length), S[j].on = true → ∀ q, q < 4096 → pf cs S[j].t q = pf bs S[j].t q
  up : ∀ j (hj : j < S.length), S[j].on = true → ∀ u, u < 64 → (nm cs S[j].t u ≠ 0 ↔ nm bs S[j].t u ≠ 0)
  nu : ∀ j (hj : j < S.length), S[j].on = true → nup cs S[j].t 64 = nup bs S[j].t 64
  tk : ((tk qs k).length : Int) = (tk rs k).length + (tbs L).1
  da : ∀ f, PF bs S f → fby cs f = fby bs f
  rf : ∀ f, PF bs S f → qs.getD f 0 = rs.getD f 0 + (cf bs S[i].t L f : Int)
theorem cf_congr {t : Nat} {l : List Int} (h : ∀ x ∈ l, pf cs t x.toNat = pf bs t x.toNat) (f : Nat) : cf cs t l f = cf bs t l f := by
  unfold cf
  induction l with
  | nil => rfl
  | cons x l ih =>
    rw [List.countP_cons, List.countP_cons, ih fun y hy => h y (List.mem_cons_of_mem _ hy), h x List.mem_cons_self]
theorem Pst.fork (h : Pst k rs bs S) (hk : k ≤ 1024) (hi : i < S.length) (ho : S[i].on = true) {g sb tb : Nat} (hg : g < k) (hz : rs.getD g 0 = 0)
    {hi' : i < (S ++ [(⟨sb, tb, g, S[i].L, true⟩ : Sq)]).length} {hj' : S.length < (S ++ [(⟨sb, tb, g, S[i].L, true⟩ : Sq)]).length}
    (hs : ShrP k (rs.set g 1) (zr bs g) (S ++ [(⟨sb, tb, g, S[i].L, true⟩ : Sq)]) i S.length hi' hj' (pgs (pgn bs S[i].t) 4096) qs cs (fun _ => 0)) :
    Pst k qs cs (S ++ [(⟨sb, tb, g, S[i].L, true⟩ : Sq)]) ∧ FrkS k rs bs qs cs S (S ++ [(⟨sb, tb, g, S[i].L, true⟩ : Sq)]) i hi (pgs (pgn bs S[i].t) 4096) := by
  obtain ⟨p1, p2, p3, p4⟩ := h.push hg hz (⟨sb, tb, g, S[i].L, true⟩ : Sq) rfl rfl (h.ok i hi ho).ok
  have ei : (S ++ [(⟨sb, tb, g, S[i].L, true⟩ : Sq)])[i] = S[i] := List.getElem_append_left hi
  have em : (S ++ [(⟨sb, tb, g, S[i].L, true⟩ : Sq)])[S.length] = ⟨sb, tb, g, S[i].L, true⟩ := by simp
  have eo : ∀ j (hj : j < S.length) (hj2 : j < (S ++ [(⟨sb, tb, g, S[i].L, true⟩ : Sq)]).length), (S ++ [(⟨sb, tb, g, S[i].L, true⟩ : Sq)])[j] = S[j] := fun j hj _ => List.getElem_append_left hj
  have hoi : ((S ++ [(⟨sb, tb, g, S[i].L, true⟩ : Sq)])[i]).on = true := by rw [ei]; exact ho
  have PFI := fun q hq => hs.pfi (q := q) p1.pur hk hoi hq
  simp only [ei] at PFI
  have ML : ∀ q : Nat, q < 4096 → ((q : Int) ∈ pgs (pgn bs S[i].t) 4096 ↔ pgn bs S[i].t q ≠ 0) := fun q hq => by
    rw [pgs_mem]
    constructor
    · rintro ⟨p, h1, h2, h3⟩
      obtain rfl : q = p := by omega
      exact h3
    · intro h3; exact ⟨q, hq, rfl, h3⟩
  have PGI := hs.pgi
  simp only [ei, em] at PGI
  have Zi : ∀ q, q < 4096 → pgn (zr bs g) S[i].t q = pgn bs S[i].t q := fun q hq => p2.pg i hi ho q hq
  have PF0 : ∀ f, PF bs S f → ¬ Mn cs (S ++ [(⟨sb, tb, g, S[i].L, true⟩ : Sq)]) f ∧ f < k ∧ f ≠ g := fun f hf => by
    obtain ⟨j, hj, hoj, q, hq, e⟩ := hf
    have hl := h.pur.page_lt hj hoj hq e
    have hne : f ≠ g := fun x => by rw [x] at hl; omega
    refine ⟨?_, hl.1, hne⟩
    have hj2 : j < (S ++ [(⟨sb, tb, g, S[i].L, true⟩ : Sq)]).length := by simp; omega
    refine hs.pur.page_not hj2 (by rw [eo j hj]; exact hoj) hq (f := f) ?_
    rw [eo j hj]
    by_cases c : j = i
    · subst c
      rw [(PFI q hq).1, p2.pfs hi ho hq]; exact e
    · have := hs.pgo j hj2 (by rw [eo j hj]; exact hoj) c (by omega) q hq
      rw [eo j hj] at this
      unfold pf
      rw [this, p2.pg j hj hoj q hq]; exact e
  have hpg : ∀ j (hj : j < S.length), S[j].on = true → ∀ q, q < 4096 → pf cs S[j].t q = pf bs S[j].t q := fun j hj hoj q hq => by
    have hj2 : j < (S ++ [(⟨sb, tb, g, S[i].L, true⟩ : Sq)]).length := by simp; omega
    by_cases c : j = i
    · subst c
      rw [(PFI q hq).1, p2.pfs hi ho hq]
    · have := hs.pgo j hj2 (by rw [eo j hj]; exact hoj) c (by omega) q hq
      rw [eo j hj] at this
      unfold pf
      rw [this, p2.pg j hj hoj q hq]
  have hup : ∀ j (hj : j < S.length), S[j].on = true → ∀ u, u < 64 → nm cs S[j].t u = nm bs S[j].t u := fun j hj hoj u hu => by
    have hj2 : j < (S ++ [(⟨sb, tb, g, S[i].L, true⟩ : Sq)]).length := by simp; omega
    have := hs.upo j hj2 (by rw [eo j hj]; exact hoj) (by omega) u hu
    rw [eo j hj] at this
    rw [this, p2.up j hj hoj u hu]
  have hch : ∀ q, q < 4096 → pf cs g q = pf bs S[i].t q := fun q hq => by
    have e := PGI q hq
    by_cases c : pgn bs S[i].t q = 0
    · rw [if_neg (fun x => (ML q hq).1 x c)] at e
      rw [pf_none.2 c, pf_none.2 e.2]
    · rw [if_pos ((ML q hq).2 c)] at e
      have e1 : pf cs S[i].t q = pf bs S[i].t q := hpg i hi ho q hq
      rw [← e1]; unfold pf; rw [e.2.2]
  have hrf : ∀ f, PF bs S f → qs.getD f 0 = rs.getD f 0 + (cf bs S[i].t (pgs (pgn bs S[i].t) 4096) f : Int) := fun f hf => by
    obtain ⟨a1, a2, a3⟩ := PF0 f hf
    have e := hs.rfs f a2 a1
    rw [getD_set _ _ _ _ (by rw [h.pur.hr]; exact hg), if_neg a3] at e
    rw [ei] at e
    rw [e, cf_congr (bs := bs) (cs := zr bs g)]
    intro x hx
    obtain ⟨p, h1, rfl, _⟩ := pgs_mem.1 hx
    simp only [Int.toNat_natCast]
    exact p2.pfs hi ho h1
  have CW : ∀ q, q < 4096 → pgn bs S[i].t q ≠ 0 → cwb (pgn cs S[i].t q) = true ∧ pgn cs S[i].t q % 8 = pgn bs S[i].t q % 8 ∧ pgn cs g q = pgn cs S[i].t q := fun q hq hnz => by
    have e := PGI q hq
    rw [if_pos ((ML q hq).2 hnz)] at e
    rw [Zi q hq] at e
    have hf : pf bs S[i].t q = some (fo (pgn bs S[i].t q)) := pv_pos hnz
    have hl := h.pur.page_lt hi ho hq hf
    obtain ⟨_, _, _, _, _, v5, v6⟩ := ennum_pv (fo (pgn bs S[i].t q)) (pgn bs S[i].t q % 8) true (by omega) (by omega) (by omega)
    rw [e.2.2, e.1]
    exact ⟨v6, v5, rfl⟩
  refine ⟨⟨hs.pur, fun j hj hoj => ?_⟩, ⟨by simp, eo, fun _ => ?_, hpg, fun j hj hoj u hu => by rw [hup j hj hoj u hu], fun j hj hoj => ?_, ?_, fun f hf => ?_, hrf⟩⟩
  · by_cases c : j < S.length
    · rw [eo j c] at hoj ⊢
      by_cases d : j = i
      · subst d
        refine ⟨(h.ok j c ho).ok, fun q hq f hf => ?_, fun q hq f hf h1 => ?_⟩
        · have hf' : pf bs S[j].t q = some f := by rw [← hpg j c ho q hq]; exact hf
          rw [(CW q hq (pf_some.1 hf').1).2.1]; exact (h.ok j c ho).pm q hq f hf'
        · have hf' : pf bs S[j].t q = some f := by rw [← hpg j c ho q hq]; exact hf
          exact (CW q hq (pf_some.1 hf').1).1
      · have hp : ∀ q, q < 4096 → pgn cs S[j].t q = pgn bs S[j].t q := fun q hq => by
          have := hs.pgo j hj (by rw [eo j c]; exact hoj) d (by omega) q hq
          rw [eo j c] at this
          rw [this, p2.pg j c hoj q hq]
        refine ⟨(h.ok j c hoj).ok, fun q hq f hf => ?_, fun q hq f hf h1 => ?_⟩
        · have hf' : pf bs S[j].t q = some f := by rw [← hpg j c hoj q hq]; exact hf
          rw [hp q hq]; exact (h.ok j c hoj).pm q hq f hf'
        · have hf' : pf bs S[j].t q = some f := by rw [← hpg j c hoj q hq]; exact hf
          rw [hp q hq]
          refine (h.ok j c hoj).cw q hq f hf' ?_
          rw [hrf f ⟨j, c, hoj, q, hq, hf'⟩] at h1
          -- shared with the one that was forked, or had more than once
          by_cases z : 1 < rs.getD f 0
          · exact z
          · have hl := h.pur.page_lt c hoj hq hf'
            have h0 : 0 < cf bs S[i].t (pgs (pgn bs S[i].t) 4096) f := by omega
            unfold cf at h0
            obtain ⟨x, hx, hx2⟩ := List.countP_pos_iff.1 h0
            obtain ⟨p, hp1, rfl, _⟩ := pgs_mem.1 hx
            simp only [Int.toNat_natCast, decide_eq_true_eq] at hx2
            have := h.pur.sn_le2 hi ho c hoj (fun e => d e.symm) f
            have s1 := sn_page_le hp1 hx2
            have s2 := sn_page_le hq hf'
            have := h.pur.cnt f hl.1
            omega
    · have e : j = S.length := by simp at hj; omega
      subst e
      rw [em]
      refine ⟨(h.ok i hi ho).ok, fun q hq f hf => ?_, fun q hq f hf h1 => ?_⟩
      · have hf' : pf bs S[i].t q = some f := by rw [← hch q hq]; exact hf
        have cw := CW q hq (pf_some.1 hf').1
        show rpg S[i].L (q : Int) = some (pgn cs g q % 8).toNat
        rw [cw.2.2, cw.2.1]; exact (h.ok i hi ho).pm q hq f hf'
      · have hf' : pf bs S[i].t q = some f := by rw [← hch q hq]; exact hf
        have cw := CW q hq (pf_some.1 hf').1
        show cwb (pgn cs g q) = true
        rw [cw.2.2]; exact cw.1
  · rw [em]
    have hu := hs.upc
    have hn := hs.nuc
    simp only [em] at hu hn
    exact ⟨rfl, rfl, hch, hu, hn⟩
  · unfold nup
    exact congrArg List.length (ups_congr (bs := bs) (cs := cs) (t := S[j].t) 64 fun s hs2 => hup j hj hoj s hs2)
  · have := hs.tkc
    rw [tk_one h.pur.hr hg hz] at this
    omega
  · obtain ⟨a1, a2, a3⟩ := PF0 f hf
    rw [hs.dat f a2 a1, p4 f a2 a3]
/-- Fork: the state then -/
theorem Fork_st (h : GM w k fb rb mb qb rs bs S) (st : Pst k rs bs S) (hi : i < S.length) (ho : S[i].on = true) (hS : S.length ≤ 100000) :
    Calls Tryz.prog 10 #[.pointer (some ⟨S[i].sb, 0, none⟩)] w fun e w' =>
      ((k : Int) - (tk rs k).length < (tbs (pgs (pgn bs S[i].t) 4096)).1 ∧ e = .returned (.tuple #[.pointer none, .iface 98 (.int .i64 12)]) ∧ New w w') ∨
      ((tbs (pgs (pgn bs S[i].t) 4096)).1 ≤ (k : Int) - (tk rs k).length ∧ ∃ sb qs cs T, e = .returned (.tuple #[.pointer (some ⟨sb, 0, none⟩), .nilIface]) ∧ w.heap.size ≤ sb ∧ GM w' k fb rb mb qb qs cs T ∧ But (fun x => x = rb ∨ x = qb) w w' ∧ Pst k qs cs T ∧
        FrkS k rs bs qs cs S T i hi (pgs (pgn bs S[i].t) 4096) ∧ ∀ (hj : S.length < T.length), T[S.length].sb = sb) := by
  by_cases c : (k : Int) - (tk rs k).length < (tbs (pgs (pgn bs S[i].t) 4096)).1
  · exact (Fork_no h hi ho (st.pur.good i hi ho) c).mono fun e w' x => .inl ⟨c, x⟩
  · refine (Fork_ok h hi ho st.pur (fun f hf => st.small hS hf) (by omega)).mono ?_
    rintro e w' ⟨sb, tb, g, qs, cs, h1, h2, rfl, l1, l2, hg, hz, hG, hb, hs⟩
    obtain ⟨f1, f2⟩ := st.fork h.bd.2 hi ho hg hz hs
    exact .inr ⟨by omega, sb, qs, cs, _, rfl, l1, hG, hb, f1, f2, fun _ => by simp⟩
theorem ups_nodup {n t : Nat} {a : Nat → Prop} (g : Good n a bs t) : ∀ m, m ≤ 64 → ((ups bs t m).map (·.2)).Nodup
  | 0, _ => List.nodup_nil
  | m + 1, hm => by
    have ih := ups_nodup g m (by omega)
    by_cases c : nm bs t m = 0
    · rw [ups_skip c]; exact ih
    · rw [ups_push c, List.map_append, List.nodup_append]
      refine ⟨ih, by simp, fun x hx y hy => ?_⟩
      obtain ⟨z, hz, rfl⟩ := List.mem_map.1 hx
      obtain ⟨h1, h2, h3⟩ := ups_mem hz
      simp at hy
      subst hy
      intro e
      rw [h3] at e
      have := g.apart (by omega) (by omega) h2 c e
      omega
theorem own_nodup {n t : Nat} {a : Nat → Prop} (g : Good n a bs t) : (own bs t).Nodup := by
  unfold own
  rw [List.nodup_append]
  refine ⟨ups_nodup g 64 (Nat.le_refl _), by simp, fun x hx y hy => ?_⟩
  obtain ⟨z, hz, rfl⟩ := List.mem_map.1 hx
  obtain ⟨h1, h2, h3⟩ := ups_mem hz
  simp at hy
  subst hy
  rw [h3]
  exact (g.frame h1 h2).2.2.1
theorem own_len (bs : List Int) (t : Nat) : (own bs t).length = nup bs t 64 + 1 := by unfold own nup; simp
theorem tk_giv (hr : rs.length = k) : ∀ (m l : List Nat), l = m.reverse → l.Nodup → (∀ x ∈ l, x < k ∧ rs.getD x 0 = 1) → ((tk (giv rs l) k).length : Int) = (tk rs k).length - l.length
  | [], l, e, _, _ => by subst e; simp [giv]
  | x :: m, l, e, hn, hx => by
    rw [List.reverse_cons] at e
    subst e
    rw [List.nodup_append] at hn
    have ih := tk_giv hr m m.reverse rfl hn.1 fun y hy => hx y (List.mem_append_left _ hy)
    obtain ⟨x1, x2⟩ := hx x (by simp)
    have hnx : x ∉ m.reverse := fun hm => hn.2.2 x hm x (by simp) rfl
    have t := tk_len_set (giv rs m.reverse) x 0 k (by rw [giv_len, hr]; exact x1)
    rw [giv_get, if_neg hnx, x2, if_pos x1, if_neg (by decide : ¬ (0 : Int) < 0), if_pos (by decide : (0 : Int) < 1)] at t
    rw [giv_push, t, ih, List.length_append, List.length_singleton]
    omega
/-- what freeing a space without pages makes, as others see it -/
structure FreS (k : Nat) (rs bs qs : List Int) (S : List Sq) (i : Nat) (hi : i < S.length) : Prop where
  tk : ((tk qs k).length : Int) = (tk rs k).length - (1 + nup bs S[i].t 64 : Nat)
  rf : ∀ f, PF bs (S.set i S[i].gone) f → qs.getD f 0 = rs.getD f 0
theorem Pst.free (h : Pst k rs bs S) (hi : i < S.length) (ho : S[i].on = true) (hno : ∀ q, q < 4096 → pf bs S[i].t q = none) : Pst k (giv rs (own bs S[i].t)) bs (S.set i S[i].gone) ∧ FreS k rs bs (giv rs (own bs S[i].t)) S i hi := by
  classical
  have gd := h.pur.good i hi ho
  have O := h.pur.off hi ho S[i].gone rfl
  have hsn : ∀ f, sn bs S[i].t f = b2 (Mine bs S[i].t f) := fun f => by
    unfold sn
    rw [sumN_zero 4096 fun p hp => b2_no (by rw [hno p hp]; intro x; cases x), Nat.add_zero]
  have G : ∀ f, (giv rs (own bs S[i].t)).getD f 0 = if Mine bs S[i].t f then 0 else rs.getD f 0 := fun f => by
    rw [giv_get]
    by_cases c : Mine bs S[i].t f
    · rw [if_pos c, if_pos (mine_own.2 c)]
    · rw [if_neg c, if_neg (fun x => c (mine_own.1 x))]
  have ML : ∀ f, Mine bs S[i].t f → f < k ∧ rs.getD f 0 = 1 := fun f hm => h.pur.mine_lt hi ho hm
  have P := O.refs (qs := giv rs (own bs S[i].t)) (e := fun _ => 0) (by rw [giv_len]; exact h.pur.hr) (fun f hm => by
    obtain ⟨j, hj, hoj, hmj⟩ := hm
    rw [set_at hi _ j hj] at hoj hmj
    have hj' : j < S.length := by simpa using hj
    by_cases c : j = i
    · rw [if_pos c] at hoj; cases hoj
    · rw [if_neg c] at hoj hmj
      rw [G, if_neg (fun x => c ((h.pur.mine_one hi ho x).2.1 j hj' hoj hmj))]
      exact (h.pur.mine_lt hj' hoj hmj).2) (fun f hf => by
    rw [G, hsn]
    by_cases c : Mine bs S[i].t f
    · rw [if_pos c, b2_yes c, (ML f c).2]; simp
    · rw [if_neg c, b2_no c]; simp)
  refine ⟨⟨P, fun j hj hoj => ?_⟩, ⟨?_, fun f hf => ?_⟩⟩
  · rw [set_at hi _ j hj] at hoj ⊢
    have hj' : j < S.length := by simpa using hj
    by_cases c : j = i
    · rw [if_pos c] at hoj; cases hoj
    · rw [if_neg c] at hoj ⊢
      refine (h.ok j hj' hoj).more (fun _ _ => rfl) fun q hq f hf h1 => ?_
      rw [G] at h1
      split at h1
      · omega
      · exact h1
  · have := tk_giv h.pur.hr (own bs S[i].t).reverse (own bs S[i].t) (by simp) (own_nodup gd) fun x hx => ML x (mine_own.1 hx)
    rw [this, own_len]; omega
  · rw [G, if_neg]
    intro hm
    obtain ⟨j, hj, hoj, q, hq, e⟩ := hf
    have hj' : j < S.length := by simpa using hj
    rw [set_at hi _ j hj] at hoj e
    by_cases c : j = i
    · rw [if_pos c] at hoj; cases hoj
    · rw [if_neg c] at hoj e
      exact (h.pur.mine_one hi ho hm).2.2 j hj' hoj q hq e
/-- Free: the state then -/
theorem Free_st (h : GM w k fb rb mb qb rs bs S) (st : Pst k rs bs S) (hi : i < S.length) (ho : S[i].on = true) :
    Calls Tryz.prog 11 #[.pointer (some ⟨S[i].sb, 0, none⟩)] w fun e w' => e = .returned (.tuple #[]) ∧ ∃ qs cs ps, GM w' k fb rb mb qb ps cs (S.set i S[i].gone) ∧ But (fun g => ((g = rb ∨ g = qb) ∨ g = S[i].tb) ∨ g = S[i].sb) w w' ∧ Pst k ps cs (S.set i S[i].gone) ∧
      DrpC S[i].t (pgs (pgn bs S[i].t) 4096) rs bs qs cs ∧ Pst k qs cs S ∧ FreS k qs cs ps S i hi := by
  refine (Free_any h hi ho st.pur).mono ?_
  rintro e w' ⟨rfl, qs, cs, h1, b1, hd⟩
  obtain ⟨s1, s2⟩ := hd.st st hi ho rfl
  have hno : ∀ q, q < 4096 → pf cs S[i].t q = none := fun q hq => by
    rw [s2 q hq]
    by_cases c : pgn bs S[i].t q = 0
    · split
      · rfl
      · exact pf_none.2 c
    · rw [if_pos (pgs_mem.2 ⟨q, hq, rfl, c⟩)]
  obtain ⟨f1, f2⟩ := s1.free hi ho hno
  exact ⟨rfl, qs, cs, _, h1, b1, f1, hd, s1, f2⟩
/-- frames and bytes, and no space yet -/
theorem Pst.zero (hk : 1 ≤ k) (hl : bs.length = k * 256) : Pst k (List.replicate k 0) bs [] :=
  ⟨⟨hl, by simp, fun i hi => absurd hi (by simp), fun i hi => absurd hi (by simp), fun f hf => by rw [zeros_get]; simp [cntS]⟩, fun i hi => absurd hi (by simp)⟩
theorem GM.zero (h1 : Fr w fb rb (List.replicate k 0)) (h2 : Ph w mb qb k bs) : GM w k fb rb mb qb (List.replicate k 0) bs [] :=
  ⟨h1, h2, by simp, fun i hi => absurd hi (by simp), by simp, by simp⟩
end
end Go.Proofs.YtgedimlhldfkaaaGreatDoor
