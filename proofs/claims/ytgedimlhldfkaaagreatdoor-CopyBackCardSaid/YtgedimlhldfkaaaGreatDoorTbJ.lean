/- What the laws on tables of two levels lean on: frames, their bytes and a table in them as one state; what a step makes of it. -/
import Derived.Test.YtgedimlhldfkaaaGreatDoorTbH
import Derived.Test.YtgedimlhldfkaaaGreatDoorFrG
import Derived.Test.YtgedimlhldfkaaaGreatDoorFrI
namespace Go.Proofs.YtgedimlhldfkaaaGreatDoor
open Go.RowKit
set_option linter.unusedVariables false
set_option maxRecDepth 100000
/-- frames, bytes and a table in them; k frames in all -/
structure St (w : World) (k tb fb rb mb qb t : Nat) (rs bs : List Int) : Prop where
  tb : Tb w tb fb mb t
  fr : Fr w fb rb rs
  ph : Ph w mb qb k bs
  len : rs.length = k
  good : Good k (fun i => rs.getD i 0 = 1) bs t
/-- a frame of the table's own -/
def Mine (bs : List Int) (t j : Nat) : Prop := j = t ∨ ∃ u, u < 64 ∧ nm bs t u ≠ 0 ∧ lof bs t u = j
theorem mine_own {bs : List Int} {t j : Nat} : j ∈ own bs t ↔ Mine bs t j := by
  have key : ∀ k, j ∈ (ups bs t k).map (·.2) ↔ ∃ u, u < k ∧ nm bs t u ≠ 0 ∧ lof bs t u = j := by
    intro k
    induction k with
    | zero => simp [ups]
    | succ k ih =>
      by_cases d : nm bs t k = 0
      · rw [ups_skip d, ih]
        constructor
        · rintro ⟨u, h1, h2⟩; exact ⟨u, by omega, h2⟩
        · rintro ⟨u, h1, h2, h3⟩
          exact ⟨u, by by_cases e : u = k; (subst e; exact absurd d h2); omega, h2, h3⟩
      · rw [ups_push d, List.map_append, List.mem_append, ih]
        constructor
        · rintro (⟨u, h1, h2⟩ | h)
          · exact ⟨u, by omega, h2⟩
          · simp at h; exact ⟨k, by omega, d, h.symm⟩
        · rintro ⟨u, h1, h2, h3⟩
          by_cases e : u = k
          · subst e; exact .inr (by simp [h3])
          · exact .inl ⟨u, by omega, h2, h3⟩
  unfold own Mine
  rw [List.mem_append, key, List.mem_singleton]
  exact Or.comm
section
variable {w w' : World} {k tb fb rb mb qb t : Nat} {rs bs : List Int}
theorem St.new (h : St w k tb fb rb mb qb t rs bs) (n : New w w') : St w' k tb fb rb mb qb t rs bs := ⟨h.tb.new n, h.fr.new n, h.ph.new n, h.len, h.good⟩
theorem St.bd (h : St w k tb fb rb mb qb t rs bs) : 1 ≤ k ∧ k ≤ 1024 := h.ph.bd
theorem St.good' (h : St w k tb fb rb mb qb t rs bs) : Good rs.length (fun i => rs.getD i 0 = 1) bs t := by rw [h.len]; exact h.good
theorem St.ap (h : St w k tb fb rb mb qb t rs bs) : Ap tb fb rb mb qb := ap_of h.tb h.fr h.ph
/-- what laying an entry down makes of it: in an upper part that has a frame, or in a new one -/
inductive Laid1 (k t p : Nat) (rs bs : List Int) : List Int → List Int → Prop
  | old {cs : List Int} : nm bs t (p / 64) ≠ 0 → (∀ u, u < 64 → nm cs t u = nm bs t u) → Laid1 k t p rs bs rs cs
  | more {cs : List Int} (i : Nat) : nm bs t (p / 64) = 0 → i < k → NoFree rs i → rs.getD i 0 = 0 → (∀ u, u < 64 → nm cs t u = if u = p / 64 then upn i else nm bs t u) → Laid1 k t p rs bs (rs.set i 1) cs
/-- an entry was laid down -/
def SetDone (k tb fb rb mb qb t p : Nat) (v : Int) (rs bs : List Int) (w : World) (e : Ending) (w' : World) : Prop :=
  ∃ qs cs, e = .returned .nilIface ∧ St w' k tb fb rb mb qb t qs cs ∧ But (fun j => j = rb ∨ j = qb) w w' ∧ Laid1 k t p rs bs qs cs ∧ ∀ q, q < 4096 → pgn cs t q = if q = p then v else pgn bs t q
theorem ennum_pn (g q : Int) (c : Bool) (g0 : 0 ≤ g) (g1 : g < 1024) (q0 : 0 ≤ q) (q1 : q ≤ 7) : Pn (ennum g q c) ∧ 1 ≤ ennum g q c ∧ ennum g q c ≤ 4294967295 := by
  obtain ⟨h1, h2, h3, _⟩ := ennum_is g q c g0 g1 q0 q1
  have : 1 ≤ ennum g q c := by unfold ennum; have := cwn_bd c; omega
  exact ⟨.inr ⟨this, h1⟩, this, by omega⟩
theorem set_old (p : Nat) (g q : Int) (c : Bool) (h : St w k tb fb rb mb qb t rs bs) (hp : p < 4096) (g0 : 0 ≤ g) (g1 : g < 1024) (q0 : 0 ≤ q) (q1 : q ≤ 7) (h0 : nm bs t (p / 64) ≠ 0) :
    Calls Tryz.prog 56 #[.pointer (some ⟨tb, 0, none⟩), .int .i64 p, .agg #[.int .i64 g, .int .u8 q, .bool c]] w (SetDone k tb fb rb mb qb t p (ennum g q c) rs bs w) := by
  obtain ⟨v0, v1, v2⟩ := ennum_pn g q c g0 g1 q0 q1
  refine (tset_old p k _ g q c h.tb h.fr h.ph h.good (Nat.le_refl _) hp g0 g1 q0 q1 h0).mono ?_
  rintro e w' ⟨rfl, r, ph, b⟩
  refine ⟨rs, _, rfl, ⟨h.tb.but b h.ap.1 h.ap.2.1, r, ph, h.len, h.good.lay h.ph.len (Nat.le_refl _) (by omega) (by omega) h0 v0 (by omega) v2⟩, b, .old h0 (up_lay h.good h.ph.len (Nat.le_refl _) (by omega) (by omega) h0 (by omega) v2), pgn_lay h.good h.ph.len (Nat.le_refl _) hp h0 (by omega) v2⟩
theorem set_new (p i : Nat) (g q : Int) (c : Bool) (h : St w k tb fb rb mb qb t rs bs) (hp : p < 4096) (g0 : 0 ≤ g) (g1 : g < 1024) (q0 : 0 ≤ q) (q1 : q ≤ 7) (h0 : nm bs t (p / 64) = 0) (hi : i < k) (hn : NoFree rs i) (hz : rs.getD i 0 = 0) :
    Calls Tryz.prog 56 #[.pointer (some ⟨tb, 0, none⟩), .int .i64 p, .agg #[.int .i64 g, .int .u8 q, .bool c]] w (SetDone k tb fb rb mb qb t p (ennum g q c) rs bs w) := by
  obtain ⟨v0, v1, v2⟩ := ennum_pn g q c g0 g1 q0 q1
  have hb := h.bd
  have hna : ¬ rs.getD i 0 = 1 := by omega
  have hu : p / 64 < 64 := by omega
  have G := h.good.grow (u := p / 64) (i := i) h.ph.len (Nat.le_refl _) hi (by omega) hu h0 hna (b := fun j => (rs.set i 1).getD j 0 = 1)
    (fun j hj a => by show (rs.set i 1).getD j 0 = 1; rw [getD_set _ _ _ _ (by rw [h.len]; exact hi)]; split; rfl; exact a) (by show (rs.set i 1).getD i 0 = 1; rw [getD_set _ _ _ _ (by rw [h.len]; exact hi), if_pos rfl])
  have U := up_grow h.good h.ph.len (Nat.le_refl _) hi (by omega) hu hna
  have P := pgn_grow h.good h.ph.len (Nat.le_refl _) hi (by omega) hu h0 hna
  have hl := nw_len (t := t) (u := p / 64) (i := i) h.ph.len hi h.good.lt hu
  have n1 : nm (nw bs t (p / 64) i) t (p / 64) ≠ 0 := by rw [U _ hu, if_pos rfl]; have := upn_pos i; omega
  have e1 : lof (nw bs t (p / 64) i) t (p / 64) = i := by unfold lof; rw [U _ hu, if_pos rfl, fo_upn]
  refine (tset_new p i g q c h.tb h.fr h.ph (by rw [h.len]; exact Nat.le_refl _) h.good.lt hp g0 g1 q0 q1 h0 (by rw [h.len]; exact hi) hn hz).mono ?_
  rintro e w' ⟨rfl, r, ph, b⟩
  have G2 := G.lay (u := p / 64) (p := p % 64) (v := ennum g q c) hl (Nat.le_refl _) hu (by omega) n1 v0 (by omega) v2
  have U2 := up_lay (u := p / 64) (p := p % 64) (v := ennum g q c) G hl (Nat.le_refl _) hu (by omega) n1 (by omega) v2
  have P2 := pgn_lay (p := p) (v := ennum g q c) G hl (Nat.le_refl _) hp n1 (by omega) v2
  rw [e1] at G2 U2 P2
  refine ⟨_, _, rfl, ⟨h.tb.but b h.ap.1 h.ap.2.1, r, ph, by rw [List.length_set, h.len], G2⟩, b, .more i h0 hi hn hz (fun u hu' => by rw [U2 u hu', U u hu']), fun q' hq => by rw [P2 q' hq, P q' hq]⟩
theorem set_full (p : Nat) (g q : Int) (c : Bool) (h : St w k tb fb rb mb qb t rs bs) (hp : p < 4096) (g0 : 0 ≤ g) (g1 : g < 1024) (q0 : 0 ≤ q) (q1 : q ≤ 7) (h0 : nm bs t (p / 64) = 0) (hn : NoFree rs k) :
    Calls Tryz.prog 56 #[.pointer (some ⟨tb, 0, none⟩), .int .i64 p, .agg #[.int .i64 g, .int .u8 q, .bool c]] w (Said (.iface 98 (.int .i64 12)) w) :=
  tset_full p g q c h.tb h.fr h.ph h.good.lt hp g0 g1 q0 q1 (by rw [h.len]; exact hn) h0
/-- an entry was taken away -/
def ClearDone (k tb fb rb mb qb t p : Nat) (rs bs : List Int) (w : World) (e : Ending) (w' : World) : Prop :=
  ∃ cs, e = .returned .nilIface ∧ St w' k tb fb rb mb qb t rs cs ∧ But (fun j => j = rb ∨ j = qb) w w' ∧ (∀ u, u < 64 → nm cs t u = nm bs t u) ∧ ∀ q, q < 4096 → pgn cs t q = if q = p then 0 else pgn bs t q
theorem clear_done (p : Nat) (h : St w k tb fb rb mb qb t rs bs) (hp : p < 4096) :
    Calls Tryz.prog 93 #[.pointer (some ⟨tb, 0, none⟩), .int .i64 p] w (ClearDone k tb fb rb mb qb t p rs bs w) := by
  by_cases h0 : nm bs t (p / 64) = 0
  · refine (tclear_none p h.tb h.ph h.good.lt hp h0).mono ?_
    rintro e w' ⟨rfl, n1⟩
    refine ⟨bs, rfl, h.new n1, But.of_new _ n1, fun _ _ => rfl, fun q hq => ?_⟩
    split
    · rename_i e; subst e; unfold pgn; rw [if_pos h0]
    · rfl
  · refine (tclear_some p k _ h.tb h.fr h.ph h.good (Nat.le_refl _) hp h0).mono ?_
    rintro e w' ⟨rfl, r, ph, b⟩
    exact ⟨_, rfl, ⟨h.tb.but b h.ap.1 h.ap.2.1, r, ph, h.len, h.good.lay h.ph.len (Nat.le_refl _) (by omega) (by omega) h0 Pn.zero (by omega) (by omega)⟩, b, up_lay h.good h.ph.len (Nat.le_refl _) (by omega) (by omega) h0 (by omega) (by omega), pgn_lay h.good h.ph.len (Nat.le_refl _) hp h0 (by omega) (by omega)⟩
theorem get_done (p : Nat) (h : St w k tb fb rb mb qb t rs bs) (hp : p < 4096) :
    Calls Tryz.prog 109 #[.pointer (some ⟨tb, 0, none⟩), .int .i64 p] w (Said (gotE (pgn bs t p) .nilIface) w) := tget_any p k _ h.tb h.ph h.good (Nat.le_refl _) hp
theorem frames_done (h : St w k tb fb rb mb qb t rs bs) : Calls Tryz.prog 59 #[.pointer (some ⟨tb, 0, none⟩)] w (IntN (1 + nup bs t 64) w) := tframes_any h.tb h.ph h.good (Nat.le_refl _)
theorem pages_done (h : St w k tb fb rb mb qb t rs bs) : Calls Tryz.prog 44 #[.pointer (some ⟨tb, 0, none⟩)] w (Lists (pgs (pgn bs t) 4096) w) := tpages_any h.tb h.ph h.good (Nat.le_refl _)
theorem free_done (h : St w k tb fb rb mb qb t rs bs) : Calls Tryz.prog 25 #[.pointer (some ⟨fb, 0, none⟩)] w (IntN (k - (tk rs k).length) w) := by
  have := free_any w h.fr; rwa [h.len] at this
/-- a table was made in frames of which none was taken -/
def NewDone (k fb rb mb qb : Nat) (w : World) (e : Ending) (w' : World) : Prop :=
  ∃ tb cs, e = .returned (.tuple #[.pointer (some ⟨tb, 0, none⟩), .nilIface]) ∧ w.heap.size ≤ tb ∧ St w' k tb fb rb mb qb 0 ((List.replicate k 0).set 0 1) cs ∧ But (fun j => j = rb ∨ j = qb) w w' ∧ (∀ u, u < 64 → nm cs 0 u = 0)
theorem new_done (h1 : Fr w fb rb (List.replicate k 0)) (h2 : Ph w mb qb k bs) : Calls Tryz.prog 90 #[.pointer (some ⟨fb, 0, none⟩), .pointer (some ⟨mb, 0, none⟩)] w (NewDone k fb rb mb qb w) := by
  have hb := h2.bd
  refine (tnew_ok 0 h1 h2 (by simp) (by simp; omega) (NoFree.zero _) (zeros_get _ _)).mono ?_
  rintro e w' ⟨tb, rfl, hs, t1, r, ph, b⟩
  refine ⟨tb, _, rfl, hs, ⟨t1, r, ph, by simp, Good.start h2.len (Nat.le_refl _) (by omega) ?_⟩, b, fun u hu => ?_⟩
  · show ((List.replicate k 0).set 0 1).getD 0 0 = 1
    rw [getD_set _ _ _ _ (by simp; omega), if_pos rfl]
  · rw [zr_nm h2.len (by omega) 0 u hu, if_pos rfl]
end
end Go.Proofs.YtgedimlhldfkaaaGreatDoor
namespace Go.Proofs.YtgedimlhldfkaaaGreatDoor
open Go.RowKit
set_option linter.unusedVariables false
set_option maxRecDepth 100000
theorem New.but {S : Nat → Prop} {w a b : World} (h : New w a) (k : But S a b) (hs : ∀ i, S i → w.heap.size ≤ i) : New w b :=
  ⟨k.1.trans h.os, k.2.1.trans h.tape, k.2.2.1.trans h.output, Nat.le_trans h.size k.2.2.2.1, fun i hi => (k.2.2.2.2 i (Nat.lt_of_lt_of_le hi h.size) (fun c => by have := hs i c; omega)).trans (h.block hi)⟩
theorem gotE_is {v : Int} (h : 1 ≤ v) (k : EnNum v) (er : Value) : gotE v er = .tuple #[.agg #[.int .i64 (v / 256), .int .u8 (v % 8), .bool (cwb v)], .bool true, er] := by
  obtain ⟨e1, e2, e3, e4⟩ := dc_is h k
  unfold gotE; rw [e1, e2, e3, e4]
theorem free_some {rs : List Int} {k : Nat} (h : Fits rs) (hl : rs.length = k) (hc : (tk rs k).length < k) : ∃ i, i < k ∧ NoFree rs i ∧ rs.getD i 0 = 0 := by
  rcases free_or rs k with hn | hn
  · rw [tk_full h k hn] at hc; omega
  · exact hn
section
variable {w w' : World} {k tb fb rb mb qb t p : Nat} {rs bs qs cs : List Int}
/-- frames that are taken, and the table's, behind an entry that was laid down -/
theorem Laid1.counts (h : Laid1 k t p rs bs qs cs) (hp : p < 4096) (hl : rs.length = k) :
    ((tk qs k).length = (tk rs k).length ∧ nup cs t 64 = nup bs t 64 ∧ nm bs t (p / 64) ≠ 0) ∨ ((tk qs k).length = (tk rs k).length + 1 ∧ nup cs t 64 = nup bs t 64 + 1 ∧ nm bs t (p / 64) = 0) := by
  cases h with
  | old h0 hu => exact .inl ⟨rfl, by unfold nup; rw [ups_congr 64 hu], h0⟩
  | more i h0 hi hn hz hu =>
    refine .inr ⟨?_, ?_, h0⟩
    · have := tk_len_set rs i 1 k (by omega)
      rw [if_pos hi, hz] at this
      simp at this; omega
    · have := nup_grow 64 hu h0
      rw [if_pos (by omega)] at this; exact this
/-- all that is taken is the table's -/
def Just (k t : Nat) (rs bs : List Int) : Prop := ∀ j, j < k → rs.getD j 0 ≠ 0 → Mine bs t j
theorem Laid1.just (h : Laid1 k t p rs bs qs cs) (hp : p < 4096) (hl : rs.length = k) (hj : Just k t rs bs) : Just k t qs cs := by
  cases h with
  | old h0 hu =>
    intro j hk hn
    rcases hj j hk hn with e | ⟨u, h1, h2, h3⟩
    · exact .inl e
    · exact .inr ⟨u, h1, by rw [hu u h1]; exact h2, by unfold lof; rw [hu u h1]; exact h3⟩
  | more i h0 hi hn hz hu =>
    intro j hk hnz
    by_cases c : j = i
    · subst c
      have e := hu (p / 64) (by omega)
      rw [if_pos rfl] at e
      exact .inr ⟨p / 64, by omega, by rw [e]; have := upn_pos j; omega, by unfold lof; rw [e, fo_upn]⟩
    · rw [getD_set _ _ _ _ (by omega), if_neg c] at hnz
      rcases hj j hk hnz with e | ⟨u, h1, h2, h3⟩
      · exact .inl e
      · have hne : u ≠ p / 64 := fun e => h2 (e ▸ h0)
        exact .inr ⟨u, h1, by rw [hu u h1, if_neg hne]; exact h2, by unfold lof; rw [hu u h1, if_neg hne]; exact h3⟩
theorem Just.clear (hj : Just k t rs bs) (hu : ∀ u, u < 64 → nm cs t u = nm bs t u) : Just k t rs cs := by
  intro j hk hn
  rcases hj j hk hn with e | ⟨u, h1, h2, h3⟩
  · exact .inl e
  · exact .inr ⟨u, h1, by rw [hu u h1]; exact h2, by unfold lof; rw [hu u h1]; exact h3⟩
theorem Just.start (k : Nat) (hk : 1 ≤ k) : Just k 0 ((List.replicate k 0).set 0 1) cs := by
  intro j hj hn
  rw [getD_set _ _ _ _ (by simp; omega)] at hn
  by_cases c : j = 0
  · exact .inl c
  · rw [if_neg c, zeros_get] at hn; exact absurd rfl hn
theorem Just.freed (hj : Just k t rs bs) (hl : rs.length = k) : giv rs (own bs t) = List.replicate k 0 := by
  apply ext_getD (by rw [giv_len, hl]; simp)
  intro j hlt
  rw [giv_get, zeros_get]
  by_cases c : j ∈ own bs t
  · rw [if_pos c]
  · rw [if_neg c]
    rw [giv_len, hl] at hlt
    by_cases d : rs.getD j 0 = 0
    · exact d
    · exact absurd (mine_own.2 (hj j hlt d)) c
theorem tk_start (k : Nat) (hk : 1 ≤ k) : (tk ((List.replicate k 0).set 0 1) k).length = 1 := by
  have := tk_len_set (List.replicate k 0) 0 1 k (by simp; omega)
  rw [if_pos (by omega), tk_zeros, zeros_get] at this
  simp at this; omega
theorem nup_zero (h : ∀ u, u < 64 → nm bs t u = 0) : nup bs t 64 = 0 := by unfold nup; rw [ups_nil 64 h]; rfl
theorem pgn_none (h : ∀ u, u < 64 → nm bs t u = 0) (q : Nat) (hq : q < 4096) : pgn bs t q = 0 := by unfold pgn; rw [if_pos (h _ (by omega))]
end
theorem pgs_one (v : Int) (hv : v ≠ 0) : (pgs (fun q => if q = 64 then v else 0) 4096).length = 1 := by
  have e1 : pgs (fun q => if q = 64 then v else 0) 64 = [] := pgs_more (f := fun q => if q = 64 then v else 0) 0 64 (fun j h1 h2 => if_neg (by omega))
  have e2 : pgs (fun q => if q = 64 then v else 0) 65 = [64] := by rw [pgs_push (by simpa using hv), e1]; rfl
  have e3 := pgs_more (f := fun q => if q = 64 then v else 0) 65 4031 (fun j h1 h2 => if_neg (by omega))
  rw [show 65 + 4031 = 4096 from rfl] at e3
  rw [e3, e2]; rfl
section
variable {w : World} {tb fb rb mb qb : Nat} {bs cs : List Int}
theorem su_rs : (List.replicate 4 (0 : Int)).set 0 1 = [1, 0, 0, 0] := rfl
/-- the one entry that sure lays down -/
def SuDone (tb fb rb mb qb : Nat) (w : World) (e : Ending) (w' : World) : Prop :=
  ∃ qs cs, e = .returned .nilIface ∧ St w' 4 tb fb rb mb qb 0 qs cs ∧ But (fun j => j = rb ∨ j = qb) w w' ∧ pgn cs 0 64 = 899 ∧ pgn cs 0 65 = 0 ∧ nup cs 0 64 = 1 ∧ (tk qs 4).length = 2 ∧ (pgs (pgn cs 0) 4096).length = 1
theorem su_set (h : St w 4 tb fb rb mb qb 0 ((List.replicate 4 0).set 0 1) bs) (h0 : ∀ u, u < 64 → nm bs 0 u = 0) :
    Calls Tryz.prog 56 #[.pointer (some ⟨tb, 0, none⟩), .int .i64 64, .agg #[.int .i64 3, .int .u8 3, .bool false]] w (SuDone tb fb rb mb qb w) := by
  refine (set_new 64 1 3 3 false h (by omega) (by omega) (by omega) (by omega) (by omega) (h0 _ (by omega)) (by omega) (nofree_of rfl) rfl).mono ?_
  rintro e w' ⟨qs, cs, rfl, s, b, l, p⟩
  have en : ennum 3 3 false = 899 := rfl
  rw [en] at p
  have p' : ∀ q, q < 4096 → pgn cs 0 q = if q = 64 then 899 else 0 := fun q hq => by rw [p q hq, pgn_none h0 q hq]
  have hn := nup_zero h0
  have ht := tk_start 4 (by omega)
  rcases l.counts (by omega) (by simp) with ⟨_, _, c⟩ | ⟨c1, c2, _⟩
  · exact absurd (h0 _ (by omega)) c
  · exact ⟨qs, cs, rfl, s, b, by rw [p' _ (by omega)]; rfl, by rw [p' _ (by omega)]; rfl, by omega, by omega, by rw [pgs_congr 4096 p']; exact pgs_one 899 (by omega)⟩
theorem su_get (h : St w 4 tb fb rb mb qb 0 bs cs) (hp : pgn cs 0 64 = 899) : Calls Tryz.prog 109 #[.pointer (some ⟨tb, 0, none⟩), .int .i64 64] w (Said (.tuple #[.agg #[.int .i64 3, .int .u8 3, .bool false], .bool true, .nilIface]) w) := by
  have X := get_done 64 h (by omega)
  rw [hp, gotE_is (by omega) (by unfold EnNum; omega)] at X
  exact X
theorem su_get2 (h : St w 4 tb fb rb mb qb 0 bs cs) (hp : pgn cs 0 65 = 0) : Calls Tryz.prog 109 #[.pointer (some ⟨tb, 0, none⟩), .int .i64 65] w (Said (.tuple #[.agg #[.int .i64 0, .int .u8 0, .bool false], .bool false, .nilIface]) w) := by
  have X := get_done 65 h (by omega)
  rw [hp, gotE_zero] at X
  exact X
theorem su_frames (h : St w 4 tb fb rb mb qb 0 bs cs) (hn : nup cs 0 64 = 1) : Calls Tryz.prog 59 #[.pointer (some ⟨tb, 0, none⟩)] w (IntN 2 w) := by
  have X := frames_done h; rw [hn] at X; exact X
theorem su_pages (h : St w 4 tb fb rb mb qb 0 bs cs) (hn : (pgs (pgn cs 0) 4096).length = 1) : Calls Tryz.prog 44 #[.pointer (some ⟨tb, 0, none⟩)] w (LenN 1 w) := by
  refine (pages_done h).mono ?_
  rintro e w' ⟨v, rfl, o, n⟩
  obtain ⟨p, cap, rfl⟩ := o.ints.len
  rw [hn]; exact ⟨p, cap, rfl, n⟩
theorem su_free (h : St w 4 tb fb rb mb qb 0 bs cs) (hn : (tk bs 4).length = 2) : Calls Tryz.prog 25 #[.pointer (some ⟨fb, 0, none⟩)] w (IntN 2 w) := by
  have X := free_done h; rw [hn] at X; exact X
theorem made_four (w : World) : Calls Tryz.prog 60 #[.int .i64 4] w (Made 4 w) := made_any 4 w (by omega) (by omega)
theorem pmade_four (w : World) : Calls Tryz.prog 61 #[.int .i64 4] w (MadeP 4 w) := pmade_any 4 w (by omega) (by omega)
end
end Go.Proofs.YtgedimlhldfkaaaGreatDoor
