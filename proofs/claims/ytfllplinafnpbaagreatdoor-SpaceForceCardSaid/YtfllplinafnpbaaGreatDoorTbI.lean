/- What the laws on tables of two levels lean on: frames, their bytes and a table in them as one state; what a step makes of it. -/
import Derived.Test.YtfllplinafnpbaaGreatDoorTbH
import Derived.Test.YtfllplinafnpbaaGreatDoorFrG
import Derived.Test.YtfllplinafnpbaaGreatDoorFrI
namespace Go.Proofs.YtfllplinafnpbaaGreatDoor
open Go.RowKit
set_option linter.unusedVariables false
set_option maxRecDepth 100000
/-- frames, bytes and a table in them; k frames in all -/
structure St (w : World) (k tb fb rb mb qb t : Nat) (rs bs : List Int) : Prop where
  tb : Tb w tb fb mb t
  fr : Fr w fb rb rs
  ph : Ph w mb qb k bs
  len : rs.length = k
  good : Good k (fun i => rs.getD i 0 = 1) bs t
/-- a frame of the table's own -/
def Mine (bs : List Int) (t j : Nat) : Prop := j = t ∨ ∃ u, u < 64 ∧ nm bs t u ≠ 0 ∧ lof bs t u = j
theorem mine_own {bs : List Int} {t j : Nat} : j ∈ own bs t ↔ Mine bs t j := by
  have key : ∀ k, j ∈ (ups bs t k).map (·.2) ↔ ∃ u, u < k ∧ nm bs t u ≠ 0 ∧ lof bs t u = j := by
    intro k
    induction k with
    | zero => simp [ups]
    | succ k ih =>
      by_cases d : nm bs t k = 0
      · rw [ups_skip d, ih]
        constructor
        · rintro ⟨u, h1, h2⟩; exact ⟨u, by omega, h2⟩
        · rintro ⟨u, h1, h2, h3⟩
          exact ⟨u, by by_cases e : u = k; (subst e; exact absurd d h2); omega, h2, h3⟩
      · rw [ups_push d, List.map_append, List.mem_append, ih]
        constructor
        · rintro (⟨u, h1, h2⟩ | h)
          · exact ⟨u, by omega, h2⟩
          · simp at h; exact ⟨k, by omega, d, h.symm⟩
        · rintro ⟨u, h1, h2, h3⟩
          by_cases e : u = k
          · subst e; exact .inr (by simp [h3])
          · exact .inl ⟨u, by omega, h2, h3⟩
  unfold own Mine
  rw [List.mem_append, key, List.mem_singleton]
  exact Or.comm
section
variable {w w' : World} {k tb fb rb mb qb t : Nat} {rs bs : List Int}
theorem St.new (h : St w k tb fb rb mb qb t rs bs) (n : New w w') : St w' k tb fb rb mb qb t rs bs := ⟨h.tb.new n, h.fr.new n, h.ph.new n, h.len, h.good⟩
theorem St.bd (h : St w k tb fb rb mb qb t rs bs) : 1 ≤ k ∧ k ≤ 1024 := h.ph.bd
theorem St.good' (h : St w k tb fb rb mb qb t rs bs) : Good rs.length (fun i => rs.getD i 0 = 1) bs t := by rw [h.len]; exact h.good
theorem St.ap (h : St w k tb fb rb mb qb t rs bs) : Ap tb fb rb mb qb := ap_of h.tb h.fr h.ph
/-- what laying an entry down makes of it: in an upper part that has a frame, or in a new one -/
inductive Laid1 (k t p : Nat) (rs bs : List Int) : List Int → List Int → Prop
  | old {cs : List Int} : nm bs t (p / 64) ≠ 0 → (∀ u, u < 64 → nm cs t u = nm bs t u) → Laid1 k t p rs bs rs cs
  | more {cs : List Int} (i : Nat) : nm bs t (p / 64) = 0 → i < k → NoFree rs i → rs.getD i 0 = 0 → (∀ u, u < 64 → nm cs t u = if u = p / 64 then upn i else nm bs t u) → Laid1 k t p rs bs (rs.set i 1) cs
/-- an entry was laid down -/
def SetDone (k tb fb rb mb qb t p : Nat) (v : Int) (rs bs : List Int) (w : World) (e : Ending) (w' : World) : Prop :=
  ∃ qs cs, e = .returned .nilIface ∧ St w' k tb fb rb mb qb t qs cs ∧ But (fun j => j = rb ∨ j = qb) w w' ∧ Laid1 k t p rs bs qs cs ∧ ∀ q, q < 4096 → pgn cs t q = if q = p then v else pgn bs t q
theorem ennum_pn (g q : Int) (c : Bool) (g0 : 0 ≤ g) (g1 : g < 1024) (q0 : 0 ≤ q) (q1 : q ≤ 7) : Pn (ennum g q c) ∧ 1 ≤ ennum g q c ∧ ennum g q c ≤ 4294967295 := by
  obtain ⟨h1, h2, h3, _⟩ := ennum_is g q c g0 g1 q0 q1
  have : 1 ≤ ennum g q c := by unfold ennum; have := cwn_bd c; omega
  exact ⟨.inr ⟨this, h1⟩, this, by omega⟩
theorem set_old (p : Nat) (g q : Int) (c : Bool) (h : St w k tb fb rb mb qb t rs bs) (hp : p < 4096) (g0 : 0 ≤ g) (g1 : g < 1024) (q0 : 0 ≤ q) (q1 : q ≤ 7) (h0 : nm bs t (p / 64) ≠ 0) :
    Calls Tryz.prog 41 #[.pointer (some ⟨tb, 0, none⟩), .int .i64 p, .agg #[.int .i64 g, .int .u8 q, .bool c]] w (SetDone k tb fb rb mb qb t p (ennum g q c) rs bs w) := by
  obtain ⟨v0, v1, v2⟩ := ennum_pn g q c g0 g1 q0 q1
  refine (tset_old p k _ g q c h.tb h.fr h.ph h.good (Nat.le_refl _) hp g0 g1 q0 q1 h0).mono ?_
  rintro e w' ⟨rfl, r, ph, b⟩
  refine ⟨rs, _, rfl, ⟨h.tb.but b h.ap.1 h.ap.2.1, r, ph, h.len, h.good.lay h.ph.len (Nat.le_refl _) (by omega) (by omega) h0 v0 (by omega) v2⟩, b, .old h0 (up_lay h.good h.ph.len (Nat.le_refl _) (by omega) (by omega) h0 (by omega) v2), pgn_lay h.good h.ph.len (Nat.le_refl _) hp h0 (by omega) v2⟩
theorem set_new (p i : Nat) (g q : Int) (c : Bool) (h : St w k tb fb rb mb qb t rs bs) (hp : p < 4096) (g0 : 0 ≤ g) (g1 : g < 1024) (q0 : 0 ≤ q) (q1 : q ≤ 7) (h0 : nm bs t (p / 64) = 0) (hi : i < k) (hn : NoFree rs i) (hz : rs.getD i 0 = 0) :
    Calls Tryz.prog 41 #[.pointer (some ⟨tb, 0, none⟩), .int .i64 p, .agg #[.int .i64 g, .int .u8 q, .bool c]] w (SetDone k tb fb rb mb qb t p (ennum g q c) rs bs w) := by
  obtain ⟨v0, v1, v2⟩ := ennum_pn g q c g0 g1 q0 q1
  have hb := h.bd
  have hna : ¬ rs.getD i 0 = 1 := by omega
  have hu : p / 64 < 64 := by omega
  have G := h.good.grow (u := p / 64) (i := i) h.ph.len (Nat.le_refl _) hi (by omega) hu h0 hna (b := fun j => (rs.set i 1).getD j 0 = 1)
    (fun j hj a => by show (rs.set i 1).getD j 0 = 1; rw [getD_set _ _ _ _ (by rw [h.len]; exact hi)]; split; rfl; exact a) (by show (rs.set i 1).getD i 0 = 1; rw [getD_set _ _ _ _ (by rw [h.len]; exact hi), if_pos rfl])
  have U := up_grow h.good h.ph.len (Nat.le_refl _) hi (by omega) hu hna
  have P := pgn_grow h.good h.ph.len (Nat.le_refl _) hi (by omega) hu h0 hna
  have hl := nw_len (t := t) (u := p / 64) (i := i) h.ph.len hi h.good.lt hu
  have n1 : nm (nw bs t (p / 64) i) t (p / 64) ≠ 0 := by rw [U _ hu, if_pos rfl]; have := upn_pos i; omega
  have e1 : lof (nw bs t (p / 64) i) t (p / 64) = i := by unfold lof; rw [U _ hu, if_pos rfl, fo_upn]
  refine (tset_new p i g q c h.tb h.fr h.ph (by rw [h.len]; exact Nat.le_refl _) h.good.lt hp g0 g1 q0 q1 h0 (by rw [h.len]; exact hi) hn hz).mono ?_
  rintro e w' ⟨rfl, r, ph, b⟩
  have G2 := G.lay (u := p / 64) (p := p % 64) (v := ennum g q c) hl (Nat.le_refl _) hu (by omega) n1 v0 (by omega) v2
  have U2 := up_lay (u := p / 64) (p := p % 64) (v := ennum g q c) G hl (Nat.le_refl _) hu (by omega) n1 (by omega) v2
  have P2 := pgn_lay (p := p) (v := ennum g q c) G hl (Nat.le_refl _) hp n1 (by omega) v2
  rw [e1] at G2 U2 P2
  refine ⟨_, _, rfl, ⟨h.tb.but b h.ap.1 h.ap.2.1, r, ph, by rw [List.length_set, h.len], G2⟩, b, .more i h0 hi hn hz (fun u hu' => by rw [U2 u hu', U u hu']), fun q' hq => by rw [P2 q' hq, P q' hq]⟩
theorem set_full (p : Nat) (g q : Int) (c : Bool) (h : St w k tb fb rb mb qb t rs bs) (hp : p < 4096) (g0 : 0 ≤ g) (g1 : g < 1024) (q0 : 0 ≤ q) (q1 : q ≤ 7) (h0 : nm bs t (p / 64) = 0) (hn : NoFree rs k) :
    Calls Tryz.prog 41 #[.pointer (some ⟨tb, 0, none⟩), .int .i64 p, .agg #[.int .i64 g, .int .u8 q, .bool c]] w (Said (.iface 72 (.int .i64 12)) w) :=
  tset_full p g q c h.tb h.fr h.ph h.good.lt hp g0 g1 q0 q1 (by rw [h.len]; exact hn) h0
/-- an entry was taken away -/
def ClearDone (k tb fb rb mb qb t p : Nat) (rs bs : List Int) (w : World) (e : Ending) (w' : World) : Prop :=
  ∃ cs, e = .returned .nilIface ∧ St w' k tb fb rb mb qb t rs cs ∧ But (fun j => j = rb ∨ j = qb) w w' ∧ (∀ u, u < 64 → nm cs t u = nm bs t u) ∧ ∀ q, q < 4096 → pgn cs t q = if q = p then 0 else pgn bs t q
theorem clear_done (p : Nat) (h : St w k tb fb rb mb qb t rs bs) (hp : p < 4096) :
    Calls Tryz.prog 68 #[.pointer (some ⟨tb, 0, none⟩), .int .i64 p] w (ClearDone k tb fb rb mb qb t p rs bs w) := by
  by_cases h0 : nm bs t (p / 64) = 0
  · refine (tclear_none p h.tb h.ph h.good.lt hp h0).mono ?_
    rintro e w' ⟨rfl, n1⟩
    refine ⟨bs, rfl, h.new n1, But.of_new _ n1, fun _ _ => rfl, fun q hq => ?_⟩
    split
    · rename_i e; subst e; unfold pgn; rw [if_pos h0]
    · rfl
  · refine (tclear_some p k _ h.tb h.fr h.ph h.good (Nat.le_refl _) hp h0).mono ?_
    rintro e w' ⟨rfl, r, ph, b⟩
    exact ⟨_, rfl, ⟨h.tb.but b h.ap.1 h.ap.2.1, r, ph, h.len, h.good.lay h.ph.len (Nat.le_refl _) (by omega) (by omega) h0 Pn.zero (by omega) (by omega)⟩, b, up_lay h.good h.ph.len (Nat.le_refl _) (by omega) (by omega) h0 (by omega) (by omega), pgn_lay h.good h.ph.len (Nat.le_refl _) hp h0 (by omega) (by omega)⟩
theorem get_done (p : Nat) (h : St w k tb fb rb mb qb t rs bs) (hp : p < 4096) :
    Calls Tryz.prog 84 #[.pointer (some ⟨tb, 0, none⟩), .int .i64 p] w (Said (gotE (pgn bs t p) .nilIface) w) := tget_any p k _ h.tb h.ph h.good (Nat.le_refl _) hp
theorem frames_done (h : St w k tb fb rb mb qb t rs bs) : Calls Tryz.prog 44 #[.pointer (some ⟨tb, 0, none⟩)] w (IntN (1 + nup bs t 64) w) := tframes_any h.tb h.ph h.good (Nat.le_refl _)
theorem pages_done (h : St w k tb fb rb mb qb t rs bs) : Calls Tryz.prog 29 #[.pointer (some ⟨tb, 0, none⟩)] w (Lists (pgs (pgn bs t) 4096) w) := tpages_any h.tb h.ph h.good (Nat.le_refl _)
theorem free_done (h : St w k tb fb rb mb qb t rs bs) : Calls Tryz.prog 24 #[.pointer (some ⟨fb, 0, none⟩)] w (IntN (k - (tk rs k).length) w) := by
  have := free_any w h.fr; rwa [h.len] at this
/-- a table was made in frames of which none was taken -/
def NewDone (k fb rb mb qb : Nat) (w : World) (e : Ending) (w' : World) : Prop :=
  ∃ tb cs, e = .returned (.tuple #[.pointer (some ⟨tb, 0, none⟩), .nilIface]) ∧ w.heap.size ≤ tb ∧ St w' k tb fb rb mb qb 0 ((List.replicate k 0).set 0 1) cs ∧ But (fun j => j = rb ∨ j = qb) w w' ∧ (∀ u, u < 64 → nm cs 0 u = 0)
theorem new_done (h1 : Fr w fb rb (List.replicate k 0)) (h2 : Ph w mb qb k bs) : Calls Tryz.prog 65 #[.pointer (some ⟨fb, 0, none⟩), .pointer (some ⟨mb, 0, none⟩)] w (NewDone k fb rb mb qb w) := by
  have hb := h2.bd
  refine (tnew_ok 0 h1 h2 (by simp) (by simp; omega) (NoFree.zero _) (zeros_get _ _)).mono ?_
  rintro e w' ⟨tb, rfl, hs, t1, r, ph, b⟩
  refine ⟨tb, _, rfl, hs, ⟨t1, r, ph, by simp, Good.start h2.len (Nat.le_refl _) (by omega) ?_⟩, b, fun u hu => ?_⟩
  · show ((List.replicate k 0).set 0 1).getD 0 0 = 1
    rw [getD_set _ _ _ _ (by simp; omega), if_pos rfl]
  · rw [zr_nm h2.len (by omega) 0 u hu, if_pos rfl]
end
end Go.Proofs.YtfllplinafnpbaaGreatDoor
