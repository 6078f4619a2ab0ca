/- What the statements on tables of two levels ask at their ends: sure. -/
import Derived.Test.YtfllplinafnpbaaGreatDoorTbI
namespace Go.Proofs.YtfllplinafnpbaaGreatDoor
open Go.RowKit
set_option linter.unusedVariables false
set_option maxRecDepth 100000
theorem New.but {S : Nat → Prop} {w a b : World} (h : New w a) (k : But S a b) (hs : ∀ i, S i → w.heap.size ≤ i) : New w b :=
  ⟨k.1.trans h.os, k.2.1.trans h.tape, k.2.2.1.trans h.output, Nat.le_trans h.size k.2.2.2.1, fun i hi => (k.2.2.2.2 i (Nat.lt_of_lt_of_le hi h.size) (fun c => by have := hs i c; omega)).trans (h.block hi)⟩
theorem gotE_is {v : Int} (h : 1 ≤ v) (k : EnNum v) (er : Value) : gotE v er = .tuple #[.agg #[.int .i64 (v / 256), .int .u8 (v % 8), .bool (cwb v)], .bool true, er] := by
  obtain ⟨e1, e2, e3, e4⟩ := dc_is h k
  unfold gotE; rw [e1, e2, e3, e4]
theorem free_some {rs : List Int} {k : Nat} (h : Fits rs) (hl : rs.length = k) (hc : (tk rs k).length < k) : ∃ i, i < k ∧ NoFree rs i ∧ rs.getD i 0 = 0 := by
  rcases free_or rs k with hn | hn
  · rw [tk_full h k hn] at hc; omega
  · exact hn
section
variable {w w' : World} {k tb fb rb mb qb t p : Nat} {rs bs qs cs : List Int}
/-- frames that are taken, and the table's, behind an entry that was laid down -/
theorem Laid1.counts (h : Laid1 k t p rs bs qs cs) (hp : p < 4096) (hl : rs.length = k) :
    ((tk qs k).length = (tk rs k).length ∧ nup cs t 64 = nup bs t 64 ∧ nm bs t (p / 64) ≠ 0) ∨ ((tk qs k).length = (tk rs k).length + 1 ∧ nup cs t 64 = nup bs t 64 + 1 ∧ nm bs t (p / 64) = 0) := by
  cases h with
  | old h0 hu => exact .inl ⟨rfl, by unfold nup; rw [ups_congr 64 hu], h0⟩
  | more i h0 hi hn hz hu =>
    refine .inr ⟨?_, ?_, h0⟩
    · have := tk_len_set rs i 1 k (by omega)
      rw [if_pos hi, hz] at this
      simp at this; omega
    · have := nup_grow 64 hu h0
      rw [if_pos (by omega)] at this; exact this
/-- all that is taken is the table's -/
def Just (k t : Nat) (rs bs : List Int) : Prop := ∀ j, j < k → rs.getD j 0 ≠ 0 → Mine bs t j
theorem Laid1.just (h : Laid1 k t p rs bs qs cs) (hp : p < 4096) (hl : rs.length = k) (hj : Just k t rs bs) : Just k t qs cs := by
  cases h with
  | old h0 hu =>
    intro j hk hn
    rcases hj j hk hn with e | ⟨u, h1, h2, h3⟩
    · exact .inl e
    · exact .inr ⟨u, h1, by rw [hu u h1]; exact h2, by unfold lof; rw [hu u h1]; exact h3⟩
  | more i h0 hi hn hz hu =>
    intro j hk hnz
    by_cases c : j = i
    · subst c
      have e := hu (p / 64) (by omega)
      rw [if_pos rfl] at e
      exact .inr ⟨p / 64, by omega, by rw [e]; have := upn_pos j; omega, by unfold lof; rw [e, fo_upn]⟩
    · rw [getD_set _ _ _ _ (by omega), if_neg c] at hnz
      rcases hj j hk hnz with e | ⟨u, h1, h2, h3⟩
      · exact .inl e
      · have hne : u ≠ p / 64 := fun e => h2 (e ▸ h0)
        exact .inr ⟨u, h1, by rw [hu u h1, if_neg hne]; exact h2, by unfold lof; rw [hu u h1, if_neg hne]; exact h3⟩
theorem Just.clear (hj : Just k t rs bs) (hu : ∀ u, u < 64 → nm cs t u = nm bs t u) : Just k t rs cs := by
  intro j hk hn
  rcases hj j hk hn with e | ⟨u, h1, h2, h3⟩
  · exact .inl e
  · exact .inr ⟨u, h1, by rw [hu u h1]; exact h2, by unfold lof; rw [hu u h1]; exact h3⟩
theorem Just.start (k : Nat) (hk : 1 ≤ k) : Just k 0 ((List.replicate k 0).set 0 1) cs := by
  intro j hj hn
  rw [getD_set _ _ _ _ (by simp; omega)] at hn
  by_cases c : j = 0
  · exact .inl c
  · rw [if_neg c, zeros_get] at hn; exact absurd rfl hn
theorem Just.freed (hj : Just k t rs bs) (hl : rs.length = k) : giv rs (own bs t) = List.replicate k 0 := by
  apply ext_getD (by rw [giv_len, hl]; simp)
  intro j hlt
  rw [giv_get, zeros_get]
  by_cases c : j ∈ own bs t
  · rw [if_pos c]
  · rw [if_neg c]
    rw [giv_len, hl] at hlt
    by_cases d : rs.getD j 0 = 0
    · exact d
    · exact absurd (mine_own.2 (hj j hlt d)) c
theorem tk_start (k : Nat) (hk : 1 ≤ k) : (tk ((List.replicate k 0).set 0 1) k).length = 1 := by
  have := tk_len_set (List.replicate k 0) 0 1 k (by simp; omega)
  rw [if_pos (by omega), tk_zeros, zeros_get] at this
  simp at this; omega
theorem nup_zero (h : ∀ u, u < 64 → nm bs t u = 0) : nup bs t 64 = 0 := by unfold nup; rw [ups_nil 64 h]; rfl
theorem pgn_none (h : ∀ u, u < 64 → nm bs t u = 0) (q : Nat) (hq : q < 4096) : pgn bs t q = 0 := by unfold pgn; rw [if_pos (h _ (by omega))]
end
theorem pgs_one (v : Int) (hv : v ≠ 0) : (pgs (fun q => if q = 64 then v else 0) 4096).length = 1 := by
  have e1 : pgs (fun q => if q = 64 then v else 0) 64 = [] := pgs_more (f := fun q => if q = 64 then v else 0) 0 64 (fun j h1 h2 => if_neg (by omega))
  have e2 : pgs (fun q => if q = 64 then v else 0) 65 = [64] := by rw [pgs_push (by simpa using hv), e1]; rfl
  have e3 := pgs_more (f := fun q => if q = 64 then v else 0) 65 4031 (fun j h1 h2 => if_neg (by omega))
  rw [show 65 + 4031 = 4096 from rfl] at e3
  rw [e3, e2]; rfl
section
variable {w : World} {tb fb rb mb qb : Nat} {bs cs : List Int}
theorem su_rs : (List.replicate 4 (0 : Int)).set 0 1 = [1, 0, 0, 0] := rfl
/-- the one entry that sure lays down -/
def SuDone (tb fb rb mb qb : Nat) (w : World) (e : Ending) (w' : World) : Prop :=
  ∃ qs cs, e = .returned .nilIface ∧ St w' 4 tb fb rb mb qb 0 qs cs ∧ But (fun j => j = rb ∨ j = qb) w w' ∧ pgn cs 0 64 = 899 ∧ pgn cs 0 65 = 0 ∧ nup cs 0 64 = 1 ∧ (tk qs 4).length = 2 ∧ (pgs (pgn cs 0) 4096).length = 1
theorem su_set (h : St w 4 tb fb rb mb qb 0 ((List.replicate 4 0).set 0 1) bs) (h0 : ∀ u, u < 64 → nm bs 0 u = 0) :
    Calls Tryz.prog 41 #[.pointer (some ⟨tb, 0, none⟩), .int .i64 64, .agg #[.int .i64 3, .int .u8 3, .bool false]] w (SuDone tb fb rb mb qb w) := by
  refine (set_new 64 1 3 3 false h (by omega) (by omega) (by omega) (by omega) (by omega) (h0 _ (by omega)) (by omega) (nofree_of rfl) rfl).mono ?_
  rintro e w' ⟨qs, cs, rfl, s, b, l, p⟩
  have en : ennum 3 3 false = 899 := rfl
  rw [en] at p
  have p' : ∀ q, q < 4096 → pgn cs 0 q = if q = 64 then 899 else 0 := fun q hq => by rw [p q hq, pgn_none h0 q hq]
  have hn := nup_zero h0
  have ht := tk_start 4 (by omega)
  rcases l.counts (by omega) (by simp) with ⟨_, _, c⟩ | ⟨c1, c2, _⟩
  · exact absurd (h0 _ (by omega)) c
  · exact ⟨qs, cs, rfl, s, b, by rw [p' _ (by omega)]; rfl, by rw [p' _ (by omega)]; rfl, by omega, by omega, by rw [pgs_congr 4096 p']; exact pgs_one 899 (by omega)⟩
theorem su_get (h : St w 4 tb fb rb mb qb 0 bs cs) (hp : pgn cs 0 64 = 899) : Calls Tryz.prog 84 #[.pointer (some ⟨tb, 0, none⟩), .int .i64 64] w (Said (.tuple #[.agg #[.int .i64 3, .int .u8 3, .bool false], .bool true, .nilIface]) w) := by
  have X := get_done 64 h (by omega)
  rw [hp, gotE_is (by omega) (by unfold EnNum; omega)] at X
  exact X
theorem su_get2 (h : St w 4 tb fb rb mb qb 0 bs cs) (hp : pgn cs 0 65 = 0) : Calls Tryz.prog 84 #[.pointer (some ⟨tb, 0, none⟩), .int .i64 65] w (Said (.tuple #[.agg #[.int .i64 0, .int .u8 0, .bool false], .bool false, .nilIface]) w) := by
  have X := get_done 65 h (by omega)
  rw [hp, gotE_zero] at X
  exact X
theorem su_frames (h : St w 4 tb fb rb mb qb 0 bs cs) (hn : nup cs 0 64 = 1) : Calls Tryz.prog 44 #[.pointer (some ⟨tb, 0, none⟩)] w (IntN 2 w) := by
  have X := frames_done h; rw [hn] at X; exact X
theorem su_pages (h : St w 4 tb fb rb mb qb 0 bs cs) (hn : (pgs (pgn cs 0) 4096).length = 1) : Calls Tryz.prog 29 #[.pointer (some ⟨tb, 0, none⟩)] w (LenN 1 w) := by
  refine (pages_done h).mono ?_
  rintro e w' ⟨v, rfl, o, n⟩
  obtain ⟨p, cap, rfl⟩ := o.ints.len
  rw [hn]; exact ⟨p, cap, rfl, n⟩
theorem su_free (h : St w 4 tb fb rb mb qb 0 bs cs) (hn : (tk bs 4).length = 2) : Calls Tryz.prog 24 #[.pointer (some ⟨fb, 0, none⟩)] w (IntN 2 w) := by
  have X := free_done h; rw [hn] at X; exact X
theorem made_four (w : World) : Calls Tryz.prog 45 #[.int .i64 4] w (Made 4 w) := made_any 4 w (by omega) (by omega)
theorem pmade_four (w : World) : Calls Tryz.prog 46 #[.int .i64 4] w (MadeP 4 w) := pmade_any 4 w (by omega) (by omega)
end
end Go.Proofs.YtfllplinafnpbaaGreatDoor
