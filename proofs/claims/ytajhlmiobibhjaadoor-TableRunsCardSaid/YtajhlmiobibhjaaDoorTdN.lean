/- What the law that holds a table against the document's list leans on: both sides told of together; a step that sets. -/
import Derived.Test.YtajhlmiobibhjaaDoorTdJ
import Derived.Test.YtajhlmiobibhjaaDoorTbJ
import Derived.Test.YtajhlmiobibhjaaDoorFrE
namespace Go.Proofs.YtajhlmiobibhjaaDoor
open Go.RowKit
set_option linter.unusedVariables false
set_option maxRecDepth 100000
/-- the bytes of a table and the document's lists tell the same -/
structure Rd (t : Nat) (rs bs : List Int) (L : List (Int × Int)) (U O l : List Int) : Prop where
  list : L = can (pgn bs t) 4096
  up : ∀ x : Int, x ∈ U ↔ ∃ j : Nat, j < 64 ∧ nm bs t j ≠ 0 ∧ x = (j : Int)
  ulen : U.length = nup bs t 64
  own : ∀ x : Int, x ∈ O ↔ ∃ j : Nat, Mine bs t j ∧ x = (j : Int)
  nd : O.Nodup
  olen : O.length = 1 + nup bs t 64
  same : Same rs l
theorem nup_le (bs : List Int) (t : Nat) : nup bs t 64 ≤ 64 := by
  have : ∀ k, nup bs t k ≤ k := by
    intro k
    induction k with
    | zero => simp [nup, ups]
    | succ k ih =>
      unfold nup at ih ⊢
      by_cases d : nm bs t k = 0
      · rw [ups_skip d]; omega
      · rw [ups_push d, List.length_append]; simp; omega
  exact this 64
section
variable {w w' : World} {k tb fb rb mb qb t p : Nat} {rs bs cs qs : List Int} {L : List (Int × Int)} {U O l : List Int}
theorem Mine.congr (hu : ∀ u, u < 64 → nm cs t u = nm bs t u) (j : Nat) : Mine cs t j ↔ Mine bs t j := by
  unfold Mine
  refine or_congr Iff.rfl ⟨?_, ?_⟩
  · rintro ⟨u, h1, h2, h3⟩; exact ⟨u, h1, by rw [← hu u h1]; exact h2, by unfold lof at *; rw [← hu u h1]; exact h3⟩
  · rintro ⟨u, h1, h2, h3⟩; exact ⟨u, h1, by rw [hu u h1]; exact h2, by unfold lof at *; rw [hu u h1]; exact h3⟩
/-- other entries in the same upper parts -/
theorem Rd.turn (h : Rd t rs bs L U O l) (hu : ∀ u, u < 64 → nm cs t u = nm bs t u) {K : List (Int × Int)} (hK : K = can (pgn cs t) 4096) : Rd t rs cs K U O l := by
  have e1 : nup cs t 64 = nup bs t 64 := by unfold nup; rw [ups_congr 64 hu]
  refine ⟨hK, fun x => (h.up x).trans ⟨?_, ?_⟩, by rw [e1]; exact h.ulen, fun x => (h.own x).trans ⟨?_, ?_⟩, h.nd, by rw [e1]; exact h.olen, h.same⟩
  · rintro ⟨j, h1, h2, h3⟩; exact ⟨j, h1, by rw [hu j h1]; exact h2, h3⟩
  · rintro ⟨j, h1, h2, h3⟩; exact ⟨j, h1, by rw [← hu j h1]; exact h2, h3⟩
  · rintro ⟨j, h1, h2⟩; exact ⟨j, (Mine.congr hu j).2 h1, h2⟩
  · rintro ⟨j, h1, h2⟩; exact ⟨j, (Mine.congr hu j).1 h1, h2⟩
theorem can_set {f g : Nat → Int} (p : Nat) (v : Int) (hp : p < 4096) (hv : v ≠ 0) (hg : ∀ q, q < 4096 → g q = if q = p then v else f q) : lay p v (less p (can f 4096)) = can g 4096 := by
  rw [can_less (g := fun j => if j = p then 0 else f j) p 4096 (fun j _ => rfl)]
  refine can_lay p 4096 v hp hv (by simp) (fun j hj => ?_)
  rw [hg j hj]; split
  · rfl
  · rfl
theorem Rd.mem (h : Rd t rs bs L U O l) (hp : p < 4096) : ((p / 64 : Nat) : Int) ∈ U ↔ nm bs t (p / 64) ≠ 0 := by
  rw [h.up]
  constructor
  · rintro ⟨j, _, h2, h3⟩
    have : p / 64 = j := by omega
    rw [this]; exact h2
  · intro h2; exact ⟨_, by omega, h2, rfl⟩
theorem Rd.o1 (h : Rd t rs bs L U O l) : O ≠ [] := by
  intro e
  have := h.olen
  rw [e] at this; simp at this; omega
/-- a frame more for an upper part -/
theorem Rd.grow (h : Rd t rs bs L U O l) (hg : Good rs.length (fun i => rs.getD i 0 = 1) bs t) (hp : p < 4096) (i : Nat) (h0 : nm bs t (p / 64) = 0) (hi : i < rs.length) (hz : rs.getD i 0 = 0)
    (hu : ∀ u, u < 64 → nm cs t u = if u = p / 64 then upn i else nm bs t u) {K : List (Int × Int)} (hK : K = can (pgn cs t) 4096) : Rd t (rs.set i 1) cs K (U ++ [((p / 64 : Nat) : Int)]) (O ++ [(i : Int)]) (l ++ [(i : Int)]) := by
  have c2 : nup cs t 64 = nup bs t 64 + 1 := by
    have := nup_grow 64 hu h0
    rw [if_pos (by omega)] at this; exact this
  have hup := upn_pos i
  have hM : ∀ j, Mine cs t j ↔ Mine bs t j ∨ j = i := by
    intro j
    unfold Mine
    constructor
    · rintro (e | ⟨u, h1, h2, h3⟩)
      · exact .inl (.inl e)
      · by_cases c : u = p / 64
        · refine .inr ?_
          rw [← h3]; unfold lof; rw [hu u h1, if_pos c, fo_upn]
        · rw [hu u h1, if_neg c] at h2
          exact .inl (.inr ⟨u, h1, h2, by unfold lof at *; rw [hu u h1, if_neg c] at h3; exact h3⟩)
    · rintro ((e | ⟨u, h1, h2, h3⟩) | e)
      · exact .inl e
      · have c : u ≠ p / 64 := fun e => h2 (e ▸ h0)
        exact .inr ⟨u, h1, by rw [hu u h1, if_neg c]; exact h2, by unfold lof at *; rw [hu u h1, if_neg c]; exact h3⟩
      · subst e
        exact .inr ⟨p / 64, by omega, by rw [hu _ (by omega), if_pos rfl]; omega, by unfold lof; rw [hu _ (by omega), if_pos rfl, fo_upn]⟩
  have hni : ¬ Mine bs t i := by
    rintro (e | ⟨u, h1, h2, h3⟩)
    · have := hg.mine; rw [← e] at this; omega
    · rcases hg.up u h1 with e | ⟨j, h4, h5, h6⟩
      · exact h2 e
      · have : lof bs t u = j := by unfold lof; rw [h6.2, fo_upn]
        rw [this] at h3; subst h3; omega
  refine ⟨hK, fun x => ?_, by rw [List.length_append, h.ulen, c2]; rfl, fun x => ?_, ?_, by rw [List.length_append, h.olen, c2]; simp; omega, h.same.take i hi 1 (by rw [rfs_in _ _ hi, hz]; rfl)⟩
  · rw [List.mem_append, h.up, List.mem_singleton]
    constructor
    · rintro (⟨j, h1, h2, h3⟩ | e)
      · have c : j ≠ p / 64 := fun e => h2 (e ▸ h0)
        exact ⟨j, h1, by rw [hu j h1, if_neg c]; exact h2, h3⟩
      · exact ⟨p / 64, by omega, by rw [hu _ (by omega), if_pos rfl]; omega, e⟩
    · rintro ⟨j, h1, h2, h3⟩
      by_cases c : j = p / 64
      · exact .inr (by rw [h3, c])
      · rw [hu j h1, if_neg c] at h2; exact .inl ⟨j, h1, h2, h3⟩
  · rw [List.mem_append, h.own, List.mem_singleton]
    constructor
    · rintro (⟨j, h1, h2⟩ | e)
      · exact ⟨j, (hM j).2 (.inl h1), h2⟩
      · exact ⟨i, (hM i).2 (.inr rfl), e⟩
    · rintro ⟨j, h1, h2⟩
      rcases (hM j).1 h1 with h3 | h3
      · exact .inl ⟨j, h3, h2⟩
      · exact .inr (by rw [h2, h3])
  · rw [List.nodup_append]
    refine ⟨h.nd, by simp, ?_⟩
    intro a ha b hb e
    rw [List.mem_singleton] at hb
    subst hb; subst e
    obtain ⟨j, h1, h2⟩ := (h.own _).1 ha
    have : j = i := by omega
    subst this; exact hni h1
/-- the blocks that the package writes -/
def S3 (rb qb tb : Nat) (j : Nat) : Prop := j = rb ∨ j = qb ∨ j = tb
/-- both sides: there, or freed -/
def TS (w : World) (k tb fb rb mb qb t : Nat) (rs bs : List Int) (gone : Bool) (L : List (Int × Int)) (U O l : List Int) : Prop :=
  (gone = false ∧ St w k tb fb rb mb qb t rs bs ∧ Rd t rs bs L U O l) ∨ (gone = true ∧ Tb0 w tb ∧ Fr w fb rb rs ∧ rs.length = k ∧ Same rs l ∧ L = [] ∧ U = [] ∧ O = [] ∧ tb ≠ rb)
/-- a table with its list, and frames, and a number -/
def RsAny (base : Nat) (gone : Bool) (L : List (Int × Int)) (U O l : List Int) (many er : Int) (w : World) (e : Ending) (w' : World) : Prop :=
  ∃ vL vU vO vF, e = .returned (.tuple #[.agg #[vL, vU, vO, .bool gone], .agg #[.int .i64 many, vF], .int .i64 er]) ∧ OwnI base w' vL L ∧ Own base w' vU U ∧ Own base w' vO O ∧ Own base w' vF l ∧ New w w'
/-- what the package did -/
def TsDone (er : Int) (k tb fb rb mb qb t : Nat) (gone : Bool) (L : List (Int × Int)) (U O l : List Int) (w : World) (e : Ending) (w' : World) : Prop :=
  e = .returned (erN er) ∧ ∃ rs' bs', TS w' k tb fb rb mb qb t rs' bs' gone L U O l ∧ But (S3 rb qb tb) w w'
theorem TS.new {gone : Bool} (h : TS w k tb fb rb mb qb t rs bs gone L U O l) (n : New w w') : TS w' k tb fb rb mb qb t rs bs gone L U O l := by
  rcases h with ⟨e, h1, h2⟩ | ⟨e, h1, h2, h3⟩
  · exact .inl ⟨e, h1.new n, h2⟩
  · exact .inr ⟨e, h1.new n, h2.new n, h3⟩
/-- the document's side of a call that sets, at any place -/
def RefSet (k : Nat) (m g q : Int) (c gone : Bool) (L : List (Int × Int)) (U O l : List Int) (gone' : Bool) (L' : List (Int × Int)) (U' O' l' : List Int) (er : Int) : Prop :=
  ∀ (base : Nat) (W : World) (vL vU vO vF : Value), OwnI base W vL L → Own base W vU U → Own base W vO O → Own base W vF l → base ≤ W.heap.size →
    Calls Tryd.prog 15 #[.agg #[vL, vU, vO, .bool gone], .agg #[.int .i64 (k : Int), vF], .int .i64 m, .agg #[.int .i64 g, .int .u8 q, .bool c]] W (RsAny base gone' L' U' O' l' k er W)
theorem RefSet.same {m g q : Int} {c gone : Bool} {er : Int} (h : ∀ (base : Nat) (W : World) (vL vU vO vF : Value), OwnI base W vL L → Own base W vU U → Own base W vO O → Own base W vF l → base ≤ W.heap.size →
    Calls Tryd.prog 15 #[.agg #[vL, vU, vO, .bool gone], .agg #[.int .i64 (k : Int), vF], .int .i64 m, .agg #[.int .i64 g, .int .u8 q, .bool c]] W (Said (rsE vL vU vO gone k vF er) W)) : RefSet k m g q c gone L U O l gone L U O l er := by
  intro base W vL vU vO vF h1 h2 h3 h4 hb
  refine (h base W vL vU vO vF h1 h2 h3 h4 hb).mono ?_
  rintro e w' ⟨rfl, n⟩
  exact ⟨_, _, _, _, rfl, h1.new n, h2.new n, h3.new n, h4.new n, n⟩
theorem TS.said {gone : Bool} {er : Int} {e : Ending} {v : Value} (h : TS w k tb fb rb mb qb t rs bs gone L U O l) (hv : v = erN er) (hs : Said v w e w') : TsDone er k tb fb rb mb qb t gone L U O l w e w' := by
  obtain ⟨rfl, n⟩ := hs
  exact ⟨by rw [hv], rs, bs, h.new n, But.of_new _ n⟩
theorem St.least (h : St w k tb fb rb mb qb t rs bs) (hs : Same rs l) {i : Nat} (hi : i ≤ k) (hn : NoFree rs i) : ∀ j : Nat, j < i → cn l (j : Int) ≠ 0 := by
  intro j hj
  rw [hs.at_ j (by rw [h.len]; omega)]
  exact hn j hj
theorem SetDone.ts {v er : Int} {e : Ending} {w1 w2 : World} (hp : p < 4096) (h : St w1 k tb fb rb mb qb t rs bs) (he : er = 0) (hd : SetDone k tb fb rb mb qb t p v rs bs w1 e w2) (hv : v ≠ 0) (hr : Rd t rs bs L U O l) :
    (nm bs t (p / 64) ≠ 0 → TsDone er k tb fb rb mb qb t false (lay p v (less p L)) U O l w1 e w2) ∧
    (∀ i, nm bs t (p / 64) = 0 → i < k → NoFree rs i → rs.getD i 0 = 0 → TsDone er k tb fb rb mb qb t false (lay p v (less p L)) (U ++ [((p / 64 : Nat) : Int)]) (O ++ [(i : Int)]) (l ++ [(i : Int)]) w1 e w2) := by
  obtain ⟨qs, cs, rfl, s, b, ld, pg⟩ := hd
  have hK : lay p v (less p L) = can (pgn cs t) 4096 := by rw [hr.list]; exact can_set p v hp hv pg
  have hb : But (S3 rb qb tb) w1 w2 := b.mono fun i _ h => by rcases h with h | h; exact .inl h; exact .inr (.inl h)
  subst he
  constructor
  · intro h0
    cases ld with
    | old _ hu => exact ⟨rfl, _, _, .inl ⟨rfl, s, hr.turn hu hK⟩, hb⟩
    | more i h1 => exact absurd h1 h0
  · intro i h0 hi hn hz
    cases ld with
    | old h1 _ => exact absurd h0 h1
    | more j h1 hj hnj hzj hu =>
      have : i = j := by
        rcases Nat.lt_trichotomy i j with c | c | c
        · exact absurd hz (hnj i c)
        · exact c
        · exact absurd hzj (hn j c)
      subst this
      exact ⟨rfl, _, _, .inl ⟨rfl, s, hr.grow h.good' hp i h0 (by rw [h.len]; exact hi) hz hu hK⟩, hb⟩
theorem OwnI.sl {base : Nat} {W : World} {v : Value} (h : OwnI base W v L) : Sl v := h.its.sl
theorem Own.sl {base : Nat} {W : World} {v : Value} (h : Own base W v l) : Sl v := h.ints.sl
theorem ts_set (m g q : Int) (c gone : Bool) (hq : 0 ≤ q) (hk : k ≤ 1024) (hl : l.length ≤ 1000) (h : TS w k tb fb rb mb qb t rs bs gone L U O l) :
    ∃ er L' U' O' l', l'.length ≤ l.length + 1 ∧ (er = 0 ∨ er = 12 ∨ er = 22) ∧ RefSet k m g q c gone L U O l gone L' U' O' l' er ∧
      ∀ W, TS W k tb fb rb mb qb t rs bs gone L U O l → Calls Tryd.prog 7 #[.pointer (some ⟨tb, 0, none⟩), .int .i64 m, .agg #[.int .i64 g, .int .u8 q, .bool c]] W (TsDone er k tb fb rb mb qb t gone L' U' O' l' W) := by
  rcases h with ⟨rfl, hs, hr⟩ | ⟨rfl, h1, _⟩
  rotate_left
  · refine ⟨22, L, U, O, l, by omega, .inr (.inr rfl), RefSet.same fun base W vL vU vO vF a1 a2 a3 a4 _ => rset_gone m g q c a1.sl a2.sl a3.sl a4.sl, fun W h => ?_⟩
    rcases h with ⟨e, _⟩ | ⟨_, h2, h3⟩
    · cases e
    · refine (tset_gone m g q c (.inr ⟨tb, rfl, h2⟩)).mono fun e w' a => ?_
      exact TS.said (bs := bs) (.inr ⟨rfl, h2, h3⟩) (erN_pos (by decide)).symm a
  have ev : ∀ W, TS W k tb fb rb mb qb t rs bs false L U O l → St W k tb fb rb mb qb t rs bs := by
    rintro W (⟨_, h, _⟩ | ⟨e, _⟩)
    · exact h
    · cases e
  by_cases hm : 0 ≤ m ∧ m < 4096
  rotate_left
  · refine ⟨22, L, U, O, l, by omega, .inr (.inr rfl), RefSet.same fun base W vL vU vO vF a1 a2 a3 a4 _ => rset_bad m g q c hm a1.sl a2.sl a3.sl a4.sl, fun W h => ?_⟩
    exact (tset_bad m g q c (ev W h).tb hm).mono fun e w' a => TS.said h (erN_pos (by decide)).symm a
  obtain ⟨p, rfl⟩ : ∃ p : Nat, m = (p : Int) := ⟨m.toNat, by omega⟩
  have hp : p < 4096 := by omega
  by_cases hy : 0 ≤ g ∧ g < 1024 ∧ q ≤ 7
  rotate_left
  · refine ⟨22, L, U, O, l, by omega, .inr (.inr rfl), RefSet.same fun base W vL vU vO vF a1 a2 a3 a4 _ => rset_may p g q c hp hq hy a1.sl a2.sl a3.sl a4.sl, fun W h => ?_⟩
    exact (tset_bad2 p g q c (ev W h).tb hp hq hy).mono fun e w' a => TS.said h (erN_pos (by decide)).symm a
  obtain ⟨g0, g1, q1⟩ := hy
  obtain ⟨v0, v1, v2⟩ := ennum_pn g q c g0 g1 hq q1
  have hU := hr.ulen
  have hO := hr.olen
  have hn64 := nup_le bs t
  have hL : L.length ≤ 4096 := by rw [hr.list]; exact can_len _ _
  by_cases h0 : nm bs t (p / 64) = 0
  · have hm : ¬ ((p / 64 : Nat) : Int) ∈ U := by rw [hr.mem hp]; simp [h0]
    rcases free_or rs k with hn | ⟨i, hi, hn, hz⟩
    · refine ⟨12, L, U, O, l, by omega, .inr (.inl rfl), RefSet.same fun base W vL vU vO vF a1 a2 a3 a4 hb => rset_full k p rfl g q c a1.sl a2 a3.sl a4 hb hp (by omega) (by omega) hk (hs.least hr.same (Nat.le_refl _) hn) g0 g1 hq q1 hm, fun W h => ?_⟩
      exact (set_full p g q c (ev W h) hp g0 g1 hq q1 h0 hn).mono fun e w' a => TS.said h (erN_pos (by decide)).symm a
    · refine ⟨0, lay p (ennum g q c) (less p L), U ++ [((p / 64 : Nat) : Int)], O ++ [(i : Int)], l ++ [(i : Int)], by simp, .inl rfl, fun base W vL vU vO vF a1 a2 a3 a4 hb => ?_, fun W h => ?_⟩
      · by_cases hv : vU = .slice none 0 0 ∧ U = []
        · have X := rset_nil (many := (k : Int)) p i g q c a1 a2 a3 a4 hb hp hL (by omega) (by omega) (by omega) hr.o1 hv (by omega) (by omega) (hs.least hr.same (by omega) hn) (by rw [hr.same.at_ i (by rw [hs.len]; exact hi)]; exact hz) g0 g1 hq q1 hm
          exact X
        · have X := rset_new (many := (k : Int)) p i g q c a1 a2 a3 a4 hb hp hL (by omega) (by omega) (by omega) hr.o1 hv (by omega) (by omega) (hs.least hr.same (by omega) hn) (by rw [hr.same.at_ i (by rw [hs.len]; exact hi)]; exact hz) g0 g1 hq q1 hm
          exact X
      · exact (set_new p i g q c (ev W h) hp g0 g1 hq q1 h0 hi hn hz).mono fun e w' a => (SetDone.ts hp (ev W h) rfl a (by omega) hr).2 i h0 hi hn hz
  · have hm : ((p / 64 : Nat) : Int) ∈ U := (hr.mem hp).2 h0
    refine ⟨0, lay p (ennum g q c) (less p L), U, O, l, by omega, .inl rfl, fun base W vL vU vO vF a1 a2 a3 a4 hb => ?_, fun W h => ?_⟩
    · exact rset_old (many := (k : Int)) p g q c a1 a2 a3 a4 hb hp hL (by omega) g0 g1 hq q1 hm
    · exact (set_old p g q c (ev W h) hp g0 g1 hq q1 h0).mono fun e w' a => (SetDone.ts hp (ev W h) rfl a (by omega) hr).1 h0
end
end Go.Proofs.YtajhlmiobibhjaaDoor
namespace Go.Proofs.YtajhlmiobibhjaaDoor
open Go.RowKit
set_option linter.unusedVariables false
set_option maxRecDepth 100000
section
variable {w w' : World} {k tb fb rb mb qb t p : Nat} {rs bs cs qs : List Int} {L : List (Int × Int)} {U O l : List Int} {gone : Bool}
/-- a table with its list, and a number -/
def RtAny (base : Nat) (gone : Bool) (L : List (Int × Int)) (U O : List Int) (er : Int) (w : World) (e : Ending) (w' : World) : Prop :=
  ∃ vL vU vO, e = .returned (.tuple #[.agg #[vL, vU, vO, .bool gone], .int .i64 er]) ∧ OwnI base w' vL L ∧ Own base w' vU U ∧ Own base w' vO O ∧ New w w'
def RefClear (m : Int) (gone : Bool) (L : List (Int × Int)) (U O : List Int) (L' : List (Int × Int)) (er : Int) : Prop :=
  ∀ (base : Nat) (W : World) (vL vU vO : Value), OwnI base W vL L → Own base W vU U → Own base W vO O → base ≤ W.heap.size →
    Calls Tryd.prog 16 #[.agg #[vL, vU, vO, .bool gone], .int .i64 m] W (RtAny base gone L' U O er W)
theorem can_clear {f g : Nat → Int} (p : Nat) (hg : ∀ q, q < 4096 → g q = if q = p then 0 else f q) : less p (can f 4096) = can g 4096 := can_less p 4096 hg
theorem ts_clear (m : Int) (h : TS w k tb fb rb mb qb t rs bs gone L U O l) :
    ∃ er L', (er = 0 ∨ er = 22) ∧ RefClear m gone L U O L' er ∧
      ∀ W, TS W k tb fb rb mb qb t rs bs gone L U O l → Calls Tryd.prog 8 #[.pointer (some ⟨tb, 0, none⟩), .int .i64 m] W (TsDone er k tb fb rb mb qb t gone L' U O l W) := by
  rcases h with ⟨rfl, hs, hr⟩ | ⟨rfl, h1, _⟩
  rotate_left
  · refine ⟨22, L, .inr rfl, fun base W vL vU vO a1 a2 a3 _ => (rclear_gone m a1.sl a2.sl a3.sl).mono ?_, fun W h => ?_⟩
    · rintro e w' ⟨rfl, n⟩
      exact ⟨_, _, _, rfl, a1.new n, a2.new n, a3.new n, n⟩
    · rcases h with ⟨e, _⟩ | ⟨_, h2, h3⟩
      · cases e
      · refine (tclear_gone m (.inr ⟨tb, rfl, h2⟩)).mono fun e w' a => ?_
        exact TS.said (bs := bs) (.inr ⟨rfl, h2, h3⟩) (erN_pos (by decide)).symm a
  have ev : ∀ W, TS W k tb fb rb mb qb t rs bs false L U O l → St W k tb fb rb mb qb t rs bs := by
    rintro W (⟨_, h, _⟩ | ⟨e, _⟩)
    · exact h
    · cases e
  by_cases hm : 0 ≤ m ∧ m < 4096
  rotate_left
  · refine ⟨22, L, .inr rfl, fun base W vL vU vO a1 a2 a3 _ => (rclear_bad m a1.sl a2.sl a3.sl hm).mono ?_, fun W h => ?_⟩
    · rintro e w' ⟨rfl, n⟩
      exact ⟨_, _, _, rfl, a1.new n, a2.new n, a3.new n, n⟩
    · exact (tclear_bad m (ev W h).tb hm).mono fun e w' a => TS.said h (erN_pos (by decide)).symm a
  obtain ⟨p, rfl⟩ : ∃ p : Nat, m = (p : Int) := ⟨m.toNat, by omega⟩
  have hp : p < 4096 := by omega
  have hL : L.length ≤ 4096 := by rw [hr.list]; exact can_len _ _
  refine ⟨0, less p L, .inl rfl, fun base W vL vU vO a1 a2 a3 hb => (rclear_any p a1.its a2.sl a3.sl hp (by omega)).mono ?_, fun W h => (clear_done p (ev W h) hp).mono ?_⟩
  · rintro e w' ⟨v, rfl, o, n⟩
    exact ⟨_, _, _, rfl, o.more hb, a2.new n, a3.new n, n⟩
  · rintro e w' ⟨cs, rfl, s, b, u, pg⟩
    exact ⟨rfl, rs, cs, .inl ⟨rfl, s, hr.turn u (by rw [hr.list]; exact can_clear p pg)⟩, b.mono fun i _ h => by rcases h with h | h; exact .inl h; exact .inr (.inl h)⟩
/-- a frame taken by another one -/
def TsTook (er : Int) (k tb fb rb mb qb t : Nat) (gone : Bool) (L : List (Int × Int)) (U O l : List Int) (w : World) (e : Ending) (w' : World) : Prop :=
  ∃ n : Int, e = .returned (.tuple #[.int .i64 n, erN er]) ∧ ∃ rs' bs', TS w' k tb fb rb mb qb t rs' bs' gone L U O l ∧ But (S3 rb qb tb) w w'
def RefAlloc (k : Nat) (l l' : List Int) (er : Int) : Prop :=
  ∀ (base : Nat) (W : World) (vF : Value), Own base W vF l → base ≤ W.heap.size →
    Calls Tryd.prog 17 #[.agg #[.int .i64 (k : Int), vF]] W fun e w' => ∃ v' n, e = .returned (.tuple #[.agg #[.int .i64 (k : Int), v'], .int .i64 n, .int .i64 er]) ∧ Own base w' v' l' ∧ New W w'
theorem TS.fr (h : TS w k tb fb rb mb qb t rs bs gone L U O l) : Fr w fb rb rs ∧ rs.length = k ∧ Same rs l := by
  rcases h with ⟨_, h1, h2⟩ | ⟨_, _, h2, h3, h4, _⟩
  · exact ⟨h1.fr, h1.len, h2.same⟩
  · exact ⟨h2, h3, h4⟩
theorem ts_alloc (hk : k ≤ 1024) (hl : l.length ≤ 1000) (h : TS w k tb fb rb mb qb t rs bs gone L U O l) :
    ∃ er l', l'.length ≤ l.length + 1 ∧ (er = 0 ∨ er = 12) ∧ RefAlloc k l l' er ∧
      ∀ W, TS W k tb fb rb mb qb t rs bs gone L U O l → Calls Tryd.prog 18 #[.pointer (some ⟨fb, 0, none⟩)] W (TsTook er k tb fb rb mb qb t gone L U O l' W) := by
  obtain ⟨hf, hlen, hsm⟩ := h.fr
  rcases free_or rs k with hn | ⟨i, hi, hn, hz⟩
  · refine ⟨12, l, by omega, .inr rfl, fun base W vF a hb => (ralloc_none k vF l base W a hb (by omega) hk (fun j hj => by rw [hsm.at_ j (by omega)]; exact hn j hj)).mono ?_, fun W h => ?_⟩
    · rintro e w' ⟨v, rfl, o, n⟩
      exact ⟨v, _, rfl, o, n⟩
    · refine (alloc_none W h.fr.1 (by rw [hlen]; exact hn)).mono ?_
      rintro e w' ⟨rfl, rfl⟩
      exact ⟨0, by rw [erN_pos (by decide)], rs, bs, h, But.refl _ _⟩
  · refine ⟨0, l ++ [(i : Int)], by simp, .inl rfl, fun base W vF a hb => (ralloc_h k vF l i base W a hb (by omega) (by omega) (by omega) (fun j hj => by rw [hsm.at_ j (by omega)]; exact hn j hj) (by rw [hsm.at_ i (by omega)]; exact hz)).mono ?_, fun W h => ?_⟩
    · rintro e w' ⟨v, rfl, o, n⟩
      exact ⟨v, _, rfl, o, n⟩
    · refine (did_alloc i h.fr.1 (by omega) hn hz).mono ?_
      rintro e w' ⟨rfl, f, fa⟩
      have sm := hsm.take i (by omega) 1 (by rw [rfs_in _ _ (by omega), hz]; rfl)
      have b : But (S3 rb qb tb) W w' := But.of_far fa (.inl rfl)
      have b1 : But (fun j => j = rb) W w' := But.of_far fa rfl
      refine ⟨i, rfl, rs.set i 1, bs, ?_, b⟩
      rcases h with ⟨e, s, r⟩ | ⟨e, h1, h2, h3, h4, h5, h6, h7, h8⟩
      · refine .inl ⟨e, ⟨Box.but s.tb b1 s.ap.1, f, s.ph.but b1 s.ap.2.2.2.2.2.2.1 (Ne.symm s.ap.2.2.2.2.2.2.2.2), by rw [List.length_set]; exact s.len, s.good.mark fun j hj a => ?_⟩, r.list, r.up, r.ulen, r.own, r.nd, r.olen, sm⟩
        show (rs.set i 1).getD j 0 = 1
        rw [getD_set _ _ _ _ (by omega)]
        split
        · rfl
        · exact a
      · exact .inr ⟨e, Box.but h1 b1 h8, f, by rw [List.length_set]; exact h3, sm, h5, h6, h7, h8⟩
theorem unr_cons (l O : List Int) (x : Int) : unr l (x :: O) = unr (l.erase x) O := rfl
theorem same_unr (O : List Int) : ∀ (rs l : List Int), Same rs l → O.Nodup → (∀ x ∈ O, ∃ j : Nat, x = (j : Int) ∧ j < rs.length ∧ rs.getD j 0 = 1) → Same (giv rs (O.map Int.toNat)) (unr l O) := by
  induction O with
  | nil => intro rs l h _ _; exact h
  | cons x O ih =>
    intro rs l h hn hx
    obtain ⟨j, e, hj, h1⟩ := hx x (by simp)
    subst e
    rw [unr_cons]
    have hn' := List.nodup_cons.1 hn
    refine ih (rs.set j 0) (l.erase (j : Int)) (h.erase j hj h1) hn'.2 fun y hy => ?_
    obtain ⟨i, e, hi, h2⟩ := hx y (by simp [hy])
    refine ⟨i, e, by rw [List.length_set]; exact hi, ?_⟩
    rw [getD_set _ _ _ _ hj, if_neg (fun c => hn'.1 (by rw [← c, ← e]; exact hy))]
    exact h2
/-- all is given back -/
def TsFreed (k tb fb rb mb qb t : Nat) (l : List Int) (w : World) (e : Ending) (w' : World) : Prop :=
  e = .returned (.tuple #[]) ∧ ∃ rs' bs', TS w' k tb fb rb mb qb t rs' bs' true [] [] [] l ∧ But (S3 rb qb tb) w w'
theorem mine_lt {t j : Nat} (hg : Good k (fun i => rs.getD i 0 = 1) bs t) (h : Mine bs t j) : j < k ∧ rs.getD j 0 = 1 := by
  rcases h with e | ⟨u, h1, h2, h3⟩
  · rw [e]; exact ⟨hg.lt, hg.mine⟩
  · rcases hg.up u h1 with e | ⟨i, h4, h5, h6⟩
    · exact absurd e h2
    · have : lof bs t u = i := by unfold lof; rw [h6.2, fo_upn]
      rw [this] at h3; subst h3; exact ⟨h4, h5⟩
theorem ts_free (h : TS w k tb fb rb mb qb t rs bs gone L U O l) : Calls Tryd.prog 5 #[.pointer (some ⟨tb, 0, none⟩)] w (TsFreed k tb fb rb mb qb t (unr l O) w) := by
  rcases h with ⟨e, s, r⟩ | ⟨e, h1, h2, h3, h4, h5, h6, h7, h8⟩
  · refine (tfree_any s.tb s.fr s.ph (by rw [s.len]; exact Nat.le_refl _) s.good').mono ?_
    rintro e w' ⟨rfl, a, f, _, b⟩
    refine ⟨rfl, giv rs (own bs t), bs, .inr ⟨rfl, a, f, by rw [giv_len]; exact s.len, ?_, rfl, rfl, rfl, s.ap.1⟩, b.mono fun i _ h => by rcases h with h | h; exact .inl h; exact .inr (.inr h)⟩
    have X := same_unr O rs l r.same r.nd fun x hx => by
      obtain ⟨j, h1, h2⟩ := (r.own x).1 hx
      obtain ⟨h3, h4⟩ := mine_lt s.good h1
      exact ⟨j, h2, by rw [s.len]; exact h3, h4⟩
    rw [giv_same rs (m := own bs t) fun j => ?_] at X
    · exact X
    · rw [mine_own, List.mem_map]
      constructor
      · rintro ⟨x, hx, rfl⟩
        obtain ⟨j, h1, h2⟩ := (r.own x).1 hx
        rw [h2]; exact h1
      · intro h1
        exact ⟨(j : Int), (r.own _).2 ⟨j, h1, rfl⟩, rfl⟩
  · refine (tfree_gone (.inr ⟨tb, rfl, h1⟩)).mono ?_
    rintro e w' ⟨rfl, n⟩
    subst h5 h6 h7
    exact ⟨rfl, rs, bs, .inr ⟨rfl, h1.new n, h2.new n, h3, h4, rfl, rfl, rfl, h8⟩, But.of_new _ n⟩
end
end Go.Proofs.YtajhlmiobibhjaaDoor
namespace Go.Proofs.YtajhlmiobibhjaaDoor
open Go.RowKit
set_option linter.unusedVariables false
set_option maxRecDepth 100000
set_option maxHeartbeats 1000000 in
theorem ints_same7 (va vb : Value) (L : List Int) (w : World) (ha : Ints w va L) (hb : Ints w vb L) (hl : L.length ≤ 1000000) :
    Calls Tryd.prog 21 #[va, vb] w fun e w' => e = .returned (.bool true) ∧ New w w' := by
  obtain ⟨p, ca, rfl, ha1, ha2, ha3⟩ := ha.clip
  obtain ⟨q, cb, rfl, hb1, hb2, hb3⟩ := hb.clip
  clear ha hb
  unfold maxLen at ha2 hb2
  have HA := Lib.hid ha3
  have HB := Lib.hid hb3
  clear ha3 hb3
  go_enter Tryd.func21, Tryd.ntmps21
  go_wp2
  go_loopg [5] L.length (fun k i wr => ∃ j : Nat, j + k = L.length ∧ i = .int .i64 (j : Int) ∧ ∃ n, wr = w.drewN n)
  case atStart => exact ⟨0, by omega, rfl, 0, rfl⟩
  case round =>
    obtain ⟨j, hj, rfl, n, rfl⟩ := hrel
    have J := Lib.hid hj
    clear hj
    by_cases c : j < L.length
    · rcases HA.out with ⟨rfl, rfl⟩ | ⟨ba, rfl, _, hca⟩
      · simp at c
      rcases HB.out with ⟨rfl, rfl⟩ | ⟨bb, rfl, _, hcb⟩
      · simp at c
      have ca' := hca j c
      have cb' := hcb j c
      clear hca hcb
      generalize L.getD j 0 = x at *
      have cj : (j : Int) < (L.length : Int) := by omega
      have cj0 : (0 : Int) ≤ (j : Int) := by omega
      go_wp2
      go_quiet (fail)
      go_wp2
      go_roundg (L.length - (j + 1))
      case measure => have := J.out; omega
      case rel => exact ⟨j + 1, by have := J.out; omega, by go_num, _, rfl⟩
    · have hjl : j = L.length := by have := J.out; omega
      clear J c
      subst hjl
      go_wp2
      go_ret
      exact ⟨rfl, (New.refl _).drewN _⟩
section
variable {w w' : World} {k tb fb rb mb qb t p : Nat} {rs bs cs qs : List Int} {L : List (Int × Int)} {U O l : List Int} {gone : Bool}
def RefGet (m : Int) (gone : Bool) (L : List (Int × Int)) (U O : List Int) (v er : Int) : Prop :=
  ∀ (base : Nat) (W : World) (vL vU vO : Value), OwnI base W vL L → Own base W vU U → Own base W vO O →
    Calls Tryd.prog 20 #[.agg #[vL, vU, vO, .bool gone], .int .i64 m] W (Said (gotE v (.int .i64 er)) W)
theorem ts_get (m : Int) (h : TS w k tb fb rb mb qb t rs bs gone L U O l) :
    ∃ v er, (er = 0 ∨ er = 22) ∧ RefGet m gone L U O v er ∧
      Calls Tryd.prog 4 #[.pointer (some ⟨tb, 0, none⟩), .int .i64 m] w (Said (gotE v (erN er)) w) := by
  rcases h with ⟨rfl, s, r⟩ | ⟨rfl, h1, _⟩
  rotate_left
  · exact ⟨0, 22, .inr rfl, fun base W vL vU vO a1 a2 a3 => rget_gone m a1.sl a2.sl a3.sl, (tget_gone m (.inr ⟨tb, rfl, h1⟩)).mono fun e w' a => by rw [erN_pos (by decide)]; exact a⟩
  by_cases hm : 0 ≤ m ∧ m < 4096
  rotate_left
  · exact ⟨0, 22, .inr rfl, fun base W vL vU vO a1 a2 a3 => rget_bad m a1.sl a2.sl a3.sl hm, (tget_bad m s.tb hm).mono fun e w' a => by rw [erN_pos (by decide)]; exact a⟩
  obtain ⟨p, rfl⟩ : ∃ p : Nat, m = (p : Int) := ⟨m.toNat, by omega⟩
  have hp : p < 4096 := by omega
  refine ⟨pgn bs t p, 0, .inl rfl, fun base W vL vU vO a1 a2 a3 => ?_, get_done p s hp⟩
  have hi := a1.its
  rw [r.list] at hi
  exact rget_any (pgn bs t) p hi a2.sl a3.sl hp (s.good.pn p hp)
theorem ts_frames (h : TS w k tb fb rb mb qb t rs bs gone L U O l) : Calls Tryd.prog 10 #[.pointer (some ⟨tb, 0, none⟩)] w fun e w' => e = .returned (.int .i64 (O.length : Int)) ∧ New w w' := by
  rcases h with ⟨rfl, s, r⟩ | ⟨rfl, h1, _, _, _, _, _, h7, _⟩
  · refine (frames_done s).mono ?_
    rintro e w' ⟨rfl, n⟩
    exact ⟨by rw [r.olen]; simp, n⟩
  · refine (tframes_gone (.inr ⟨tb, rfl, h1⟩)).mono ?_
    rintro e w' ⟨rfl, rfl⟩
    subst h7
    exact ⟨rfl, New.refl _⟩
theorem ts_taken (h : TS w k tb fb rb mb qb t rs bs gone L U O l) : Calls Tryd.prog 22 #[.pointer (some ⟨fb, 0, none⟩)] w (Lists (ltk l k) w) := by
  obtain ⟨hf, hlen, hsm⟩ := h.fr
  have X := taken_any w hf
  rw [hlen, ← hsm.taken k (by omega)] at X
  exact X
theorem ts_pages (h : TS w k tb fb rb mb qb t rs bs gone L U O l) : Calls Tryd.prog 9 #[.pointer (some ⟨tb, 0, none⟩)] w (Lists (L.map (·.1)) w) := by
  rcases h with ⟨rfl, s, r⟩ | ⟨rfl, h1, _, _, _, h5, _⟩
  · rw [r.list, can_pages]; exact pages_done s
  · subst h5
    refine (tpages_gone (.inr ⟨tb, rfl, h1⟩)).mono ?_
    rintro e w' ⟨rfl, n⟩
    exact ⟨_, rfl, Own.nil _ _, n⟩
theorem Own.s3 {base : Nat} {v : Value} (h : Own base w v l) (b : But (S3 rb qb tb) w w') (hr : rb < base) (hq : qb < base) (ht : tb < base) : Own base w' v l := by
  refine ⟨h.1, ?_⟩
  rcases h.2 with hn | ⟨g, cap, cur, rfl, hb, hg, rest⟩
  · exact .inl hn
  · exact .inr ⟨g, cap, cur, rfl, hb, by rw [b.block (Array.getElem?_eq_some_iff.1 hg).1 (by rintro (e | e | e) <;> omega)]; exact hg, rest⟩
theorem OwnI.s3 {base : Nat} {v : Value} (h : OwnI base w v L) (b : But (S3 rb qb tb) w w') (hr : rb < base) (hq : qb < base) (ht : tb < base) : OwnI base w' v L := by
  refine ⟨h.1, ?_⟩
  rcases h.2 with hn | ⟨g, cap, cur, rfl, hb, hg, rest⟩
  · exact .inl hn
  · exact .inr ⟨g, cap, cur, rfl, hb, by rw [b.block (Array.getElem?_eq_some_iff.1 hg).1 (by rintro (e | e | e) <;> omega)]; exact hg, rest⟩
theorem can_zero {f : Nat → Int} (k : Nat) (h : ∀ j, j < k → f j = 0) : can f k = [] := by
  induction k with
  | zero => rfl
  | succ k ih => rw [can_skip (h k (by omega))]; exact ih fun j hj => h j (by omega)
theorem Rd.start (k : Nat) (hk : 1 ≤ k) (h : ∀ u, u < 64 → nm cs 0 u = 0) : Rd 0 ((List.replicate k 0).set 0 1) cs [] [] [0] [0] := by
  refine ⟨(can_zero _ fun j hj => pgn_none h j hj).symm, fun x => ⟨by simp, ?_⟩, (nup_zero h).symm, fun x => ?_, by simp, by rw [nup_zero h]; rfl, ?_⟩
  · rintro ⟨j, h1, h2, _⟩; exact absurd (h j h1) h2
  · rw [List.mem_singleton]
    constructor
    · intro e; exact ⟨0, .inl rfl, e⟩
    · rintro ⟨j, (e | ⟨u, h1, h2, _⟩), h3⟩
      · rw [h3, e]; rfl
      · exact absurd (h u h1) h2
  · have := (Same.zeros k).take 0 (by simp; omega) 1 (by rw [rfs_in _ _ (by simp; omega), zeros_get]; rfl)
    exact this
/-- both sides in memory: the package's table and frames, the document's two variables -/
def Two (base xb yb : Nat) (w : World) (k tb fb rb mb qb : Nat) (rs bs : List Int) (gone : Bool) (L : List (Int × Int)) (U O l : List Int) (vL vU vO vF : Value) : Prop :=
  TS w k tb fb rb mb qb 0 rs bs gone L U O l ∧ Box w xb #[vL, vU, vO, .bool gone] 47 ∧ Box w yb #[.int .i64 (k : Int), vF] 49 ∧ OwnI base w vL L ∧ Own base w vU U ∧ Own base w vO O ∧ Own base w vF l
theorem Two.new {base xb yb : Nat} {vL vU vO vF : Value} (h : Two base xb yb w k tb fb rb mb qb rs bs gone L U O l vL vU vO vF) (n : New w w') : Two base xb yb w' k tb fb rb mb qb rs bs gone L U O l vL vU vO vF :=
  ⟨h.1.new n, h.2.1.new n, h.2.2.1.new n, h.2.2.2.1.new n, h.2.2.2.2.1.new n, h.2.2.2.2.2.1.new n, h.2.2.2.2.2.2.new n⟩
theorem TS.off {xb : Nat} {cs : Array Value} {ty : TypeId} (h : TS w k tb fb rb mb qb t rs bs gone L U O l) (b : Box w xb cs ty) (i : Nat) (v : Value) (h1 : ty ≠ 81) (h2 : ty ≠ 91) (h3 : ty ≠ 3) (h4 : ty ≠ 94) (h5 : ty ≠ 125) :
    TS (w.setCell ⟨xb, i, none⟩ v) k tb fb rb mb qb t rs bs gone L U O l := by
  have F : But (fun j => j = xb) w (w.setCell ⟨xb, i, none⟩ v) := But.of_far (Far.set _ _ _ _) rfl
  rcases h with ⟨e, s, r⟩ | ⟨e, a1, a2, a3⟩
  · refine .inl ⟨e, ⟨Box.but s.tb F (fun c => Box.ne s.tb b (Ne.symm h1) c), s.fr.but F (fun c => Box.ne s.fr.boxes.1 b (Ne.symm h2) c) (fun c => Box.ne s.fr.boxes.2 b (Ne.symm h3) c), s.ph.but F (fun c => Box.ne s.ph.boxes.1 b (Ne.symm h4) c) (fun c => Box.ne s.ph.boxes.2 b (Ne.symm h5) c), s.len, s.good⟩, r⟩
  · exact .inr ⟨e, Box.but a1 F (fun c => Box.ne a1 b (Ne.symm h1) c), a2.but F (fun c => Box.ne a2.boxes.1 b (Ne.symm h2) c) (fun c => Box.ne a2.boxes.2 b (Ne.symm h3) c), a3⟩
/-- the document's table is another one now -/
theorem Two.setX {base xb yb : Nat} {vF zL zU zO : Value} {K : List (Int × Int)} {U' O' : List Int} {gone' : Bool} {x0 x1 x2 x3 : Value} (hT : TS w k tb fb rb mb qb 0 rs bs gone' K U' O' l) (hX : Box w xb #[x0, x1, x2, x3] 47) (hY : Box w yb #[.int .i64 (k : Int), vF] 49) (hxy : xb ≠ yb)
    (oL : OwnI base w zL K) (oU : Own base w zU U') (oO : Own base w zO O') (oF : Own base w vF l) : Two base xb yb (set4 w xb zL zU zO (.bool gone')) k tb fb rb mb qb rs bs gone' K U' O' l zL zU zO vF :=
  ⟨(((hT.off hX 0 zL (by decide) (by decide) (by decide) (by decide) (by decide)).off (hX.set 0 zL) 1 zU (by decide) (by decide) (by decide) (by decide) (by decide)).off ((hX.set 0 zL).set 1 zU) 2 zO (by decide) (by decide) (by decide) (by decide) (by decide)).off (((hX.set 0 zL).set 1 zU).set 2 zO) 3 (.bool gone') (by decide) (by decide) (by decide) (by decide) (by decide),
    hX.set4 _ _ _ _, hY.other4 hxy _ _ _ _, oL.off4 hX (by decide) _ _ _ _, oU.off4 hX (by decide) _ _ _ _, oO.off4 hX (by decide) _ _ _ _, oF.off4 hX (by decide) _ _ _ _⟩
theorem Two.setY {base xb yb : Nat} {vL vU vO zF y : Value} {K : List (Int × Int)} {U' O' l' : List Int} {gone' : Bool} (hT : TS w k tb fb rb mb qb 0 rs bs gone' K U' O' l') (hX : Box w xb #[vL, vU, vO, .bool gone'] 47) (hY : Box w yb #[.int .i64 (k : Int), y] 49) (hxy : yb ≠ xb)
    (oL : OwnI base w vL K) (oU : Own base w vU U') (oO : Own base w vO O') (oF : Own base w zF l') : Two base xb yb (set2 w yb (.int .i64 (k : Int)) zF) k tb fb rb mb qb rs bs gone' K U' O' l' vL vU vO zF :=
  ⟨(hT.off hY 0 _ (by decide) (by decide) (by decide) (by decide) (by decide)).off (hY.set 0 (.int .i64 (k : Int))) 1 zF (by decide) (by decide) (by decide) (by decide) (by decide), hX.other2 hxy _ _, hY.set2 _ _, oL.off2 hY (by decide) _ _, oU.off2 hY (by decide) _ _, oO.off2 hY (by decide) _ _, oF.off2 hY (by decide) _ _⟩
end
end Go.Proofs.YtajhlmiobibhjaaDoor
namespace Go.Proofs.YtajhlmiobibhjaaDoor
open Go.RowKit
set_option linter.unusedVariables false
set_option maxRecDepth 100000
section
variable {w w' wr we : World} {k tb fb rb mb qb t p base : Nat} {rs bs : List Int} {L : List (Int × Int)} {U O l : List Int} {gone : Bool} {zL zU zO zF : Value}
theorem TS.olen (h : TS w k tb fb rb mb qb t rs bs gone L U O l) : O.length ≤ 65 := by
  rcases h with ⟨_, _, r⟩ | ⟨_, _, _, _, _, _, _, e, _⟩
  · have := r.olen; have := nup_le bs t; omega
  · rw [e]; simp
def Got2 (base : Nat) (wr : World) (k : Nat) (gone : Bool) (L : List (Int × Int)) (U O l : List Int) (er : Int) (zv wv bv : Value) (wc : World) : Prop :=
  ∃ (zb wb : Nat) (qL qU qO qF : Value), zv = .pointer (some ⟨zb, 0, none⟩) ∧ wv = .pointer (some ⟨wb, 0, none⟩) ∧ bv = .int .i64 er ∧ New wr wc ∧ Box wc zb #[qL, qU, qO, .bool gone] 47 ∧
    Box wc wb #[.int .i64 (k : Int), qF] 49 ∧ zb ≠ wb ∧ wr.heap.size ≤ zb ∧ wr.heap.size ≤ wb ∧ OwnI base wc qL L ∧ Own base wc qU U ∧ Own base wc qO O ∧ Own base wc qF l
theorem got2_a (er : Int) (hn : New wr we) (oL : OwnI base we zL L) (oU : Own base we zU U) (oO : Own base we zO O) (oF : Own base we zF l) :
    Got2 base wr k gone L U O l er (.pointer (some ⟨we.heap.size, 0, none⟩)) (.pointer (some ⟨we.heap.size + 1, 0, none⟩)) (.int .i64 er)
      ((we.alloc (.cells #[zL, zU, zO, .bool gone] 47)).alloc (.cells #[.int .i64 (k : Int), zF] 49)) := by
  have m := ((New.refl we).alloc #[zL, zU, zO, .bool gone] 47).alloc #[.int .i64 (k : Int), zF] 49
  have hs := hn.size
  exact ⟨_, _, zL, zU, zO, zF, rfl, rfl, rfl, hn.trans m, (Box.here we _ _ _ rfl).alloc _, Box.here _ _ _ _ (by simp), by omega, hs, by omega, oL.new m, oU.new m, oO.new m, oF.new m⟩
theorem got2_b (er : Int) (hn : New wr we) (oL : OwnI base we zL L) (oU : Own base we zU U) (oO : Own base we zO O) (oF : Own base we zF l) :
    Got2 base wr k gone L U O l er (.pointer (some ⟨we.heap.size + 1, 0, none⟩)) (.pointer (some ⟨we.heap.size, 0, none⟩)) (.int .i64 er)
      ((we.alloc (.cells #[.int .i64 (k : Int), zF] 49)).alloc (.cells #[zL, zU, zO, .bool gone] 47)) := by
  have m := ((New.refl we).alloc #[.int .i64 (k : Int), zF] 49).alloc #[zL, zU, zO, .bool gone] 47
  have hs := hn.size
  exact ⟨_, _, zL, zU, zO, zF, rfl, rfl, rfl, hn.trans m, Box.here _ _ _ _ (by simp), (Box.here we _ _ _ rfl).alloc _, by omega, by omega, hs, oL.new m, oU.new m, oO.new m, oF.new m⟩
theorem got2_c {n : Nat} {x0 x1 x2 x3 : Value} (er : Int) (hn : New wr we) (hz : wr.heap.size ≤ n) (Z : Box we n #[x0, x1, x2, x3] 47) (oL : OwnI base we zL L) (oU : Own base we zU U) (oO : Own base we zO O) (oF : Own base we zF l) :
    Got2 base wr k gone L U O l er (.pointer (some ⟨n, 0, none⟩)) (.pointer (some ⟨we.heap.size, 0, none⟩)) (.int .i64 er)
      ((set4 we n zL zU zO (.bool gone)).alloc (.cells #[.int .i64 (k : Int), zF] 49)) := by
  have hs := hn.size
  have hl := Z.lt
  have hw : (set4 we n zL zU zO (.bool gone)).heap.size = we.heap.size := by simp [set4, World.setCell]
  have m := (New.refl (set4 we n zL zU zO (.bool gone))).alloc #[.int .i64 (k : Int), zF] 49
  exact ⟨_, _, zL, zU, zO, zF, rfl, rfl, rfl, (hn.set4 hz _ _ _ _).trans m, (Z.set4 _ _ _ _).alloc _, Box.here _ _ _ _ hw.symm, by omega, hz, hs, (oL.off4 Z (by decide) _ _ _ _).new m, (oU.off4 Z (by decide) _ _ _ _).new m, (oO.off4 Z (by decide) _ _ _ _).new m, (oF.off4 Z (by decide) _ _ _ _).new m⟩
theorem got2_d {n m : Nat} {x0 x1 x2 x3 y0 y1 : Value} (er : Int) (hn : New wr we) (hz : wr.heap.size ≤ n) (hy : wr.heap.size ≤ m) (hnm : n ≠ m) (Z : Box we n #[x0, x1, x2, x3] 47) (Y : Box we m #[y0, y1] 49) (oL : OwnI base we zL L) (oU : Own base we zU U) (oO : Own base we zO O) (oF : Own base we zF l) :
    Got2 base wr k gone L U O l er (.pointer (some ⟨n, 0, none⟩)) (.pointer (some ⟨m, 0, none⟩)) (.int .i64 er)
      (set2 (set4 we n zL zU zO (.bool gone)) m (.int .i64 (k : Int)) zF) := by
  have Y' := Y.other4 hnm zL zU zO (.bool gone)
  exact ⟨_, _, zL, zU, zO, zF, rfl, rfl, rfl, (hn.set4 hz _ _ _ _).set2 hy _ _, (Z.set4 _ _ _ _).other2 (Ne.symm hnm) _ _, Y'.set2 _ _, hnm, hz, hy,
    (oL.off4 Z (by decide) _ _ _ _).off2 Y' (by decide) _ _, (oU.off4 Z (by decide) _ _ _ _).off2 Y' (by decide) _ _, (oO.off4 Z (by decide) _ _ _ _).off2 Y' (by decide) _ _, (oF.off4 Z (by decide) _ _ _ _).off2 Y' (by decide) _ _⟩
theorem got2_e {n : Nat} {y0 y1 : Value} (er : Int) (hn : New wr we) (hz : wr.heap.size ≤ n) (Y : Box we n #[y0, y1] 49) (oL : OwnI base we zL L) (oU : Own base we zU U) (oO : Own base we zO O) (oF : Own base we zF l) :
    Got2 base wr k gone L U O l er (.pointer (some ⟨we.heap.size, 0, none⟩)) (.pointer (some ⟨n, 0, none⟩)) (.int .i64 er)
      ((set2 we n (.int .i64 (k : Int)) zF).alloc (.cells #[zL, zU, zO, .bool gone] 47)) := by
  have hs := hn.size
  have hl := Y.lt
  have hw : (set2 we n (.int .i64 (k : Int)) zF).heap.size = we.heap.size := by simp [set2, World.setCell]
  have m := (New.refl (set2 we n (.int .i64 (k : Int)) zF)).alloc #[zL, zU, zO, .bool gone] 47
  exact ⟨_, _, zL, zU, zO, zF, rfl, rfl, rfl, (hn.set2 hz _ _).trans m, Box.here _ _ _ _ hw.symm, (Y.set2 _ _).alloc _, by omega, hs, hz, (oL.off2 Y (by decide) _ _).new m, (oU.off2 Y (by decide) _ _).new m, (oO.off2 Y (by decide) _ _).new m, (oF.off2 Y (by decide) _ _).new m⟩
/-- both of the document's variables are others now -/
theorem Two.setXY {xb yb : Nat} {x0 x1 x2 x3 y : Value} (hT : TS w k tb fb rb mb qb 0 rs bs gone L U O l) (hX : Box w xb #[x0, x1, x2, x3] 47) (hY : Box w yb #[.int .i64 (k : Int), y] 49) (hxy : xb ≠ yb)
    (oL : OwnI base w zL L) (oU : Own base w zU U) (oO : Own base w zO O) (oF : Own base w zF l) : Two base xb yb (set2 (set4 w xb zL zU zO (.bool gone)) yb (.int .i64 (k : Int)) zF) k tb fb rb mb qb rs bs gone L U O l zL zU zO zF :=
  Two.setY ((((hT.off hX 0 zL (by decide) (by decide) (by decide) (by decide) (by decide)).off (hX.set 0 zL) 1 zU (by decide) (by decide) (by decide) (by decide) (by decide)).off ((hX.set 0 zL).set 1 zU) 2 zO (by decide) (by decide) (by decide) (by decide) (by decide)).off (((hX.set 0 zL).set 1 zU).set 2 zO) 3 (.bool gone) (by decide) (by decide) (by decide) (by decide) (by decide))
    (hX.set4 _ _ _ _) (hY.other4 hxy _ _ _ _) (Ne.symm hxy) (oL.off4 hX (by decide) _ _ _ _) (oU.off4 hX (by decide) _ _ _ _) (oO.off4 hX (by decide) _ _ _ _) (oF.off4 hX (by decide) _ _ _ _)
end
end Go.Proofs.YtajhlmiobibhjaaDoor
