/- What the document's own answers on tables of two levels do, further: a table made; all its frames given back. Contracts, for any list, in any world, behind which there are only new blocks. -/
import Derived.Test.YtajhlmiobibhjaaDoorTdD
import Derived.Test.YtajhlmiobibhjaaDoorFrD
import Derived.RegionTactic
import Derived.BigRegion
import Derived.ChangeAlike
namespace Go.Proofs.YtajhlmiobibhjaaDoor
open Go.RowKit
set_option linter.unusedVariables false
set_option maxRecDepth 100000
/-- the frames, with one given back -/
theorem runref_any (many m : Int) (v : Value) (l : List Int) (base : Nat) (w : World) (h : Own base w v l) (hb : base ≤ w.heap.size) (hl : l.length ≤ 1000000) :
    Calls Tryd.prog 44 #[.agg #[.int .i64 many, v], .int .i64 m] w fun e w' => ∃ v' b c, e = .returned (.tuple #[.agg #[.int .i64 many, v'], .bool b, .int .i64 c]) ∧ Own base w' v' (l.erase m) ∧ New w w' := by
  have key : ∀ k, Before l m k ∨ ∃ i, i < k ∧ l.getD i 0 = m ∧ Before l m i := by
    intro k
    induction k with
    | zero => exact .inl (Before.zero _ _)
    | succ k ih =>
      rcases ih with ih | ⟨i, h1, h2, h3⟩
      · by_cases e : l.getD k 0 = m
        · exact .inr ⟨k, by omega, e, ih⟩
        · exact .inl (ih.succ e)
      · exact .inr ⟨i, by omega, h2, h3⟩
  rcases key l.length with hn | ⟨i, hi, he, hn⟩
  · have hm : ¬ m ∈ l := by
      intro c
      obtain ⟨j, hj, e⟩ := List.getElem_of_mem c
      exact hn j hj (by rw [List.getD_eq_getElem?_getD, List.getElem?_eq_getElem hj]; exact e)
    rw [List.erase_of_not_mem hm]
    refine (runref_none many m v l base w h hl hn).mono ?_
    rintro e w' ⟨v', rfl, o, n⟩
    exact ⟨v', _, _, rfl, o, n⟩
  · have hx : l.erase m = l.take i ++ l.drop (i + 1) := by
      clear h hl
      induction l generalizing i with
      | nil => simp at hi
      | cons x l ih =>
        match i, hi, he, hn with
        | 0, _, he, _ =>
          have : x = m := he
          subst this; simp
        | i + 1, hi, he, hn =>
          have hne : x ≠ m := hn 0 (by omega)
          rw [List.erase_cons_tail (by simpa using hne)]
          have := ih (fun k => by
            by_cases c : ∃ i, i < k ∧ l.getD i 0 = m ∧ Before l m i
            · exact .inr c
            · refine .inl ?_
              intro q hq e
              have : ∀ r, (∀ s, s < r → l.getD s 0 ≠ m) ∨ ∃ s, s < r ∧ l.getD s 0 = m ∧ Before l m s := by
                intro r
                induction r with
                | zero => exact .inl (fun s h => by omega)
                | succ r ir =>
                  rcases ir with ir | ⟨s, h1, h2⟩
                  · by_cases d : l.getD r 0 = m
                    · exact .inr ⟨r, by omega, d, ir⟩
                    · exact .inl (fun s hs => by by_cases f : s = r; (subst f; exact d); exact ir s (by omega))
                  · exact .inr ⟨s, by omega, h2⟩
              rcases this (q + 1) with g | ⟨s, h1, h2, h3⟩
              · exact g q (by omega) e
              · exact c ⟨s, by omega, h2, h3⟩) i (by simpa using hi) (by simpa using he) (fun q hq => by simpa using hn (q + 1) (by omega))
          rw [this]; rfl
    rw [hx]
    refine (runref_hit many m v l i base w h hb hl hi hn he).mono ?_
    rintro e w' ⟨v', rfl, o, n⟩
    exact ⟨v', _, _, rfl, o, n⟩
theorem erase_len (l : List Int) (m : Int) : (l.erase m).length ≤ l.length := List.length_erase_le
/-- frames given back, one by one -/
def unr (l : List Int) (O : List Int) : List Int := O.foldl List.erase l
theorem unr_push (l O : List Int) (m : Int) : unr l (O ++ [m]) = (unr l O).erase m := by simp [unr]
theorem unr_len (l O : List Int) : (unr l O).length ≤ l.length := by
  induction O generalizing l with
  | nil => exact Nat.le_refl _
  | cons x O ih => exact Nat.le_trans (ih _) (erase_len l x)
theorem Same.erase {rs l : List Int} (h : Same rs l) (i : Nat) (hi : i < rs.length) (h1 : rs.getD i 0 = 1) : Same (rs.set i 0) (l.erase (i : Int)) := by
  intro m
  rw [rfs_set _ _ _ _ hi, ← h m]
  have e := h.at_ i hi
  rw [h1] at e
  unfold cn at *
  rw [List.count_erase]
  by_cases c : m = (i : Int)
  · subst c; rw [if_pos rfl]; simp; omega
  · rw [if_neg c, if_neg (by simpa using fun k => c k.symm)]; simp
section
variable {w : World} {vL vU vO vF : Value} {L : List (Int × Int)} {U O l : List Int} {base : Nat}
/-- a table with its first frame -/
def RnDone (base : Nat) (k : Nat) (w : World) (e : Ending) (w' : World) : Prop :=
  ∃ vO vF, e = .returned (.tuple #[.agg #[.slice none 0 0, .slice none 0 0, vO, .bool false], .agg #[.int .i64 k, vF], .int .i64 0]) ∧ Own base w' vO [0] ∧ Own base w' vF [0] ∧ New w w'
theorem rnew_world {w w1 : World} {k : Nat} {s0 : Nat} {pF : Option Addr} {kF cF : Nat} {l : List Int} {x0 x1 x2 x3 y0 y1 : Value} (N1 : New w w1) (b1 : Box w1 (w.heap.size + 1) #[x0, x1, x2, x3] 47) (b2 : Box w1 (w.heap.size + 1 + 1) #[y0, y1] 49) (oF : Own s0 w1 (.slice pF kF cF) l) (hs : s0 ≤ w1.heap.size := by omega) :
    let V : Value := .slice (some ⟨w1.heap.size + 1, 0, none⟩) 1 1
    let W := ((((((((w1.setCell ⟨w.heap.size + 1, 0, none⟩ (.slice none 0 0)).setCell ⟨w.heap.size + 1, 1, none⟩ (.slice none 0 0)).setCell ⟨w.heap.size + 1, 2, none⟩ V).setCell ⟨w.heap.size + 1, 3, none⟩ (.bool false)).setCell ⟨w.heap.size + 1 + 1, 0, none⟩ (.int .i64 k)).setCell ⟨w.heap.size + 1 + 1, 1, none⟩ (.slice pF kF cF)).alloc (.cells #[.int .i64 k, .slice pF kF cF] 49)).alloc (.cells #[.int .i64 0] 3)).drew
    W.cell? ⟨w.heap.size + 1, 0, none⟩ = some (.slice none 0 0) ∧ W.cell? ⟨w.heap.size + 1, 1, none⟩ = some (.slice none 0 0) ∧ W.cell? ⟨w.heap.size + 1, 2, none⟩ = some V ∧ W.cell? ⟨w.heap.size + 1, 3, none⟩ = some (.bool false) ∧
      W.cell? ⟨w.heap.size + 1 + 1, 0, none⟩ = some (.int .i64 k) ∧ W.cell? ⟨w.heap.size + 1 + 1, 1, none⟩ = some (.slice pF kF cF) ∧ Own s0 W V [0] ∧ Own s0 W (.slice pF kF cF) l ∧ New w W := by
  intro V W
  have P2 := b2.other4 (n := w.heap.size + 1) (by omega) (.slice none 0 0) (.slice none 0 0) V (.bool false)
  have P3 := (b1.set4 (.slice none 0 0) (.slice none 0 0) V (.bool false)).other2 (n := w.heap.size + 1 + 1) (by omega) (.int .i64 k) (.slice pF kF cF)
  have P4 := (oF.off4 b1 (by decide) (.slice none 0 0) (.slice none 0 0) V (.bool false)).off2 P2 (by decide) (.int .i64 k) (.slice pF kF cF)
  have P5 := P2.set2 (.int .i64 k) (.slice pF kF cF)
  have P6 := (N1.set4 (n := w.heap.size + 1) (by omega) (.slice none 0 0) (.slice none 0 0) V (.bool false)).set2 (n := w.heap.size + 1 + 1) (by omega) (.int .i64 k) (.slice pF kF cF)
  obtain ⟨A, hA⟩ : ∃ A, A = set2 (set4 w1 (w.heap.size + 1) (.slice none 0 0) (.slice none 0 0) V (.bool false)) (w.heap.size + 1 + 1) (.int .i64 k) (.slice pF kF cF) := ⟨_, rfl⟩
  have hAs : A.heap.size = w1.heap.size := by rw [hA]; simp [set2, set4, World.setCell]
  rw [← hA] at P3 P4 P5 P6
  have hW : W = ((A.alloc (.cells #[.int .i64 k, .slice pF kF cF] 49)).alloc (.cells #[.int .i64 0] 3)).drew := by rw [hA]; rfl
  have N7 : New A W := by rw [hW]; exact (((New.refl A).alloc _ _).alloc _ _).drew
  have QO : Own s0 W V [0] := by
    rw [hW]
    have := (own_lit (base := s0) (A.alloc (.cells #[.int .i64 k, .slice pF kF cF] 49)) 0 (by rw [World.size_alloc, hAs]; omega)).new (New.refl _).drew
    rw [World.size_alloc, hAs] at this
    exact this
  obtain ⟨_, ⟨r0, r1, r2, r3⟩, _⟩ := (P3.new N7).four'
  obtain ⟨r4, r5⟩ := (P5.new N7).two
  exact ⟨r0, r1, r2, r3, r4, r5, QO, P4.new N7, P6.trans N7⟩
set_option maxHeartbeats 2000000 in
theorem rnew_any (k : Nat) (hk : 1 ≤ k) (hk' : k ≤ 1024) (w : World) : Calls Tryd.prog 14 #[.agg #[.int .i64 k, .slice none 0 0]] w (RnDone w.heap.size k w) := by
  obtain ⟨W0, hW0⟩ : ∃ W0, W0 = ((w.alloc (.cells #[.int .i64 k, .slice none 0 0] 49)).alloc (.cells #[.slice none 0 0, .slice none 0 0, .slice none 0 0, .bool false] 47)).alloc (.cells #[.int .i64 0, .slice none 0 0] 49) := ⟨_, rfl⟩
  have n0 : New w W0 := by rw [hW0]; exact (((New.refl w).alloc _ _).alloc _ _).alloc _ _
  have X := ralloc_h k (.slice none 0 0) [] 0 w.heap.size W0 (Own.nil _ _) n0.size (by simp) (by omega) (by omega) (fun j hj => by omega) rfl
  have B1 : Box W0 (w.heap.size + 1) #[.slice none 0 0, .slice none 0 0, .slice none 0 0, .bool false] 47 := by rw [hW0]; exact (Box.here _ _ _ _ (by simp)).alloc _
  have B2 : Box W0 (w.heap.size + 1 + 1) #[.int .i64 0, .slice none 0 0] 49 := by rw [hW0]; exact Box.here _ _ _ _ (by simp)
  go_enter Tryd.func14, Tryd.ntmps14
  go_wp2_with fail
  rw [← hW0]
  refine X.mono ?_
  rintro e w1 ⟨vF, rfl, oF, n1⟩
  have N1 := n0.trans n1
  have b1 := B1.new n1
  have b2 := B2.new n1
  clear X B1 B2 n0 n1 hW0
  obtain ⟨pF, kF, cF, rfl⟩ := oF.shape
  go_wp2_with fail
  obtain ⟨s1, ⟨a0, a1, a2, a3⟩, f0, f1, f2, f3⟩ := b1.four'
  have c0 := b2.two
  have s2 := b2.lt
  obtain ⟨c0, c1⟩ := c0
  have g0 := b2.unfrozen 0
  have g1 := b2.unfrozen 1
  have s0 : w.heap.size < w1.heap.size := by omega
  have HW := Lib.hid (rnew_world (k := k) (s0 := w.heap.size) N1 b1 b2 (show Own w.heap.size w1 (.slice pF kF cF) [0] from oF))
  clear N1 b1 b2 oF
  go_region
  all_goals
    clear a0 a1 a2 a3 c0 c1 f0 f1 f2 f3 g0 g1
    rename_i hret
    refine hret _ _ (wp_ret ?_)
    obtain ⟨r0, r1, r2, r3, r4, r5, QO, QF, QN⟩ := HW.out
    exact bodyPost_ret (v := .tuple #[.agg #[.slice none 0 0, .slice none 0 0, .slice (some ⟨w1.heap.size + 1, 0, none⟩) 1 1, .bool false], .agg #[.int .i64 k, .slice pF kF cF], .int .i64 0]) (by simp [results, Tryd.results14, go_sem, r0, r1, r2, r3, r4, r5]) rfl ⟨_, _, rfl, QO, QF, QN⟩
end
end Go.Proofs.YtajhlmiobibhjaaDoor
