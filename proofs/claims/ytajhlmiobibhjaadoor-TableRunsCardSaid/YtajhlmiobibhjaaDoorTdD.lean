/- What the document's own answers on tables of two levels do, further: does a page want a frame; a table made; all its frames given back. Contracts, for any list, in any world, behind which there are only new blocks. -/
import Derived.Test.YtajhlmiobibhjaaDoorTdC
namespace Go.Proofs.YtajhlmiobibhjaaDoor
open Go.RowKit
set_option linter.unusedVariables false
set_option maxRecDepth 100000
section
variable {w : World} {vL vU vO : Value} {L : List (Int × Int)} {U O : List Int} {g : Bool}
set_option maxHeartbeats 1000000 in
theorem rneeds_any (p : Nat) (h1 : Sl vL) (h2 : Ints w vU U) (h3 : Sl vO) (hp : p < 4096) (hlen : U.length ≤ 5000) :
    Calls Tryd.prog 41 #[.agg #[vL, vU, vO, .bool false], .int .i64 p] w (Said (.bool (decide (¬ ((p / 64 : Nat) : Int) ∈ U))) w) := by
  obtain ⟨p1, k1, c1, rfl⟩ := h1
  obtain ⟨p3, k3, c3, rfl⟩ := h3
  obtain ⟨p2, c2, rfl⟩ := h2.len
  have n0 := (New.refl w).alloc #[.slice p1 k1 c1, .slice p2 U.length c2, .slice p3 k3 c3, .bool false] 47
  have HI := Lib.hid (h2.new n0)
  have e1 : (p : Int) < 4096 := by omega
  have e64 : ((p / 64 : Nat) : Int) = (p : Int) / 64 := by omega
  have HU : ∃ i, (i < U.length ∧ U.getD i 0 = (p : Int) / 64 ∨ i = U.length ∧ ¬ ((p : Int) / 64) ∈ U) ∧ Before U ((p : Int) / 64) i := by
    by_cases c : (p : Int) / 64 ∈ U
    · have hc : 0 < cn U ((p : Int) / 64) := by
        unfold cn; have := List.count_pos_iff.2 c; omega
      rcases Nat.eq_zero_or_pos U.length with h | h
      · rw [List.eq_nil_of_length_eq_zero h] at c; cases c
      · have : ∀ k, Before U ((p : Int) / 64) k ∨ ∃ i, i < k ∧ U.getD i 0 = (p : Int) / 64 ∧ Before U ((p : Int) / 64) i := by
          intro k
          induction k with
          | zero => exact .inl (Before.zero _ _)
          | succ k ih =>
            rcases ih with ih | ⟨i, h1, h2, h3⟩
            · by_cases e : U.getD k 0 = (p : Int) / 64
              · exact .inr ⟨k, by omega, e, ih⟩
              · exact .inl (ih.succ e)
            · exact .inr ⟨i, by omega, h2, h3⟩
        rcases this U.length with h | ⟨i, h1, h2, h3⟩
        · rw [before_none h] at hc; omega
        · exact ⟨i, .inl ⟨h1, h2⟩, h3⟩
    · exact ⟨U.length, .inr ⟨rfl, c⟩, fun m hm e => c (by rw [← e]; exact getD_mem hm rfl)⟩
  rw [e64]
  obtain ⟨i, hi, hb⟩ := HU
  have HB := Lib.hid hb
  have HQ := Lib.hid hi
  have hil : i ≤ U.length := by omega
  clear h2 hb hi hp e64
  go_enter Tryd.func41, Tryd.ntmps41
  go_wp2
  obtain ⟨W0, hW0⟩ : ∃ W0, W0 = w.alloc (.cells #[.slice p1 k1 c1, .slice p2 U.length c2, .slice p3 k3 c3, .bool false] 47) := ⟨_, rfl⟩
  rw [← hW0]
  rw [← hW0] at n0 HI
  have B0 : Box W0 w.heap.size #[.slice p1 k1 c1, .slice p2 U.length c2, .slice p3 k3 c3, .bool false] 47 := by rw [hW0]; exact Box.here w _ _ _ rfl
  clear hW0
  obtain ⟨a0, a1, a2, a3⟩ := B0.four
  go_loopg [5] (i + 1) (fun k a wr => ∃ j : Nat, j + k = i + 1 ∧ j ≤ i ∧ a = .int .i64 (j : Int) ∧ W0 = wr)
  case atStart => exact ⟨0, by omega, by omega, rfl, rfl⟩
  case round =>
    obtain ⟨j, hj, hji, rfl, rfl⟩ := hrel
    have J := Lib.hid hj
    clear hj
    by_cases c : j < U.length
    · rcases HI.out with ⟨hv, hU⟩ | ⟨b, cap, hv, _, _, _, hc⟩
      · subst hU; simp at c
      · cases hv
        have c0 := hc j c
        clear hc
        by_cases d : j = i
        · subst d
          rcases HQ.out with ⟨_, q⟩ | ⟨q, _⟩
          · have hmem : (p : Int) / 64 ∈ U := getD_mem c q
            rw [q] at c0
            have RB := Lib.hid (show (false : Bool) = decide (¬ (p : Int) / 64 ∈ U) from by simp [hmem])
            clear hmem q
            go_wp2
            go_ret
            exact ⟨ret_bool RB.out, n0⟩
          · omega
        · have d2 := HB.out j (by omega)
          have f : (U.getD j 0 == (p : Int) / 64) = false := by simpa using d2
          have hlt : j < i := by omega
          generalize U.getD j 0 = x at *
          clear d2 d
          go_wp2
          go_roundg (i - j)
          case measure => have := J.out; omega
          case rel => exact ⟨j + 1, by have := J.out; omega, by omega, by go_num, rfl⟩
    · have hjU : j = U.length := by omega
      have hmem : ¬ (p : Int) / 64 ∈ U := by
        rcases HQ.out with ⟨q, _⟩ | ⟨_, q⟩
        · omega
        · exact q
      have RB := Lib.hid (show (true : Bool) = decide (¬ (p : Int) / 64 ∈ U) from by simp [hmem])
      clear hmem c
      subst hjU
      go_wp2
      go_ret
      exact ⟨ret_bool RB.out, n0⟩
end
end Go.Proofs.YtajhlmiobibhjaaDoor
