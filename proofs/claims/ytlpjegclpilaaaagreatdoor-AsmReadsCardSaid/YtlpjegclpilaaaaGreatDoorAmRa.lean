/- The document's Digits and Number. -/
import Derived.Test.YtlpjegclpilaaaaGreatDoorAmD
import Derived.Deep.LoopGhost
namespace Go.Proofs.YtlpjegclpilaaaaGreatDoor
open Go.RowKit
set_option linter.unusedVariables false
theorem dig_slice (d : Nat) (hd : d < 10) (W : World) : (Instr.slice 9 (.string ⟨#[48, 49, 50, 51, 52, 53, 54, 55, 56, 57]⟩) (some (.int .i64 (d : Int))) (some (.int .i64 ((d : Int) + 1))) none).run Tryz.prog W = .ok (.string (ba [UInt8.ofNat (48 + d)])) W := by
  have e := run_slice_string (P := Tryz.prog) W 9 ⟨#[48, 49, 50, 51, 52, 53, 54, 55, 56, 57]⟩ .i64 .i64 (d : Int) ((d : Int) + 1) Tryz.underlying9 (by omega) (by omega) (by show ((d : Int) + 1) ≤ ((10 : Nat) : Int); omega)
  rw [e]
  rcases (show d = 0 ∨ d = 1 ∨ d = 2 ∨ d = 3 ∨ d = 4 ∨ d = 5 ∨ d = 6 ∨ d = 7 ∨ d = 8 ∨ d = 9 by omega) with rfl | rfl | rfl | rfl | rfl | rfl | rfl | rfl | rfl | rfl <;> rfl
/-- what the digits' loop has still to do: the number that is left, the digits that are there -/
def DigAt (u m : Nat) (S : List UInt8) : Prop := (S = [] ∧ m = u) ∨ (S ≠ [] ∧ (if m = 0 then [] else Lib.decDigits m) ++ S = Lib.decDigits u)
theorem DigAt.step {u m : Nat} {S : List UInt8} (h : DigAt u m S) (hm : 0 < m ∨ S = []) : DigAt u (m / 10) (UInt8.ofNat (48 + m % 10) :: S) := by
  have key : (if m / 10 = 0 then [] else Lib.decDigits (m / 10)) ++ [UInt8.ofNat (48 + m % 10)] = Lib.decDigits m := by
    by_cases hs : m < 10
    · rw [if_pos (by omega), Lib.decDigits_one hs, Nat.mod_eq_of_lt hs]; rfl
    · rw [if_neg (by omega)]
      conv => rhs; rw [Lib.decDigits, dif_neg hs]
  refine .inr ⟨by simp, ?_⟩
  rw [show UInt8.ofNat (48 + m % 10) :: S = [UInt8.ofNat (48 + m % 10)] ++ S from rfl, ← List.append_assoc, key]
  rcases h with ⟨rfl, rfl⟩ | ⟨hS, h⟩
  · simp
  · rcases hm with hm | hm
    · rw [if_neg (by omega)] at h; exact h
    · exact absurd hm hS
theorem DigAt.len {u m : Nat} {S : List UInt8} (h : DigAt u m S) (hu : u < 18446744073709551616) : S.length ≤ 20 := by
  rcases h with ⟨rfl, _⟩ | ⟨_, h⟩
  · simp
  · have := congrArg List.length h
    rw [List.length_append, Lib.decDigits_length] at this
    have := Lib.nDigits_le20 u hu
    omega
theorem DigAt.done {u : Nat} {S : List UInt8} (h : DigAt u 0 S) (hS : S ≠ []) : S = Lib.decDigits u := by
  rcases h with ⟨h, _⟩ | ⟨_, h⟩
  · exact absurd h hS
  · simpa using h
set_option maxHeartbeats 1000000 in
set_option maxRecDepth 100000 in
theorem digits_pos (u : Nat) (hu : u < 1000000) (w : World) : Calls Tryz.prog 21 #[.int .i64 (u : Int)] w fun e w' => e = .returned (.string (ba (Lib.itoa (u : Int)))) ∧ New w w' := by
  rw [Lib.itoa_nonneg]
  have h0 : ¬ (u : Int) < 0 := by omega
  have hsl := dig_slice
  go_enter Tryz.func21, Tryz.ntmps21
  go_wp2_with fail
  go_loopg [0, 3] (u + 1) (fun k s0 s3 wr => ∃ (m : Nat) (S : List UInt8), m + (if S = [] then 1 else 0) = k ∧ s0 = .int .i64 (m : Int) ∧ s3 = .string (ba S) ∧ DigAt u m S ∧ m ≤ u ∧ S.length ≤ 20 ∧ New w wr)
  case atStart => exact ⟨u, [], by simp, rfl, rfl, .inl ⟨rfl, rfl⟩, Nat.le_refl _, by simp, New.refl _⟩
  case round =>
    obtain ⟨m, S, hk, rfl, rfl, hD, hmu, hSl, hnx⟩ := hrel
    have hJ := Lib.hid hk
    clear hk
    by_cases hgo : 0 < m ∨ S = []
    · have hst := hD.step hgo
      have hg : 0 < (m : Int) ∨ (¬ 0 < (m : Int) ∧ ((ba S).toList == []) = true) := by
        rcases hgo with h | h
        · exact .inl (by omega)
        · by_cases k : 0 < m
          · exact .inl (by omega)
          · exact .inr ⟨by omega, by rw [ba_list, h]; rfl⟩
      have hs2 := dig_slice (m % 10) (by omega)
      rw [show ((m % 10 : Nat) : Int) = (m : Int) % 10 by omega] at hs2
      have hk2 : m / 10 + 1 ≤ m + 1 ∧ m / 10 < m + (if S = [] then 1 else 0) := by
        rcases hgo with h | h
        · omega
        · rw [if_pos h]; omega
      generalize UInt8.ofNat (48 + m % 10) = D at *
      have q1 : ¬ 9223372036854775807 < (ba [D]).size + (ba S).size := by rw [ba_size, ba_size]; simp; omega
      have e1 : ba [D] ++ ba S = ba (D :: S) := (ba_app [D] S).symm
      have hl5 := hst.len (by omega)
      have hm10 : ((m / 10 : Nat) : Int) = (m : Int) / 10 := by omega
      clear hsl hD hgo
      rcases hg with hg | ⟨hg, hg2⟩
      · go_wp2
        go_roundg (m / 10)
        case measure => have := hJ.out; have := hk2.2; omega
        case rel => exact ⟨m / 10, D :: S, by simp, by rw [hm10], rfl, hst, by omega, by simp; simp at hl5; omega, hnx⟩
      · have hm0 : m = 0 := by omega
        subst hm0
        have hS0 : S = [] := by
          rw [ba_list] at hg2; simpa using hg2
        subst hS0
        have q2 : ba [D] = ba [48] ∧ True := by
          have h := hs2 w
          have h2 := dig_slice 0 (by omega) w
          have h3 : (0 : Int) % 10 = 0 := rfl
          rw [show ((0 : Nat) : Int) = 0 from rfl] at h h2
          rw [h3, h2] at h
          injection h with h
          injection h with h
          exact ⟨h.symm, trivial⟩
        have E1 := Lib.hid (show (⟨#[48, 49, 50, 51, 52, 53, 54, 55, 56, 57]⟩ : ByteArray).extract 0 1 ++ ba [] = ba [D] by rw [q2.1]; rfl)
        have b0 : (ba []).size = 0 := rfl
        have b1 : (ba []).toList = [] := ba_list []
        clear q2 q1 e1 hs2 hg2 hm10 hk2
        go_wp2

        go_roundg 0
        case measure => have := hJ.out; simp at this; omega
        case rel => exact ⟨0, [D], by simp, rfl, by rw [← E1.out], hst, by omega, by simp, hnx⟩
    · have hm0 : m = 0 := by omega
      subst hm0
      have hS : S ≠ [] := fun e => hgo (.inr e)
      have hSS := hD.done hS
      have e1 : ((ba S).toList == []) = false := by rw [ba_list]; exact beq_eq_false_iff_ne.2 hS
      have e2 : (ba S).toList.isEmpty = false := by rw [ba_list]; cases S with | nil => exact absurd rfl hS | cons _ _ => rfl
      have HSS := Lib.hid hSS
      clear hsl hD hgo hJ hSS
      go_wp2
      go_ret
      exact ⟨congrArg (fun t => Ending.returned (.string (ba t))) HSS.out, hnx⟩
/-- a small number's digits -/
theorem rdigits_any (n : Int) (h0 : -999999 ≤ n) (h1 : n ≤ 999999) (w : World) : Calls Tryz.prog 21 #[.int .i64 n] w fun e w' => e = .returned (.string (ba (Lib.itoa n))) ∧ New w w' := by
  by_cases hn : 0 ≤ n
  · obtain ⟨u, rfl⟩ : ∃ u : Nat, n = (u : Int) := ⟨n.toNat, by omega⟩
    exact digits_pos u (by omega) w
  · obtain ⟨u, rfl, hu⟩ : ∃ u : Nat, n = -(u : Int) ∧ 1 ≤ u := ⟨n.natAbs, by omega, by omega⟩
    have c := digits_pos u (by omega) w
    rw [Lib.itoa_nonneg] at c
    rw [Lib.itoa_neg u hu]
    have hl := Lib.itoa_length_le (u : Int) (by omega) (by omega)
    rw [Lib.itoa_nonneg] at hl
    have q1 : ¬ 9223372036854775807 < 1 + (ba (Lib.decDigits u)).size := by rw [ba_size]; omega
    have e1 : (⟨#[45]⟩ : ByteArray) ++ ba (Lib.decDigits u) = ba (45 :: Lib.decDigits u) := (ba_app [45] _).symm
    have hlt : -(u : Int) < 0 := by omega
    have hneg : - -(u : Int) = (u : Int) := by omega
    generalize Lib.decDigits u = S at *
    go_enter Tryz.func21, Tryz.ntmps21
    go_wp2_with fail
    refine c.mono ?_
    rintro e w1 ⟨rfl, n1⟩
    go_wp2
    go_ret
    exact ⟨by first | rfl | (rw [← e1]; rfl), n1⟩
end Go.Proofs.YtlpjegclpilaaaaGreatDoor
