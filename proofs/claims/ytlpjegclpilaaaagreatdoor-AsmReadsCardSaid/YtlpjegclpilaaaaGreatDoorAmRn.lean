/- The document's Number: the number of a word of nine digits at most. -/
import Derived.Test.YtlpjegclpilaaaaGreatDoorAmD
import Derived.Deep.LoopGhost
import Derived.Laws.Slices
namespace Go.Proofs.YtlpjegclpilaaaaGreatDoor
open Go.RowKit Go.Lib
set_option linter.unusedVariables false
/-- what Number answers -/
def nv (x : Option Int) : Value := match x with
  | none => .tuple #[.int .i64 0, .bool false]
  | some n => .tuple #[.int .i64 n, .bool true]
theorem idx0_ba (b : UInt8) (t : List UInt8) (W : World) : (Instr.index 9 (.string (ba (b :: t))) (.int .i64 (0 : Int))).run Tryz.prog W = .ok (.int .u8 (b.toNat : Int)) W :=
  idx_ba (P := Tryz.prog) Tryz.underlying9 (b :: t) 0 b rfl W
theorem tail_slice (b : UInt8) (t : List UInt8) (W : World) : (Instr.slice 9 (.string (ba (b :: t))) (some (.int .i64 (1 : Int))) none none).run Tryz.prog W = .ok (.string (ba t)) W := by
  have e := run_slice_string_l (P := Tryz.prog) W 9 (ba (b :: t)) Tryz.underlying9 .i64 (1 : Int) (by omega) (by rw [ba_size, List.length_cons]; omega)
  rw [e]
  have h : ((ba (b :: t)).extract ((1 : Int)).toNat (ba (b :: t)).size).data.toList = t := by
    rw [Lib.extract_data, ba_data, ba_size]
    simp
  have key : (ba (b :: t)).extract ((1 : Int)).toNat (ba (b :: t)).size = ba t := (ba_of _).symm.trans (congrArg ba h)
  rw [key]
set_option maxHeartbeats 4000000 in
theorem rnum_one (b : UInt8) (w : World) : Calls Tryz.prog 30 #[.string (ba [b])] w fun e w' => e = .returned (nv (numB false [b])) ∧ New w w' := by
  have h0 := idx0_ba b []
  have g1 : ¬ (1 : Int) < ((ba [b]).size : Int) := by rw [ba_size]; simp
  have g9 : ¬ (9 : Int) < ((ba [b]).size : Int) := by rw [ba_size]; simp
  have n1 : ((ba [b]).toList == []) = false := by rw [ba_list]; rfl
  have n2 : (ba [b]).toList.isEmpty = false := by rw [ba_list]; rfl
  have sT : (ba [b]).size = [b].length := ba_size _
  have hT : [b].length ≤ 9 := by simp
  have hG : ¬ ([b] = [] ∨ 9 < [b].length ∨ ([b].head? = some 48 ∧ (1 < [b].length ∨ false = true))) := by simp
  generalize [b] = T at *
  by_cases hb : (b.toNat : Int) = 48
  · rw [hb] at h0
    go_enter Tryz.func30, Tryz.ntmps30
    go_wp2_with fail
    go_loopg [5, 6] T.length (fun k s5 s6 wr => ∃ j acc : Nat, j + k = T.length ∧ s6 = .int .i64 (j : Int) ∧ s5 = .int .i64 (acc : Int) ∧ decFrom acc (T.drop j) = decFrom 0 T ∧ acc < 10 ^ j ∧ New w wr)
    case atStart => exact ⟨0, 0, by omega, rfl, rfl, rfl, by decide, New.refl _⟩
    case round =>
      obtain ⟨j, acc, hj, rfl, rfl, hd, hac, hnx⟩ := hrel
      have hp : 10 ^ j ≤ 10 ^ 9 := Nat.pow_le_pow_right (by decide) (by omega)
      have hp9 : (10 : Nat) ^ 9 = 1000000000 := by decide
      have hps : 10 ^ (j + 1) = 10 ^ j * 10 := Nat.pow_succ 10 j
      have ha9 : acc < 1000000000 := by omega
      by_cases hlt : j < T.length
      · obtain ⟨c, hc⟩ : ∃ c, T[j]? = some c := ⟨_, List.getElem?_eq_getElem hlt⟩
        have hdr : T.drop j = c :: T.drop (j + 1) := by
          rw [List.drop_eq_getElem_cons hlt]; congr 1; exact (List.getElem?_eq_some_iff.1 hc).2
        rw [hdr] at hd
        simp only [decFrom] at hd
        have hix := fun W => idx_ba (P := Tryz.prog) Tryz.underlying9 T j c hc W
        have hlt' : (j : Int) < (T.length : Int) := by omega
        have hJ := Lib.hid (And.intro hj (And.intro hac hps))
        clear hj hac hps hp hp9 hdr hc
        by_cases hv : 48 ≤ c.toNat ∧ c.toNat ≤ 57
        · have hdv : digitVal c = some (c.toNat - 48) := by unfold digitVal; exact if_pos hv
          rw [hdv] at hd
          simp only at hd
          obtain ⟨d, hcd⟩ : ∃ d, c.toNat = 48 + d := ⟨c.toNat - 48, by omega⟩
          rw [hcd] at hix hv
          rw [show c.toNat - 48 = d by omega] at hd
          have v1 : ¬ ((48 + d : Nat) : Int) < 48 := by omega
          have v2 : ¬ (57 : Int) < ((48 + d : Nat) : Int) := by omega
          have v3 : d ≤ 9 := by omega
          clear hdv hv hcd
          go_wp2_with fail
          go_roundg (T.length - (j + 1))
          case measure => have := hJ.out.1; omega
          case rel => exact ⟨j + 1, acc * 10 + d, by have := hJ.out.1; omega, rfl, by go_num, hd, by have := hJ.out.2; omega, hnx⟩
        · have hdv : digitVal c = none := by unfold digitVal; exact if_neg hv
          rw [hdv] at hd
          simp only at hd
          have hN : numB false T = none := by unfold numB; rw [← hd]; split <;> rfl
          have HN := Lib.hid hN
          clear hd hN hdv
          by_cases v1 : (c.toNat : Int) < 48
          · go_wp2
            go_ret2
            exact ⟨by rw [HN.out]; rfl, hnx⟩
          · have v2 : (57 : Int) < (c.toNat : Int) := by omega
            go_wp2
            go_ret2
            exact ⟨by rw [HN.out]; rfl, hnx⟩
      · obtain rfl : j = T.length := by omega
        have hge : ¬ ((T.length : Nat) : Int) < (T.length : Int) := by omega
        rw [List.drop_length] at hd
        have hN : numB false T = some ((acc : Int)) := by unfold numB; rw [if_neg (by first | exact hG | simpa using hG), ← hd]; simp [decFrom]
        have HN := Lib.hid hN
        clear hd hN hp hp9 hps hac
        go_wp2
        go_ret2
        exact ⟨by rw [HN.out]; rfl, hnx⟩
  · go_enter Tryz.func30, Tryz.ntmps30
    go_wp2_with fail
    go_loopg [5, 6] T.length (fun k s5 s6 wr => ∃ j acc : Nat, j + k = T.length ∧ s6 = .int .i64 (j : Int) ∧ s5 = .int .i64 (acc : Int) ∧ decFrom acc (T.drop j) = decFrom 0 T ∧ acc < 10 ^ j ∧ New w wr)
    case atStart => exact ⟨0, 0, by omega, rfl, rfl, rfl, by decide, New.refl _⟩
    case round =>
      obtain ⟨j, acc, hj, rfl, rfl, hd, hac, hnx⟩ := hrel
      have hp : 10 ^ j ≤ 10 ^ 9 := Nat.pow_le_pow_right (by decide) (by omega)
      have hp9 : (10 : Nat) ^ 9 = 1000000000 := by decide
      have hps : 10 ^ (j + 1) = 10 ^ j * 10 := Nat.pow_succ 10 j
      have ha9 : acc < 1000000000 := by omega
      by_cases hlt : j < T.length
      · obtain ⟨c, hc⟩ : ∃ c, T[j]? = some c := ⟨_, List.getElem?_eq_getElem hlt⟩
        have hdr : T.drop j = c :: T.drop (j + 1) := by
          rw [List.drop_eq_getElem_cons hlt]; congr 1; exact (List.getElem?_eq_some_iff.1 hc).2
        rw [hdr] at hd
        simp only [decFrom] at hd
        have hix := fun W => idx_ba (P := Tryz.prog) Tryz.underlying9 T j c hc W
        have hlt' : (j : Int) < (T.length : Int) := by omega
        have hJ := Lib.hid (And.intro hj (And.intro hac hps))
        clear hj hac hps hp hp9 hdr hc
        by_cases hv : 48 ≤ c.toNat ∧ c.toNat ≤ 57
        · have hdv : digitVal c = some (c.toNat - 48) := by unfold digitVal; exact if_pos hv
          rw [hdv] at hd
          simp only at hd
          obtain ⟨d, hcd⟩ : ∃ d, c.toNat = 48 + d := ⟨c.toNat - 48, by omega⟩
          rw [hcd] at hix hv
          rw [show c.toNat - 48 = d by omega] at hd
          have v1 : ¬ ((48 + d : Nat) : Int) < 48 := by omega
          have v2 : ¬ (57 : Int) < ((48 + d : Nat) : Int) := by omega
          have v3 : d ≤ 9 := by omega
          clear hdv hv hcd
          go_wp2_with fail
          go_roundg (T.length - (j + 1))
          case measure => have := hJ.out.1; omega
          case rel => exact ⟨j + 1, acc * 10 + d, by have := hJ.out.1; omega, rfl, by go_num, hd, by have := hJ.out.2; omega, hnx⟩
        · have hdv : digitVal c = none := by unfold digitVal; exact if_neg hv
          rw [hdv] at hd
          simp only at hd
          have hN : numB false T = none := by unfold numB; rw [← hd]; split <;> rfl
          have HN := Lib.hid hN
          clear hd hN hdv
          by_cases v1 : (c.toNat : Int) < 48
          · go_wp2
            go_ret2
            exact ⟨by rw [HN.out]; rfl, hnx⟩
          · have v2 : (57 : Int) < (c.toNat : Int) := by omega
            go_wp2
            go_ret2
            exact ⟨by rw [HN.out]; rfl, hnx⟩
      · obtain rfl : j = T.length := by omega
        have hge : ¬ ((T.length : Nat) : Int) < (T.length : Int) := by omega
        rw [List.drop_length] at hd
        have hN : numB false T = some ((acc : Int)) := by unfold numB; rw [if_neg (by first | exact hG | simpa using hG), ← hd]; simp [decFrom]
        have HN := Lib.hid hN
        clear hd hN hp hp9 hps hac
        go_wp2
        go_ret2
        exact ⟨by rw [HN.out]; rfl, hnx⟩
set_option maxHeartbeats 4000000 in
theorem rnum_more (b : UInt8) (t : List UInt8) (ht : t ≠ []) (hb : b ≠ 45) (w : World) (hl : (b :: t).length ≤ 100000) : Calls Tryz.prog 30 #[.string (ba (b :: t))] w fun e w' => e = .returned (nv (numB false (b :: t))) ∧ New w w' := by
  have h0 := idx0_ba b t
  have hl1 : 1 < (b :: t).length := by have := List.length_pos_iff.2 ht; simp; omega
  have n1 : ((ba (b :: t)).toList == []) = false := by rw [ba_list]; rfl
  have n2 : (ba (b :: t)).toList.isEmpty = false := by rw [ba_list]; rfl
  have sT : (ba (b :: t)).size = (b :: t).length := ba_size _
  have hb45 : ¬ (b.toNat : Int) = 45 := fun e => hb (UInt8.toNat_inj.1 (by show b.toNat = 45; omega))
  have hb48 : b.toNat = 48 → b = 48 := fun e => UInt8.toNat_inj.1 e
  have hh : (b :: t).head? = some b := rfl
  generalize b :: t = T at *
  have g1 : (1 : Int) < ((ba T).size : Int) := by omega
  by_cases h9 : 9 < T.length
  · have g9 : (9 : Int) < ((ba T).size : Int) := by omega
    have hN : numB false T = none := by unfold numB; exact if_pos (.inr (.inl h9))
    rw [hN]
    go_enter Tryz.func30, Tryz.ntmps30
    go_wp2
    go_ret2
    exact ⟨rfl, New.refl _⟩
  · have g9 : ¬ (9 : Int) < ((ba T).size : Int) := by omega
    by_cases h48 : (b.toNat : Int) = 48
    · have hN : numB false T = none := by unfold numB; exact if_pos (.inr (.inr ⟨by rw [hh, hb48 (by omega)], .inl hl1⟩))
      rw [hN]
      rw [h48] at h0
      go_enter Tryz.func30, Tryz.ntmps30
      go_wp2
      go_ret2
      exact ⟨rfl, New.refl _⟩
    · have hG : ¬ (T = [] ∨ 9 < T.length ∨ (T.head? = some 48 ∧ (1 < T.length ∨ false = true))) := by
        rintro (h | h | ⟨h, -⟩)
        · rw [h] at hh; cases hh
        · exact h9 h
        · rw [hh] at h; exact h48 (by have := Option.some.inj h; rw [this]; rfl)
      clear hb hb48
      go_enter Tryz.func30, Tryz.ntmps30
      go_wp2_with fail
      go_loopg [5, 6] T.length (fun k s5 s6 wr => ∃ j acc : Nat, j + k = T.length ∧ s6 = .int .i64 (j : Int) ∧ s5 = .int .i64 (acc : Int) ∧ decFrom acc (T.drop j) = decFrom 0 T ∧ acc < 10 ^ j ∧ New w wr)
      case atStart => exact ⟨0, 0, by omega, rfl, rfl, rfl, by decide, New.refl _⟩
      case round =>
        obtain ⟨j, acc, hj, rfl, rfl, hd, hac, hnx⟩ := hrel
        have hp : 10 ^ j ≤ 10 ^ 9 := Nat.pow_le_pow_right (by decide) (by omega)
        have hp9 : (10 : Nat) ^ 9 = 1000000000 := by decide
        have hps : 10 ^ (j + 1) = 10 ^ j * 10 := Nat.pow_succ 10 j
        have ha9 : acc < 1000000000 := by omega
        by_cases hlt : j < T.length
        · obtain ⟨c, hc⟩ : ∃ c, T[j]? = some c := ⟨_, List.getElem?_eq_getElem hlt⟩
          have hdr : T.drop j = c :: T.drop (j + 1) := by
            rw [List.drop_eq_getElem_cons hlt]; congr 1; exact (List.getElem?_eq_some_iff.1 hc).2
          rw [hdr] at hd
          simp only [decFrom] at hd
          have hix := fun W => idx_ba (P := Tryz.prog) Tryz.underlying9 T j c hc W
          have hlt' : (j : Int) < (T.length : Int) := by omega
          have hJ := Lib.hid (And.intro hj (And.intro hac hps))
          clear hj hac hps hp hp9 hdr hc
          by_cases hv : 48 ≤ c.toNat ∧ c.toNat ≤ 57
          · have hdv : digitVal c = some (c.toNat - 48) := by unfold digitVal; exact if_pos hv
            rw [hdv] at hd
            simp only at hd
            obtain ⟨d, hcd⟩ : ∃ d, c.toNat = 48 + d := ⟨c.toNat - 48, by omega⟩
            rw [hcd] at hix hv
            rw [show c.toNat - 48 = d by omega] at hd
            have v1 : ¬ ((48 + d : Nat) : Int) < 48 := by omega
            have v2 : ¬ (57 : Int) < ((48 + d : Nat) : Int) := by omega
            have v3 : d ≤ 9 := by omega
            clear hdv hv hcd
            go_wp2_with fail
            go_roundg (T.length - (j + 1))
            case measure => have := hJ.out.1; omega
            case rel => exact ⟨j + 1, acc * 10 + d, by have := hJ.out.1; omega, rfl, by go_num, hd, by have := hJ.out.2; omega, hnx⟩
          · have hdv : digitVal c = none := by unfold digitVal; exact if_neg hv
            rw [hdv] at hd
            simp only at hd
            have hN : numB false T = none := by unfold numB; rw [← hd]; split <;> rfl
            have HN := Lib.hid hN
            clear hd hN hdv
            by_cases v1 : (c.toNat : Int) < 48
            · go_wp2
              go_ret2
              exact ⟨by rw [HN.out]; rfl, hnx⟩
            · have v2 : (57 : Int) < (c.toNat : Int) := by omega
              go_wp2
              go_ret2
              exact ⟨by rw [HN.out]; rfl, hnx⟩
        · obtain rfl : j = T.length := by omega
          have hge : ¬ ((T.length : Nat) : Int) < (T.length : Int) := by omega
          rw [List.drop_length] at hd
          have hN : numB false T = some ((acc : Int)) := by unfold numB; rw [if_neg (by first | exact hG | simpa using hG), ← hd]; simp [decFrom]
          have HN := Lib.hid hN
          clear hd hN hp hp9 hps hac
          go_wp2
          go_ret2
          exact ⟨by rw [HN.out]; rfl, hnx⟩
set_option maxHeartbeats 4000000 in
theorem rnum_minus (b : UInt8) (t : List UInt8) (w : World) (hl : (b :: t).length ≤ 100000) : Calls Tryz.prog 30 #[.string (ba (45 :: b :: t))] w fun e w' => e = .returned (nv (numB true (b :: t))) ∧ New w w' := by
  have z0 := idx0_ba 45 (b :: t)
  rw [show (((45 : UInt8).toNat : Nat) : Int) = 45 from rfl] at z0
  have zs := tail_slice 45 (b :: t)
  have z1 : (1 : Int) < ((ba (45 :: b :: t)).size : Int) := by rw [ba_size]; simp; omega
  have h0 := idx0_ba b t
  have n1 : ((ba (b :: t)).toList == []) = false := by rw [ba_list]; rfl
  have n2 : (ba (b :: t)).toList.isEmpty = false := by rw [ba_list]; rfl
  have sT : (ba (b :: t)).size = (b :: t).length := ba_size _
  have hb48 : b.toNat = 48 → b = 48 := fun e => UInt8.toNat_inj.1 e
  generalize (45 : UInt8) :: b :: t = Z at *
  have hh : (b :: t).head? = some b := rfl
  generalize b :: t = T at *
  by_cases h9 : 9 < T.length
  · have g9 : (9 : Int) < ((ba T).size : Int) := by omega
    have hN : numB true T = none := by unfold numB; exact if_pos (.inr (.inl h9))
    rw [hN]
    go_enter Tryz.func30, Tryz.ntmps30
    go_wp2
    go_ret2
    exact ⟨rfl, New.refl _⟩
  · have g9 : ¬ (9 : Int) < ((ba T).size : Int) := by omega
    by_cases h48 : (b.toNat : Int) = 48
    · have hN : numB true T = none := by unfold numB; exact if_pos (.inr (.inr ⟨by rw [hh, hb48 (by omega)], .inr rfl⟩))
      rw [hN]
      rw [h48] at h0
      by_cases g1 : (1 : Int) < ((ba T).size : Int)
      · go_enter Tryz.func30, Tryz.ntmps30
        go_wp2
        go_ret2
        exact ⟨rfl, New.refl _⟩
      · go_enter Tryz.func30, Tryz.ntmps30
        go_wp2
        go_ret2
        exact ⟨rfl, New.refl _⟩
    · have hG : ¬ (T = [] ∨ 9 < T.length ∨ (T.head? = some 48 ∧ (1 < T.length ∨ true = true))) := by
        rintro (h | h | ⟨h, -⟩)
        · rw [h] at hh; cases hh
        · exact h9 h
        · rw [hh] at h; exact h48 (by have := Option.some.inj h; rw [this]; rfl)
      clear hb48
      go_enter Tryz.func30, Tryz.ntmps30
      go_wp2_with fail
      go_loopg [5, 6] T.length (fun k s5 s6 wr => ∃ j acc : Nat, j + k = T.length ∧ s6 = .int .i64 (j : Int) ∧ s5 = .int .i64 (acc : Int) ∧ decFrom acc (T.drop j) = decFrom 0 T ∧ acc < 10 ^ j ∧ New w wr)
      case atStart => exact ⟨0, 0, by omega, rfl, rfl, rfl, by decide, New.refl _⟩
      case round =>
        obtain ⟨j, acc, hj, rfl, rfl, hd, hac, hnx⟩ := hrel
        have hp : 10 ^ j ≤ 10 ^ 9 := Nat.pow_le_pow_right (by decide) (by omega)
        have hp9 : (10 : Nat) ^ 9 = 1000000000 := by decide
        have hps : 10 ^ (j + 1) = 10 ^ j * 10 := Nat.pow_succ 10 j
        have ha9 : acc < 1000000000 := by omega
        by_cases hlt : j < T.length
        · obtain ⟨c, hc⟩ : ∃ c, T[j]? = some c := ⟨_, List.getElem?_eq_getElem hlt⟩
          have hdr : T.drop j = c :: T.drop (j + 1) := by
            rw [List.drop_eq_getElem_cons hlt]; congr 1; exact (List.getElem?_eq_some_iff.1 hc).2
          rw [hdr] at hd
          simp only [decFrom] at hd
          have hix := fun W => idx_ba (P := Tryz.prog) Tryz.underlying9 T j c hc W
          have hlt' : (j : Int) < (T.length : Int) := by omega
          have hJ := Lib.hid (And.intro hj (And.intro hac hps))
          clear hj hac hps hp hp9 hdr hc
          by_cases hv : 48 ≤ c.toNat ∧ c.toNat ≤ 57
          · have hdv : digitVal c = some (c.toNat - 48) := by unfold digitVal; exact if_pos hv
            rw [hdv] at hd
            simp only at hd
            obtain ⟨d, hcd⟩ : ∃ d, c.toNat = 48 + d := ⟨c.toNat - 48, by omega⟩
            rw [hcd] at hix hv
            rw [show c.toNat - 48 = d by omega] at hd
            have v1 : ¬ ((48 + d : Nat) : Int) < 48 := by omega
            have v2 : ¬ (57 : Int) < ((48 + d : Nat) : Int) := by omega
            have v3 : d ≤ 9 := by omega
            clear hdv hv hcd
            go_wp2_with fail
            go_roundg (T.length - (j + 1))
            case measure => have := hJ.out.1; omega
            case rel => exact ⟨j + 1, acc * 10 + d, by have := hJ.out.1; omega, rfl, by go_num, hd, by have := hJ.out.2; omega, hnx⟩
          · have hdv : digitVal c = none := by unfold digitVal; exact if_neg hv
            rw [hdv] at hd
            simp only at hd
            have hN : numB true T = none := by unfold numB; rw [← hd]; split <;> rfl
            have HN := Lib.hid hN
            clear hd hN hdv
            by_cases v1 : (c.toNat : Int) < 48
            · go_wp2
              go_ret2
              exact ⟨by rw [HN.out]; rfl, hnx⟩
            · have v2 : (57 : Int) < (c.toNat : Int) := by omega
              go_wp2
              go_ret2
              exact ⟨by rw [HN.out]; rfl, hnx⟩
        · obtain rfl : j = T.length := by omega
          have hge : ¬ ((T.length : Nat) : Int) < (T.length : Int) := by omega
          rw [List.drop_length] at hd
          have hN : numB true T = some (-(acc : Int)) := by unfold numB; rw [if_neg (by first | exact hG | simpa using hG), ← hd]; simp [decFrom]
          have HN := Lib.hid hN
          clear hd hN hp hp9 hps hac
          go_wp2
          go_ret2
          exact ⟨by rw [HN.out]; rfl, hnx⟩
/-- the number of a word of nine digits at most -/
theorem rnumber_any (l : List UInt8) (w : World) (hl : l.length ≤ 100000) : Calls Tryz.prog 30 #[.string (ba l)] w fun e w' => e = .returned (nv (numD l)) ∧ New w w' := by
  cases l with
  | nil =>
    have e : numD [] = none := rfl
    rw [e]
    have n1 : ((ba []).toList == []) = true := by rw [ba_list]; rfl
    have n2 : (ba []).toList.isEmpty = true := by rw [ba_list]; rfl
    have g1 : ¬ (1 : Int) < ((ba []).size : Int) := by rw [ba_size]; simp
    go_enter Tryz.func30, Tryz.ntmps30
    go_wp2
    go_ret2
    exact ⟨rfl, New.refl _⟩
  | cons b t =>
    by_cases ht : t = []
    · subst ht
      have e : numD [b] = numB false [b] := by
        have hm : mns [b] = false := by simp [mns]
        unfold numD; rw [hm]; rfl
      rw [e]; exact rnum_one b w
    · by_cases hb : b = 45
      · subst hb
        obtain ⟨c, r, rfl⟩ := List.exists_cons_of_ne_nil ht
        have e : numD (45 :: c :: r) = numB true (c :: r) := by
          have hm : mns (45 :: c :: r) = true := by simp [mns]
          unfold numD; rw [hm]; rfl
        rw [e]; exact rnum_minus c r w (by simp at hl ⊢; omega)
      · have e : numD (b :: t) = numB false (b :: t) := by
          have hm : mns (b :: t) = false := by simp [mns, hb]
          unfold numD; rw [hm]; rfl
        rw [e]; exact rnum_more b t ht hb w hl
end Go.Proofs.YtlpjegclpilaaaaGreatDoor
