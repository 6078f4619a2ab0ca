/- The package of paths: may there be such a name? And a copy of a text. -/
import Derived.Test.YtgoecdmnefjdnaaDoorPaA
import Derived.Test.YtgoecdmnefjdnaaDoorPaMath
import Derived.Test.YtgoecdmnefjdnaaDoorShelf
namespace Go.Proofs.YtgoecdmnefjdnaaDoor
open Go.RowKit
set_option linter.unusedVariables false
set_option maxRecDepth 100000
theorem clone_any (l : List UInt8) (w : World) (hl : l.length ≤ 281474976710656) : Calls Tryd.prog 25 #[.string (ba l)] w fun e w' => e = .returned (.string (ba l)) ∧ New w w' := by
  have c := Tryd.stringslite_Clone (ba l) w (by rw [ba_size]; exact hl)
  go_enter Tryd.func25, Tryd.ntmps25
  go_wp2_with fail
  refine c.mono ?_
  rintro e w1 ⟨rfl, n1⟩
  go_wp2
  go_ret
  exact ⟨rfl, n1⟩
theorem okB_int (b : UInt8) : okB b = ((decide (97 ≤ (b.toNat : Int)) && decide ((b.toNat : Int) ≤ 122)) || (decide (48 ≤ (b.toNat : Int)) && decide ((b.toNat : Int) ≤ 57)) || decide ((b.toNat : Int) = 46) || decide ((b.toNat : Int) = 95) || decide ((b.toNat : Int) = 45)) := by
  unfold okB
  have e : ∀ m : Nat, decide ((b.toNat : Int) = (m : Int)) = decide (b.toNat = m) := fun m => by rw [decide_eq_decide]; omega
  have e1 : ∀ m : Nat, decide ((b.toNat : Int) ≤ (m : Int)) = decide (b.toNat ≤ m) := fun m => by rw [decide_eq_decide]; omega
  have e2 : ∀ m : Nat, decide ((m : Int) ≤ (b.toNat : Int)) = decide (m ≤ b.toNat) := fun m => by rw [decide_eq_decide]; omega
  rw [← e 46, ← e 95, ← e 45, ← e1 122, ← e1 57, ← e2 97, ← e2 48]; rfl
theorem isname_any (b : UInt8) (w : World) : Calls Tryd.prog 33 #[.int .u8 (b.toNat : Int)] w fun e w' => e = .returned (.bool (okB b)) ∧ w' = w := by
  rw [okB_int]
  have hb : b.toNat < 256 := b.toNat_lt
  generalize b.toNat = n at *
  by_cases h1 : (n : Int) = 46
  · go_enter Tryd.func33, Tryd.ntmps33
    go_wp2
    go_ret
    exact ⟨ret_bool (by simp [h1]), rfl⟩
  · by_cases h2 : (n : Int) = 95
    · go_enter Tryd.func33, Tryd.ntmps33
      go_wp2
      go_ret
      exact ⟨ret_bool (by simp [h2]), rfl⟩
    · by_cases h3 : (n : Int) = 45
      · go_enter Tryd.func33, Tryd.ntmps33
        go_wp2
        go_ret
        exact ⟨ret_bool (by simp [h3]), rfl⟩
      · have d1 : decide ((n : Int) = 46) = false := decide_eq_false h1
        have d2 : decide ((n : Int) = 95) = false := decide_eq_false h2
        have d3 : decide ((n : Int) = 45) = false := decide_eq_false h3
        rw [d1, d2, d3, Bool.or_false, Bool.or_false, Bool.or_false]
        by_cases c1 : (97 : Int) ≤ n <;> by_cases c2 : (n : Int) ≤ 122 <;> by_cases c3 : (48 : Int) ≤ n <;> by_cases c4 : (n : Int) ≤ 57 <;> (try (exfalso; omega)) <;> (
          simp only [c1, c2, c3, c4, decide_true, decide_false, Bool.and_true, Bool.and_false, Bool.or_true, Bool.or_false]
          go_enter Tryd.func33, Tryd.ntmps33
          go_wp2
          go_ret
          exact ⟨rfl, rfl⟩)
theorem er0 : erN 0 = .nilIface := rfl
theorem ret_v {a b : Value} (h : a = b) : Ending.returned a = .returned b := by rw [h]
theorem pcheck_any (l : List UInt8) (w : World) (hl : l.length ≤ maxLen) : Calls Tryd.prog 22 #[.string (ba l)] w fun e w' => e = .returned (erN (ckN l)) ∧ New w w' := by
  have sL := ba_size l
  unfold maxLen at hl
  by_cases h0 : l = []
  · subst h0
    have e1 : ((ba []).toList == []) = true := by rw [ba_list]; rfl
    have e2 : (ba []).toList.isEmpty = true := by rw [ba_list]; rfl
    have e3 : erN (ckN []) = .iface 50 (.int .i64 2) := rfl
    rw [e3]
    go_enter Tryd.func22, Tryd.ntmps22
    go_wp2
    go_ret
    exact ⟨rfl, New.refl _⟩
  · have e1 : ((ba l).toList == []) = false := by rw [ba_list]; exact beq_eq_false_iff_ne.2 h0
    have e2 : (ba l).toList.isEmpty = false := by rw [ba_list]; cases l with | nil => exact absurd rfl h0 | cons _ _ => rfl
    by_cases h1 : 16 < l.length
    · have h1' : (16 : Int) < (l.length : Int) := by omega
      have e3 : erN (ckN l) = .iface 50 (.int .i64 36) := by unfold ckN; rw [if_neg h0, if_pos h1]; rfl
      rw [e3]
      go_enter Tryd.func22, Tryd.ntmps22
      go_wp2
      go_ret
      exact ⟨rfl, New.refl _⟩
    · have h1' : ¬ (16 : Int) < (l.length : Int) := by omega
      have e3 : ckN l = if l.all okB = true then 0 else 22 := by unfold ckN; rw [if_neg h0, if_neg h1]
      have hl16 : l.length ≤ 16 := by omega
      go_enter Tryd.func22, Tryd.ntmps22
      go_wp2_with fail
      go_loopg [13] l.length (fun k s13 wr => ∃ j : Nat, j + k = l.length ∧ s13 = .int .i64 (j : Int) ∧ wr = w ∧ (l.take j).all okB = true)
      case atStart => exact ⟨0, by omega, rfl, rfl, by simp⟩
      case round =>
        obtain ⟨j, hj, rfl, rfl, hA⟩ := hrel
        have HJ := Lib.hid hj
        by_cases hlt : j < l.length
        · obtain ⟨b, hb⟩ : ∃ b, l[j]? = some b := ⟨_, List.getElem?_eq_getElem hlt⟩
          have hix := fun W => idx_ba (P := Tryd.prog) Tryd.underlying9 l j b hb W
          have cN := fun W => isname_any b W
          have hlt' : (j : Int) < (l.length : Int) := by omega
          have hj9 : j ≤ 16 := by omega
          have htk : l.take (j + 1) = l.take j ++ [b] := by rw [List.take_add_one, hb]; rfl
          cases ho : okB b with
          | true =>
            rw [ho] at cN
            have HT := Lib.hid (show (l.take (j + 1)).all okB = true by rw [htk, List.all_append, hA]; simp [ho])
            clear hj htk hA hb ho e3 h1 hl16
            go_wp2_with fail
            refine (cN _).mono ?_
            rintro e w2 ⟨rfl, rfl⟩
            go_wp2_with fail
            go_roundg (l.length - (j + 1))
            case measure => have := HJ.out; omega
            case rel => exact ⟨j + 1, by have := HJ.out; omega, rfl, rfl, HT.out⟩
          | false =>
            rw [ho] at cN
            have e4 : erN (ckN l) = .iface 50 (.int .i64 22) := by
              have : ¬ l.all okB = true := fun h => by
                have := List.all_eq_true.1 h b (List.mem_of_getElem? hb)
                rw [ho] at this; cases this
              rw [e3, if_neg this]; rfl
            have E4 := Lib.hid e4
            clear hj htk hA hb ho e3 h1 hl16 e4
            go_wp2_with fail
            refine (cN _).mono ?_
            rintro e w2 ⟨rfl, rfl⟩
            go_wp2
            go_ret
            exact ⟨ret_v E4.out.symm, New.refl _⟩
        · have hge : ¬ (j : Int) < (l.length : Int) := by omega
          rw [List.take_of_length_le (by omega)] at hA
          have E4 := Lib.hid (show erN (ckN l) = .nilIface by rw [e3, if_pos hA, er0])
          clear hA e3 hj h1
          go_wp2
          go_ret
          exact ⟨ret_v E4.out.symm, New.refl _⟩
end Go.Proofs.YtgoecdmnefjdnaaDoor
