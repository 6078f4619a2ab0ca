/- The document's paths: Check, checked. -/
import Derived.Test.YtmaocaddoohfmaaDoorPaC
namespace Go.Proofs.YtmaocaddoohfmaaDoor
open Go.RowKit
set_option linter.unusedVariables false
set_option maxRecDepth 100000
theorem rcheck_any (l : List UInt8) (w : World) (hl : l.length ≤ maxLen) : Calls Tryd.prog 14 #[.string (ba l)] w fun e w' => e = .returned (.int .i64 (ckN l)) ∧ w' = w := by
  have sL := ba_size l
  unfold maxLen at hl
  by_cases h0 : l = []
  · subst h0
    have e1 : ((ba []).toList == []) = true := by rw [ba_list]; rfl
    have e2 : (ba []).toList.isEmpty = true := by rw [ba_list]; rfl
    go_enter Tryd.func14, Tryd.ntmps14
    go_wp2
    go_ret
    exact ⟨rfl, rfl⟩
  · have e1 : ((ba l).toList == []) = false := by rw [ba_list]; exact beq_eq_false_iff_ne.2 h0
    have e2 : (ba l).toList.isEmpty = false := by rw [ba_list]; cases l with | nil => exact absurd rfl h0 | cons _ _ => rfl
    by_cases h1 : 16 < l.length
    · have h1' : (16 : Int) < (l.length : Int) := by omega
      have E3 := Lib.hid (show ckN l = 36 by unfold ckN; rw [if_neg h0, if_pos h1])
      go_enter Tryd.func14, Tryd.ntmps14
      go_wp2
      go_ret
      exact ⟨ret_int E3.out.symm, rfl⟩
    · have h1' : ¬ (16 : Int) < (l.length : Int) := by omega
      have e3 : ckN l = if l.all okB = true then 0 else 22 := by unfold ckN; rw [if_neg h0, if_neg h1]
      have hl16 : l.length ≤ 16 := by omega
      go_enter Tryd.func14, Tryd.ntmps14
      go_wp2_with fail
      go_loopg [3] l.length (fun k s3 wr => ∃ j : Nat, j + k = l.length ∧ s3 = .int .i64 (j : Int) ∧ wr = w ∧ (l.take j).all okB = true)
      case atStart => exact ⟨0, by omega, rfl, rfl, by simp⟩
      case round =>
        obtain ⟨j, hj, rfl, rfl, hA⟩ := hrel
        have HJ := Lib.hid hj
        by_cases hlt : j < l.length
        · obtain ⟨b, hb⟩ : ∃ b, l[j]? = some b := ⟨_, List.getElem?_eq_getElem hlt⟩
          have hix := fun W => idx_ba (P := Tryd.prog) Tryd.underlying9 l j b hb W
          have hlt' : (j : Int) < (l.length : Int) := by omega
          have hj9 : j ≤ 16 := by omega
          have htk : l.take (j + 1) = l.take j ++ [b] := by rw [List.take_add_one, hb]; rfl
          have ho2 := okB_int b
          have hbl : b.toNat < 256 := b.toNat_lt
          cases ho : okB b with
          | true =>
            have HT := Lib.hid (show (l.take (j + 1)).all okB = true by rw [htk, List.all_append, hA]; simp [ho])
            rw [ho] at ho2
            clear hj htk hA hb ho e3 h1 hl16
            generalize b.toNat = n at *
            by_cases d1 : (n : Int) = 46
            · have d1' : ¬ (97 : Int) ≤ (n : Int) := by omega
              have d2' : (48 : Int) ≤ (n : Int) ↔ False := ⟨fun h => by omega, fun h => h.elim⟩
              have d3' : ¬ (48 : Int) ≤ (n : Int) := by omega
              clear ho2 d2'
              go_wp2_with fail
              go_roundg (l.length - (j + 1))
              case measure => have := HJ.out; omega
              case rel => exact ⟨j + 1, by have := HJ.out; omega, rfl, rfl, HT.out⟩
            · by_cases d2 : (n : Int) = 95
              · have d1' : ¬ (97 : Int) ≤ (n : Int) := by omega
                have d3' : (48 : Int) ≤ (n : Int) := by omega
                have d4' : ¬ (n : Int) ≤ 57 := by omega
                clear ho2
                go_wp2_with fail
                go_roundg (l.length - (j + 1))
                case measure => have := HJ.out; omega
                case rel => exact ⟨j + 1, by have := HJ.out; omega, rfl, rfl, HT.out⟩
              · by_cases d3 : (n : Int) = 45
                · have d1' : ¬ (97 : Int) ≤ (n : Int) := by omega
                  have d3' : ¬ (48 : Int) ≤ (n : Int) := by omega
                  clear ho2
                  go_wp2_with fail
                  go_roundg (l.length - (j + 1))
                  case measure => have := HJ.out; omega
                  case rel => exact ⟨j + 1, by have := HJ.out; omega, rfl, rfl, HT.out⟩
                · have g1 : decide ((n : Int) = 46) = false := decide_eq_false d1
                  have g2 : decide ((n : Int) = 95) = false := decide_eq_false d2
                  have g3 : decide ((n : Int) = 45) = false := decide_eq_false d3
                  rw [g1, g2, g3, Bool.or_false, Bool.or_false, Bool.or_false] at ho2
                  by_cases c1 : (97 : Int) ≤ n
                  · have c2 : (n : Int) ≤ 122 := by
                      have c4 : ¬ (n : Int) ≤ 57 := by omega
                      by_cases c2 : (n : Int) ≤ 122
                      · exact c2
                      · simp [c2, c4] at ho2
                    clear ho2
                    go_wp2_with fail
                    go_roundg (l.length - (j + 1))
                    case measure => have := HJ.out; omega
                    case rel => exact ⟨j + 1, by have := HJ.out; omega, rfl, rfl, HT.out⟩
                  · have c34 : (48 : Int) ≤ n ∧ (n : Int) ≤ 57 := by simpa [c1] using ho2
                    have c3 := c34.1
                    have c4 := c34.2
                    clear ho2 c34
                    go_wp2_with fail
                    go_roundg (l.length - (j + 1))
                    case measure => have := HJ.out; omega
                    case rel => exact ⟨j + 1, by have := HJ.out; omega, rfl, rfl, HT.out⟩
          | false =>
            have E4 := Lib.hid (show ckN l = 22 by
              have : ¬ l.all okB = true := fun h => by
                have := List.all_eq_true.1 h b (List.mem_of_getElem? hb)
                rw [ho] at this; cases this
              rw [e3, if_neg this])
            rw [ho] at ho2
            clear hj htk hA hb ho e3 h1 hl16
            generalize b.toNat = n at *
            have d1 : ¬ (n : Int) = 46 := fun e => by simp [e] at ho2
            have d2 : ¬ (n : Int) = 95 := fun e => by simp [e] at ho2
            have d3 : ¬ (n : Int) = 45 := fun e => by simp [e] at ho2
            have q1 : ((n : Int) == 46) = false := beq_eq_false_iff_ne.2 d1
            have q2 : ((n : Int) == 95) = false := beq_eq_false_iff_ne.2 d2
            have q3 : ((n : Int) == 45) = false := beq_eq_false_iff_ne.2 d3
            by_cases c1 : (97 : Int) ≤ n
            · have c2 : ¬ (n : Int) ≤ 122 := fun c2 => by simp [c1, c2] at ho2
              have c3 : (48 : Int) ≤ n := by omega
              have c4 : ¬ (n : Int) ≤ 57 := by omega
              clear ho2
              go_wp2
              go_ret
              exact ⟨ret_int E4.out.symm, rfl⟩
            · by_cases c3 : (48 : Int) ≤ n
              · have c4 : ¬ (n : Int) ≤ 57 := fun c4 => by simp [c3, c4] at ho2
                clear ho2
                go_wp2
                go_ret
                exact ⟨ret_int E4.out.symm, rfl⟩
              · clear ho2
                go_wp2
                go_ret
                exact ⟨ret_int E4.out.symm, rfl⟩
        · have hge : ¬ (j : Int) < (l.length : Int) := by omega
          rw [List.take_of_length_le (by omega)] at hA
          have E4 := Lib.hid (show ckN l = 0 by rw [e3, if_pos hA])
          clear hA e3 hj h1
          go_wp2
          go_ret
          exact ⟨ret_int E4.out.symm, rfl⟩
theorem rall_any (ls : List (List UInt8)) (v : Value) (w : World) (h : TxR w v ls) (hs : ∀ x ∈ ls, x.length ≤ maxLen) : Calls Tryd.prog 21 #[v] w fun e w' => e = .returned (.int .i64 (ckA ls)) ∧ w' = w := by
  obtain ⟨p, cap, rfl, h1, h0, hc⟩ := h
  by_cases h8 : 8 < ls.length
  · have h8' : (8 : Int) < (ls.length : Int) := by omega
    have E3 := Lib.hid (show ckA ls = 90 by unfold ckA; rw [if_pos h8])
    go_enter Tryd.func21, Tryd.ntmps21
    go_wp2
    go_ret
    exact ⟨ret_int E3.out.symm, rfl⟩
  · have h8' : ¬ (8 : Int) < (ls.length : Int) := by omega
    have e3 : ckA ls = ckL ls := by unfold ckA; rw [if_neg h8]
    rw [e3]
    have hl8 : ls.length ≤ 8 := by omega
    go_enter Tryd.func21, Tryd.ntmps21
    go_wp2_with fail
    go_loopg [3] ls.length (fun k s3 wr => ∃ j : Nat, j + k = ls.length ∧ s3 = .int .i64 (j : Int) ∧ wr = w ∧ ckL (ls.take j) = 0)
    case atStart => exact ⟨0, by omega, rfl, rfl, rfl⟩
    case round =>
      obtain ⟨j, hj, rfl, rfl, hA⟩ := hrel
      have HJ := Lib.hid hj
      by_cases hlt : j < ls.length
      · obtain ⟨x, hx⟩ : ∃ x, ls[j]? = some x := ⟨_, List.getElem?_eq_getElem hlt⟩
        obtain ⟨a, rfl, cx⟩ := hc j x hx
        have cK := fun W => rcheck_any x W (hs x (List.mem_of_getElem? hx))
        have hlt' : (j : Int) < (ls.length : Int) := by omega
        have hj9 : j ≤ 8 := by omega
        have htk : ls.take (j + 1) = ls.take j ++ [x] := by rw [List.take_add_one, hx]; rfl
        by_cases hk : ckN x = 0
        · rw [hk] at cK
          have HT := Lib.hid (show ckL (ls.take (j + 1)) = 0 by rw [htk, ckL_app _ _ hA]; simp [ckL, hk])
          clear hj htk hA hx hk e3 hc hs h8
          go_wp2_with fail
          refine (cK _).mono ?_
          rintro e w2 ⟨rfl, rfl⟩
          clear cK
          go_wp2_with fail
          go_roundg (ls.length - (j + 1))
          case measure => have := HJ.out; omega
          case rel => exact ⟨j + 1, by have := HJ.out; omega, rfl, rfl, HT.out⟩
        · have e4 : ckL ls = ckN x := by
            have hne : ckL (ls.take (j + 1)) = ckN x := by rw [htk, ckL_app _ _ hA]; simp [ckL, hk]
            have := ckL_app_bad (ls.take (j + 1)) (ls.drop (j + 1)) (by rw [hne]; exact hk)
            rw [List.take_append_drop, hne] at this; exact this
          have E4 := Lib.hid e4
          have hk2 : ((ckN x) != 0) = true := by simp [hk]
          generalize ckN x = c at *
          clear hj htk hA hx e3 hc hs h8 e4
          go_wp2_with fail
          refine (cK _).mono ?_
          rintro e w2 ⟨rfl, rfl⟩
          clear cK cx
          go_wp2
          go_ret
          exact ⟨ret_int E4.out.symm, rfl⟩
      · have hge : ¬ (j : Int) < (ls.length : Int) := by omega
        rw [List.take_of_length_le (by omega)] at hA
        have E4 := Lib.hid hA
        clear hA e3 hj h8 hc
        go_wp2
        go_ret
        exact ⟨ret_int E4.out.symm, rfl⟩
end Go.Proofs.YtmaocaddoohfmaaDoor
