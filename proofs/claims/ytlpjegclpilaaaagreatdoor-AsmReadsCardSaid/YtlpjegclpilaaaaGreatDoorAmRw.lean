/- The document's words of a line. -/
import Derived.Test.YtlpjegclpilaaaaGreatDoorAmD
import Derived.Deep.LoopGhost
namespace Go.Proofs.YtlpjegclpilaaaaGreatDoor
open Go.RowKit
set_option linter.unusedVariables false
theorem byte_slice (l : List UInt8) (j : Nat) (b : UInt8) (hb : l[j]? = some b) (W : World) : (Instr.slice 9 (.string (ba l)) (some (.int .i64 (j : Int))) (some (.int .i64 ((j : Int) + 1))) none).run Tryz.prog W = .ok (.string (ba [b])) W := by
  have hlt := (List.getElem?_eq_some_iff.1 hb).1
  have e := run_slice_string (P := Tryz.prog) W 9 (ba l) .i64 .i64 (j : Int) ((j : Int) + 1) Tryz.underlying9 (by omega) (by omega) (by rw [ba_size]; omega)
  rw [e]
  have h : ((ba l).extract ((j : Int)).toNat ((j : Int) + 1).toNat).data.toList = [b] := by
    rw [Lib.extract_data, ba_data, show ((j : Int) + 1).toNat = j + 1 by omega, Int.toNat_natCast]
    rw [List.drop_eq_getElem_cons hlt, show j + 1 - j = 1 by omega, List.take_succ_cons, List.take_zero, (List.getElem?_eq_some_iff.1 hb).2]
  have key : (ba l).extract ((j : Int)).toNat ((j : Int) + 1).toNat = ba [b] := (ba_of _).symm.trans (congrArg ba h)
  rw [key]
theorem ba_isnil (l : List UInt8) : ((ba l).toList == []) = decide (l = []) := by
  rw [ba_list]; cases l <;> simp
set_option maxHeartbeats 4000000 in
set_option maxRecDepth 100000 in
theorem rwords_any (l : List UInt8) (w : World) (hl : l.length ≤ 100000) : Calls Tryz.prog 29 #[.string (ba l)] w fun e w' => ∃ v, e = .returned v ∧ OwnS w.heap.size w' v (wrds l) ∧ New w w' := by
  obtain ⟨i0, hi, hz0, hz1, hz2⟩ := info_parts str_info
  have sL := ba_size l
  go_enter Tryz.func29, Tryz.ntmps29
  go_wp2_with fail
  go_loopg [3, 4, 5] (l.length + 1) (fun k s3 s4 s5 wr => ∃ (j : Nat) (cur : List UInt8) (out : List (List UInt8)), j + k = l.length + 1 ∧ s5 = .int .i64 (j : Int) ∧ s4 = .string (ba cur) ∧ OwnS w.heap.size wr s3 out ∧ wrds l = out ++ wrdGo cur (l.drop j) ∧ (j = l.length + 1 → cur = []) ∧ out.length ≤ j ∧ cur.length ≤ j ∧ New w wr)
  case atStart => exact ⟨0, [], [], by omega, rfl, rfl, OwnS.nil _ _, rfl, fun _ => rfl, by simp, by simp, New.refl _⟩
  case round =>
    obtain ⟨j, cur, out, hj, rfl, rfl, hown, hw, hce, hol, hcl, hnx⟩ := hrel
    have HJ := Lib.hid hj
    by_cases hlt : j < l.length
    · obtain ⟨b, hb⟩ : ∃ b, l[j]? = some b := ⟨_, List.getElem?_eq_getElem hlt⟩
      have hdr : l.drop j = b :: l.drop (j + 1) := by
        rw [List.drop_eq_getElem_cons hlt]; congr 1; exact (List.getElem?_eq_some_iff.1 hb).2
      rw [hdr] at hw
      have hix := fun W => idx_ba (P := Tryz.prog) Tryz.underlying9 l j b hb W
      have hlt' : (j : Int) < (l.length : Int) := by omega
      have hle' : (j : Int) ≤ (l.length : Int) := by omega
      clear hj hce
      cases hbk : blk b with
      | true =>
        rcases (blk_iff b).1 hbk with h32 | h9
        · rw [h32] at hix
          rw [show (((32 : Nat)) : Int) = 32 from rfl] at hix
          clear hdr hb h32
          by_cases hc0 : cur = []
          · subst hc0
            have e1 : ((ba []).toList == []) = true := by rw [ba_list]; rfl
            have e2 : (ba []).toList.isEmpty = true := by rw [ba_list]; rfl
            rw [wrdGo, if_pos hbk, if_pos rfl] at hw
            clear hi hz0 hz1 hz2
            go_wp2_with fail
            go_roundg (l.length + 1 - (j + 1))
            case measure => have := HJ.out; omega
            case rel => exact ⟨j + 1, [], out, by have := HJ.out; omega, rfl, rfl, hown, hw, fun _ => rfl, by omega, by simp, hnx⟩
          · have e1 : ((ba cur).toList == []) = false := by rw [ba_list]; exact beq_eq_false_iff_ne.2 hc0
            have e2 : (ba cur).toList.isEmpty = false := by rw [ba_list]; cases cur with | nil => exact absurd rfl hc0 | cons _ _ => rfl
            rw [wrdGo, if_pos hbk, if_neg hc0] at hw
            go_wp2_with (at_builtin; refine wpList_append_own _ rfl _ _ 53 rfl w.heap.size 9 i0 (.string ⟨#[]⟩) 1 16 Tryz.underlying53 hi hz0 hz1 hz2 rfl (by decide) _ _ _ rfl (World.ownsRow.alloc hown _) ⟨wr.heap.size, 0, none⟩ 1 1 [.string (ba cur)] rfl rfl ?c1 ?c2 ?c3 ?c4 ?c5 ?_)
            try case c1 => intro i u hu; rcases i with _ | i <;> simp at hu; subst hu; exact (World.cell?_alloc_at _ _ _ _ rfl).trans rfl
            case c2 => first | rfl | (intro u hu; simp at hu; subst hu; rfl)
            case c3 => unfold maxLen; omega
            case c4 => omega
            case c5 => have := hnx.size; simp; omega
            intro v' w1 hown' hgrow _
            obtain ⟨o6, n6⟩ := OwnS.push hnx (Nat.le_refl _) hown hown' hgrow
            clear hown' hgrow
            go_wp2_with fail
            go_roundg (l.length + 1 - (j + 1))
            case measure => have := HJ.out; omega
            case rel => exact ⟨j + 1, [], out ++ [cur], by have := HJ.out; omega, rfl, rfl, o6, by rw [List.append_assoc]; exact hw, fun _ => rfl, by simp; omega, by simp, n6⟩
        · rw [h9] at hix
          rw [show (((9 : Nat)) : Int) = 9 from rfl] at hix
          clear hdr hb h9
          by_cases hc0 : cur = []
          · subst hc0
            have e1 : ((ba []).toList == []) = true := by rw [ba_list]; rfl
            have e2 : (ba []).toList.isEmpty = true := by rw [ba_list]; rfl
            rw [wrdGo, if_pos hbk, if_pos rfl] at hw
            clear hi hz0 hz1 hz2
            go_wp2_with fail
            go_roundg (l.length + 1 - (j + 1))
            case measure => have := HJ.out; omega
            case rel => exact ⟨j + 1, [], out, by have := HJ.out; omega, rfl, rfl, hown, hw, fun _ => rfl, by omega, by simp, hnx⟩
          · have e1 : ((ba cur).toList == []) = false := by rw [ba_list]; exact beq_eq_false_iff_ne.2 hc0
            have e2 : (ba cur).toList.isEmpty = false := by rw [ba_list]; cases cur with | nil => exact absurd rfl hc0 | cons _ _ => rfl
            rw [wrdGo, if_pos hbk, if_neg hc0] at hw
            go_wp2_with (at_builtin; refine wpList_append_own _ rfl _ _ 53 rfl w.heap.size 9 i0 (.string ⟨#[]⟩) 1 16 Tryz.underlying53 hi hz0 hz1 hz2 rfl (by decide) _ _ _ rfl (World.ownsRow.alloc hown _) ⟨wr.heap.size, 0, none⟩ 1 1 [.string (ba cur)] rfl rfl ?c1 ?c2 ?c3 ?c4 ?c5 ?_)
            try case c1 => intro i u hu; rcases i with _ | i <;> simp at hu; subst hu; exact (World.cell?_alloc_at _ _ _ _ rfl).trans rfl
            case c2 => first | rfl | (intro u hu; simp at hu; subst hu; rfl)
            case c3 => unfold maxLen; omega
            case c4 => omega
            case c5 => have := hnx.size; simp; omega
            intro v' w1 hown' hgrow _
            obtain ⟨o6, n6⟩ := OwnS.push hnx (Nat.le_refl _) hown hown' hgrow
            clear hown' hgrow
            go_wp2_with fail
            go_roundg (l.length + 1 - (j + 1))
            case measure => have := HJ.out; omega
            case rel => exact ⟨j + 1, [], out ++ [cur], by have := HJ.out; omega, rfl, rfl, o6, by rw [List.append_assoc]; exact hw, fun _ => rfl, by simp; omega, by simp, n6⟩
      | false =>
        obtain ⟨n1, n2⟩ := blk_no hbk
        have n1 : ((b.toNat : Int) != 32) = true := by simp; omega
        have n2 : ((b.toNat : Int) != 9) = true := by simp; omega
        have hsl := fun W => byte_slice l j b hb W
        rw [wrdGo, if_neg (by rw [hbk]; simp)] at hw
        have e1 : ba cur ++ ba [b] = ba (cur ++ [b]) := (ba_app _ _).symm
        have q1 : ¬ 9223372036854775807 < (ba cur).size + (ba [b]).size := by rw [ba_size, ba_size]; simp; omega
        clear hdr hb hi hz0 hz1 hz2
        go_wp2_with fail
        go_roundg (l.length + 1 - (j + 1))
        case measure => have := HJ.out; omega
        case rel => exact ⟨j + 1, cur ++ [b], out, by have := HJ.out; omega, rfl, by first | rfl | rw [e1], hown, hw, fun h => by omega, by omega, by simp; omega, hnx⟩
    · by_cases heq : j = l.length
      · have hsub := heq
        clear heq
        have hge : decide ((j : Int) < (l.length : Int)) = false := by simp; omega
        have hge2 : ¬ (j : Int) < (l.length : Int) := by omega
        have hle' : (j : Int) ≤ (l.length : Int) := by omega
        have hd0 : l.drop j = [] := List.drop_eq_nil_of_le (by omega)
        have hd1 : l.drop (j + 1) = [] := List.drop_eq_nil_of_le (by omega)
        have hw0 : wrds l = out ++ (if cur = [] then [] else [cur]) := by rw [hw, hd0, wrdGo]
        have hwn : wrdGo [] (l.drop (j + 1)) = [] := by rw [hd1, wrdGo, if_pos rfl]
        have HS := Lib.hid hsub
        clear hw hd0 hd1 hj hce hsub hlt
        by_cases hc0 : cur = []
        · subst hc0
          have e1 : ((ba []).toList == []) = true := by rw [ba_list]; rfl
          have e2 : (ba []).toList.isEmpty = true := by rw [ba_list]; rfl
          rw [if_pos rfl] at hw0
          clear hi hz0 hz1 hz2
          go_wp2_with fail
          go_roundg (l.length + 1 - (j + 1))
          case measure => have := HJ.out; omega
          case rel => exact ⟨j + 1, [], out, by have := HJ.out; omega, rfl, rfl, hown, by rw [hwn, hw0], fun _ => rfl, by omega, by simp, hnx⟩
        · have e1 : ((ba cur).toList == []) = false := by rw [ba_list]; exact beq_eq_false_iff_ne.2 hc0
          have e2 : (ba cur).toList.isEmpty = false := by rw [ba_list]; cases cur with | nil => exact absurd rfl hc0 | cons _ _ => rfl
          rw [if_neg hc0] at hw0
          go_wp2_with (at_builtin; refine wpList_append_own _ rfl _ _ 53 rfl w.heap.size 9 i0 (.string ⟨#[]⟩) 1 16 Tryz.underlying53 hi hz0 hz1 hz2 rfl (by decide) _ _ _ rfl (World.ownsRow.alloc hown _) ⟨wr.heap.size, 0, none⟩ 1 1 [.string (ba cur)] rfl rfl ?c1 ?c2 ?c3 ?c4 ?c5 ?_)
          try case c1 => intro i u hu; rcases i with _ | i <;> simp at hu; subst hu; exact (World.cell?_alloc_at _ _ _ _ rfl).trans rfl
          case c2 => first | rfl | (intro u hu; simp at hu; subst hu; rfl)
          case c3 => unfold maxLen; omega
          case c4 => omega
          case c5 => have := hnx.size; simp; omega
          intro v' w1 hown' hgrow _
          obtain ⟨o6, n6⟩ := OwnS.push hnx (Nat.le_refl _) hown hown' hgrow
          clear hown' hgrow
          go_wp2_with fail
          go_roundg (l.length + 1 - (j + 1))
          case measure => have := HJ.out; omega
          case rel => exact ⟨j + 1, [], out ++ [cur], by have := HJ.out; omega, rfl, rfl, o6, by rw [hwn, hw0, List.append_nil], fun _ => rfl, by simp; omega, by simp, n6⟩
      · have hj1 : j = l.length + 1 := by have := HJ.out; omega
        have hc0 := hce hj1
        subst hc0
        have hd0 : l.drop j = [] := List.drop_eq_nil_of_le (by omega)
        rw [hd0, wrdGo, if_pos rfl, List.append_nil] at hw
        have hgt : ¬ (j : Int) ≤ (l.length : Int) := by omega
        clear hi hz0 hz1 hz2 hd0 hce
        go_wp2
        go_ret
        exact ⟨_, rfl, by first | exact hown | (rw [hw]; exact hown), hnx⟩
end Go.Proofs.YtlpjegclpilaaaaGreatDoor
