/- The package of paths: Check, names, Split, Join, Last. -/
import Derived.Test.YtmaocaddoohfmaaDoorPaB
namespace Go.Proofs.YtmaocaddoohfmaaDoor
open Go.RowKit
set_option linter.unusedVariables false
set_option maxRecDepth 100000
theorem er0 : erN 0 = .nilIface := rfl
theorem ret_v {a b : Value} (h : a = b) : Ending.returned a = .returned b := by rw [h]
theorem pcheck_any (l : List UInt8) (w : World) (hl : l.length ≤ maxLen) : Calls Tryd.prog 13 #[.string (ba l)] w fun e w' => e = .returned (erN (ckN l)) ∧ New w w' := by
  have sL := ba_size l
  unfold maxLen at hl
  by_cases h0 : l = []
  · subst h0
    have e1 : ((ba []).toList == []) = true := by rw [ba_list]; rfl
    have e2 : (ba []).toList.isEmpty = true := by rw [ba_list]; rfl
    have e3 : erN (ckN []) = .iface 44 (.int .i64 2) := rfl
    rw [e3]
    go_enter Tryd.func13, Tryd.ntmps13
    go_wp2
    go_ret
    exact ⟨rfl, New.refl _⟩
  · have e1 : ((ba l).toList == []) = false := by rw [ba_list]; exact beq_eq_false_iff_ne.2 h0
    have e2 : (ba l).toList.isEmpty = false := by rw [ba_list]; cases l with | nil => exact absurd rfl h0 | cons _ _ => rfl
    by_cases h1 : 16 < l.length
    · have h1' : (16 : Int) < (l.length : Int) := by omega
      have e3 : erN (ckN l) = .iface 44 (.int .i64 36) := by unfold ckN; rw [if_neg h0, if_pos h1]; rfl
      rw [e3]
      go_enter Tryd.func13, Tryd.ntmps13
      go_wp2
      go_ret
      exact ⟨rfl, New.refl _⟩
    · have h1' : ¬ (16 : Int) < (l.length : Int) := by omega
      have e3 : ckN l = if l.all okB = true then 0 else 22 := by unfold ckN; rw [if_neg h0, if_neg h1]
      have hl16 : l.length ≤ 16 := by omega
      go_enter Tryd.func13, Tryd.ntmps13
      go_wp2_with fail
      go_loopg [13] l.length (fun k s13 wr => ∃ j : Nat, j + k = l.length ∧ s13 = .int .i64 (j : Int) ∧ wr = w ∧ (l.take j).all okB = true)
      case atStart => exact ⟨0, by omega, rfl, rfl, by simp⟩
      case round =>
        obtain ⟨j, hj, rfl, rfl, hA⟩ := hrel
        have HJ := Lib.hid hj
        by_cases hlt : j < l.length
        · obtain ⟨b, hb⟩ : ∃ b, l[j]? = some b := ⟨_, List.getElem?_eq_getElem hlt⟩
          have hix := fun W => idx_ba (P := Tryd.prog) Tryd.underlying9 l j b hb W
          have cN := fun W => isname_any b W
          have hlt' : (j : Int) < (l.length : Int) := by omega
          have hj9 : j ≤ 16 := by omega
          have htk : l.take (j + 1) = l.take j ++ [b] := by rw [List.take_add_one, hb]; rfl
          cases ho : okB b with
          | true =>
            rw [ho] at cN
            have HT := Lib.hid (show (l.take (j + 1)).all okB = true by rw [htk, List.all_append, hA]; simp [ho])
            clear hj htk hA hb ho e3 h1 hl16
            go_wp2_with fail
            refine (cN _).mono ?_
            rintro e w2 ⟨rfl, rfl⟩
            go_wp2_with fail
            go_roundg (l.length - (j + 1))
            case measure => have := HJ.out; omega
            case rel => exact ⟨j + 1, by have := HJ.out; omega, rfl, rfl, HT.out⟩
          | false =>
            rw [ho] at cN
            have e4 : erN (ckN l) = .iface 44 (.int .i64 22) := by
              have : ¬ l.all okB = true := fun h => by
                have := List.all_eq_true.1 h b (List.mem_of_getElem? hb)
                rw [ho] at this; cases this
              rw [e3, if_neg this]; rfl
            have E4 := Lib.hid e4
            clear hj htk hA hb ho e3 h1 hl16 e4
            go_wp2_with fail
            refine (cN _).mono ?_
            rintro e w2 ⟨rfl, rfl⟩
            go_wp2
            go_ret
            exact ⟨ret_v E4.out.symm, New.refl _⟩
        · have hge : ¬ (j : Int) < (l.length : Int) := by omega
          rw [List.take_of_length_le (by omega)] at hA
          have E4 := Lib.hid (show erN (ckN l) = .nilIface by rw [e3, if_pos hA, er0])
          clear hA e3 hj h1
          go_wp2
          go_ret
          exact ⟨ret_v E4.out.symm, New.refl _⟩
theorem pall_any (ls : List (List UInt8)) (v : Value) (w : World) (h : TxR w v ls) (hs : ∀ x ∈ ls, x.length ≤ maxLen) : Calls Tryd.prog 18 #[v] w fun e w' => e = .returned (erN (ckA ls)) ∧ New w w' := by
  obtain ⟨p, cap, rfl, h1, h0, hc⟩ := h
  by_cases h8 : 8 < ls.length
  · have h8' : (8 : Int) < (ls.length : Int) := by omega
    have e3 : erN (ckA ls) = .iface 44 (.int .i64 90) := by unfold ckA; rw [if_pos h8]; rfl
    rw [e3]
    go_enter Tryd.func18, Tryd.ntmps18
    go_wp2
    go_ret
    exact ⟨rfl, New.refl _⟩
  · have h8' : ¬ (8 : Int) < (ls.length : Int) := by omega
    have e3 : ckA ls = ckL ls := by unfold ckA; rw [if_neg h8]
    rw [e3]
    have hl8 : ls.length ≤ 8 := by omega
    go_enter Tryd.func18, Tryd.ntmps18
    go_wp2_with fail
    go_loopg [12] ls.length (fun k s12 wr => ∃ j : Nat, j + k = ls.length ∧ s12 = .int .i64 (j : Int) ∧ New w wr ∧ ckL (ls.take j) = 0)
    case atStart => exact ⟨0, by omega, rfl, New.refl _, rfl⟩
    case round =>
      obtain ⟨j, hj, rfl, hnx, hA⟩ := hrel
      have HJ := Lib.hid hj
      by_cases hlt : j < ls.length
      · obtain ⟨x, hx⟩ : ∃ x, ls[j]? = some x := ⟨_, List.getElem?_eq_getElem hlt⟩
        obtain ⟨a, rfl, cx⟩ := hc j x hx
        have cx := hnx.cellv cx
        have cK := fun W => pcheck_any x W (hs x (List.mem_of_getElem? hx))
        have hlt' : (j : Int) < (ls.length : Int) := by omega
        have hj9 : j ≤ 8 := by omega
        have htk : ls.take (j + 1) = ls.take j ++ [x] := by rw [List.take_add_one, hx]; rfl
        by_cases hk : ckN x = 0
        · rw [hk, er0] at cK
          have HT := Lib.hid (show ckL (ls.take (j + 1)) = 0 by rw [htk, ckL_app _ _ hA]; simp [ckL, hk])
          clear hj htk hA hx hk e3 hc hs h8
          go_wp2_with fail
          refine (cK _).mono ?_
          rintro e w2 ⟨rfl, n2⟩
          have n3 := hnx.trans n2
          clear cK cx
          go_wp2_with fail
          go_roundg (ls.length - (j + 1))
          case measure => have := HJ.out; omega
          case rel => exact ⟨j + 1, by have := HJ.out; omega, rfl, n3, HT.out⟩
        · have e4 : ckL ls = ckN x := by
            have hne : ckL (ls.take (j + 1)) = ckN x := by rw [htk, ckL_app _ _ hA]; simp [ckL, hk]
            have := ckL_app_bad (ls.take (j + 1)) (ls.drop (j + 1)) (by rw [hne]; exact hk)
            rw [List.take_append_drop, hne] at this; exact this
          have E4 := Lib.hid (show erN (ckL ls) = .iface 44 (.int .i64 (ckN x)) by rw [e4, erN_pos hk])
          rw [erN_pos hk] at cK
          clear hj htk hA hx hk e3 hc hs h8 e4
          go_wp2_with fail
          refine (cK _).mono ?_
          rintro e w2 ⟨rfl, n2⟩
          have n3 := hnx.trans n2
          clear cK cx
          go_wp2
          go_ret
          exact ⟨ret_v E4.out.symm, n3⟩
      · have hge : ¬ (j : Int) < (ls.length : Int) := by omega
        rw [List.take_of_length_le (by omega)] at hA
        have E4 := Lib.hid (show erN (ckL ls) = .nilIface by rw [hA, er0])
        clear hA e3 hj h8 hc
        go_wp2
        go_ret
        exact ⟨ret_v E4.out.symm, hnx⟩
set_option maxHeartbeats 1000000 in
theorem names_any (l : List UInt8) (w : World) (hl : l.length ≤ 100000000) (h : Mx w) : Calls Tryd.prog 17 #[.string (ba l)] w fun e w' => ∃ v, e = .returned v ∧ OwnS w.heap.size w' v ((segs l).take 9) ∧ New w w' := by
  obtain ⟨i0, hi, hz0, hz1, hz2⟩ := info_parts str_info
  go_enter Tryd.func17, Tryd.ntmps17
  go_wp2_with fail
  go_loopg [0, 3] l.length (fun k s0 s3 wr => ∃ (q : List UInt8) (out : List (List UInt8)), q.length ≤ k ∧ q.length ≤ 100000000 ∧ s0 = .string (ba q) ∧ OwnS w.heap.size wr s3 out ∧ segs l = out ++ segs q ∧ out.length ≤ 9 ∧ New w wr)
  case atStart => exact ⟨l, [], Nat.le_refl _, hl, rfl, OwnS.nil _ _, rfl, by simp, New.refl _⟩
  case round =>
    obtain ⟨q, out, hk, hq, rfl, hown, hs, ho, hnx⟩ := hrel
    have HK := Lib.hid hk
    by_cases h0 : q = []
    · subst h0
      have e1 : ((ba []).toList == []) = true := by rw [ba_list]; rfl
      have e2 : (ba []).toList.isEmpty = true := by rw [ba_list]; rfl
      rw [segs_nil, List.append_nil] at hs
      have HS := Lib.hid (show (segs l).take 9 = out by rw [hs, List.take_of_length_le ho])
      have hx := OwnS.txr hown
      obtain ⟨p, cap, rfl, hx1, hx0, -⟩ := hx
      clear hs hi hz0 hz1 hz2 hk
      go_wp2
      go_ret
      exact ⟨_, rfl, by rw [HS.out]; exact hown, hnx⟩
    · have e1 : ((ba q).toList == []) = false := by rw [ba_list]; exact beq_eq_false_iff_ne.2 h0
      have e2 : (ba q).toList.isEmpty = false := by rw [ba_list]; cases q with | nil => exact absurd rfl h0 | cons _ _ => rfl
      have hcl := cut_len q h0
      by_cases h8 : out.length ≤ 8
      · have h8' : (out.length : Int) ≤ 8 := by omega
        have cC := fun W (k : Mx W) => pcut_any q W (by omega) k
        have hsg := segs_cut q
        have hal : (cutA q).length ≤ q.length := (List.takeWhile_sublist _).length_le
        have cL := fun W => clone_any (cutA q) W (by omega)
        rw [hsg] at hs
        unfold hd1 at hs
        have hM := h.new hnx
        have hx := OwnS.txr hown
        generalize cutA q = X at *
        generalize cutB q = Y at *
        by_cases hX : X = []
        · subst hX
          have f1 : ((ba []).toList == []) = true := by rw [ba_list]; rfl
          have f2 : (ba []).toList.isEmpty = true := by rw [ba_list]; rfl
          rw [if_pos rfl, List.nil_append] at hs
          have HS := Lib.hid hs
          obtain ⟨p, cap, rfl, hx1, hx0, -⟩ := hx
          clear hsg hs hk hi hz0 hz1 hz2
          go_wp2_with fail
          refine (cC _ hM).mono ?_
          rintro e w2 ⟨b, rfl, n2⟩
          have n3 := hnx.trans n2
          have o3 := hown.new n2
          clear cC cL hown hnx
          go_wp2_with fail
          go_roundg Y.length
          case measure => have := HK.out; omega
          case rel => exact ⟨Y, out, Nat.le_refl _, by omega, rfl, o3, HS.out, ho, n3⟩
        · have f1 : ((ba X).toList == []) = false := by rw [ba_list]; exact beq_eq_false_iff_ne.2 hX
          have f2 : (ba X).toList.isEmpty = false := by rw [ba_list]; cases X with | nil => exact absurd rfl hX | cons _ _ => rfl
          rw [if_neg hX, ← List.append_assoc] at hs
          have HS := Lib.hid hs
          obtain ⟨p, cap, rfl, hx1, hx0, -⟩ := hx
          clear hsg hs hk
          go_wp2_with fail
          refine (cC _ hM).mono ?_
          rintro e w2 ⟨b, rfl, n2⟩
          have n3 := hnx.trans n2
          have o3 := hown.new n2
          clear cC hown hnx
          go_wp2_with fail
          refine (cL _).mono ?_
          rintro e w3 ⟨rfl, n4⟩
          have n5 := n3.trans n4
          have o5 := o3.new n4
          clear cL o3 n3
          go_wp2_with (at_builtin; refine wpList_append_own _ rfl _ _ 23 rfl w.heap.size 9 i0 (.string ⟨#[]⟩) 1 16 Tryd.underlying23 hi hz0 hz1 hz2 rfl (by decide) _ _ _ rfl (World.ownsRow.alloc o5 _) ⟨w3.heap.size, 0, none⟩ 1 1 [.string (ba X)] rfl rfl ?c1 ?c2 ?c3 ?c4 ?c5 ?_)
          try case c1 => intro i u hu; rcases i with _ | i <;> simp at hu; subst hu; exact (World.cell?_alloc_at _ _ _ _ rfl).trans rfl
          case c2 => first | rfl | (intro u hu; simp at hu; subst hu; rfl)
          case c3 => unfold maxLen; omega
          case c4 => omega
          case c5 => have := n5.size; simp; omega
          intro v' w9 hown' hgrow _
          obtain ⟨o6, n6⟩ := OwnS.push n5 (Nat.le_refl _) o5 hown' hgrow
          clear hown' hgrow
          go_wp2_with fail
          go_roundg Y.length
          case measure => have := HK.out; omega
          case rel => exact ⟨Y, out ++ [X], Nat.le_refl _, by omega, rfl, o6, HS.out, by simp; omega, n6⟩
      · have h8' : ¬ (out.length : Int) ≤ 8 := by omega
        have h9 : out.length = 9 := by omega
        have HS := Lib.hid (show (segs l).take 9 = out by rw [hs, ← h9, List.take_left])
        have hx := OwnS.txr hown
        obtain ⟨p, cap, rfl, hx1, hx0, -⟩ := hx
        clear hs hi hz0 hz1 hz2 hk h9
        go_wp2
        go_ret
        exact ⟨_, rfl, by rw [HS.out]; exact hown, hnx⟩
/-- what Split answers -/
def spB (p : List UInt8) : Bool := if spE p = 0 then rootB p else false
def spL (p : List UInt8) : List (List UInt8) := if spE p = 0 then segs p else []
def SpA (p : List UInt8) (w : World) (x : Value → Value) (e : Ending) (w' : World) : Prop := ∃ v, e = .returned (.tuple #[v, .bool (spB p), x (.int .i64 (spE p))]) ∧ OwnS w.heap.size w' v (spL p) ∧ New w w'
/-- an error as the package has it -/
def erV (v : Value) : Value := match v with | .int .i64 c => erN c | _ => undef
theorem hasp (l : List UInt8) : Lib.hasPrefix l [47] = rootB l := by
  unfold Lib.hasPrefix rootB
  cases l with
  | nil => rfl
  | cons b t =>
    show ((47 : UInt8) == b && true) = (some b == some 47)
    rw [Bool.and_true]
    by_cases h : b = 47
    · subst h; rfl
    · have e1 : ((47 : UInt8) == b) = false := beq_eq_false_iff_ne.2 (fun e => h e.symm)
      have e2 : (some b == some (47 : UInt8)) = false := beq_eq_false_iff_ne.2 (fun e => h (Option.some.inj e))
      rw [e1, e2]
theorem psplit_any (l : List UInt8) (w : World) (hl : l.length ≤ 100000000) (h : Mx w) : Calls Tryd.prog 7 #[.string (ba l)] w (SpA l w erV) := by
  by_cases h0 : l = []
  · subst h0
    have e1 : ((ba []).toList == []) = true := by rw [ba_list]; rfl
    have e2 : (ba []).toList.isEmpty = true := by rw [ba_list]; rfl
    go_enter Tryd.func7, Tryd.ntmps7
    go_wp2
    exact bodyPost_ret (v := .tuple #[.slice none 0 0, .bool false, .iface 44 (.int .i64 2)]) (by simp [results, Tryd.results7, go_sem]) rfl ⟨_, rfl, OwnS.nil _ _, New.refl _⟩
  · have e1 : ((ba l).toList == []) = false := by rw [ba_list]; exact beq_eq_false_iff_ne.2 h0
    have e2 : (ba l).toList.isEmpty = false := by rw [ba_list]; cases l with | nil => exact absurd rfl h0 | cons _ _ => rfl
    have cN := names_any l w hl h
    have cA := fun v W k => pall_any ((segs l).take 9) v W k (fun x hx => by have := (segs_clean l x (List.mem_of_mem_take hx)).2.2; unfold maxLen; omega)
    rw [ckA_take] at cA
    have hE : spE l = ckA (segs l) := by unfold spE; rw [if_neg h0]
    by_cases hc : ckA (segs l) = 0
    · have h8 := (ckA_ok.1 hc).1
      rw [hc, er0] at cA
      rw [List.take_of_length_le (by omega)] at cN cA
      have E1 := Lib.hid (show spB l = rootB l ∧ spL l = segs l ∧ spE l = 0 from ⟨by unfold spB; rw [hE, hc, if_pos rfl], by unfold spL; rw [hE, hc, if_pos rfl], by rw [hE, hc]⟩)
      have cH := fun W => Tryd.strings_HasPrefix (ba l) ⟨#[47]⟩ W
      have e47 : (⟨#[47]⟩ : ByteArray).data.toList = [47] := rfl
      rw [ba_data, e47, hasp] at cH
      clear hE hc h8
      go_enter Tryd.func7, Tryd.ntmps7
      go_wp2_with fail
      refine cN.mono ?_
      rintro e w1 ⟨v, rfl, o1, n1⟩
      go_wp2_with fail
      refine (cA _ _ o1.txr).mono ?_
      rintro e w2 ⟨rfl, n2⟩
      have o2 := o1.new n2
      have n3 := n1.trans n2
      obtain ⟨p, cap, rfl, -⟩ := o1.txr
      clear cN cA o1 n1 n2
      go_wp2_with fail
      refine (cH _).mono ?_
      rintro e w3 ⟨rfl, rfl⟩
      go_wp2
      refine bodyPost_ret (v := .tuple #[.slice p (segs l).length cap, .bool (rootB l), .nilIface]) (by simp [results, Tryd.results7, go_sem]) rfl ?_
      unfold SpA
      rw [E1.out.1, E1.out.2.1, E1.out.2.2]
      exact ⟨_, rfl, o2, n3⟩
    · have E1 := Lib.hid (show spB l = false ∧ spL l = [] ∧ spE l = ckA (segs l) from ⟨by unfold spB; rw [hE, if_neg hc], by unfold spL; rw [hE, if_neg hc], hE⟩)
      have E2 := Lib.hid (erN_pos hc)
      rw [erN_pos hc] at cA
      generalize ckA (segs l) = c at *
      clear hE hc
      go_enter Tryd.func7, Tryd.ntmps7
      go_wp2_with fail
      refine cN.mono ?_
      rintro e w1 ⟨v, rfl, o1, n1⟩
      go_wp2_with fail
      refine (cA _ _ o1.txr).mono ?_
      rintro e w2 ⟨rfl, n2⟩
      have n3 := n1.trans n2
      obtain ⟨p, cap, rfl, -⟩ := o1.txr
      clear cN cA o1 n1 n2
      go_wp2
      refine bodyPost_ret (v := .tuple #[.slice none 0 0, .bool false, .iface 44 (.int .i64 c)]) (by simp [results, Tryd.results7, go_sem]) rfl ?_
      unfold SpA
      rw [E1.out.1, E1.out.2.1, E1.out.2.2]
      exact ⟨_, by rw [← E2.out]; rfl, OwnS.nil _ _, n3⟩
end Go.Proofs.YtmaocaddoohfmaaDoor
