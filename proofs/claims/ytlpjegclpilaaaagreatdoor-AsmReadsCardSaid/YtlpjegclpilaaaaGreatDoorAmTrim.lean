/- What is left of a line that is trimmed of blanks at both ends is nothing just where the line is all blank. No program stands in this text. -/
import Derived.Test.YtlpjegclpilaaaaGreatDoorAmWords
import Derived.Shelf.GgClosure.StringsTrimFunc
namespace Go.Proofs.YtlpjegclpilaaaaGreatDoor
open Go.Lib
set_option linter.unusedVariables false
theorem drop_ne {l : List UInt8} {pos : Nat} (h : pos < l.length) : l.drop pos ≠ [] := by
  intro h0
  have := congrArg List.length h0
  rw [List.length_drop] at this
  simp at this
  omega
theorem allB_app (q t : List UInt8) : allB (q ++ t) = (allB q && allB t) := by unfold allB; rw [List.all_append]
theorem idx_blank (s : ByteArray) : ∀ (f pos : Nat), s.size ≤ pos + f → pos ≤ s.size →
    (idxFuncFrom blkR false s f pos = -1 ∧ allB (s.data.toList.drop pos) = true) ∨ (∃ i : Nat, idxFuncFrom blkR false s f pos = (i : Int) ∧ pos ≤ i ∧ i < s.size ∧ allB (s.data.toList.drop i) = false ∧ allB (s.data.toList.drop pos) = false)
  | 0, pos, h, hp => by
    obtain rfl : pos = s.size := by omega
    have hd : s.data.toList.drop s.size = [] := List.drop_eq_nil_of_le (by rw [← size_eq]; exact Nat.le_refl _)
    exact .inl ⟨rfl, by rw [hd]; rfl⟩
  | f + 1, pos, h, hp => by
    by_cases hlt : pos < s.size
    · have hne := drop_ne (l := s.data.toList) (pos := pos) (by rw [← size_eq]; exact hlt)
      have hd := head_dec _ hne
      rw [decodeL_drop, List.length_drop, ← size_eq] at hd
      simp only [idxFuncFrom, if_pos hlt]
      rcases hd with ⟨hb, hk, b, t, ht, hbb⟩ | ⟨hb, hk1, hk2, hq⟩
      · rw [hk, if_neg (by simp [hb])]
        have hdr : s.data.toList.drop (pos + 1) = t := by rw [← List.drop_drop, ht]; rfl
        have e : allB (s.data.toList.drop pos) = allB (s.data.toList.drop (pos + 1)) := by
          rw [hdr, ht]; show (blk b && allB t) = _; rw [hbb, Bool.true_and]
        rcases idx_blank s f (pos + 1) (by omega) (by omega) with ⟨h1, h2⟩ | ⟨i, h1, h2, h3, h4, h5⟩
        · exact .inl ⟨h1, by rw [e]; exact h2⟩
        · exact .inr ⟨i, h1, by omega, h3, h4, by rw [e]; exact h5⟩
      · rw [if_pos hb]
        have e : allB (s.data.toList.drop pos) = false := by
          obtain ⟨b, t, hbt⟩ := List.exists_cons_of_ne_nil hne
          have : blk b = false := hq b (by
            rw [hbt]
            cases hK : (Utf8.decode s pos).2 with
            | zero => omega
            | succ n => simp)
          rw [hbt]; show (blk b && allB t) = false; rw [this]; rfl
        exact .inr ⟨pos, rfl, Nat.le_refl _, hlt, e, e⟩
    · obtain rfl : pos = s.size := by omega
      have hd : s.data.toList.drop s.size = [] := List.drop_eq_nil_of_le (by rw [← size_eq]; exact Nat.le_refl _)
      rw [idxFuncFrom_end blkR false s _ _ hlt]
      exact .inl ⟨rfl, by rw [hd]; rfl⟩
theorem last_blank (l : List UInt8) (hne : l ≠ []) (h : blkR (decodeLastL l).1 = true) : (decodeLastL l).2 = 1 ∧ blk (l.getD (l.length - 1) 0) = true := by
  unfold decodeLastL at h ⊢
  rw [if_neg hne] at h ⊢
  split
  · rename_i hlo
    rw [if_pos hlo] at h
    refine ⟨rfl, ?_⟩
    simpa [blk, blkR] using h
  · rename_i hlo
    rw [if_neg hlo] at h
    simp only at h ⊢
    split
    · rename_i hst
      rw [if_pos hst] at h
      have hls := lastStart_lt' l hne
      have hd := head_dec (l.drop (lastStart l)) (drop_ne hls)
      rcases hd with ⟨_, hk, b, t, ht, hbb⟩ | ⟨hb, _⟩
      · rw [hk] at hst
        have hx : l.getD (l.length - 1) 0 = b := by
          rw [show l.length - 1 = lastStart l by omega, List.getD_eq_getElem?_getD]
          have := congrArg List.head? ht
          rw [List.head?_drop] at this
          rw [this]; rfl
        rw [hx]; exact ⟨hk, hbb⟩
      · rw [hb] at h; cases h
    · rename_i hst
      rw [if_neg hst] at h
      exact absurd h (by decide)
theorem lastIdx_blank (s : ByteArray) : ∀ (f i : Nat), i ≤ f → i ≤ s.size →
    (lastIdxFuncFrom blkR false s f i = -1 ∧ allB (s.data.toList.take i) = true) ∨ (∃ j : Nat, lastIdxFuncFrom blkR false s f i = (j : Int) ∧ j < i)
  | 0, i, h, hi => by
    obtain rfl : i = 0 := by omega
    exact .inl ⟨rfl, by simp [allB]⟩
  | f + 1, i, h, hi => by
    unfold lastIdxFuncFrom
    by_cases h0 : 0 < i
    · rw [if_pos h0]
      have hlen : (s.data.toList.take i).length = i := by rw [List.length_take, ← size_eq]; omega
      have hne : s.data.toList.take i ≠ [] := by intro e; rw [e] at hlen; simp at hlen; omega
      have hw := decodeLastL_width (s.data.toList.take i) (by rw [hlen]; exact h0)
      rw [hlen] at hw
      cases hb : blkR (decodeLastL (s.data.toList.take i)).1 with
      | false => rw [if_pos rfl]; exact .inr ⟨_, rfl, by omega⟩
      | true =>
        rw [if_neg (by simp)]
        obtain ⟨hk, hlast⟩ := last_blank _ hne hb
        rw [hk]
        rcases lastIdx_blank s f (i - 1) (by omega) (by omega) with ⟨h1, h2⟩ | ⟨j, h1, h2⟩
        · refine .inl ⟨h1, ?_⟩
          rw [hlen] at hlast
          have e : s.data.toList.take i = s.data.toList.take (i - 1) ++ [(s.data.toList.take i).getD (i - 1) 0] := by
            have hlt : i - 1 < s.data.toList.length := by rw [← size_eq]; omega
            have g : (s.data.toList.take i).getD (i - 1) 0 = s.data.toList[i - 1] := by
              rw [List.getD_eq_getElem?_getD, List.getElem?_take, if_pos (by omega), List.getElem?_eq_getElem hlt]; rfl
            rw [g]
            have : i = (i - 1) + 1 := by omega
            conv => lhs; rw [this, List.take_add_one, List.getElem?_eq_getElem hlt]
            rfl
          rw [e, allB_app, h2, Bool.true_and]
          show (blk _ && true) = true
          rw [hlast]; rfl
        · exact .inr ⟨j, h1, by omega⟩
    · obtain rfl : i = 0 := by omega
      rw [if_neg h0]; exact .inl ⟨rfl, by simp [allB]⟩
/-- trimmed of blanks a line is empty just where it is all blank -/
theorem trim_nil (s : ByteArray) : (trimF blkR s).size = 0 ↔ allB s.data.toList = true := by
  have h0 := idx_blank s s.size 0 (by omega) (by omega)
  rw [List.drop_zero] at h0
  change (idxFunc blkR false s = -1 ∧ _) ∨ (∃ i : Nat, idxFunc blkR false s = (i : Int) ∧ _) at h0
  unfold trimF trimLeftF
  rcases h0 with ⟨h1, h2⟩ | ⟨i, h1, h2, h3, h4, h5⟩
  · rw [if_pos h1, h2]
    exact ⟨fun _ => rfl, fun _ => by
      unfold trimRightF
      rw [size_eq, extract_data]
      simp⟩
  · rw [if_neg (by omega), h1, h5, Int.toNat_natCast]
    refine ⟨fun h => ?_, fun h => absurd h (by simp)⟩
    exfalso
    have hxd : (s.extract i s.size).data.toList = s.data.toList.drop i := by
      rw [extract_data, size_eq]; simp [List.take_of_length_le]
    have hxs : (s.extract i s.size).size = s.size - i := by rw [size_eq, hxd, List.length_drop, ← size_eq]
    generalize s.extract i s.size = t at *
    have hl := lastIdx_blank t t.size t.size (Nat.le_refl _) (Nat.le_refl _)
    change (lastIdxFunc blkR false t = -1 ∧ _) ∨ (∃ j : Nat, lastIdxFunc blkR false t = (j : Int) ∧ _) at hl
    rcases hl with ⟨l1, l2⟩ | ⟨j, l1, l2⟩
    · rw [List.take_of_length_le (by rw [← size_eq]; exact Nat.le_refl _), hxd, h4] at l2
      cases l2
    · unfold trimRightF rightEndF at h
      rw [if_pos (by omega), l1, Int.toNat_natCast] at h
      have hw : 1 ≤ (decodeGoB (t.extract j t.size)).2 := by
        unfold decodeGoB
        rw [if_neg]
        · exact width_pos _ _
        · rw [size_eq, extract_data]; simp; omega
      rw [size_eq, extract_data] at h
      simp at h
      rcases h with ⟨-, h⟩ | h
      · omega
      · rw [h] at l2; simp at l2
end Go.Proofs.YtlpjegclpilaaaaGreatDoor
