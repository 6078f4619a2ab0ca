/- The document's own list of pages in memory: made of regions, and told as regions. Contracts, in any world; behind each there are only new blocks. -/
import Derived.Test.YtfkjgbenjdmedaaDoorReO
import Derived.BigQuiet
import Derived.Deep.QuietTactic
namespace Go.Proofs.YtfkjgbenjdmedaaDoor
open Go.RowKit Go.Joins
set_option linter.unusedVariables false
set_option maxRecDepth 100000
/-- pages in memory: a number each -/
def Mp (w : World) (g : Nat) (M : Nat → Int) : Prop := w.heap[g]? = some (.cells ((List.range 4096).map fun i => Value.int .i64 (M i)).toArray 3 (0, 0))
def upd (M : Nat → Int) (p : Nat) (v : Int) : Nat → Int := fun i => if i = p then v else M i
section
variable {w w' : World} {g : Nat} {M : Nat → Int}
theorem Mp.lt (h : Mp w g M) : g < w.heap.size := (Array.getElem?_eq_some_iff.1 h).1
theorem Mp.new (h : Mp w g M) (k : New w w') : Mp w' g M := by unfold Mp; rw [k.block h.lt]; exact h
theorem Mp.cell (h : Mp w g M) (p : Nat) (hp : p < 4096) : w.cell? ⟨g, p, none⟩ = some (.int .i64 (M p)) := by
  rw [cell_of_block h p]; simp [hp]
theorem Mp.unfrozen (h : Mp w g M) (p : Nat) : w.frozen? ⟨g, p, none⟩ = false := unfrozen_of_block h p
theorem Mp.set (h : Mp w g M) (p : Nat) (v : Int) : Mp (w.setCell ⟨g, p, none⟩ (.int .i64 v)) g (upd M p v) := by
  unfold Mp
  rw [block_setCell h]
  congr 2
  rw [List.setIfInBounds_toArray]
  congr 1
  apply List.ext_getElem
  · simp
  · intro i h1 h2
    rw [List.getElem_set]
    simp only [List.getElem_map, List.getElem_range, upd]
    by_cases e : p = i
    · rw [if_pos e, if_pos e.symm]
    · rw [if_neg e, if_neg (Ne.symm e)]
theorem Mp.other (h : Mp w g M) {b : Nat} (hb : b ≠ g) (i : Nat) (v : Value) : Mp (w.setCell ⟨b, i, none⟩ v) g M := by
  unfold Mp; rw [Below.heap_setCell _ _ _ _ (Ne.symm hb)]; exact h
end
theorem int_info13 : (Tryd.prog.info? 3).map (fun i => (i.zero, i.size, i.bytes)) = some (some (.int .i64 0), 1, 8) := by kernel_rfl
theorem refr_info : (Tryd.prog.info? 24).map (fun i => (i.zero, i.size, i.bytes)) = some (some (.agg #[.int .i64 0, .int .i64 0, .int .u8 0]), 3, 24) := by kernel_rfl
theorem made_zeros : ∃ Z : Array Value, Z = madeCells #[Value.int .i64 0] 4096 ∧ Z = ((List.range 4096).map fun _ => Value.int .i64 0).toArray := by
  refine ⟨_, rfl, ?_⟩
  apply Array.ext
  · simp [madeCells]
  · intro i h1 h2
    simp [madeCells, Nat.mod_one] at h1 ⊢
theorem take_dis {L : List Rg} (hO : ROk L) {j : Nat} (hj : j < L.length) {q : Int} (hq : inR L[j] q = true) : rpg (L.take j) q = none := by
  have hA : RAsc (L.take j ++ [L[j]]) := by
    rw [← List.take_succ_eq_append_getElem hj]
    have := hO.asc
    rw [← List.take_append_drop (j + 1) L] at this
    exact ((rch_append _ _).1 this).1
  refine rpg_none.2 fun s hs => ?_
  have := RAsc.below hA s hs
  have := inR_iff.1 hq
  rw [inR_not]; omega
set_option maxHeartbeats 4000000 in
theorem dMap_any (w : World) (v : Value) (L : List Rg) (h : RgsA w v L) (hO : ROk L) : Calls Tryd.prog 27 #[v] w fun e w' => ∃ g M, e = .returned (.slice (some ⟨g, 0, none⟩) 4096 4096) ∧ w.heap.size ≤ g ∧ Mp w' g M ∧ (∀ i, i < 4096 → M i = mv (rpg L i)) ∧ New w w' := by
  obtain ⟨Z, hZ, hZ2⟩ := made_zeros
  have hmk : ∀ W : World, (Instr.makeSlice 63 (.int .i64 4096) (.int .i64 4096)).run Tryd.prog W = .ok (.slice (some ⟨W.heap.size, 0, none⟩) 4096 4096) (W.alloc (.cells (madeCells #[Value.int .i64 0] 4096) 3)) :=
    run_make_row' (P := Tryd.prog) 63 3 (.int .i64 0) 8 Tryd.underlying63 int_info13 rfl .i64 .i64 4096 (by omega) (by omega)
  rw [← hZ] at hmk
  have M0 : Mp (w.alloc (.cells Z 3)) w.heap.size (fun _ => 0) := by rw [hZ2]; exact heap_alloc_new w _
  have N0 : New w (w.alloc (.cells Z 3)) := (New.refl w).alloc _ _
  obtain ⟨p, cap, rfl⟩ := h.shape
  have hB := h.len
  have HR := Lib.hid h
  have HO := Lib.hid hO
  clear h hO hZ hZ2
  go_enter Tryd.func27, Tryd.ntmps27
  go_wp2
  go_loopg [4] 4096 (fun k i wr => ∃ (j : Nat) (M : Nat → Int), j + k = 4096 ∧ i = .int .i64 (j : Int) ∧ Mp wr w.heap.size M ∧ (∀ i, i < j → M i = -1) ∧ New w wr)
  case atStart => exact ⟨0, _, by omega, rfl, M0, fun i hi => absurd hi (Nat.not_lt_zero _), N0⟩
  case round =>
    clear M0 N0
    obtain ⟨j, M, hj, rfl, hM, hm, hn⟩ := hrel
    have J := Lib.hid hj
    by_cases c : j < 4096
    · have c0 := hM.cell j c
      have f0 := hM.unfrozen j
      have hlt := hM.lt
      have HN := Lib.hid (hn.setCell (p := ⟨w.heap.size, j, none⟩) (Nat.le_refl _) (.int .i64 (-1)))
      have HM := Lib.hid (hM.set j (-1))
      have Hm := Lib.hid hm
      have g1 : decide ((j : Int) < 4096) = true := by simp; omega
      clear hj hM hm hn
      go_wp2
      go_roundg (4096 - (j + 1))
      case measure => have := J.out; omega
      case rel =>
        refine ⟨j + 1, _, by have := J.out; omega, by go_num, HM.out, fun i hi => ?_, HN.out⟩
        unfold upd
        by_cases e : i = j
        · rw [if_pos e]
        · rw [if_neg e]; exact Hm.out i (by omega)
    · obtain rfl : j = 4096 := by omega
      go_wp2
      go_loopg [5] L.length (fun k i wr => ∃ (j : Nat) (M : Nat → Int), j + k = L.length ∧ i = .int .i64 (j : Int) ∧ Mp wr w.heap.size M ∧ (∀ i, i < 4096 → M i = mv (rpg (L.take j) i)) ∧ New w wr)
      case atStart => exact ⟨0, _, by omega, rfl, hM, (fun i hi => by rw [hm i hi]; rfl), hn⟩
      case round =>
        clear hM hm hn hj J c
        obtain ⟨j, M, hj, rfl, hM, hm, hn⟩ := hrel
        have J := Lib.hid hj
        by_cases c : j < L.length
        · obtain ⟨x, rfl, hx⟩ := HR.out.at_ j c
          have hr := okR_iff.1 (RCh.mem HO.out _ (List.getElem_mem c))
          have HT := Lib.hid (show ∀ q : Int, rpg (L.take (j + 1)) q = if inR L[j] q = true then some (L[j]).p else rpg (L.take j) q from fun q => by
            rw [List.take_succ_eq_append_getElem c, rpg_append, rpg_one]
            by_cases e : inR L[j] q = true
            · rw [if_pos e, if_pos e, take_dis HO.out c e]; rfl
            · rw [if_neg e, if_neg e]; simp)
          generalize L[j] = r at *
          obtain ⟨f, t, pr⟩ := r
          simp only at hr HT
          obtain ⟨F, rfl⟩ := Int.eq_ofNat_of_zero_le hr.1
          obtain ⟨T, rfl⟩ := Int.eq_ofNat_of_zero_le (show 0 ≤ t by omega)
          obtain ⟨c0, c1, c2⟩ := hx.new hn
          simp only at c0 c1 c2
          have C0 := Lib.hid hx
          have hFT : F < T := by omega
          have hT4 : T ≤ 4096 := by omega
          have hp7 : pr ≤ 7 := hr.2.2.2
          have Hm := Lib.hid hm
          clear hj hr hx
          go_wp2
          have HN0 := Lib.hid hn
          have e0 : ∀ M2 : Nat → Int, (∀ i, i < 4096 → M2 i = M i) → ∀ i, i < 4096 → M2 i = if F ≤ i ∧ i < F + 0 then (pr : Int) else mv (rpg (L.take j) i) := fun M2 k i hi => by rw [if_neg (by omega), k i hi]; exact Hm.out i hi
          go_loopg [6] (T - F) (fun k i wr => ∃ (q : Nat) (M2 : Nat → Int), q + k = T - F ∧ i = .int .i64 ((F + q : Nat) : Int) ∧ Mp wr w.heap.size M2 ∧ (∀ i, i < 4096 → M2 i = if F ≤ i ∧ i < F + q then (pr : Int) else mv (rpg (L.take j) i)) ∧ New w wr)
          case atStart => exact ⟨0, M, by omega, rfl, hM, e0 M (fun _ _ => rfl), hn⟩
          case round =>
            clear hM hm hn e0
            obtain ⟨q, M2, hq, rfl, hM, hm, hn2⟩ := hrel
            have Q := Lib.hid hq
            have Hm2 := Lib.hid hm
            obtain ⟨d0, d1, d2⟩ := (C0.out).new hn2
            simp only at d0 d1 d2
            generalize hFq : F + q = m at *
            have HFq := Lib.hid hFq
            by_cases cq : m < T
            · have k0 := hM.cell m (by omega)
              have f0 := hM.unfrozen m
              have hlt := hM.lt
              have HN := Lib.hid (hn2.setCell (p := ⟨w.heap.size, m, none⟩) (Nat.le_refl _) (.int .i64 (pr : Int)))
              have HM := Lib.hid (hM.set m (pr : Int))
              clear hq hFq hM hm hn2 c0 c1 c2
              go_wp2
              go_roundg (T - F - (q + 1))
              case measure => have := Q.out; have := HFq.out; omega
              case rel =>
                refine ⟨q + 1, _, by have := Q.out; have := HFq.out; omega, by rw [show F + (q + 1) = m + 1 by have := HFq.out; omega]; go_num, HM.out, fun i hi => ?_, HN.out⟩
                unfold upd
                have := HFq.out
                by_cases e : i = m
                · rw [if_pos e, if_pos (by omega)]
                · rw [if_neg e, Hm2.out i hi]
                  by_cases e2 : F ≤ i ∧ i < F + q
                  · rw [if_pos (by omega), if_pos (by omega)]
                  · rw [if_neg (by omega), if_neg (by omega)]
            · have HM := Lib.hid hM
              have HN := Lib.hid hn2
              have hq2 : F + q = T := by omega
              have HQ2 := Lib.hid hq2
              clear hq hFq hM hm hn2 c0 c1 c2 hq2
              go_wp2
              go_roundg (L.length - (j + 1))
              case measure => have := J.out; omega
              case rel =>
                refine ⟨j + 1, M2, by have := J.out; omega, by go_num, HM.out, fun i hi => ?_, HN.out⟩
                have hz := Hm2.out i hi
                have hq3 := HQ2.out
                rw [hz, HT.out]
                by_cases e : F ≤ i ∧ i < m
                · rw [if_pos e, if_pos (inR_iff.2 (by simp only; have := HFq.out; omega))]; rfl
                · rw [if_neg e, if_neg (by rw [inR_iff]; simp only; have := HFq.out; omega)]
        · obtain rfl : j = L.length := by omega
          rw [List.take_length] at hm
          go_wp2
          go_ret
          exact ⟨_, M, rfl, Nat.le_refl _, hM, hm, hn⟩
set_option maxHeartbeats 4000000 in
theorem dList_any (w : World) (g : Nat) (M : Nat → Int) (h : Mp w g M) (h7 : ∀ i, i < 4096 → M i ≤ 7) : Calls Tryd.prog 28 #[.slice (some ⟨g, 0, none⟩) 4096 4096] w (MadeR 24 (dl M 4096) w) := by
  obtain ⟨i0, hi, hz0, hz1, hz2⟩ := info_parts3 refr_info
  have HM := Lib.hid h
  have H7 := Lib.hid h7
  have hg := h.lt
  clear h h7
  go_enter Tryd.func28, Tryd.ntmps28
  go_wp2
  go_loopg [3, 4] 4096 (fun k acc i wr => ∃ j : Nat, j + k = 4096 ∧ i = .int .i64 (j : Int) ∧ OwnR 24 w.heap.size wr acc (dl M j) ∧ New w wr)
  case atStart => exact ⟨0, by omega, rfl, OwnR.nil, New.refl _⟩
  case round =>
    obtain ⟨j, hj, rfl, ho, hn⟩ := hrel
    have J := Lib.hid hj
    by_cases c : j < 4096
    · have HN := Lib.hid hn
      have HO := Lib.hid ho
      have k := dl_ok M H7.out j (by omega)
      have c0 := (HM.out.new hn).cell j c
      have HLN := Lib.hid (show (dl M j).length ≤ 4096 by have := k.len; omega)
      have hd : dl M (j + 1) = if M j < 0 then dl M j else if 0 < j ∧ M (j - 1) = M j then setLast (dl M j) (j + 1) else dl M j ++ [⟨j, (j : Int) + 1, (M j).toNat⟩] := rfl
      have g1 : decide ((j : Int) < 4096) = true := by simp; omega
      have hx7 := H7.out j c
      by_cases s1 : M j < 0
      · have d1 : decide (M j < 0) = true := by simpa using s1
        have HD := Lib.hid (show dl M (j + 1) = dl M j by rw [hd, if_pos s1])
        obtain ⟨p3, c3, rfl⟩ := ho.shape
        clear hj ho hn k hd s1 hx7
        generalize M j = x at *
        go_wp2
        go_roundg (4096 - (j + 1))
        case measure => have := J.out; omega
        case rel => exact ⟨j + 1, by have := J.out; omega, by go_num, by rw [HD.out]; exact HO.out, HN.out⟩
      · have d1 : decide (M j < 0) = false := by simpa using s1
        rw [if_neg s1] at hd
        by_cases s2 : j = 0
        · have g0 : decide (0 < j) = false := by simp; omega
          have HD := Lib.hid (show dl M (j + 1) = dl M j ++ [⟨j, (j : Int) + 1, (M j).toNat⟩] by rw [hd, if_neg (by omega)])
          obtain ⟨p3, c3, rfl⟩ := ho.shape
          obtain ⟨Y, hY⟩ := Int.eq_ofNat_of_zero_le (show 0 ≤ M j by omega)
          rw [hY] at c0 d1 HD hx7
          simp only [Int.toNat_natCast] at HD
          have hw : IntKind.u8.wrap (Y : Int) = (Y : Int) := by rw [IntKind.wrap_u8]; omega
          have g2 : IntKind.i64.wrap ((j : Int) + 1) = (j : Int) + 1 := IntWalk.i64_in _ (by omega)
          clear hj ho hn k hd s1 s2
          go_upto_region 6 with fail
          go_quiet (fail)
          have hO := OwnR.new HO.out ((New.refl wr).drewN nq)
          have HN2 := Lib.hid (HN.out.trans ((New.refl wr).drewN nq))
          go_wp2_with (at_builtin; refine wpList_append_own _ rfl _ _ 22 rfl w.heap.size 24 i0 (.agg #[.int .i64 0, .int .i64 0, .int .u8 0]) 3 24 Tryd.underlying22 hi hz0 hz1 hz2 rfl (by decide) _ _ _ rfl (World.ownsRow.alloc hO _) ⟨wr.heap.size, 0, none⟩ 1 1 (rcell ⟨(j : Int), (j : Int) + 1, Y⟩) rfl rfl ?c1 ?c2 ?c3 ?c4 ?c5 ?_)
          case c1 => first | (intro j u hu; simpa [rcell] using hu; done) | exact rcell_new (wr.drewN nq) ⟨(j : Int), (j : Int) + 1, Y⟩ _
          case c2 => exact rcell_one _
          case c3 => have := HLN.out; unfold maxLen; omega
          case c4 => have := HLN.out; omega
          case c5 => have := HN.out.size; simp; omega
          intro v' w2 hown' hgrow _
          obtain ⟨o1, n2⟩ := OwnR.push HN2.out rfl hO hown' hgrow
          clear hown' hgrow hO
          rw [← HD.out] at o1
          obtain ⟨p4, c4, rfl⟩ := o1.shape
          have O1 := Lib.hid o1
          have N2 := Lib.hid n2
          clear o1 n2
          go_wp2
          go_roundg (4096 - (j + 1))
          case measure => have := J.out; omega
          case rel => exact ⟨j + 1, by have := J.out; omega, by go_num, O1.out, N2.out⟩
        · obtain ⟨i, hij⟩ : ∃ i, i + 1 = j := ⟨j - 1, by omega⟩
          have hil : i < 4096 := by omega
          have b0 := (HM.out.new hn).cell i hil
          have g0 : decide (0 < j) = true := by simp; omega
          have gs : IntKind.i64.wrap ((j : Int) - 1) = (i : Int) := by rw [IntWalk.i64_in _ (by omega)]; omega
          have hij2 : j - 1 = i := by omega
          rw [hij2] at hd
          by_cases s3 : M i = M j
          · have d3 : (M i == M j) = true := by simpa using s3
            obtain ⟨m, x, hmx, hxt, hxp⟩ := k.last (by omega) (by rw [hij2]; omega)
            have HD := Lib.hid (show dl M (j + 1) = m ++ [⟨x.f, ((j : Int) + 1), x.p⟩] by rw [hd, if_pos ⟨by omega, s3⟩, hmx, setLast_snoc])
            rw [hmx] at ho HO HLN
            obtain ⟨g', c3, kk, nA, hk, hA, hkA, rfl, hg1, hg2, hg3, hg4, x0, x1, x2⟩ := ho.last
            have HK := Lib.hid hk
            have f1 := hg4 (kk * 3 + 1)
            have gs2 : IntKind.i64.wrap ((nA : Int) - 1) = (kk : Int) := by
              have := HLN.out
              rw [IntWalk.i64_in _ (by omega)]; omega
            have gk : kk < nA := by omega
            have g2 : IntKind.i64.wrap ((j : Int) + 1) = (j : Int) + 1 := IntWalk.i64_in _ (by omega)
            have hn3 : nA ≤ 5000 := by have := HLN.out; omega
            have OS := Lib.hid (fun nq => OwnR.setTo (OwnR.new HO.out ((New.refl wr).drewN nq)) ((j : Int) + 1))
            have HW := Lib.hid (fun nq => (HN.out.trans ((New.refl wr).drewN nq)).setCell (p := ⟨g', kk * 3 + 1, none⟩) hg1 (.int .i64 ((j : Int) + 1)))
            clear hg4 hk hA hkA hj ho hn k hd s1 s2 hmx hxt hxp
            generalize M i = u at *
            generalize M j = z at *
            go_upto_region 6 with fail
            go_quiet (fail)
            go_wp2
            go_roundg (4096 - (j + 1))
            case measure => have := J.out; omega
            case rel =>
              have o5 := OS.out nq
              rw [HK.out] at o5
              exact ⟨j + 1, by have := J.out; omega, by go_num, by rw [HD.out]; exact o5, HW.out nq⟩
          · have d3 : (M i == M j) = false := by simpa using s3
            have HD := Lib.hid (show dl M (j + 1) = dl M j ++ [⟨j, (j : Int) + 1, (M j).toNat⟩] by rw [hd, if_neg (fun h => s3 h.2)])
            obtain ⟨p3, c3, rfl⟩ := ho.shape
            obtain ⟨Y, hY⟩ := Int.eq_ofNat_of_zero_le (show 0 ≤ M j by omega)
            rw [hY] at c0 d1 HD hx7 d3
            simp only [Int.toNat_natCast] at HD
            have hw : IntKind.u8.wrap (Y : Int) = (Y : Int) := by rw [IntKind.wrap_u8]; omega
            have g2 : IntKind.i64.wrap ((j : Int) + 1) = (j : Int) + 1 := IntWalk.i64_in _ (by omega)
            clear hj ho hn k hd s1 s2 s3
            generalize M i = u at *
            go_upto_region 6 with fail
            go_quiet (fail)
            have hO := OwnR.new HO.out ((New.refl wr).drewN nq)
            have HN2 := Lib.hid (HN.out.trans ((New.refl wr).drewN nq))
            go_wp2_with (at_builtin; refine wpList_append_own _ rfl _ _ 22 rfl w.heap.size 24 i0 (.agg #[.int .i64 0, .int .i64 0, .int .u8 0]) 3 24 Tryd.underlying22 hi hz0 hz1 hz2 rfl (by decide) _ _ _ rfl (World.ownsRow.alloc hO _) ⟨wr.heap.size, 0, none⟩ 1 1 (rcell ⟨(j : Int), (j : Int) + 1, Y⟩) rfl rfl ?c1 ?c2 ?c3 ?c4 ?c5 ?_)
            case c1 => first | (intro j u hu; simpa [rcell] using hu; done) | exact rcell_new (wr.drewN nq) ⟨(j : Int), (j : Int) + 1, Y⟩ _
            case c2 => exact rcell_one _
            case c3 => have := HLN.out; unfold maxLen; omega
            case c4 => have := HLN.out; omega
            case c5 => have := HN.out.size; simp; omega
            intro v' w2 hown' hgrow _
            obtain ⟨o1, n2⟩ := OwnR.push HN2.out rfl hO hown' hgrow
            clear hown' hgrow hO
            rw [← HD.out] at o1
            obtain ⟨p4, c4, rfl⟩ := o1.shape
            have O1 := Lib.hid o1
            have N2 := Lib.hid n2
            clear o1 n2
            go_wp2
            go_roundg (4096 - (j + 1))
            case measure => have := J.out; omega
            case rel => exact ⟨j + 1, by have := J.out; omega, by go_num, O1.out, N2.out⟩
    · obtain rfl : j = 4096 := by omega
      obtain ⟨p3, c3, rfl⟩ := ho.shape
      go_wp2
      go_ret
      exact ⟨_, rfl, ho, hn⟩
end Go.Proofs.YtfkjgbenjdmedaaDoor
