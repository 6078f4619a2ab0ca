/- Programs as bytes, the package's: what the reader reads, as plain lists; pages that the call gathers. -/
import Derived.Test.YtealjgfijlencaaDoorImP6
namespace Go.Proofs.YtealjgfijlencaaDoor
open Go.RowKit Go.Joins
set_option linter.unusedVariables false
set_option linter.unusedSimpArgs false
set_option maxRecDepth 100000
theorem tkS_false {n : Nat} {r : List Int} {sh : Bool} : tkS n r sh = false ↔ n ≤ r.length ∧ sh = false := by
  unfold tkS
  split
  · rename_i h; exact ⟨fun k => ⟨h, k⟩, fun k => k.2⟩
  · rename_i h; exact ⟨(fun k => by cases k), fun k => absurd k.1 h⟩
theorem tkR_le {n : Nat} {r : List Int} (h : n ≤ r.length) : tkR n r = r.drop n := if_pos h
theorem tkU_le {n : Nat} {r : List Int} (h : n ≤ r.length) : tkU n r = r.take n := if_pos h
theorem nmV2 {r : List Int} (h : 2 ≤ r.length) : nmV 2 r = r.getD 0 0 + 256 * r.getD 1 0 := by
  unfold nmV; rw [if_pos h, wh_two]
theorem nmV1 {r : List Int} (h : 1 ≤ r.length) : nmV 1 r = r.getD 0 0 := by
  unfold nmV; rw [if_pos h]; show 256 * 0 + r.getD 0 0 = _; omega
theorem nmV4 {r : List Int} (h : 4 ≤ r.length) : nmV 4 r = r.getD 0 0 + 256 * r.getD 1 0 + 65536 * r.getD 2 0 + 16777216 * r.getD 3 0 := by
  unfold nmV; rw [if_pos h]
  show 256 * (256 * (256 * (256 * 0 + r.getD 3 0) + r.getD 2 0) + r.getD 1 0) + r.getD 0 0 = _; omega
theorem sgRd_eq (r : List Int) (sh : Bool) : sgRd r sh = (⟨nmV 2 r, nmV 2 (tkR 2 r), nmV 1 (tkR 2 (tkR 2 r)), tkU (nmV 2 (tkR 1 (tkR 2 (tkR 2 r)))).toNat (tkR 2 (tkR 1 (tkR 2 (tkR 2 r))))⟩, tkR (nmV 2 (tkR 1 (tkR 2 (tkR 2 r)))).toNat (tkR 2 (tkR 1 (tkR 2 (tkR 2 r)))), tkS (nmV 2 (tkR 1 (tkR 2 (tkR 2 r)))).toNat (tkR 2 (tkR 1 (tkR 2 (tkR 2 r)))) (tkS 2 (tkR 1 (tkR 2 (tkR 2 r))) (tkS 1 (tkR 2 (tkR 2 r)) (tkS 2 (tkR 2 r) (tkS 2 r sh))))) := rfl
/-- the first seven bytes are there, or not -/
theorem sgRd_seven {r : List Int} (h : 7 ≤ r.length) (sh : Bool) : sgRd r sh = (⟨r.getD 0 0 + 256 * r.getD 1 0, r.getD 2 0 + 256 * r.getD 3 0, r.getD 4 0, tkU (r.getD 5 0 + 256 * r.getD 6 0).toNat (r.drop 7)⟩, tkR (r.getD 5 0 + 256 * r.getD 6 0).toNat (r.drop 7), tkS (r.getD 5 0 + 256 * r.getD 6 0).toNat (r.drop 7) sh) := by
  have l2 : (r.drop 2).length = r.length - 2 := List.length_drop
  have l4 : (r.drop 4).length = r.length - 4 := List.length_drop
  have l5 : (r.drop 5).length = r.length - 5 := List.length_drop
  have e1 : tkR 2 r = r.drop 2 := tkR_le (by omega)
  have e2 : tkR 2 (r.drop 2) = r.drop 4 := by rw [tkR_le (by omega), List.drop_drop]
  have e3 : tkR 1 (r.drop 4) = r.drop 5 := by rw [tkR_le (by omega), List.drop_drop]
  have e4 : tkR 2 (r.drop 5) = r.drop 7 := by rw [tkR_le (by omega), List.drop_drop]
  have s1 : tkS 2 r sh = sh := if_pos (by omega)
  have s2 : tkS 2 (r.drop 2) sh = sh := if_pos (by omega)
  have s3 : tkS 1 (r.drop 4) sh = sh := if_pos (by omega)
  have s4 : tkS 2 (r.drop 5) sh = sh := if_pos (by omega)
  rw [sgRd_eq, e1, e2, e3, e4, s1, s2, s3, s4, nmV2 (by omega), nmV2 (by omega), nmV1 (by omega), nmV2 (by omega)]
  simp only [getD_drop]
theorem sgRd_short {r : List Int} (h : r.length < 7) (sh : Bool) : (sgRd r sh).2.2 = true := by
  rw [← Bool.not_eq_false]
  intro c
  rw [sgRd_eq] at c
  dsimp only at c
  rw [tkS_false, tkS_false, tkS_false, tkS_false, tkS_false] at c
  obtain ⟨h5, h4, h3, h2, h1, -⟩ := c
  rw [tkR_le h1] at h2 h3 h4
  rw [tkR_le h2] at h3 h4
  rw [tkR_le h3] at h4
  simp only [List.length_drop] at h2 h3 h4
  omega
theorem getD_oct {r : List Int} (h : ∀ x ∈ r, 0 ≤ x ∧ x ≤ 255) (i : Nat) : 0 ≤ r.getD i 0 ∧ r.getD i 0 ≤ 255 := by
  rw [List.getD_eq_getElem?_getD]
  cases c : r[i]? with
  | none => simp
  | some x => exact h x (List.mem_of_getElem? c)
/-- not short: one more is read -/
theorem sgRd_ok {r : List Int} {sh : Bool} (ho : ∀ x ∈ r, 0 ≤ x ∧ x ≤ 255) (h : (sgRd r sh).2.2 = false) (k : Nat) : sh = false ∧ decS (k + 1) r = match decS k (sgRd r sh).2.1 with
      | none => none
      | some (L, q) => some ((sgRd r sh).1 :: L, q) := by
  have h7 : 7 ≤ r.length := Nat.le_of_not_lt fun c => by rw [sgRd_short c] at h; cases h
  have g5 := getD_oct ho 5
  have g6 := getD_oct ho 6
  rw [sgRd_seven h7] at h ⊢
  dsimp only at h ⊢
  rw [tkS_false] at h
  rw [tkR_le h.1, tkU_le h.1, List.drop_drop]
  rw [List.length_drop] at h
  refine ⟨h.2, ?_⟩
  have := decS_step k r 0 (r.getD 5 0 + 256 * r.getD 6 0).toNat (by rw [Nat.zero_add, Nat.zero_add]; omega) (by omega) (by omega)
  rw [List.drop_zero] at this
  rw [this]
  simp only [Nat.zero_add]
  rfl
/-- short: nothing is read -/
theorem sgRd_bad {r : List Int} (ho : ∀ x ∈ r, 0 ≤ x ∧ x ≤ 255) (h : (sgRd r false).2.2 = true) (k : Nat) : decS (k + 1) r = none := by
  have g5 := getD_oct ho 5
  have g6 := getD_oct ho 6
  by_cases h7 : 7 ≤ r.length
  · rw [sgRd_seven h7] at h
    dsimp only at h
    have hl : ¬ (r.getD 5 0 + 256 * r.getD 6 0).toNat ≤ (r.drop 7).length := fun c => by
      unfold tkS at h; rw [if_pos c] at h; cases h
    rw [List.length_drop] at hl
    have := decS_few k r 0 (r.getD 5 0 + 256 * r.getD 6 0).toNat (by rw [Nat.zero_add, Nat.zero_add]; omega) (by omega) (by omega)
    rwa [List.drop_zero] at this
  · have := decS_short k r 0 (by omega)
    rwa [List.drop_zero] at this
theorem sgRd_true (r : List Int) : (sgRd r true).2.2 = true := by
  rw [← Bool.not_eq_false]
  intro c
  rw [sgRd_eq] at c
  dsimp only at c
  rw [tkS_false, tkS_false, tkS_false, tkS_false, tkS_false] at c
  exact absurd c.2.2.2.2.2 (by simp)
theorem sgRd_oct {r : List Int} {sh : Bool} (ho : ∀ x ∈ r, 0 ≤ x ∧ x ≤ 255) : ∀ x ∈ (sgRd r sh).2.1, 0 ≤ x ∧ x ≤ 255 := by
  rw [sgRd_eq]; exact tkR_oct (tkR_oct (tkR_oct (tkR_oct (tkR_oct ho))))
theorem sgRd_bd {r : List Int} {sh : Bool} (ho : ∀ x ∈ r, 0 ≤ x ∧ x ≤ 255) : (-9223372036854775808 ≤ (sgRd r sh).1.f ∧ (sgRd r sh).1.f ≤ 9223372036854775807) ∧ (-9223372036854775808 ≤ (sgRd r sh).1.t ∧ (sgRd r sh).1.t ≤ 9223372036854775807) ∧ (0 ≤ (sgRd r sh).1.p ∧ (sgRd r sh).1.p ≤ 255) ∧ ∀ x ∈ (sgRd r sh).1.d, 0 ≤ x ∧ x ≤ 255 := by
  rw [sgRd_eq]
  have V1 := nmV_bd 2 (by decide) r ho
  have V2 := nmV_bd 2 (by decide) (tkR 2 r) (tkR_oct ho)
  have V3 := nmV_bd 1 (by decide) (tkR 2 (tkR 2 r)) (tkR_oct (tkR_oct ho))
  rw [show (256 : Int) ^ 2 = 65536 by decide] at V1 V2
  rw [show (256 : Int) ^ 1 = 256 by decide] at V3
  dsimp only
  exact ⟨by omega, by omega, by omega, tkU_oct (tkR_oct (tkR_oct (tkR_oct (tkR_oct ho))))⟩
/-- the head: what begins, where it begins, how many -/
theorem hd_ok {b : List Int} (h : tkS 1 (tkR 4 (tkR 4 b)) (tkS 4 (tkR 4 b) (tkS 4 b false)) = false) : 9 ≤ b.length ∧ tkU 4 b = b.take 4 ∧ nmV 4 (tkR 4 b) = wh4 b ∧ nmV 1 (tkR 4 (tkR 4 b)) = b.getD 8 0 ∧ tkR 1 (tkR 4 (tkR 4 b)) = b.drop 9 := by
  rw [tkS_false, tkS_false, tkS_false] at h
  obtain ⟨h3, h2, h1, -⟩ := h
  rw [tkR_le h1] at h2 h3 ⊢
  rw [tkR_le h2] at h3 ⊢
  rw [tkR_le h3, nmV4 h2, nmV1 h3, tkU_le h1]
  simp only [List.drop_drop, getD_drop, List.length_drop] at h2 h3 ⊢
  refine ⟨by omega, ?_, ?_, ?_, ?_⟩ <;> first | trivial | rfl
theorem hd_bad {b : List Int} (h : tkS 1 (tkR 4 (tkR 4 b)) (tkS 4 (tkR 4 b) (tkS 4 b false)) = true) : b.length < 9 := by
  rcases Nat.lt_or_ge b.length 9 with c | c
  · exact c
  · exfalso
    have : tkS 1 (tkR 4 (tkR 4 b)) (tkS 4 (tkR 4 b) (tkS 4 b false)) = false := by
      rw [tkS_false, tkS_false, tkS_false, tkR_le (show 4 ≤ b.length by omega), tkR_le (show 4 ≤ (b.drop 4).length by rw [List.length_drop]; omega)]
      simp only [List.length_drop]
      exact ⟨by omega, by omega, by omega, trivial⟩
    rw [this] at h; cases h
theorem imD_few {b : List Int} (h : b.length < 9) : imD b = none := imD_head (by unfold headOk; rw [decide_eq_false (by omega)]; simp)
/-- the mark -/
def mkB (b : List Int) : Bool := decide (tkU 4 b = [104, 120, 48, 49])
theorem mkB_head {b : List Int} (h : mkB b = false) : imD b = none := by
  apply imD_head
  rw [← Bool.not_eq_true]
  intro c
  unfold headOk at c
  simp only [Bool.and_eq_true, decide_eq_true_eq] at c
  obtain ⟨⟨⟨⟨c9, c0⟩, c1⟩, c2⟩, c3⟩ := c
  unfold mkB at h
  rw [decide_eq_false_iff_not] at h
  apply h
  rw [tkU_le (by omega)]
  match b, c9, c0, c1, c2, c3 with
  | a0 :: a1 :: a2 :: a3 :: l, _, c0, c1, c2, c3 =>
    simp only [List.getD_cons_zero, List.getD_cons_succ] at c0 c1 c2 c3
    rw [c0, c1, c2, c3]; rfl
theorem mkB_good {b : List Int} (h : mkB b = true) (h9 : 9 ≤ b.length) : headOk b = true := by
  unfold mkB at h
  rw [decide_eq_true_eq, tkU_le (by omega)] at h
  unfold headOk
  simp only [Bool.and_eq_true, decide_eq_true_eq]
  match b, h9, h with
  | a0 :: a1 :: a2 :: a3 :: l, h9, h =>
    simp only [List.take_succ_cons, List.take_zero, List.cons.injEq, and_true] at h
    simp only [List.getD_cons_zero, List.getD_cons_succ]
    exact ⟨⟨⟨⟨h9, h.1⟩, h.2.1⟩, h.2.2.1⟩, h.2.2.2⟩
theorem byte_of {x : Int} (h : 0 ≤ x ∧ x ≤ 255) {n : Nat} (hn : n ≤ 255) (e : UInt8.ofNat x.toNat = UInt8.ofNat n) : x = n := by
  have := congrArg UInt8.toNat e
  rw [UInt8.toNat_ofNat', UInt8.toNat_ofNat'] at this
  omega
theorem mk_str {b : List Int} (ho : ∀ x ∈ b, 0 ≤ x ∧ x ≤ 255) : (mkB b = true → strOfNums (tkU 4 b) = ⟨#[104, 120, 48, 49]⟩) ∧ (mkB b = false → strOfNums (tkU 4 b) ≠ ⟨#[104, 120, 48, 49]⟩) := by
  refine ⟨fun h => ?_, fun h c => ?_⟩
  · unfold mkB at h
    rw [decide_eq_true_eq] at h
    rw [h]; rfl
  · unfold mkB at h
    rw [decide_eq_false_iff_not] at h
    apply h
    by_cases k : 4 ≤ b.length
    · rw [tkU_le k] at c ⊢
      match b, k with
      | a0 :: a1 :: a2 :: a3 :: l, _ =>
        have c' : (⟨#[UInt8.ofNat a0.toNat, UInt8.ofNat a1.toNat, UInt8.ofNat a2.toNat, UInt8.ofNat a3.toNat]⟩ : ByteArray) = ⟨#[104, 120, 48, 49]⟩ := c
        injection c' with c'
        have c2 := congrArg Array.toList c'
        simp only [List.cons.injEq, and_true] at c2
        obtain ⟨e0, e1, e2, e3⟩ := c2
        have r0 := byte_of (ho a0 (by simp)) (n := 104) (by decide) e0
        have r1 := byte_of (ho a1 (by simp)) (n := 120) (by decide) e1
        have r2 := byte_of (ho a2 (by simp)) (n := 48) (by decide) e2
        have r3 := byte_of (ho a3 (by simp)) (n := 49) (by decide) e3
        subst r0 r1 r2 r3
        rfl
    · exfalso
      have e : tkU 4 b = [] := if_neg k
      rw [e] at c
      have c' : (⟨#[]⟩ : ByteArray) = ⟨#[104, 120, 48, 49]⟩ := c
      injection c' with c'
      have := congrArg Array.size c'
      simp at this
/-- what is known of the bytes while pages are read -/
def DecI (b : List Int) (L : List Sg) (r : List Int) (sh : Bool) (left : Nat) : Prop := (sh = true → imD b = none) ∧ (sh = false → 9 ≤ b.length ∧ decS (b.getD 8 0).toNat (b.drop 9) = decT L (decS left r))
theorem DecI.step {b : List Int} {L : List Sg} {r : List Int} {sh : Bool} {left : Nat} (h : DecI b L r sh (left + 1)) (ho : ∀ x ∈ r, 0 ≤ x ∧ x ≤ 255) : DecI b (L ++ [(sgRd r sh).1]) (sgRd r sh).2.1 (sgRd r sh).2.2 left := by
  cases sh with
  | true =>
    refine ⟨fun _ => h.1 rfl, fun c => ?_⟩
    rw [sgRd_true] at c; cases c
  | false =>
    obtain ⟨h9, hd⟩ := h.2 rfl
    refine ⟨fun c => ?_, fun c => ?_⟩
    · have hn : decS (b.getD 8 0).toNat (b.drop 9) = none := by rw [hd, sgRd_bad ho c]; rfl
      cases hh : headOk b with
      | false => exact imD_head hh
      | true => rw [imD_of hh, hn]
    · refine ⟨h9, ?_⟩
      rw [hd, (sgRd_ok ho c left).2]
      cases decS left (sgRd r false).2.1 with
      | none => rfl
      | some p =>
        obtain ⟨M, q⟩ := p
        show some (L ++ (_ :: M), q) = some (L ++ [_] ++ M, q)
        rw [List.append_assoc]; rfl
theorem DecI.start {b : List Int} : DecI b [] (tkR 1 (tkR 4 (tkR 4 b))) (tkS 1 (tkR 4 (tkR 4 b)) (tkS 4 (tkR 4 b) (tkS 4 b false))) (nmV 1 (tkR 4 (tkR 4 b))).toNat := by
  refine ⟨fun h => imD_few (hd_bad h), fun h => ?_⟩
  obtain ⟨h9, -, -, h3, h4⟩ := hd_ok h
  refine ⟨h9, ?_⟩
  rw [h3, h4, decT_nil]
theorem DecI.end_ {b : List Int} {L : List Sg} {r : List Int} {sh : Bool} (h : DecI b L r sh 0) : (sh = true → imD b = none) ∧ (sh = false → mkB b = true → imD b = if r = [] ∧ imOk (wh4 b) L = true then some (wh4 b, L) else none) := by
  refine ⟨h.1, fun c m => ?_⟩
  obtain ⟨h9, hd⟩ := h.2 c
  rw [imD_of (mkB_good m h9), hd]
  show (match some (L ++ [], r) with | none => none | some (L, q) => if q = [] ∧ imOk (wh4 b) L = true then some (wh4 b, L) else none) = _
  rw [List.append_nil]
end Go.Proofs.YtealjgfijlencaaDoor
