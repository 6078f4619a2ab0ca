/- Programs as bytes, the document's: number, whole. -/
import Derived.Test.YtealjgfijlencaaDoorImMath
import Derived.Test.YtealjgfijlencaaDoorByts
import Derived.Test.YtealjgfijlencaaDoorBox
import Derived.Test.YtealjgfijlencaaDoorWhole
import Derived.Laws.MakeOwn
import Derived.Deep.LoopGhost
import Derived.Deep.Cut
import Derived.Deep.CutBlock
namespace Go.Proofs.YtealjgfijlencaaDoor
open Go.RowKit Go.Joins
set_option linter.unusedVariables false
set_option maxRecDepth 100000
/-- a number as so many bytes -/
def nbL : Int → Nat → List Int
  | _, 0 => []
  | n, k + 1 => n % 256 :: nbL (n / 256) k
theorem nbL_len : ∀ (k : Nat) (n : Int), (nbL n k).length = k
  | 0, _ => rfl
  | k + 1, n => by show (_ :: nbL (n / 256) k).length = _; rw [List.length_cons, nbL_len k]
theorem nbL_two (n : Int) : nbL n 2 = nb2 n := rfl
theorem nbL_four (n : Int) : nbL n 4 = nb4 n := by
  show [n % 256, n / 256 % 256, n / 256 / 256 % 256, n / 256 / 256 / 256 % 256] = _
  unfold nb4
  rw [show n / 256 / 256 = n / 65536 by omega, show n / 65536 / 256 = n / 16777216 by omega]
theorem c8_set (l : List Int) (i : Nat) (x : Int) : (cells8 l).set i (.int .u8 x) = cells8 (l.set i x) := by unfold cells8; rw [List.map_set]
theorem c8_at (l : List Int) (i : Nat) (hi : i < l.length) : (cells8 l)[i]? = some (.int .u8 (l.getD i 0)) := by
  unfold cells8
  rw [List.getElem?_map, List.getD_eq_getElem?_getD, List.getElem?_eq_getElem hi]; rfl
theorem make_bytes (m : Nat) (hm : m ≤ 100000) (w : World) : (Instr.makeSlice 26 (.int .i64 (m : Int)) (.int .i64 (m : Int))).run Tryd.prog w =
    .ok (.slice (some ⟨w.heap.size, 0, none⟩) m m) (w.alloc (.cells (cells8 (List.replicate m 0)).toArray 5)) := by
  obtain ⟨i, hi, hz, hs, hb⟩ := info_parts byte_info
  have hr := run_make (P := Tryd.prog) w 26 5 i _ Tryd.underlying26 hi hz .i64 .i64 m m (by omega) (Int.le_refl _) (by rw [hb]; omega) (by omega)
  simp only [Int.toNat_natCast, hs] at hr
  rw [hr]
  have e : madeCells (Value.int .u8 0).cells (m * 1) = (cells8 (List.replicate m 0)).toArray := by
    rw [cells8_zeros]
    apply Array.ext
    · simp [madeCells]
    · intro i h1 h2; simp [madeCells, Value.cells, Nat.mod_one]
  rw [e]
set_option maxHeartbeats 2000000 in
theorem rnumber_any (n : Int) (hn : 0 ≤ n ∧ n ≤ 4611686018427387904) (k : Nat) (hk : k ≤ 8) (w : World) : Calls Tryd.prog 17 #[.int .i64 n, .int .i64 (k : Int)] w fun e w' => ∃ v, e = .returned v ∧ Byts w' v (nbL n k) ∧ New w w' := by
  have hmk := make_bytes k (by omega)
  have BZ : Box (w.alloc (.cells (cells8 (List.replicate k 0)).toArray 5)) w.heap.size (cells8 (List.replicate k 0)).toArray 5 := Box.here w _ _ _ rfl
  have nw : New w (w.alloc (.cells (cells8 (List.replicate k 0)).toArray 5)) := (New.refl w).alloc _ _
  have HZ := Lib.hid (And.intro BZ nw)
  clear BZ nw
  go_enter Tryd.func17, Tryd.ntmps17
  go_wp2_with fail
  go_loopg [0, 6] k (fun q m i wr => ∃ (j : Nat) (m' : Int) (L : List Int), j + q = k ∧ m = .int .i64 m' ∧ i = .int .i64 (j : Int) ∧ (0 ≤ m' ∧ m' ≤ 4611686018427387904) ∧ L.length = k ∧ L.take j ++ nbL m' (k - j) = nbL n k ∧ Box wr w.heap.size (cells8 L).toArray 5 ∧ New w wr)
  case atStart => exact ⟨0, n, List.replicate k 0, by omega, rfl, rfl, hn, by simp, by simp, HZ.out.1, HZ.out.2⟩
  case round =>
    obtain ⟨j, m, L, hj, rfl, rfl, hm, hL, hT, hB, hN⟩ := hrel
    have J := Lib.hid hj
    have HT := Lib.hid hT
    have HB := Lib.hid hB
    have HN := Lib.hid hN
    have HL := Lib.hid hL
    by_cases c : j < k
    · have hc : wr.cell? ⟨w.heap.size, j, none⟩ = some (.int .u8 (L.getD j 0)) := by rw [hB.cell, List.getElem?_toArray]; exact c8_at L j (by omega)
      have fz := hB.unfrozen j
      have lb := hB.lt
      have e1 : IntKind.u8.wrap (m.tmod 256) = m % 256 := by rw [Int.tmod_eq_emod_of_nonneg hm.1, IntKind.wrap_u8]; omega
      have e2 : m.tdiv 256 = m / 256 := Int.tdiv_eq_ediv_of_nonneg hm.1
      have hT2 : (L.set j (m % 256)).take (j + 1) ++ nbL (m / 256) (k - (j + 1)) = nbL n k := by
        rw [← HT.out]
        obtain ⟨r, hr⟩ : ∃ r, k - j = r + 1 := ⟨k - j - 1, by omega⟩
        rw [hr, show k - (j + 1) = r by omega]
        show _ = L.take j ++ (m % 256 :: nbL (m / 256) r)
        rw [List.take_add_one, List.take_set_of_le (Nat.le_refl j), List.getElem?_set_self (by omega)]
        simp
      have E := Lib.hid (And.intro e1 (And.intro e2 hT2))
      have hm2 := Lib.hid (show 0 ≤ m / 256 ∧ m / 256 ≤ 4611686018427387904 by omega)
      have C := Lib.hid c
      clear hj hT hB hN hL e1 e2 hT2 HT
      go_wp2_with fail
      go_roundg (k - (j + 1))
      case measure => have := J.out; omega
      case rel => exact ⟨j + 1, m / 256, L.set j (m % 256), by have := J.out; omega, rfl, by go_num, hm2.out, by rw [List.length_set]; exact HL.out, E.out.2.2, by
        have := HB.out.setL j (.int .u8 (m % 256))
        rwa [c8_set] at this, HN.out.setCell (p := ⟨w.heap.size, j, none⟩) (Nat.le_refl _) _⟩
    · obtain rfl : j = k := by omega
      have e0 : L = nbL n j := by
        rw [← hT, List.take_of_length_le (by omega), Nat.sub_self]
        show L = L ++ []
        rw [List.append_nil]
      have E0 := Lib.hid e0
      clear hj hT hB hN hL e0
      go_wp2
      go_ret
      refine ⟨_, rfl, ?_, HN.out⟩
      have := byts_of_block (cap := j) HB.out (by rw [HL.out]; unfold maxLen; omega)
      rw [HL.out] at this
      rwa [← E0.out]
/-- so many bytes' number -/
def whL (l : List Int) (at_ : Nat) : Nat → Int
  | 0 => 0
  | k + 1 => 256 * whL l (at_ + 1) k + l.getD at_ 0
theorem whL_up (l : List Int) : ∀ (k at_ : Nat), (∀ x ∈ l, 0 ≤ x ∧ x ≤ 255) → 0 ≤ whL l at_ k ∧ whL l at_ k < 256 ^ k
  | 0, _, _ => ⟨Int.le_refl 0, by show (0 : Int) < 256 ^ 0; decide⟩
  | k + 1, a, h => by
    have ih := whL_up l k (a + 1) h
    have hb : 0 ≤ l.getD a 0 ∧ l.getD a 0 ≤ 255 := by
      rw [List.getD_eq_getElem?_getD]
      cases c : l[a]? with
      | none => simp
      | some x => exact h x (List.mem_of_getElem? c)
    show 0 ≤ 256 * whL l (a + 1) k + l.getD a 0 ∧ 256 * whL l (a + 1) k + l.getD a 0 < 256 ^ (k + 1)
    rw [Int.pow_succ]
    omega
set_option maxHeartbeats 2000000 in
theorem rwhole_any {w : World} {v : Value} {l : List Int} (h : Byts w v l) (hb : ∀ x ∈ l, 0 ≤ x ∧ x ≤ 255) (at_ k : Nat) (hk : k ≤ 4) (hat : at_ + k ≤ l.length) : Calls Tryd.prog 21 #[v, .int .i64 (at_ : Int), .int .i64 (k : Int)] w fun e w' => e = .returned (.int .i64 (whL l at_ k)) ∧ w = w' := by
  obtain ⟨p, cap, rfl, hcap, hc⟩ := h
  have HC := Lib.hid hc
  have hlm : l.length ≤ 9223372036854775807 := by unfold maxLen at hcap; omega
  have HBB := Lib.hid hb
  have HAT := Lib.hid hat
  clear hc hcap hb
  go_enter Tryd.func21, Tryd.ntmps21
  go_wp2_with fail
  go_loopg [7, 8] (k + 1) (fun q m i wr => ∃ (j : Nat), j ≤ k ∧ j + 1 = q ∧ m = .int .i64 (whL l (at_ + j) (k - j)) ∧ i = .int .i64 ((j : Int) - 1) ∧ wr = w)
  case atStart => exact ⟨k, Nat.le_refl _, rfl, by rw [Nat.sub_self]; rfl, by go_num, rfl⟩
  case round =>
    obtain ⟨j, hj, hq, rfl, rfl, rfl⟩ := hrel
    have J := Lib.hid (And.intro hj hq)
    by_cases c : 1 ≤ j
    · obtain ⟨r, rfl⟩ : ∃ r, j = r + 1 := ⟨j - 1, by omega⟩
      obtain ⟨a, rfl, ha⟩ := HC.out (at_ + r) (by have := HAT.out; omega)
      have ub := whL_up l (k - (r + 1)) (at_ + (r + 1)) HBB.out
      have e4 : whL l (at_ + r) (k - r) = 256 * whL l (at_ + (r + 1)) (k - (r + 1)) + l.getD (at_ + r) 0 := by
        obtain ⟨s, hs⟩ : ∃ s, k - r = s + 1 := ⟨k - r - 1, by omega⟩
        rw [hs, show k - (r + 1) = s by omega]; rfl
      have hpw : (256 : Int) ^ (k - (r + 1)) ≤ 16777216 := by
        have : k - (r + 1) = 0 ∨ k - (r + 1) = 1 ∨ k - (r + 1) = 2 ∨ k - (r + 1) = 3 := by omega
        rcases this with h | h | h | h <;> rw [h] <;> decide
      have hxb : 0 ≤ l.getD (at_ + r) 0 ∧ l.getD (at_ + r) 0 ≤ 255 := by
        rw [List.getD_eq_getElem?_getD]
        cases c : l[at_ + r]? with
        | none => simp
        | some x => exact HBB.out x (List.mem_of_getElem? c)
      have E4 := Lib.hid e4
      have ub2 : 0 ≤ whL l (at_ + (r + 1)) (k - (r + 1)) ∧ whL l (at_ + (r + 1)) (k - (r + 1)) ≤ 16777216 := by omega
      have hlt : at_ + r < l.length := by have := HAT.out; omega
      clear ub hpw hj hq e4
      generalize whL l (at_ + (r + 1)) (k - (r + 1)) = m at *
      generalize l.getD (at_ + r) 0 = x at *
      have er : ((r : Int) + 1 - 1) = (r : Int) := by omega
      go_wp2_with fail
      go_roundg (r + 1)
      case measure => have := J.out; omega
      case rel => exact ⟨r, by have := J.out; omega, rfl, by rw [E4.out], by go_num, rfl⟩
    · obtain rfl : j = 0 := by omega
      clear hj hq c
      go_wp2
      go_ret
      exact ⟨rfl, rfl⟩
end Go.Proofs.YtealjgfijlencaaDoor
