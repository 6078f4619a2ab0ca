/- Texts of eight digits read as sets, by the package and by the document's own answers: contracts, for all strings, in any world. -/
import Derived.Test.YtfhoonjofphddaaDoorSetD
import Derived.Laws.Externs
namespace Go.Proofs.YtfhoonjofphddaaDoor
open Go.RowKit
set_option linter.unusedVariables false
theorem idxb_any (s : ByteArray) (c : Int) (w : World) : Calls Tryd.prog 28 #[.string s, .int .u8 c] w fun e w' => e = .returned (.int .i64 (Lib.indexByte s.data.toList c.toNat.toUInt8)) ∧ w = w' := by
  have h35 := @run_callFunc_extern Tryd.prog 35 _ Extern.BytealgIndexByte.indexByte Tryd.func35 (by kernel_rfl) (by kernel_rfl) (by kernel_rfl) (by kernel_rfl)
  have hr := fun w => Lib.run_indexByteString (P := Tryd.prog) s c w
  have inner : ∀ w, Calls Tryd.prog 30 #[.string s, .int .u8 c] w fun e w' => e = .returned (.int .i64 (Lib.indexByte s.data.toList c.toNat.toUInt8)) ∧ w = w' := by
    intro w
    go_enter Tryd.func30, Tryd.ntmps30
    go_wp2
    go_ret
    exact ⟨rfl, rfl⟩
  clear h35 hr
  go_enter Tryd.func28, Tryd.ntmps28
  go_wp2_with ((with_reducible refine (inner _).mono ?_); rintro e w' ⟨rfl, rfl⟩)
  go_ret
  exact ⟨rfl, rfl⟩
theorem size_list (t : ByteArray) : t.data.toList.length = t.size := Array.length_toList
theorem idx_hex (c : UInt8) (w : World) : Calls Tryd.prog 28 #[.string ⟨#[48, 49, 50, 51, 52, 53, 54, 55, 56, 57, 97, 98, 99, 100, 101, 102]⟩, .int .u8 (c.toNat : Int)] w fun e w' => e = .returned (.int .i64 (hexv c)) ∧ w = w' := by
  have h := idxb_any hexs (c.toNat : Int) w
  rw [u8_back] at h
  exact h
theorem parse_len (t : ByteArray) (w : World) (hs : t.size ≤ maxLen) (hn : t.size ≠ 8) :
    Calls Tryd.prog 21 #[.string t] w fun e w' => e = .returned (.tuple #[.int .u32 0, .iface 51 (.int .i64 22)]) ∧ w = w' := by
  unfold maxLen at hs
  have f : ((t.size : Int) != 8) = true := by simp; omega
  go_enter Tryd.func21, Tryd.ntmps21
  go_wp2
  go_ret2
  exact ⟨rfl, rfl⟩
/-- what Parse answers -/
def Parsed (l : List UInt8) (w : World) (e : Ending) (w' : World) : Prop := e = .returned (.tuple #[.int .u32 (pv l), erN (pec l)]) ∧ w = w'
set_option maxHeartbeats 1000000 in
theorem parse_8 (t : ByteArray) (w : World) (hn : t.size = 8) :
    Calls Tryd.prog 21 #[.string t] w (Parsed t.data.toList w) := by
  have f : ((t.size : Int) != 8) = false := by simp; omega
  have hl : t.data.toList.length = 8 := by rw [size_list]; exact hn
  have HL := Lib.hid hl
  have HN := Lib.hid hn
  have hz : 8 ≤ t.size := by omega
  clear hl hn
  go_enter Tryd.func21, Tryd.ntmps21
  go_wp2
  go_loopg [4, 11] 8 (fun k s c wr => ∃ j : Nat, j + k = 8 ∧ c = .int .i64 (j : Int) ∧ s = .int .u32 (accL (t.data.toList.take j)) ∧ okL (t.data.toList.take j) = true ∧ w = wr)
  case atStart => exact ⟨0, rfl, rfl, rfl, rfl, rfl⟩
  case round =>
    obtain ⟨j, hj, rfl, rfl, hok, rfl⟩ := hrel
    by_cases hlt : j < 8
    · have b := acc_take t.data.toList j hlt hok
      have hjt : j < t.size := by omega
      have hjl : j < t.data.toList.length := by have := HL.out; omega
      have hv := hexv_bd t[j]
      have HK := Lib.hid hok
      have A := Lib.hid (show accL (t.data.toList.take (j + 1)) = 16 * accL (t.data.toList.take j) + hexv t[j] from acc_step t.data.toList j hjl)
      have HJ := Lib.hid hj
      clear hok hj
      by_cases d : 0 ≤ hexv t[j]
      · have O := Lib.hid (ok_step t.data.toList j hjl HK.out d)
        have R := Lib.hid (or16 (accL (t.data.toList.take j)) (hexv t[j]) b.1 b.2 d hv.2)
        generalize accL (t.data.toList.take j) = s at *
        have h1 := hv.2
        have h0 := b.1
        have h2 := b.2
        have R0 := R.out
        go_wp2_with ((with_reducible refine (idx_hex _ _).mono ?_); rintro e w' ⟨rfl, rfl⟩; generalize hexv t[j] = v at *)
        go_roundg (7 - j)
        case measure => have := HJ.out; omega
        case rel => exact ⟨j + 1, by have := HJ.out; omega, by go_num, by rw [A.out], O.out, rfl⟩
      · have P := Lib.hid (pok_dig (l := t.data.toList) t[j] (show t.data.toList[j] ∈ t.data.toList from List.getElem_mem hjl) (by omega))
        have dd : hexv t[j] < 0 := by omega
        go_wp2_with ((with_reducible refine (idx_hex _ _).mono ?_); rintro e w' ⟨rfl, rfl⟩; generalize hexv t[j] = v at *)
        go_ret2
        refine ⟨?_, rfl⟩
        rw [pv_no P.out, pec_no P.out]; rfl
    · obtain rfl : j = 8 := by omega
      have T := Lib.hid (show t.data.toList.take 8 = t.data.toList from List.take_of_length_le (by have := HL.out; omega))
      rw [T.out] at hok
      have b := acc_full t.data.toList hok HL.out
      have tb := top_bit (accL t.data.toList) b.1 b.2
      rw [T.out]
      by_cases c : accL t.data.toList < 2147483648
      · rw [if_pos c] at tb
        have P := Lib.hid (pok_yes HL.out hok c)
        have E := Lib.hid (pv_yes P.out)
        generalize accL t.data.toList = s at *
        clear hok hj
        go_wp2
        go_ret2
        refine ⟨?_, rfl⟩
        rw [E.out, pec_yes P.out]; rfl
      · rw [if_neg c] at tb
        have P := Lib.hid (pok_big (l := t.data.toList) c)
        generalize accL t.data.toList = s at *
        clear hok hj
        go_wp2
        go_ret2
        refine ⟨?_, rfl⟩
        rw [pv_no P.out, pec_no P.out]; rfl
theorem parse_any (t : ByteArray) (w : World) (hs : t.size ≤ maxLen) : Calls Tryd.prog 21 #[.string t] w (Parsed t.data.toList w) := by
  by_cases h : t.size = 8
  · exact parse_8 t w h
  · have P : pok t.data.toList = false := pok_len (by rw [size_list]; exact h)
    refine (parse_len t w hs h).mono fun e w' he => ⟨?_, he.2⟩
    rw [he.1, pv_no P, pec_no P]; rfl
/-- the last of the first k digits that is this one -/
def fk (v : Int) (k : Nat) : Int := if v < k then v else -1
theorem fk_zero {v : Int} (h : -1 ≤ v) : fk v 0 = -1 := by unfold fk; split <;> omega
theorem fk_hit {v : Int} {k : Nat} (h : v = k) : fk v (k + 1) = k := by unfold fk; rw [if_pos (by omega), h]
theorem fk_miss {v : Int} {k : Nat} (h : v ≠ k) : fk v (k + 1) = fk v k := by
  unfold fk
  by_cases c : v < k
  · rw [if_pos c, if_pos (by omega)]
  · rw [if_neg c, if_neg (by omega)]
theorem fk_all {v : Int} (h : v ≤ 15) : fk v 16 = v := by unfold fk; rw [if_pos (by omega)]
theorem rparse_len (t : ByteArray) (w : World) (hs : t.size ≤ maxLen) (hn : t.size ≠ 8) :
    Calls Tryd.prog 22 #[.string t] w fun e w' => e = .returned (.tuple #[.int .u32 0, .int .i64 22]) ∧ w = w' := by
  unfold maxLen at hs
  have f : ((t.size : Int) != 8) = true := by simp; omega
  go_enter Tryd.func22, Tryd.ntmps22
  go_wp2
  go_ret2
  exact ⟨rfl, rfl⟩
/-- what the document's Parse answers -/
def RParsed (l : List UInt8) (w : World) (e : Ending) (w' : World) : Prop := e = .returned (.tuple #[.int .u32 (pv l), .int .i64 (pec l)]) ∧ New w w'
set_option maxHeartbeats 2000000 in
theorem rparse_8 (t : ByteArray) (w : World) (hn : t.size = 8) :
    Calls Tryd.prog 22 #[.string t] w (RParsed t.data.toList w) := by
  have f : ((t.size : Int) != 8) = false := by simp; omega
  have hl : t.data.toList.length = 8 := by rw [size_list]; exact hn
  have HL := Lib.hid hl
  have HN := Lib.hid hn
  have hz : 8 ≤ t.size := by omega
  clear hl hn
  go_enter Tryd.func22, Tryd.ntmps22
  go_wp2
  go_loopg [4, 5] 8 (fun k s c wr => ∃ j n : Nat, j + k = 8 ∧ c = .int .i64 (j : Int) ∧ s = .int .u64 (accL (t.data.toList.take j)) ∧ okL (t.data.toList.take j) = true ∧ wr = w.drewN n)
  case atStart => exact ⟨0, 0, rfl, rfl, rfl, rfl, rfl⟩
  case round =>
    obtain ⟨j, n, hj, rfl, rfl, hok, rfl⟩ := hrel
    by_cases hlt : j < 8
    · have b := acc_take t.data.toList j hlt hok
      have hjt : j < t.size := by omega
      have hjl : j < t.data.toList.length := by have := HL.out; omega
      have hv := hexv_bd t[j]
      have HK := Lib.hid hok
      have A := Lib.hid (show accL (t.data.toList.take (j + 1)) = 16 * accL (t.data.toList.take j) + hexv t[j] from acc_step t.data.toList j hjl)
      have HJ := Lib.hid hj
      have z := Lib.hid (fk_zero hv.1)
      clear hok hj
      have b1 := b.1
      have b2 := b.2
      generalize hS : accL (t.data.toList.take j) = s at *
      have HS := Lib.hid hS
      clear hS
      go_wp2_with fail
      go_loopg [6, 7] 16 (fun g d c wr => ∃ k n : Nat, k + g = 16 ∧ c = .int .i64 (k : Int) ∧ d = .int .i64 (fk (hexv t[j]) k) ∧ wr = w.drewN n)
      case atStart => exact ⟨0, n, rfl, rfl, by rw [z.out], rfl⟩
      case round =>
        obtain ⟨k, n, hk, rfl, rfl, rfl⟩ := hrel
        by_cases hlt2 : k < 16
        · have hidx : ∀ h, (⟨#[48, 49, 50, 51, 52, 53, 54, 55, 56, 57, 97, 98, 99, 100, 101, 102]⟩ : ByteArray)[k]'h = hx k := fun h => hex_idx k h
          have HJ2 := Lib.hid hk
          clear hk
          by_cases d : hexv t[j] = (k : Int)
          · have ct := hex_same t[j] k hlt2 d
            have S := Lib.hid (fk_hit d)
            generalize hx k = y at *
            clear d
            go_wp2
            go_quiet (fail)
            go_wp2
            go_roundg (15 - k)
            case measure => have := HJ2.out; omega
            case rel => exact ⟨k + 1, _, by have := HJ2.out; omega, by go_num, by rw [S.out], rfl⟩
          · have ct := hex_other t[j] k hlt2 d
            have S := Lib.hid (fk_miss d)
            generalize hx k = y at *
            clear d
            go_wp2
            go_quiet (fail)
            go_wp2
            go_roundg (15 - k)
            case measure => have := HJ2.out; omega
            case rel => exact ⟨k + 1, _, by have := HJ2.out; omega, by go_num, by rw [S.out], rfl⟩
        · obtain rfl : k = 16 := by omega
          have F := Lib.hid (fk_all hv.2)
          have h1 := hv.2
          rw [F.out]
          clear hk hlt2
          by_cases d : 0 ≤ hexv t[j]
          · have O := Lib.hid (ok_step t.data.toList j hjl HK.out d)
            generalize hexv t[j] = v at *
            go_wp2
            go_roundg (7 - j)
            case measure => have := HJ.out; omega
            case rel => exact ⟨j + 1, _, by have := HJ.out; omega, by go_num, by rw [A.out], O.out, rfl⟩
          · have P := Lib.hid (pok_dig (l := t.data.toList) t[j] (show t.data.toList[j] ∈ t.data.toList from List.getElem_mem hjl) (by omega))
            have dd : hexv t[j] < 0 := by omega
            generalize hexv t[j] = v at *
            go_wp2
            go_ret2
            refine ⟨?_, (New.refl _).drewN _⟩
            rw [pv_no P.out, pec_no P.out]; rfl
    · obtain rfl : j = 8 := by omega
      have T := Lib.hid (show t.data.toList.take 8 = t.data.toList from List.take_of_length_le (by have := HL.out; omega))
      rw [T.out] at hok
      have b := acc_full t.data.toList hok HL.out
      rw [T.out]
      by_cases c : accL t.data.toList < 2147483648
      · have P := Lib.hid (pok_yes HL.out hok c)
        have E := Lib.hid (pv_yes P.out)
        generalize accL t.data.toList = s at *
        clear hok hj
        go_wp2
        go_ret2
        refine ⟨?_, (New.refl _).drewN _⟩
        rw [E.out, pec_yes P.out]; rfl
      · have P := Lib.hid (pok_big (l := t.data.toList) c)
        generalize accL t.data.toList = s at *
        clear hok hj
        go_wp2
        go_ret2
        refine ⟨?_, (New.refl _).drewN _⟩
        rw [pv_no P.out, pec_no P.out]; rfl
theorem rparse_any (t : ByteArray) (w : World) (hs : t.size ≤ maxLen) : Calls Tryd.prog 22 #[.string t] w (RParsed t.data.toList w) := by
  by_cases h : t.size = 8
  · exact rparse_8 t w h
  · have P : pok t.data.toList = false := pok_len (by rw [size_list]; exact h)
    refine (rparse_len t w hs h).mono fun e w' he => ⟨?_, by rw [he.2]; exact New.refl _⟩
    rw [he.1, pv_no P, pec_no P]
end Go.Proofs.YtfhoonjofphddaaDoor
