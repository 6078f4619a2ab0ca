/- The package of paths: Check, Split, Join, Last. -/
import Derived.Test.YtmaocaddoohfmaaDoorPaA
import Derived.Test.YtmaocaddoohfmaaDoorPaMath
import Derived.Test.YtmaocaddoohfmaaDoorIdxMath
import Derived.Test.YtmaocaddoohfmaaDoorShelf
namespace Go.Proofs.YtmaocaddoohfmaaDoor
open Go.RowKit
set_option linter.unusedVariables false
set_option maxRecDepth 100000
/-- the library's one number is there -/
def Mx (w : World) : Prop := ∃ m, w.cell? ⟨1, 0, none⟩ = some (.int .i64 m)
theorem Mx.new {w w' : World} (h : Mx w) (n : New w w') : Mx w' := let ⟨m, k⟩ := h; ⟨m, n.cellv k⟩
theorem cut_path (l : List UInt8) : (Lib.cut l [47]).1 = cutA l ∧ (Lib.cut l [47]).2.1 = cutB l := by
  unfold Lib.cut cutA cutB
  rcases first_byte 47 l with ⟨h, hno⟩ | ⟨q, t, rfl, hq, h⟩
  · rw [if_neg (by omega)]
    have e : l.takeWhile (fun x => x != (47 : UInt8)) = l := by
      have := List.takeWhile_append_of_pos (p := fun x => x != (47 : UInt8)) (l₁ := l) (l₂ := []) (fun b hm => by rw [bne_iff_ne]; exact fun e => hno (by rw [← e]; exact hm))
      simpa using this
    have e2 := List.takeWhile_append_dropWhile (p := fun x => x != (47 : UInt8)) (l := l)
    rw [e] at e2
    have e3 : l.dropWhile (fun x => x != (47 : UInt8)) = [] := List.append_cancel_left (by rw [e2, List.append_nil])
    rw [e3]
    exact ⟨e.symm, rfl⟩
  · have hp : ∀ b ∈ q, (b != (47 : UInt8)) = true := fun b hm => by rw [bne_iff_ne]; exact fun e => hq (by rw [← e]; exact hm)
    rw [if_pos (by omega), h, Int.toNat_natCast, List.takeWhile_append_of_pos hp, List.dropWhile_append_of_pos hp, List.takeWhile_cons_of_neg (by decide), List.dropWhile_cons_of_neg (by decide)]
    refine ⟨by simp, ?_⟩
    show (q ++ 47 :: t).drop (q.length + 1) = t
    rw [← List.drop_drop]; simp
theorem pcut_any (l : List UInt8) (w : World) (hl : l.length ≤ 4294967280) (h : Mx w) :
    Calls Tryd.prog 28 #[.string (ba l), .string ⟨#[47]⟩] w fun e w' => ∃ b, e = .returned (.tuple #[.string (ba (cutA l)), .string (ba (cutB l)), .bool b]) ∧ New w w' := by
  obtain ⟨m, hm⟩ := h
  refine (Tryd.strings_Cut (ba l) ⟨#[47]⟩ m w (by rw [ba_size]; omega) hm).mono ?_
  rintro e w' ⟨rfl, n, rfl⟩
  have e1 : (⟨#[47]⟩ : ByteArray).data.toList = [47] := rfl
  rw [ba_data, e1, (cut_path l).1, (cut_path l).2]
  exact ⟨_, rfl, (New.refl w).drewN n⟩
theorem clone_any (l : List UInt8) (w : World) (hl : l.length ≤ 281474976710656) : Calls Tryd.prog 24 #[.string (ba l)] w fun e w' => e = .returned (.string (ba l)) ∧ New w w' := by
  have c := Tryd.stringslite_Clone (ba l) w (by rw [ba_size]; exact hl)
  go_enter Tryd.func24, Tryd.ntmps24
  go_wp2_with fail
  refine c.mono ?_
  rintro e w1 ⟨rfl, n1⟩
  go_wp2
  go_ret
  exact ⟨rfl, n1⟩
theorem okB_int (b : UInt8) : okB b = ((decide (97 ≤ (b.toNat : Int)) && decide ((b.toNat : Int) ≤ 122)) || (decide (48 ≤ (b.toNat : Int)) && decide ((b.toNat : Int) ≤ 57)) || decide ((b.toNat : Int) = 46) || decide ((b.toNat : Int) = 95) || decide ((b.toNat : Int) = 45)) := by
  unfold okB
  have e : ∀ m : Nat, decide ((b.toNat : Int) = (m : Int)) = decide (b.toNat = m) := fun m => by rw [decide_eq_decide]; omega
  have e1 : ∀ m : Nat, decide ((b.toNat : Int) ≤ (m : Int)) = decide (b.toNat ≤ m) := fun m => by rw [decide_eq_decide]; omega
  have e2 : ∀ m : Nat, decide ((m : Int) ≤ (b.toNat : Int)) = decide (m ≤ b.toNat) := fun m => by rw [decide_eq_decide]; omega
  rw [← e 46, ← e 95, ← e 45, ← e1 122, ← e1 57, ← e2 97, ← e2 48]; rfl
theorem isname_any (b : UInt8) (w : World) : Calls Tryd.prog 26 #[.int .u8 (b.toNat : Int)] w fun e w' => e = .returned (.bool (okB b)) ∧ w' = w := by
  rw [okB_int]
  have hb : b.toNat < 256 := b.toNat_lt
  generalize b.toNat = n at *
  by_cases h1 : (n : Int) = 46
  · go_enter Tryd.func26, Tryd.ntmps26
    go_wp2
    go_ret
    exact ⟨ret_bool (by simp [h1]), rfl⟩
  · by_cases h2 : (n : Int) = 95
    · go_enter Tryd.func26, Tryd.ntmps26
      go_wp2
      go_ret
      exact ⟨ret_bool (by simp [h2]), rfl⟩
    · by_cases h3 : (n : Int) = 45
      · go_enter Tryd.func26, Tryd.ntmps26
        go_wp2
        go_ret
        exact ⟨ret_bool (by simp [h3]), rfl⟩
      · have d1 : decide ((n : Int) = 46) = false := decide_eq_false h1
        have d2 : decide ((n : Int) = 95) = false := decide_eq_false h2
        have d3 : decide ((n : Int) = 45) = false := decide_eq_false h3
        rw [d1, d2, d3, Bool.or_false, Bool.or_false, Bool.or_false]
        by_cases c1 : (97 : Int) ≤ n <;> by_cases c2 : (n : Int) ≤ 122 <;> by_cases c3 : (48 : Int) ≤ n <;> by_cases c4 : (n : Int) ≤ 57 <;> (try (exfalso; omega)) <;> (
          simp only [c1, c2, c3, c4, decide_true, decide_false, Bool.and_true, Bool.and_false, Bool.or_true, Bool.or_false]
          go_enter Tryd.func26, Tryd.ntmps26
          go_wp2
          go_ret
          exact ⟨rfl, rfl⟩)
end Go.Proofs.YtmaocaddoohfmaaDoor
