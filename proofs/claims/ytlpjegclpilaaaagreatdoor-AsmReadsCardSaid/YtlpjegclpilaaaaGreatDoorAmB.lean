/- The package's functions number, register and fill: the numbers of words. -/
import Derived.Test.YtlpjegclpilaaaaGreatDoorAmA
import Derived.Test.YtlpjegclpilaaaaGreatDoorShelf
import Derived.Test.YtlpjegclpilaaaaGreatDoorBox
import Derived.Test.YtlpjegclpilaaaaGreatDoorFar
import Derived.Lib.AtoiErrMem
namespace Go.Proofs.YtlpjegclpilaaaaGreatDoor
open Go.RowKit
set_option linter.unusedVariables false
theorem itoa_any (n : Int) (w : World) (h : Env w) (h0 : -9223372036854775808 ≤ n) (h1 : n ≤ 9223372036854775807) :
    Calls Tryz.prog 18 #[.int .i64 n] w fun e w' => e = .returned (.string (ba (Lib.itoa n))) ∧ New w w' := by
  refine (Tryz.strconv_Itoa n h0 h1 w h.pow).mono ?_
  rintro e w' ⟨rfl, k, os, rfl⟩
  exact ⟨rfl, below_grown w k os⟩
/-- the package's error 22 -/
theorem er22 : erN 22 = .iface 55 (.int .i64 22) := erN_pos (by decide)
set_option maxHeartbeats 1000000 in
theorem number_ok (l : List UInt8) (n : Int) (w : World) (h : Env w) (hl : l.length ≤ 281474976710656) (hn : numP l = some n) :
    Calls Tryz.prog 45 #[.string (ba l)] w fun e w' => e = .returned (.tuple #[.int .i64 n, .nilIface]) ∧ New w w' := by
  obtain ⟨rfl, h0, h1⟩ := numP_some hn
  have ha := atoi_itoa n h0 h1
  have c1 := Tryz.strconv_Atoi_ok (ba (Lib.itoa n)) (by rw [ba_size]; omega) n (by rw [ba_data]; exact ha) w
  have e := ba_eq (a := Lib.itoa n) rfl
  have c2 : ∀ w1, New w w1 → Calls Tryz.prog 18 #[.int .i64 n] w1 fun e w' => e = .returned (.string (ba (Lib.itoa n))) ∧ New w1 w' := fun w1 n1 => itoa_any n w1 (h.new n1) h0 h1
  clear h hn ha hl h0 h1
  generalize Lib.itoa n = l at *
  go_enter Tryz.func45, Tryz.ntmps45
  go_wp2_with (go_at_call 59; refine c1.mono ?_; rintro e w1 ⟨rfl, hw⟩)
  have n1 : New w w1 := by
    rcases hw with rfl | ⟨t, rfl⟩
    · exact New.refl _
    · exact Lib.bytesWorld_below _ _ _
  clear hw c1
  go_wp2_with (go_at_call 18; refine (c2 _ n1).mono ?_; rintro e w2 ⟨rfl, n2⟩)
  go_ret2
  exact ⟨rfl, n1.trans n2⟩
set_option maxHeartbeats 1000000 in
theorem number_no (l : List UInt8) (w : World) (h : Env w) (hl : l.length ≤ 281474976710656) (hn : numP l = none) :
    Calls Tryz.prog 45 #[.string (ba l)] w fun e w' => e = .returned (.tuple #[.int .i64 0, erN 22]) ∧ New w w' := by
  rw [er22]
  rcases ha : Lib.atoiAll l with v | _ | _
  · have hne : Lib.itoa v ≠ l := by
      intro e; unfold numP at hn; rw [ha] at hn; simp only [if_pos e] at hn; cases hn
    have hb := Lib.atoiAll_bounds ha
    have c1 := Tryz.strconv_Atoi_ok (ba l) (by rw [ba_size]; omega) v (by rw [ba_data]; exact ha) w
    have e := ba_ne hne
    have c2 : ∀ w1, New w w1 → Calls Tryz.prog 18 #[.int .i64 v] w1 fun e w' => e = .returned (.string (ba (Lib.itoa v))) ∧ New w1 w' := fun w1 n1 => itoa_any v w1 (h.new n1) hb.1 hb.2
    clear h hn ha hl hb hne
    generalize Lib.itoa v = l2 at *
    go_enter Tryz.func45, Tryz.ntmps45
    go_wp2_with (go_at_call 59; refine c1.mono ?_; rintro e w1 ⟨rfl, hw⟩)
    have n1 : New w w1 := by
      rcases hw with rfl | ⟨t, rfl⟩
      · exact New.refl _
      · exact Lib.bytesWorld_below _ _ _
    clear hw c1
    go_wp2_with (go_at_call 18; refine (c2 _ n1).mono ?_; rintro e w2 ⟨rfl, n2⟩)
    go_ret2
    exact ⟨rfl, n1.trans n2⟩
  · obtain ⟨t, p, hv⟩ := h.syn
    have c1 := Tryz.strconv_Atoi_syntax (ba l) (by rw [ba_size]; omega) (by rw [ba_data]; exact ha) _ w hv (.inr ⟨t, p, rfl⟩)
    clear h hn ha hv
    go_enter Tryz.func45, Tryz.ntmps45
    go_wp2_with (go_at_call 59; refine c1.mono ?_; rintro e w1 ⟨N, rfl, -, -, n1⟩)
    go_ret2
    exact ⟨rfl, n1⟩
  · obtain ⟨t, p, hv⟩ := h.rng
    have c1 := Tryz.strconv_Atoi_range (ba l) (by rw [ba_size]; omega) (by rw [ba_data]; exact ha) _ w hv (.inr ⟨t, p, rfl⟩)
    clear h hn ha hv
    go_enter Tryz.func45, Tryz.ntmps45
    go_wp2_with (go_at_call 59; refine c1.mono ?_; rintro e w1 ⟨N, rfl, -, -, n1⟩)
    go_ret2
    exact ⟨rfl, n1⟩
theorem reg_of (l : List UInt8) (c : UInt8) (hc : c = 97 ∨ c = 98) : (∃ t, l = 114 :: t ∧ valBy numP c l = numP t ∧ Lib.hasPrefix l [114] = true ∧ Lib.trimPrefix l [114] = t) ∨ (valBy numP c l = none ∧ Lib.hasPrefix l [114] = false) := by
  have hc2 : c ≠ 105 := by rcases hc with rfl | rfl <;> decide
  unfold valBy
  rw [if_neg hc2]
  cases l with
  | nil => exact .inr ⟨rfl, rfl⟩
  | cons b t =>
    by_cases hb : b = 114
    · subst hb
      exact .inl ⟨t, rfl, rfl, by simp [Lib.hasPrefix], by simp [Lib.trimPrefix, Lib.hasPrefix]⟩
    · refine .inr ⟨if_neg hb, ?_⟩
      show (114 == b && _) = false
      have : ((114 : UInt8) == b) = false := beq_eq_false_iff_ne.2 (fun e => hb e.symm)
      rw [this]; rfl
set_option maxHeartbeats 1000000 in
theorem register_ok (c : UInt8) (hc : c = 97 ∨ c = 98) (l : List UInt8) (n : Int) (w : World) (h : Env w) (hl : l.length ≤ 281474976710656) (hn : valBy numP c l = some n) :
    Calls Tryz.prog 44 #[.string (ba l)] w fun e w' => e = .returned (.tuple #[.int .i64 n, .nilIface]) ∧ New w w' := by
  have c1 := Tryz.strings_CutPrefix (ba l) ⟨#[114]⟩ w
  rcases reg_of l c hc with ⟨t, rfl, e1, e2, e3⟩ | ⟨e1, e2⟩
  · rw [e1] at hn
    rw [ba_data] at c1
    have e4 : (⟨#[114]⟩ : ByteArray).data.toList = [114] := rfl
    rw [e4, e2, e3] at c1
    have c2 := number_ok t n w h (by simp at hl; omega) hn
    clear h hn hl e1 e2 e3 e4
    go_enter Tryz.func44, Tryz.ntmps44
    go_wp2_with (first
      | (go_at_call 58; refine c1.mono ?_; rintro e w1 ⟨rfl, rfl⟩)
      | (go_at_call 45; refine c2.mono ?_; rintro e w1 ⟨rfl, n1⟩))
    go_ret2
    exact ⟨rfl, n1⟩
  · rw [e1] at hn; cases hn
set_option maxHeartbeats 1000000 in
theorem register_no (c : UInt8) (hc : c = 97 ∨ c = 98) (l : List UInt8) (w : World) (h : Env w) (hl : l.length ≤ 281474976710656) (hn : valBy numP c l = none) :
    Calls Tryz.prog 44 #[.string (ba l)] w fun e w' => e = .returned (.tuple #[.int .i64 0, erN 22]) ∧ New w w' := by
  have c1 := Tryz.strings_CutPrefix (ba l) ⟨#[114]⟩ w
  have e4 : (⟨#[114]⟩ : ByteArray).data.toList = [114] := rfl
  rcases reg_of l c hc with ⟨t, rfl, e1, e2, e3⟩ | ⟨e1, e2⟩
  · rw [e1] at hn
    rw [ba_data, e4, e2, e3] at c1
    have c2 := number_no t w h (by simp at hl; omega) hn
    clear h hn hl e1 e2 e3 e4
    rw [er22] at c2 ⊢
    go_enter Tryz.func44, Tryz.ntmps44
    go_wp2_with (first
      | (go_at_call 58; refine c1.mono ?_; rintro e w1 ⟨rfl, rfl⟩)
      | (go_at_call 45; refine c2.mono ?_; rintro e w1 ⟨rfl, n1⟩))
    go_ret2
    exact ⟨rfl, n1⟩
  · rw [ba_data, e4, e2] at c1
    rw [er22]
    clear h hn hl e1 e2 e4
    go_enter Tryz.func44, Tryz.ntmps44
    go_wp2_with (go_at_call 58; refine c1.mono ?_; rintro e w1 ⟨rfl, rfl⟩)
    go_ret2
    exact ⟨rfl, New.refl _⟩

/-- an instruction in memory -/
def Ins (w : World) (x : Nat) (o a b m : Int) : Prop := Box w x #[.int .i64 o, .int .i64 a, .int .i64 b, .int .i64 m] 28
def slotOf (c : UInt8) : Nat := if c = 97 then 1 else if c = 98 then 2 else 3
set_option maxHeartbeats 1000000 in
theorem fill_ok (c : UInt8) (hc : c = 97 ∨ c = 98 ∨ c = 105) (x : Nat) (o : Int) (y : Int × Int × Int) (l : List UInt8) (n : Int) (w : World) (h : Env w) (hl : l.length ≤ 281474976710656) (hx : Ins w x o y.1 y.2.1 y.2.2) (hn : valBy numP c l = some n) :
    Calls Tryz.prog 27 #[.pointer (some ⟨x, 0, none⟩), .int .u8 (c.toNat : Int), .string (ba l)] w fun e w' => e = .returned .nilIface ∧ Far x w w' ∧ Ins w' x o (put c n y).1 (put c n y).2.1 (put c n y).2.2 := by
  obtain ⟨a, b, m⟩ := y
  have hxl := hx.lt
  rcases hc with rfl | rfl | rfl
  · have c1 := register_ok 97 (.inl rfl) l n w h hl hn
    clear h hl hn
    go_enter Tryz.func27, Tryz.ntmps27
    go_wp2_with fail
    refine c1.mono ?_
    rintro e w1 ⟨rfl, n1⟩
    have i1 : Ins w1 x o a b m := Box.new hx n1
    have i2 := Box.set i1 1 (.int .i64 n)
    have hxl1 := i1.lt
    obtain ⟨e0, e1, e2, e3⟩ := Box.four i1
    have f1 := i1.unfrozen 1
    go_wp2
    go_ret
    exact ⟨rfl, (Far.of_new x n1).trans (Far.set _ _ _ _), i2⟩
  · have c1 := register_ok 98 (.inr rfl) l n w h hl hn
    clear h hl hn
    go_enter Tryz.func27, Tryz.ntmps27
    go_wp2_with fail
    refine c1.mono ?_
    rintro e w1 ⟨rfl, n1⟩
    have i1 : Ins w1 x o a b m := Box.new hx n1
    have i2 := Box.set i1 2 (.int .i64 n)
    have hxl1 := i1.lt
    obtain ⟨e0, e1, e2, e3⟩ := Box.four i1
    have f1 := i1.unfrozen 2
    go_wp2
    go_ret
    exact ⟨rfl, (Far.of_new x n1).trans (Far.set _ _ _ _), i2⟩
  · have c1 := number_ok l n w h hl hn
    clear h hl hn
    go_enter Tryz.func27, Tryz.ntmps27
    go_wp2_with fail
    refine c1.mono ?_
    rintro e w1 ⟨rfl, n1⟩
    have i1 : Ins w1 x o a b m := Box.new hx n1
    have i2 := Box.set i1 3 (.int .i64 n)
    have hxl1 := i1.lt
    obtain ⟨e0, e1, e2, e3⟩ := Box.four i1
    have f1 := i1.unfrozen 3
    go_wp2
    go_ret
    exact ⟨rfl, (Far.of_new x n1).trans (Far.set _ _ _ _), i2⟩
set_option maxHeartbeats 1000000 in
theorem fill_no (c : UInt8) (hc : c = 97 ∨ c = 98 ∨ c = 105) (x : Nat) (o : Int) (y : Int × Int × Int) (l : List UInt8) (w : World) (h : Env w) (hl : l.length ≤ 281474976710656) (hx : Ins w x o y.1 y.2.1 y.2.2) (hn : valBy numP c l = none) :
    Calls Tryz.prog 27 #[.pointer (some ⟨x, 0, none⟩), .int .u8 (c.toNat : Int), .string (ba l)] w fun e w' => e = .returned (erN 22) ∧ Far x w w' ∧ Ins w' x o (put c 0 y).1 (put c 0 y).2.1 (put c 0 y).2.2 := by
  rw [er22]
  obtain ⟨a, b, m⟩ := y
  have hxl := hx.lt
  rcases hc with rfl | rfl | rfl
  · have c1 := register_no 97 (.inl rfl) l w h hl hn
    rw [er22] at c1
    clear h hl hn
    go_enter Tryz.func27, Tryz.ntmps27
    go_wp2_with fail
    refine c1.mono ?_
    rintro e w1 ⟨rfl, n1⟩
    have i1 : Ins w1 x o a b m := Box.new hx n1
    have i2 := Box.set i1 1 (.int .i64 0)
    have hxl1 := i1.lt
    obtain ⟨e0, e1, e2, e3⟩ := Box.four i1
    have f1 := i1.unfrozen 1
    go_wp2
    go_ret
    exact ⟨rfl, (Far.of_new x n1).trans (Far.set _ _ _ _), i2⟩
  · have c1 := register_no 98 (.inr rfl) l w h hl hn
    rw [er22] at c1
    clear h hl hn
    go_enter Tryz.func27, Tryz.ntmps27
    go_wp2_with fail
    refine c1.mono ?_
    rintro e w1 ⟨rfl, n1⟩
    have i1 : Ins w1 x o a b m := Box.new hx n1
    have i2 := Box.set i1 2 (.int .i64 0)
    have hxl1 := i1.lt
    obtain ⟨e0, e1, e2, e3⟩ := Box.four i1
    have f1 := i1.unfrozen 2
    go_wp2
    go_ret
    exact ⟨rfl, (Far.of_new x n1).trans (Far.set _ _ _ _), i2⟩
  · have c1 := number_no l w h hl hn
    rw [er22] at c1
    clear h hl hn
    go_enter Tryz.func27, Tryz.ntmps27
    go_wp2_with fail
    refine c1.mono ?_
    rintro e w1 ⟨rfl, n1⟩
    have i1 : Ins w1 x o a b m := Box.new hx n1
    have i2 := Box.set i1 3 (.int .i64 0)
    have hxl1 := i1.lt
    obtain ⟨e0, e1, e2, e3⟩ := Box.four i1
    have f1 := i1.unfrozen 3
    go_wp2
    go_ret
    exact ⟨rfl, (Far.of_new x n1).trans (Far.set _ _ _ _), i2⟩
end Go.Proofs.YtlpjegclpilaaaaGreatDoor
