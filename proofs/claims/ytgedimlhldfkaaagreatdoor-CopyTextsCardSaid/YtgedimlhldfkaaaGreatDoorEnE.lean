/- Plain facts on the numbers of the entries of page tables, of no program. -/
import Derived.Test.YtgedimlhldfkaaaGreatDoorNumF
import Derived.RowKit
import Derived.IntWalk
import Derived.Laws.MathBits
import Derived.Laws.BitsAllLaws
namespace Go.Proofs.YtgedimlhldfkaaaGreatDoor
open Go.RowKit
set_option linter.unusedVariables false
/-- shared or not, as a number -/
def cwn (c : Bool) : Int := if c then 8 else 0
theorem cwn_bd (c : Bool) : cwn c = 0 ∨ cwn c = 8 := by cases c <;> simp [cwn]
/-- an entry's number -/
def ennum (f p : Int) (c : Bool) : Int := f * 256 + 128 + p + cwn c
/-- a number that is an entry's -/
def EnNum (v : Int) : Prop := v / 256 < 1024 ∧ 128 ≤ v % 256 ∧ v % 128 < 16
/-- is it shared? -/
def cwb (v : Int) : Bool := decide (8 ≤ v % 16)
theorem ennum_is (f p : Int) (c : Bool) (h0 : 0 ≤ f) (h1 : f < 1024) (h2 : 0 ≤ p) (h3 : p ≤ 7) : EnNum (ennum f p c) ∧ 0 ≤ ennum f p c ∧ ennum f p c < 262144 ∧ ennum f p c / 256 = f ∧ ennum f p c % 8 = p ∧ cwb (ennum f p c) = c := by
  unfold EnNum ennum cwb
  cases c
  · simp [cwn]; omega
  · simp [cwn]; omega
theorem ennum_back (v : Int) (h0 : 0 ≤ v) (h : EnNum v) : ennum (v / 256) (v % 8) (cwb v) = v := by
  unfold EnNum at h; unfold ennum cwb cwn
  by_cases c : 8 ≤ v % 16
  · simp [c]; omega
  · simp [c]; omega
theorem ennum_none (v : Int) (h0 : 0 ≤ v) (h : ¬ EnNum v) (h1 : v / 256 < 1024) : ennum (v / 256) (v % 8) (cwb v) ≠ v := by
  unfold EnNum at h; unfold ennum cwb cwn
  by_cases c : 8 ≤ v % 16
  · simp [c]; omega
  · simp [c]; omega
theorem and7 (v : Int) (h0 : 0 ≤ v) (h1 : v ≤ 4294967295) : bits .and .u32 v 7 = v % 8 := by
  obtain ⟨n, rfl⟩ := Int.eq_ofNat_of_zero_le h0
  have := u32_and_nat n 7 (by omega) (by omega)
  rw [show ((7 : Nat) : Int) = 7 from rfl] at this
  rw [this, show (7 : Nat) = 2 ^ 3 - 1 from rfl, Nat.and_two_pow_sub_one_eq_mod]; rfl
theorem and_pow (n m : Nat) : n &&& 2 ^ m = if n / 2 ^ m % 2 = 1 then 2 ^ m else 0 := by
  apply Nat.eq_of_testBit_eq
  intro i
  rw [Nat.testBit_and, Nat.testBit_two_pow]
  by_cases c : n / 2 ^ m % 2 = 1
  · rw [if_pos c, Nat.testBit_two_pow]
    by_cases e : m = i
    · subst e; simp [Nat.testBit_eq_decide_div_mod_eq, c]
    · simp [e]
  · rw [if_neg c]
    by_cases e : m = i
    · subst e; simp [Nat.testBit_eq_decide_div_mod_eq, c]
    · simp [e]
theorem and8 (v : Int) (h0 : 0 ≤ v) (h1 : v ≤ 4294967295) : bits .and .u32 v 8 = cwn (cwb v) := by
  obtain ⟨n, rfl⟩ := Int.eq_ofNat_of_zero_le h0
  have := u32_and_nat n 8 (by omega) (by omega)
  rw [show ((8 : Nat) : Int) = 8 from rfl] at this
  rw [this, show (8 : Nat) = 2 ^ 3 from rfl, and_pow]
  unfold cwb cwn
  by_cases c : n / 2 ^ 3 % 2 = 1
  · have : 8 ≤ (n : Int) % 16 := by omega
    simp [c, this]
  · have : ¬ 8 ≤ (n : Int) % 16 := by omega
    simp [c, this]
/-- is one use among the uses? -/
def usb (p u : Int) : Bool := decide (p / u % 2 = 1)
theorem and_use (p u : Int) (h0 : 0 ≤ p) (h1 : p ≤ 255) (hu : u = 1 ∨ u = 2 ∨ u = 4) : bits .and .u8 p u = if usb p u then u else 0 := by
  obtain ⟨n, rfl⟩ := Int.eq_ofNat_of_zero_le h0
  have k := fun m => and_pow n m
  unfold usb
  rcases hu with rfl | rfl | rfl
  · have := u8_and_nat n 1 (by omega) (by omega)
    rw [show ((1 : Nat) : Int) = 1 from rfl] at this
    rw [this, show (1 : Nat) = 2 ^ 0 from rfl, k 0]
    by_cases c : n / 2 ^ 0 % 2 = 1
    · rw [if_pos c, if_pos (by simp; simp at c; omega)]; rfl
    · rw [if_neg c, if_neg (by simp; simp at c; omega)]; rfl
  · have := u8_and_nat n 2 (by omega) (by omega)
    rw [show ((2 : Nat) : Int) = 2 from rfl] at this
    rw [this, show (2 : Nat) = 2 ^ 1 from rfl, k 1]
    by_cases c : n / 2 ^ 1 % 2 = 1
    · rw [if_pos c, if_pos (by simp; simp at c; omega)]; rfl
    · rw [if_neg c, if_neg (by simp; simp at c; omega)]; rfl
  · have := u8_and_nat n 4 (by omega) (by omega)
    rw [show ((4 : Nat) : Int) = 4 from rfl] at this
    rw [this, show (4 : Nat) = 2 ^ 2 from rfl, k 2]
    by_cases c : n / 2 ^ 2 % 2 = 1
    · rw [if_pos c, if_pos (by simp; simp at c; omega)]; rfl
    · rw [if_neg c, if_neg (by simp; simp at c; omega)]; rfl
end Go.Proofs.YtgedimlhldfkaaaGreatDoor
namespace Go.Proofs.YtgedimlhldfkaaaGreatDoor
open Go.RowKit
set_option linter.unusedVariables false
/-- an entry, as a value -/
def En (f p : Int) (c : Bool) : Value := .agg #[.int .i64 f, .int .u8 p, .bool c]
section
variable (f p : Int) (c : Bool) (w : World)
theorem echeck_ok (h0 : 0 ≤ f) (h1 : f < 1024) (h2 : 0 ≤ p) (h3 : p ≤ 7) :
    Calls Tryz.prog 111 #[.agg #[.int .i64 f, .int .u8 p, .bool c]] w fun e w' => e = .returned .nilIface ∧ New w w' := by
  go_enter Tryz.func111, Tryz.ntmps111
  go_wp2
  go_ret
  exact ⟨rfl, (New.refl _).alloc _ _⟩
theorem echeck_no (h2 : 0 ≤ p) (h : ¬ (0 ≤ f ∧ f < 1024 ∧ p ≤ 7)) :
    Calls Tryz.prog 111 #[.agg #[.int .i64 f, .int .u8 p, .bool c]] w fun e w' => e = .returned (.iface 98 (.int .i64 22)) ∧ New w w' := by
  by_cases c1 : f < 0
  · go_enter Tryz.func111, Tryz.ntmps111
    go_wp2
    go_ret
    exact ⟨rfl, (New.refl _).alloc _ _⟩
  · have d1 : decide (f < 0) = false := by simpa using c1
    by_cases c2 : 1024 ≤ f
    · clear h
      go_enter Tryz.func111, Tryz.ntmps111
      go_wp2
      go_ret
      exact ⟨rfl, (New.refl _).alloc _ _⟩
    · have d2 : decide (1024 ≤ f) = false := by simpa using c2
      have c3 : 7 < p := by omega
      clear h
      go_enter Tryz.func111, Tryz.ntmps111
      go_wp2
      go_ret
      exact ⟨rfl, (New.refl _).alloc _ _⟩
theorem encode_ok (h0 : 0 ≤ f) (h1 : f < 1024) (h2 : 0 ≤ p) (h3 : p ≤ 7) :
    Calls Tryz.prog 150 #[.agg #[.int .i64 f, .int .u8 p, .bool c]] w fun e w' => e = .returned (.tuple #[.int .u32 (ennum f p c), .nilIface]) ∧ New w w' := by
  have hX := echeck_ok f p c (w.alloc (.cells #[.int .i64 f, .int .u8 p, .bool c] 117)) h0 h1 h2 h3
  cases c
  · go_enter Tryz.func150, Tryz.ntmps150
    go_wp2_with fail
    refine hX.mono ?_
    rintro e w1 ⟨rfl, n1⟩
    obtain ⟨hc, hf⟩ := n1.bcell
    go_wp2
    go_ret2
    refine ⟨?_, ?_⟩
    · simp [ennum, cwn]
    · exact ((New.refl _).alloc _ _).trans n1
  · go_enter Tryz.func150, Tryz.ntmps150
    go_wp2_with fail
    refine hX.mono ?_
    rintro e w1 ⟨rfl, n1⟩
    obtain ⟨hc, hf⟩ := n1.bcell
    go_wp2
    go_ret2
    refine ⟨?_, ?_⟩
    · simp [ennum, cwn]
    · exact ((New.refl _).alloc _ _).trans n1
theorem encode_no (h2 : 0 ≤ p) (h : ¬ (0 ≤ f ∧ f < 1024 ∧ p ≤ 7)) :
    Calls Tryz.prog 150 #[.agg #[.int .i64 f, .int .u8 p, .bool c]] w fun e w' => e = .returned (.tuple #[.int .u32 0, .iface 98 (.int .i64 22)]) ∧ New w w' := by
  have hX := echeck_no f p c (w.alloc (.cells #[.int .i64 f, .int .u8 p, .bool c] 117)) h2 h
  clear h
  go_enter Tryz.func150, Tryz.ntmps150
  go_wp2_with fail
  refine hX.mono ?_
  rintro e w1 ⟨rfl, n1⟩
  go_wp2
  go_ret2
  exact ⟨rfl, ((New.refl _).alloc _ _).trans n1⟩
theorem isUse_yes (u : Int) (hu : u = 1 ∨ u = 2 ∨ u = 4) : Calls Tryz.prog 131 #[.int .u8 u] w fun e w' => e = .returned (.bool true) ∧ w = w' := by
  rcases hu with rfl | rfl | rfl
  · go_enter Tryz.func131, Tryz.ntmps131
    go_wp2
    go_ret
    exact ⟨rfl, rfl⟩
  · go_enter Tryz.func131, Tryz.ntmps131
    go_wp2
    go_ret
    exact ⟨rfl, rfl⟩
  · go_enter Tryz.func131, Tryz.ntmps131
    go_wp2
    go_ret
    exact ⟨rfl, rfl⟩
theorem isUse_not (u : Int) (hu : ¬ (u = 1 ∨ u = 2 ∨ u = 4)) : Calls Tryz.prog 131 #[.int .u8 u] w fun e w' => e = .returned (.bool false) ∧ w = w' := by
  have d1 : (u == 1) = false := by simp; omega
  have d2 : (u == 2) = false := by simp; omega
  have d3 : (u == 4) = false := by simp; omega
  clear hu
  go_enter Tryz.func131, Tryz.ntmps131
  go_wp2
  go_ret
  exact ⟨rfl, rfl⟩
theorem may_no (u : Int) (h2 : 0 ≤ p) (h : ¬ (0 ≤ f ∧ f < 1024 ∧ p ≤ 7)) :
    Calls Tryz.prog 84 #[.agg #[.int .i64 f, .int .u8 p, .bool c], .int .u8 u] w fun e w' => e = .returned (.bool false) ∧ New w w' := by
  have hX := echeck_no f p c (w.alloc (.cells #[.int .i64 f, .int .u8 p, .bool c] 117)) h2 h
  clear h
  go_enter Tryz.func84, Tryz.ntmps84
  go_wp2_with fail
  refine hX.mono ?_
  rintro e w1 ⟨rfl, n1⟩
  go_wp2
  go_ret
  exact ⟨rfl, ((New.refl _).alloc _ _).trans n1⟩
theorem may_not (u : Int) (h0 : 0 ≤ f) (h1 : f < 1024) (h2 : 0 ≤ p) (h3 : p ≤ 7) (hu : ¬ (u = 1 ∨ u = 2 ∨ u = 4)) :
    Calls Tryz.prog 84 #[.agg #[.int .i64 f, .int .u8 p, .bool c], .int .u8 u] w fun e w' => e = .returned (.bool false) ∧ New w w' := by
  have hX := echeck_ok f p c (w.alloc (.cells #[.int .i64 f, .int .u8 p, .bool c] 117)) h0 h1 h2 h3
  have hY := fun w => isUse_not w u hu
  clear hu
  go_enter Tryz.func84, Tryz.ntmps84
  go_wp2_with fail
  refine hX.mono ?_
  rintro e w1 ⟨rfl, n1⟩
  go_wp2_with fail
  refine (hY _).mono ?_
  rintro e w2 ⟨rfl, rfl⟩
  go_wp2
  go_ret
  exact ⟨rfl, ((New.refl _).alloc _ _).trans n1⟩
theorem may_ok (u : Int) (h0 : 0 ≤ f) (h1 : f < 1024) (h2 : 0 ≤ p) (h3 : p ≤ 7) (hu : u = 1 ∨ u = 2 ∨ u = 4) :
    Calls Tryz.prog 84 #[.agg #[.int .i64 f, .int .u8 p, .bool c], .int .u8 u] w fun e w' => e = .returned (.bool (usb p u)) ∧ New w w' := by
  have hX := echeck_ok f p c (w.alloc (.cells #[.int .i64 f, .int .u8 p, .bool c] 117)) h0 h1 h2 h3
  have hY := fun w => isUse_yes w u hu
  have HB := Lib.hid (and_use p u h2 (by omega) hu)
  have u0 : 1 ≤ u := by omega
  clear hu
  go_enter Tryz.func84, Tryz.ntmps84
  go_wp2_with fail
  refine hX.mono ?_
  rintro e w1 ⟨rfl, n1⟩
  obtain ⟨hc, hf⟩ := n1.bcell
  go_wp2_with fail
  refine (hY _).mono ?_
  rintro e w2 ⟨rfl, rfl⟩
  go_wp2_with fail
  go_ret
  refine ⟨?_, ((New.refl _).alloc _ _).trans n1⟩
  rw [HB.out]
  cases usb p u
  · rfl
  · simp; omega
end
end Go.Proofs.YtgedimlhldfkaaaGreatDoor
namespace Go.Proofs.YtgedimlhldfkaaaGreatDoor
open Go.RowKit
set_option linter.unusedVariables false
section
variable (v : Int) (w : World)
theorem decode_zero : Calls Tryz.prog 138 #[.int .u32 0] w fun e w' => e = .returned (.tuple #[.agg #[.int .i64 0, .int .u8 0, .bool false], .bool false, .nilIface]) ∧ New w w' := by
  go_enter Tryz.func138, Tryz.ntmps138
  go_wp2
  exact bodyPost_ret (v := .tuple #[.agg #[.int .i64 0, .int .u8 0, .bool false], .bool false, .nilIface]) (by simp [results, Tryz.results138, go_sem]) rfl ⟨rfl, (New.refl _).alloc _ _⟩
theorem decode_ok (h0 : 1 ≤ v) (h1 : v ≤ 4294967295) (h : EnNum v) :
    Calls Tryz.prog 138 #[.int .u32 v] w fun e w' => e = .returned (.tuple #[.agg #[.int .i64 (v / 256), .int .u8 (v % 8), .bool (cwb v)], .bool true, .nilIface]) ∧ New w w' := by
  have hX := fun w => encode_ok (v / 256) (v % 8) (cwb v) w (by omega) h.1 (by omega) (by omega)
  rw [ennum_back v (by omega) h] at hX
  have e7 := and7 v (by omega) h1
  have e8 := and8 v (by omega) h1
  have b1 : 0 ≤ v / 256 := by omega
  have b2 : v / 256 ≤ 1023 := by have := h.1; omega
  have b3 : 0 ≤ v % 8 := by omega
  have b4 : v % 8 ≤ 7 := by omega
  clear h
  generalize cwb v = c at hX e8 ⊢
  cases c
  · rw [show cwn false = 0 from rfl] at e8
    go_enter Tryz.func138, Tryz.ntmps138
    go_wp2_with fail
    refine (hX _).mono ?_
    rintro e w1 ⟨rfl, n1⟩
    have hz : w.heap.size < w1.heap.size := by have := n1.size; simp at this; omega
    obtain ⟨hc, hf⟩ := n1.bcell
    have c0 : w1.cell? ⟨w.heap.size, 0, none⟩ = some (.int .i64 0) := by rw [hc _ _ (by simp; omega)]; simp
    have c1 : w1.cell? ⟨w.heap.size, 1, none⟩ = some (.int .u8 0) := by rw [hc _ _ (by simp; omega)]; simp
    have c2 : w1.cell? ⟨w.heap.size, 2, none⟩ = some (.bool false) := by rw [hc _ _ (by simp; omega)]; simp
    go_wp2_with fail
    exact bodyPost_ret (v := .tuple #[.agg #[.int .i64 (v / 256), .int .u8 (v % 8), .bool false], .bool true, .nilIface]) (by simp [results, Tryz.results138, go_sem, c0, c1, c2]) rfl
      ⟨rfl, by repeat (with_reducible refine New.setCell ?_ (by simp) _)
               exact (((New.refl _).alloc _ _).alloc _ _).trans n1⟩
  · rw [show cwn true = 8 from rfl] at e8
    go_enter Tryz.func138, Tryz.ntmps138
    go_wp2_with fail
    refine (hX _).mono ?_
    rintro e w1 ⟨rfl, n1⟩
    have hz : w.heap.size < w1.heap.size := by have := n1.size; simp at this; omega
    obtain ⟨hc, hf⟩ := n1.bcell
    have c0 : w1.cell? ⟨w.heap.size, 0, none⟩ = some (.int .i64 0) := by rw [hc _ _ (by simp; omega)]; simp
    have c1 : w1.cell? ⟨w.heap.size, 1, none⟩ = some (.int .u8 0) := by rw [hc _ _ (by simp; omega)]; simp
    have c2 : w1.cell? ⟨w.heap.size, 2, none⟩ = some (.bool false) := by rw [hc _ _ (by simp; omega)]; simp
    go_wp2_with fail
    exact bodyPost_ret (v := .tuple #[.agg #[.int .i64 (v / 256), .int .u8 (v % 8), .bool true], .bool true, .nilIface]) (by simp [results, Tryz.results138, go_sem, c0, c1, c2]) rfl
      ⟨rfl, by repeat (with_reducible refine New.setCell ?_ (by simp) _)
               exact (((New.refl _).alloc _ _).alloc _ _).trans n1⟩
theorem decode_no (h0 : 1 ≤ v) (h1 : v ≤ 4294967295) (h : ¬ EnNum v) :
    Calls Tryz.prog 138 #[.int .u32 v] w fun e w' => e = .returned (.tuple #[.agg #[.int .i64 0, .int .u8 0, .bool false], .bool false, .iface 98 (.int .i64 22)]) ∧ New w w' := by
  have e7 := and7 v (by omega) h1
  have e8 := and8 v (by omega) h1
  have b1 : 0 ≤ v / 256 := by omega
  have b3 : 0 ≤ v % 8 := by omega
  have b4 : v % 8 ≤ 7 := by omega
  by_cases k : v / 256 < 1024
  · have hX := fun w => encode_ok (v / 256) (v % 8) (cwb v) w b1 k b3 b4
    have hm := ennum_none v (by omega) h k
    generalize ennum (v / 256) (v % 8) (cwb v) = m at hX hm
    have d : (m != v) = true := by simpa using hm
    clear h hm
    generalize cwb v = c at hX e8
    cases c
    · rw [show cwn false = 0 from rfl] at e8
      go_enter Tryz.func138, Tryz.ntmps138
      go_wp2_with fail
      refine (hX _).mono ?_
      rintro e w1 ⟨rfl, n1⟩
      have hz : w.heap.size < w1.heap.size := by have := n1.size; simp at this; omega
      have nn := (((New.refl w).alloc #[.int .i64 0, .int .u8 0, .bool false] 117).alloc #[.int .i64 (v / 256), .int .u8 (v % 8), .bool false] 117).trans n1
      obtain ⟨hc, hf⟩ := n1.bcell
      have c0 : w1.cell? ⟨w.heap.size, 0, none⟩ = some (.int .i64 0) := by rw [hc _ _ (by simp; omega)]; simp
      have c1 : w1.cell? ⟨w.heap.size, 1, none⟩ = some (.int .u8 0) := by rw [hc _ _ (by simp; omega)]; simp
      have c2 : w1.cell? ⟨w.heap.size, 2, none⟩ = some (.bool false) := by rw [hc _ _ (by simp; omega)]; simp
      go_wp2_with fail
      exact bodyPost_ret (v := .tuple #[.agg #[.int .i64 0, .int .u8 0, .bool false], .bool false, .iface 98 (.int .i64 22)]) (by simp [results, Tryz.results138, go_sem, c0, c1, c2]) rfl ⟨rfl, by (repeat (with_reducible refine New.setCell ?_ (by simp) _)); exact nn⟩
    · rw [show cwn true = 8 from rfl] at e8
      go_enter Tryz.func138, Tryz.ntmps138
      go_wp2_with fail
      refine (hX _).mono ?_
      rintro e w1 ⟨rfl, n1⟩
      have hz : w.heap.size < w1.heap.size := by have := n1.size; simp at this; omega
      have nn := (((New.refl w).alloc #[.int .i64 0, .int .u8 0, .bool false] 117).alloc #[.int .i64 (v / 256), .int .u8 (v % 8), .bool true] 117).trans n1
      obtain ⟨hc, hf⟩ := n1.bcell
      have c0 : w1.cell? ⟨w.heap.size, 0, none⟩ = some (.int .i64 0) := by rw [hc _ _ (by simp; omega)]; simp
      have c1 : w1.cell? ⟨w.heap.size, 1, none⟩ = some (.int .u8 0) := by rw [hc _ _ (by simp; omega)]; simp
      have c2 : w1.cell? ⟨w.heap.size, 2, none⟩ = some (.bool false) := by rw [hc _ _ (by simp; omega)]; simp
      go_wp2_with fail
      exact bodyPost_ret (v := .tuple #[.agg #[.int .i64 0, .int .u8 0, .bool false], .bool false, .iface 98 (.int .i64 22)]) (by simp [results, Tryz.results138, go_sem, c0, c1, c2]) rfl ⟨rfl, by (repeat (with_reducible refine New.setCell ?_ (by simp) _)); exact nn⟩
  · have hX := fun w => encode_no (v / 256) (v % 8) (cwb v) w b3 (by omega)
    clear h
    generalize cwb v = c at hX e8
    cases c
    · rw [show cwn false = 0 from rfl] at e8
      go_enter Tryz.func138, Tryz.ntmps138
      go_wp2_with fail
      refine (hX _).mono ?_
      rintro e w1 ⟨rfl, n1⟩
      have hz : w.heap.size < w1.heap.size := by have := n1.size; simp at this; omega
      have nn := (((New.refl w).alloc #[.int .i64 0, .int .u8 0, .bool false] 117).alloc #[.int .i64 (v / 256), .int .u8 (v % 8), .bool false] 117).trans n1
      obtain ⟨hc, hf⟩ := n1.bcell
      have c0 : w1.cell? ⟨w.heap.size, 0, none⟩ = some (.int .i64 0) := by rw [hc _ _ (by simp; omega)]; simp
      have c1 : w1.cell? ⟨w.heap.size, 1, none⟩ = some (.int .u8 0) := by rw [hc _ _ (by simp; omega)]; simp
      have c2 : w1.cell? ⟨w.heap.size, 2, none⟩ = some (.bool false) := by rw [hc _ _ (by simp; omega)]; simp
      go_wp2_with fail
      exact bodyPost_ret (v := .tuple #[.agg #[.int .i64 0, .int .u8 0, .bool false], .bool false, .iface 98 (.int .i64 22)]) (by simp [results, Tryz.results138, go_sem, c0, c1, c2]) rfl ⟨rfl, by (repeat (with_reducible refine New.setCell ?_ (by simp) _)); exact nn⟩
    · rw [show cwn true = 8 from rfl] at e8
      go_enter Tryz.func138, Tryz.ntmps138
      go_wp2_with fail
      refine (hX _).mono ?_
      rintro e w1 ⟨rfl, n1⟩
      have hz : w.heap.size < w1.heap.size := by have := n1.size; simp at this; omega
      have nn := (((New.refl w).alloc #[.int .i64 0, .int .u8 0, .bool false] 117).alloc #[.int .i64 (v / 256), .int .u8 (v % 8), .bool true] 117).trans n1
      obtain ⟨hc, hf⟩ := n1.bcell
      have c0 : w1.cell? ⟨w.heap.size, 0, none⟩ = some (.int .i64 0) := by rw [hc _ _ (by simp; omega)]; simp
      have c1 : w1.cell? ⟨w.heap.size, 1, none⟩ = some (.int .u8 0) := by rw [hc _ _ (by simp; omega)]; simp
      have c2 : w1.cell? ⟨w.heap.size, 2, none⟩ = some (.bool false) := by rw [hc _ _ (by simp; omega)]; simp
      go_wp2_with fail
      exact bodyPost_ret (v := .tuple #[.agg #[.int .i64 0, .int .u8 0, .bool false], .bool false, .iface 98 (.int .i64 22)]) (by simp [results, Tryz.results138, go_sem, c0, c1, c2]) rfl ⟨rfl, by (repeat (with_reducible refine New.setCell ?_ (by simp) _)); exact nn⟩
end
end Go.Proofs.YtgedimlhldfkaaaGreatDoor
namespace Go.Proofs.YtgedimlhldfkaaaGreatDoor
open Go.RowKit
set_option linter.unusedVariables false
section
variable (f p : Int) (c : Bool) (w : World)
end
end Go.Proofs.YtgedimlhldfkaaaGreatDoor
namespace Go.Proofs.YtgedimlhldfkaaaGreatDoor
open Go.RowKit
set_option linter.unusedVariables false
/-- what encoding answers: the number, the error's number -/
def ecv (f p : Int) (c : Bool) : Int := if 0 ≤ f ∧ f < 1024 ∧ p ≤ 7 then ennum f p c else 0
def ece (f p : Int) : Int := if 0 ≤ f ∧ f < 1024 ∧ p ≤ 7 then 0 else 22
/-- what decoding answers: frame, uses, shared, whether there is one, the error's number -/
noncomputable def dcf (v : Int) : Int := by classical exact if v ≠ 0 ∧ EnNum v then v / 256 else 0
noncomputable def dcp (v : Int) : Int := by classical exact if v ≠ 0 ∧ EnNum v then v % 8 else 0
noncomputable def dcc (v : Int) : Bool := by classical exact if v ≠ 0 ∧ EnNum v then cwb v else false
noncomputable def dcb (v : Int) : Bool := by classical exact if v ≠ 0 ∧ EnNum v then true else false
noncomputable def dce (v : Int) : Int := by classical exact if v ≠ 0 ∧ ¬ EnNum v then 22 else 0
/-- whether it may be used so -/
def usd (f p u : Int) : Bool := if 0 ≤ f ∧ f < 1024 ∧ p ≤ 7 then (if u = 1 ∨ u = 2 ∨ u = 4 then usb p u else false) else false
section
variable (f p : Int) (c : Bool) (u : Int) (w : World)
theorem echeck_any (h : 0 ≤ p) : Calls Tryz.prog 111 #[.agg #[.int .i64 f, .int .u8 p, .bool c]] w fun e w' => e = .returned (erN (ece f p)) ∧ New w w' := by
  by_cases k : 0 ≤ f ∧ f < 1024 ∧ p ≤ 7
  · rw [ece, if_pos k, erN_zero]; exact echeck_ok f p c w k.1 k.2.1 h k.2.2
  · rw [ece, if_neg k, erN_pos (by decide)]; exact echeck_no f p c w h k
theorem encode_any (h : 0 ≤ p) : Calls Tryz.prog 150 #[.agg #[.int .i64 f, .int .u8 p, .bool c]] w fun e w' => e = .returned (.tuple #[.int .u32 (ecv f p c), erN (ece f p)]) ∧ New w w' := by
  by_cases k : 0 ≤ f ∧ f < 1024 ∧ p ≤ 7
  · rw [ece, if_pos k, ecv, if_pos k, erN_zero]; exact encode_ok f p c w k.1 k.2.1 h k.2.2
  · rw [ece, if_neg k, ecv, if_neg k, erN_pos (by decide)]; exact encode_no f p c w h k
theorem may_any (h : 0 ≤ p) : Calls Tryz.prog 84 #[.agg #[.int .i64 f, .int .u8 p, .bool c], .int .u8 u] w fun e w' => e = .returned (.bool (usd f p u)) ∧ New w w' := by
  by_cases k : 0 ≤ f ∧ f < 1024 ∧ p ≤ 7
  · rw [usd, if_pos k]
    by_cases l : u = 1 ∨ u = 2 ∨ u = 4
    · rw [if_pos l]; exact may_ok f p c w u k.1 k.2.1 h k.2.2 l
    · rw [if_neg l]; exact may_not f p c w u k.1 k.2.1 h k.2.2 l
  · rw [usd, if_neg k]; exact may_no f p c w u h k
end
theorem dc_cases (v : Int) (h : 0 ≤ v) : (v = 0 ∧ dcf v = 0 ∧ dcp v = 0 ∧ dcc v = false ∧ dcb v = false ∧ dce v = 0) ∨ (1 ≤ v ∧ EnNum v ∧ dcf v = v / 256 ∧ dcp v = v % 8 ∧ dcc v = cwb v ∧ dcb v = true ∧ dce v = 0) ∨
    (1 ≤ v ∧ ¬ EnNum v ∧ dcf v = 0 ∧ dcp v = 0 ∧ dcc v = false ∧ dcb v = false ∧ dce v = 22) := by
  unfold dcf dcp dcc dcb dce
  by_cases h0 : v = 0
  · exact .inl (by simp [h0])
  · by_cases h1 : EnNum v
    · exact .inr (.inl (by simp [h0, h1]; omega))
    · exact .inr (.inr (by simp [h0, h1]; omega))
theorem decode_any (v : Int) (w : World) (h0 : 0 ≤ v) (h1 : v ≤ 4294967295) :
    Calls Tryz.prog 138 #[.int .u32 v] w fun e w' => e = .returned (.tuple #[.agg #[.int .i64 (dcf v), .int .u8 (dcp v), .bool (dcc v)], .bool (dcb v), erN (dce v)]) ∧ New w w' := by
  rcases dc_cases v h0 with ⟨rfl, e1, e2, e3, e4, e5⟩ | ⟨g, k, e1, e2, e3, e4, e5⟩ | ⟨g, k, e1, e2, e3, e4, e5⟩
  · rw [e1, e2, e3, e4, e5, erN_zero]; exact decode_zero w
  · rw [e1, e2, e3, e4, e5, erN_zero]; exact decode_ok v w g h1 k
  · rw [e1, e2, e3, e4, e5, erN_pos (by decide)]; exact decode_no v w g h1 k
end Go.Proofs.YtgedimlhldfkaaaGreatDoor
