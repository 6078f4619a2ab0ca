/- What the package of the entries of page tables makes of a number: contracts, for any number, in any world; behind each there are only new blocks. -/
import Derived.Test.YtpjmcdlkockbdaaEnA
namespace Go.Proofs.Ytpjmcdlkockbdaa
open Go.RowKit
set_option linter.unusedVariables false
section
variable (v : Int) (w : World)
theorem decode_zero : Calls Try.prog 35 #[.int .u32 0] w fun e w' => e = .returned (.tuple #[.agg #[.int .i64 0, .int .u8 0, .bool false], .bool false, .nilIface]) ∧ New w w' := by
  go_enter Try.func35, Try.ntmps35
  go_wp2
  exact bodyPost_ret (v := .tuple #[.agg #[.int .i64 0, .int .u8 0, .bool false], .bool false, .nilIface]) (by simp [results, Try.results35, go_sem]) rfl ⟨rfl, (New.refl _).alloc _ _⟩
theorem decode_ok (h0 : 1 ≤ v) (h1 : v ≤ 4294967295) (h : EnNum v) :
    Calls Try.prog 35 #[.int .u32 v] w fun e w' => e = .returned (.tuple #[.agg #[.int .i64 (v / 256), .int .u8 (v % 8), .bool (cwb v)], .bool true, .nilIface]) ∧ New w w' := by
  have hX := fun w => encode_ok (v / 256) (v % 8) (cwb v) w (by omega) h.1 (by omega) (by omega)
  rw [ennum_back v (by omega) h] at hX
  have e7 := and7 v (by omega) h1
  have e8 := and8 v (by omega) h1
  have b1 : 0 ≤ v / 256 := by omega
  have b2 : v / 256 ≤ 1023 := by have := h.1; omega
  have b3 : 0 ≤ v % 8 := by omega
  have b4 : v % 8 ≤ 7 := by omega
  clear h
  generalize cwb v = c at hX e8 ⊢
  cases c
  · rw [show cwn false = 0 from rfl] at e8
    go_enter Try.func35, Try.ntmps35
    go_wp2_with fail
    refine (hX _).mono ?_
    rintro e w1 ⟨rfl, n1⟩
    have hz : w.heap.size < w1.heap.size := by have := n1.size; simp at this; omega
    obtain ⟨hc, hf⟩ := n1.bcell
    have c0 : w1.cell? ⟨w.heap.size, 0, none⟩ = some (.int .i64 0) := by rw [hc _ _ (by simp; omega)]; simp
    have c1 : w1.cell? ⟨w.heap.size, 1, none⟩ = some (.int .u8 0) := by rw [hc _ _ (by simp; omega)]; simp
    have c2 : w1.cell? ⟨w.heap.size, 2, none⟩ = some (.bool false) := by rw [hc _ _ (by simp; omega)]; simp
    go_wp2_with fail
    exact bodyPost_ret (v := .tuple #[.agg #[.int .i64 (v / 256), .int .u8 (v % 8), .bool false], .bool true, .nilIface]) (by simp [results, Try.results35, go_sem, c0, c1, c2]) rfl
      ⟨rfl, by repeat (with_reducible refine New.setCell ?_ (by simp) _)
               exact (((New.refl _).alloc _ _).alloc _ _).trans n1⟩
  · rw [show cwn true = 8 from rfl] at e8
    go_enter Try.func35, Try.ntmps35
    go_wp2_with fail
    refine (hX _).mono ?_
    rintro e w1 ⟨rfl, n1⟩
    have hz : w.heap.size < w1.heap.size := by have := n1.size; simp at this; omega
    obtain ⟨hc, hf⟩ := n1.bcell
    have c0 : w1.cell? ⟨w.heap.size, 0, none⟩ = some (.int .i64 0) := by rw [hc _ _ (by simp; omega)]; simp
    have c1 : w1.cell? ⟨w.heap.size, 1, none⟩ = some (.int .u8 0) := by rw [hc _ _ (by simp; omega)]; simp
    have c2 : w1.cell? ⟨w.heap.size, 2, none⟩ = some (.bool false) := by rw [hc _ _ (by simp; omega)]; simp
    go_wp2_with fail
    exact bodyPost_ret (v := .tuple #[.agg #[.int .i64 (v / 256), .int .u8 (v % 8), .bool true], .bool true, .nilIface]) (by simp [results, Try.results35, go_sem, c0, c1, c2]) rfl
      ⟨rfl, by repeat (with_reducible refine New.setCell ?_ (by simp) _)
               exact (((New.refl _).alloc _ _).alloc _ _).trans n1⟩
theorem decode_no (h0 : 1 ≤ v) (h1 : v ≤ 4294967295) (h : ¬ EnNum v) :
    Calls Try.prog 35 #[.int .u32 v] w fun e w' => e = .returned (.tuple #[.agg #[.int .i64 0, .int .u8 0, .bool false], .bool false, .iface 43 (.int .i64 22)]) ∧ New w w' := by
  have e7 := and7 v (by omega) h1
  have e8 := and8 v (by omega) h1
  have b1 : 0 ≤ v / 256 := by omega
  have b3 : 0 ≤ v % 8 := by omega
  have b4 : v % 8 ≤ 7 := by omega
  by_cases k : v / 256 < 1024
  · have hX := fun w => encode_ok (v / 256) (v % 8) (cwb v) w b1 k b3 b4
    have hm := ennum_none v (by omega) h k
    generalize ennum (v / 256) (v % 8) (cwb v) = m at hX hm
    have d : (m != v) = true := by simpa using hm
    clear h hm
    generalize cwb v = c at hX e8
    cases c
    · rw [show cwn false = 0 from rfl] at e8
      go_enter Try.func35, Try.ntmps35
      go_wp2_with fail
      refine (hX _).mono ?_
      rintro e w1 ⟨rfl, n1⟩
      have hz : w.heap.size < w1.heap.size := by have := n1.size; simp at this; omega
      have nn := (((New.refl w).alloc #[.int .i64 0, .int .u8 0, .bool false] 39).alloc #[.int .i64 (v / 256), .int .u8 (v % 8), .bool false] 39).trans n1
      obtain ⟨hc, hf⟩ := n1.bcell
      have c0 : w1.cell? ⟨w.heap.size, 0, none⟩ = some (.int .i64 0) := by rw [hc _ _ (by simp; omega)]; simp
      have c1 : w1.cell? ⟨w.heap.size, 1, none⟩ = some (.int .u8 0) := by rw [hc _ _ (by simp; omega)]; simp
      have c2 : w1.cell? ⟨w.heap.size, 2, none⟩ = some (.bool false) := by rw [hc _ _ (by simp; omega)]; simp
      go_wp2_with fail
      exact bodyPost_ret (v := .tuple #[.agg #[.int .i64 0, .int .u8 0, .bool false], .bool false, .iface 43 (.int .i64 22)]) (by simp [results, Try.results35, go_sem, c0, c1, c2]) rfl ⟨rfl, by (repeat (with_reducible refine New.setCell ?_ (by simp) _)); exact nn⟩
    · rw [show cwn true = 8 from rfl] at e8
      go_enter Try.func35, Try.ntmps35
      go_wp2_with fail
      refine (hX _).mono ?_
      rintro e w1 ⟨rfl, n1⟩
      have hz : w.heap.size < w1.heap.size := by have := n1.size; simp at this; omega
      have nn := (((New.refl w).alloc #[.int .i64 0, .int .u8 0, .bool false] 39).alloc #[.int .i64 (v / 256), .int .u8 (v % 8), .bool true] 39).trans n1
      obtain ⟨hc, hf⟩ := n1.bcell
      have c0 : w1.cell? ⟨w.heap.size, 0, none⟩ = some (.int .i64 0) := by rw [hc _ _ (by simp; omega)]; simp
      have c1 : w1.cell? ⟨w.heap.size, 1, none⟩ = some (.int .u8 0) := by rw [hc _ _ (by simp; omega)]; simp
      have c2 : w1.cell? ⟨w.heap.size, 2, none⟩ = some (.bool false) := by rw [hc _ _ (by simp; omega)]; simp
      go_wp2_with fail
      exact bodyPost_ret (v := .tuple #[.agg #[.int .i64 0, .int .u8 0, .bool false], .bool false, .iface 43 (.int .i64 22)]) (by simp [results, Try.results35, go_sem, c0, c1, c2]) rfl ⟨rfl, by (repeat (with_reducible refine New.setCell ?_ (by simp) _)); exact nn⟩
  · have hX := fun w => encode_no (v / 256) (v % 8) (cwb v) w b3 (by omega)
    clear h
    generalize cwb v = c at hX e8
    cases c
    · rw [show cwn false = 0 from rfl] at e8
      go_enter Try.func35, Try.ntmps35
      go_wp2_with fail
      refine (hX _).mono ?_
      rintro e w1 ⟨rfl, n1⟩
      have hz : w.heap.size < w1.heap.size := by have := n1.size; simp at this; omega
      have nn := (((New.refl w).alloc #[.int .i64 0, .int .u8 0, .bool false] 39).alloc #[.int .i64 (v / 256), .int .u8 (v % 8), .bool false] 39).trans n1
      obtain ⟨hc, hf⟩ := n1.bcell
      have c0 : w1.cell? ⟨w.heap.size, 0, none⟩ = some (.int .i64 0) := by rw [hc _ _ (by simp; omega)]; simp
      have c1 : w1.cell? ⟨w.heap.size, 1, none⟩ = some (.int .u8 0) := by rw [hc _ _ (by simp; omega)]; simp
      have c2 : w1.cell? ⟨w.heap.size, 2, none⟩ = some (.bool false) := by rw [hc _ _ (by simp; omega)]; simp
      go_wp2_with fail
      exact bodyPost_ret (v := .tuple #[.agg #[.int .i64 0, .int .u8 0, .bool false], .bool false, .iface 43 (.int .i64 22)]) (by simp [results, Try.results35, go_sem, c0, c1, c2]) rfl ⟨rfl, by (repeat (with_reducible refine New.setCell ?_ (by simp) _)); exact nn⟩
    · rw [show cwn true = 8 from rfl] at e8
      go_enter Try.func35, Try.ntmps35
      go_wp2_with fail
      refine (hX _).mono ?_
      rintro e w1 ⟨rfl, n1⟩
      have hz : w.heap.size < w1.heap.size := by have := n1.size; simp at this; omega
      have nn := (((New.refl w).alloc #[.int .i64 0, .int .u8 0, .bool false] 39).alloc #[.int .i64 (v / 256), .int .u8 (v % 8), .bool true] 39).trans n1
      obtain ⟨hc, hf⟩ := n1.bcell
      have c0 : w1.cell? ⟨w.heap.size, 0, none⟩ = some (.int .i64 0) := by rw [hc _ _ (by simp; omega)]; simp
      have c1 : w1.cell? ⟨w.heap.size, 1, none⟩ = some (.int .u8 0) := by rw [hc _ _ (by simp; omega)]; simp
      have c2 : w1.cell? ⟨w.heap.size, 2, none⟩ = some (.bool false) := by rw [hc _ _ (by simp; omega)]; simp
      go_wp2_with fail
      exact bodyPost_ret (v := .tuple #[.agg #[.int .i64 0, .int .u8 0, .bool false], .bool false, .iface 43 (.int .i64 22)]) (by simp [results, Try.results35, go_sem, c0, c1, c2]) rfl ⟨rfl, by (repeat (with_reducible refine New.setCell ?_ (by simp) _)); exact nn⟩
end
end Go.Proofs.Ytpjmcdlkockbdaa
