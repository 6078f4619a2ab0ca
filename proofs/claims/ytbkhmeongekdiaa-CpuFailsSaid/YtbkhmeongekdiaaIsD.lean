/- The document's own answers on instructions as numbers: contracts, for any instruction and any number, in any world; behind each there are only new blocks. -/
import Derived.Test.YtbkhmeongekdiaaIsC
namespace Go.Proofs.Ytbkhmeongekdiaa
open Go.RowKit
set_option linter.unusedVariables false
section
variable (o a b m : Int) (w : World)
theorem irmay_ok (h : InOk o a b m) :
    Calls Try.prog 17 #[.agg #[.int .i64 o, .int .i64 a, .int .i64 b, .int .i64 m]] w fun e w' => e = .returned (.bool true) ∧ New w w' := by
  obtain ⟨h1, h2, h3, h4, h5, h6, h7, h8⟩ := h
  go_enter Try.func17, Try.ntmps17
  go_wp2
  go_ret
  exact ⟨rfl, (New.refl _).alloc _ _⟩
theorem irmay_no (h : ¬ InOk o a b m) :
    Calls Try.prog 17 #[.agg #[.int .i64 o, .int .i64 a, .int .i64 b, .int .i64 m]] w fun e w' => e = .returned (.bool false) ∧ New w w' := by
  unfold InOk at h
  by_cases c0 : 0 ≤ o
  rotate_left
  · have d0 : decide (0 ≤ o) = false := by simpa using c0
    clear h c0
    go_enter Try.func17, Try.ntmps17
    go_wp2
    go_ret
    exact ⟨rfl, (New.refl _).alloc _ _⟩
  by_cases c1 : o ≤ 41
  rotate_left
  · have d1 : decide (o ≤ 41) = false := by simpa using c1
    clear h c1
    go_enter Try.func17, Try.ntmps17
    go_wp2
    go_ret
    exact ⟨rfl, (New.refl _).alloc _ _⟩
  by_cases c2 : 0 ≤ a
  rotate_left
  · have d2 : decide (0 ≤ a) = false := by simpa using c2
    clear h c2
    go_enter Try.func17, Try.ntmps17
    go_wp2
    go_ret
    exact ⟨rfl, (New.refl _).alloc _ _⟩
  by_cases c3 : a ≤ 15
  rotate_left
  · have d3 : decide (a ≤ 15) = false := by simpa using c3
    clear h c3
    go_enter Try.func17, Try.ntmps17
    go_wp2
    go_ret
    exact ⟨rfl, (New.refl _).alloc _ _⟩
  by_cases c4 : 0 ≤ b
  rotate_left
  · have d4 : decide (0 ≤ b) = false := by simpa using c4
    clear h c4
    go_enter Try.func17, Try.ntmps17
    go_wp2
    go_ret
    exact ⟨rfl, (New.refl _).alloc _ _⟩
  by_cases c5 : b ≤ 15
  rotate_left
  · have d5 : decide (b ≤ 15) = false := by simpa using c5
    clear h c5
    go_enter Try.func17, Try.ntmps17
    go_wp2
    go_ret
    exact ⟨rfl, (New.refl _).alloc _ _⟩
  by_cases c6 : -32768 ≤ m
  rotate_left
  · have d6 : decide (-32768 ≤ m) = false := by simpa using c6
    clear h c6
    go_enter Try.func17, Try.ntmps17
    go_wp2
    go_ret
    exact ⟨rfl, (New.refl _).alloc _ _⟩
  have d7 : decide (m ≤ 32767) = false := by simp; omega
  clear h
  go_enter Try.func17, Try.ntmps17
  go_wp2
  go_ret
  exact ⟨rfl, (New.refl _).alloc _ _⟩
theorem irencode_ok (h : InOk o a b m) :
    Calls Try.prog 11 #[.agg #[.int .i64 o, .int .i64 a, .int .i64 b, .int .i64 m]] w fun e w' => e = .returned (.tuple #[.int .u32 (innum o a b m), .int .i64 0]) ∧ New w w' := by
  have hX := irmay_ok o a b m (w.alloc (.cells #[.int .i64 o, .int .i64 a, .int .i64 b, .int .i64 m] 42)) h
  obtain ⟨h1, h2, h3, h4, h5, h6, h7, h8⟩ := h
  by_cases c : m < 0
  · go_enter Try.func11, Try.ntmps11
    go_wp2_with fail
    refine hX.mono ?_
    rintro e w1 ⟨rfl, n1⟩
    obtain ⟨hc, hf⟩ := n1.bcell
    go_wp2
    go_ret2
    refine ⟨?_, ?_⟩
    · simp [innum]; omega
    · exact ((New.refl _).alloc _ _).trans n1
  · go_enter Try.func11, Try.ntmps11
    go_wp2_with fail
    refine hX.mono ?_
    rintro e w1 ⟨rfl, n1⟩
    obtain ⟨hc, hf⟩ := n1.bcell
    go_wp2
    go_ret2
    refine ⟨?_, ?_⟩
    · simp [innum]; omega
    · exact ((New.refl _).alloc _ _).trans n1
theorem irencode_no (h : ¬ InOk o a b m) :
    Calls Try.prog 11 #[.agg #[.int .i64 o, .int .i64 a, .int .i64 b, .int .i64 m]] w fun e w' => e = .returned (.tuple #[.int .u32 0, .int .i64 22]) ∧ New w w' := by
  have hX := irmay_no o a b m (w.alloc (.cells #[.int .i64 o, .int .i64 a, .int .i64 b, .int .i64 m] 42)) h
  clear h
  go_enter Try.func11, Try.ntmps11
  go_wp2_with fail
  refine hX.mono ?_
  rintro e w1 ⟨rfl, n1⟩
  go_wp2
  go_ret2
  exact ⟨rfl, ((New.refl _).alloc _ _).trans n1⟩
end
theorem irdecode_okn (v : Int) (w : World) (h0 : 0 ≤ v) (h1 : v ≤ 4294967295) (h : v / 16777216 ≤ 41) (g : 32768 ≤ v % 65536) :
    Calls Try.prog 9 #[.int .u32 v] w fun e w' => e = .returned (.tuple #[.agg #[.int .i64 (v / 16777216), .int .i64 (v / 1048576 % 16), .int .i64 (v / 65536 % 16), .int .i64 (v % 65536 - 65536)], .int .i64 0]) ∧ New w w' := by
  go_enter Try.func9, Try.ntmps9
  go_wp2
  exact bodyPost_ret (v := .tuple #[.agg #[.int .i64 (v / 16777216), .int .i64 (v / 1048576 % 16), .int .i64 (v / 65536 % 16), .int .i64 (v % 65536 - 65536)], .int .i64 0]) (by simp [results, Try.results9, go_sem]) rfl ⟨rfl, ((New.refl _).alloc _ _).alloc _ _⟩
theorem irdecode_okp (v : Int) (w : World) (h0 : 0 ≤ v) (h1 : v ≤ 4294967295) (h : v / 16777216 ≤ 41) (g : v % 65536 < 32768) :
    Calls Try.prog 9 #[.int .u32 v] w fun e w' => e = .returned (.tuple #[.agg #[.int .i64 (v / 16777216), .int .i64 (v / 1048576 % 16), .int .i64 (v / 65536 % 16), .int .i64 (v % 65536)], .int .i64 0]) ∧ New w w' := by
  go_enter Try.func9, Try.ntmps9
  go_wp2
  exact bodyPost_ret (v := .tuple #[.agg #[.int .i64 (v / 16777216), .int .i64 (v / 1048576 % 16), .int .i64 (v / 65536 % 16), .int .i64 (v % 65536)], .int .i64 0]) (by simp [results, Try.results9, go_sem]) rfl ⟨rfl, ((New.refl _).alloc _ _).alloc _ _⟩
theorem irdecode_non (v : Int) (w : World) (h0 : 0 ≤ v) (h1 : v ≤ 4294967295) (h : 41 < v / 16777216) (g : 32768 ≤ v % 65536) :
    Calls Try.prog 9 #[.int .u32 v] w fun e w' => e = .returned (.tuple #[.agg #[.int .i64 0, .int .i64 0, .int .i64 0, .int .i64 0], .int .i64 22]) ∧ New w w' := by
  go_enter Try.func9, Try.ntmps9
  go_wp2
  exact bodyPost_ret (v := .tuple #[.agg #[.int .i64 0, .int .i64 0, .int .i64 0, .int .i64 0], .int .i64 22]) (by simp [results, Try.results9, go_sem]) rfl ⟨rfl, ((New.refl _).alloc _ _).alloc _ _⟩
theorem irdecode_nop (v : Int) (w : World) (h0 : 0 ≤ v) (h1 : v ≤ 4294967295) (h : 41 < v / 16777216) (g : v % 65536 < 32768) :
    Calls Try.prog 9 #[.int .u32 v] w fun e w' => e = .returned (.tuple #[.agg #[.int .i64 0, .int .i64 0, .int .i64 0, .int .i64 0], .int .i64 22]) ∧ New w w' := by
  go_enter Try.func9, Try.ntmps9
  go_wp2
  exact bodyPost_ret (v := .tuple #[.agg #[.int .i64 0, .int .i64 0, .int .i64 0, .int .i64 0], .int .i64 22]) (by simp [results, Try.results9, go_sem]) rfl ⟨rfl, ((New.refl _).alloc _ _).alloc _ _⟩
end Go.Proofs.Ytbkhmeongekdiaa
namespace Go.Proofs.Ytbkhmeongekdiaa
open Go.RowKit
set_option linter.unusedVariables false
theorem irencode_any (o a b m : Int) (w : World) : Calls Try.prog 11 #[.agg #[.int .i64 o, .int .i64 a, .int .i64 b, .int .i64 m]] w fun e w' => e = .returned (.tuple #[.int .u32 (icv o a b m), .int .i64 (ice o a b m)]) ∧ New w w' := by
  rcases ic_cases o a b m with ⟨k, e1, e2⟩ | ⟨k, e1, e2⟩
  · rw [e1, e2]; exact irencode_ok o a b m w k
  · rw [e1, e2]; exact irencode_no o a b m w k
theorem irdecode_any (v : Int) (w : World) (h0 : 0 ≤ v) (h1 : v ≤ 4294967295) :
    Calls Try.prog 9 #[.int .u32 v] w fun e w' => e = .returned (.tuple #[.agg #[.int .i64 (idn v (v / 16777216)), .int .i64 (idn v (v / 1048576 % 16)), .int .i64 (idn v (v / 65536 % 16)), .int .i64 (idn v (imv v))], .int .i64 (ide v)]) ∧ New w w' := by
  unfold idn ide imv
  by_cases k : v / 16777216 ≤ 41
  · simp only [if_pos k]
    by_cases g : v % 65536 < 32768
    · simp only [if_pos g]; exact irdecode_okp v w h0 h1 k g
    · simp only [if_neg g]; exact irdecode_okn v w h0 h1 k (by omega)
  · simp only [if_neg k]
    by_cases g : v % 65536 < 32768
    · exact irdecode_nop v w h0 h1 (by omega) g
    · exact irdecode_non v w h0 h1 (by omega) (by omega)
end Go.Proofs.Ytbkhmeongekdiaa
