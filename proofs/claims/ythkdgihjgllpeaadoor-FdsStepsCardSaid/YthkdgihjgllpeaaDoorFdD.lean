/- Numbers of files: what must come whatever the input is; numbers held against each other. -/
import Derived.Test.YthkdgihjgllpeaaDoorFdS
import Derived.Test.YthkdgihjgllpeaaDoorFlatTy
import Derived.Test.YthkdgihjgllpeaaDoorEqRow
import Derived.Deep.QuietTactic
import Derived.BigQuiet
namespace Go.Proofs.YthkdgihjgllpeaaDoor
open Go.RowKit
set_option linter.unusedVariables false
set_option maxRecDepth 100000
theorem fe0 : erN 0 = .nilIface := rfl
/-- eight numbers that came in by value -/
theorem flat_i8 {v : Value} (h : Flat [some .i64, some .i64, some .i64, some .i64, some .i64, some .i64, some .i64, some .i64] v) : ∃ l : List Int, l.length = 8 ∧ v = .agg (i8 l).toArray ∧ ∀ x ∈ l, -9223372036854775808 ≤ x ∧ x ≤ 9223372036854775807 := by
  obtain ⟨⟨cs⟩, rfl, hz, hf⟩ := h
  have hz : cs.length = 8 := hz
  have key : ∀ i, i < 8 → ∃ n : Int, cs[i]? = some (.int .i64 n) ∧ -9223372036854775808 ≤ n ∧ n ≤ 9223372036854775807 := fun i hi => by
    have hx : cs[i]? = some (cs[i]'(by omega)) := List.getElem?_eq_getElem (by omega)
    obtain ⟨n, e, hb⟩ := hf i (some .i64) (cs[i]'(by omega)) (by
      have : i = 0 ∨ i = 1 ∨ i = 2 ∨ i = 3 ∨ i = 4 ∨ i = 5 ∨ i = 6 ∨ i = 7 := by omega
      rcases this with rfl | rfl | rfl | rfl | rfl | rfl | rfl | rfl <;> rfl) (by rw [List.getElem?_toArray]; exact hx)
    exact ⟨n, by rw [hx, e], i64_bd hb⟩
  obtain ⟨n0, e0, b0⟩ := key 0 (by omega)
  obtain ⟨n1, e1, b1⟩ := key 1 (by omega)
  obtain ⟨n2, e2, b2⟩ := key 2 (by omega)
  obtain ⟨n3, e3, b3⟩ := key 3 (by omega)
  obtain ⟨n4, e4, b4⟩ := key 4 (by omega)
  obtain ⟨n5, e5, b5⟩ := key 5 (by omega)
  obtain ⟨n6, e6, b6⟩ := key 6 (by omega)
  obtain ⟨n7, e7, b7⟩ := key 7 (by omega)
  have hcs : cs = [.int .i64 n0, .int .i64 n1, .int .i64 n2, .int .i64 n3, .int .i64 n4, .int .i64 n5, .int .i64 n6, .int .i64 n7] := by
    apply List.ext_getElem?
    intro i
    rcases Nat.lt_or_ge i 8 with c | c
    · have : i = 0 ∨ i = 1 ∨ i = 2 ∨ i = 3 ∨ i = 4 ∨ i = 5 ∨ i = 6 ∨ i = 7 := by omega
      rcases this with rfl | rfl | rfl | rfl | rfl | rfl | rfl | rfl <;> assumption
    · rw [List.getElem?_eq_none (by omega), List.getElem?_eq_none (by simpa using c)]
  refine ⟨[n0, n1, n2, n3, n4, n5, n6, n7], rfl, by rw [hcs]; rfl, fun x hx => ?_⟩
  · simp only [List.mem_cons, List.not_mem_nil, or_false] at hx
    rcases hx with rfl | rfl | rfl | rfl | rfl | rfl | rfl | rfl <;> assumption
theorem a8_equal (l : List Int) (h8 : l.length = 8) (w : World) : (Op.equalIn 10000 22 (.agg (i8 l).toArray) (.agg (i8 l).toArray)).run Tryd.prog w = .ok true w :=
  run_equalIn_row 9998 8 Tryd.underlying22 Tryd.underlying3 (by kernel_rfl) _ w fun i hi => ⟨_, _, by rw [List.getElem?_toArray]; exact i8_at l i (by omega)⟩
theorem fiO_len {l : List Int} (h8 : l.length = 8) : (fiO l).length ≤ 8 := by
  unfold fiO; split
  · exact h8 ▸ fiS_len l
  · simp
set_option maxHeartbeats 2000000 in
/-- two lists of the same numbers -/
theorem ints_any (w : World) (u v : Value) (l : List Int) (hu : Nums w u l) (hv : Nums w v l) (hl : l.length ≤ 1000000) : Calls Tryd.prog 17 #[u, v] w fun e w' => e = .returned (.bool true) ∧ New w w' := by
  obtain ⟨p, cap, rfl, -, hc⟩ := hu
  obtain ⟨q, cap2, rfl, -, hd⟩ := hv
  have HC := Lib.hid hc
  have HD := Lib.hid hd
  clear hc hd
  generalize hn : l.length = n at *
  have HN := Lib.hid hn
  clear hn
  go_enter Tryd.func17, Tryd.ntmps17
  go_wp2
  go_loopg [5] n (fun k i wr => ∃ j : Nat, j + k = n ∧ i = .int .i64 (j : Int) ∧ New w wr)
  case atStart => exact ⟨0, by omega, rfl, New.refl _⟩
  case round =>
    obtain ⟨j, hj, rfl, hn⟩ := hrel
    have J := Lib.hid hj
    have HW := Lib.hid hn
    by_cases c : j < n
    · obtain ⟨a, rfl, ha⟩ := HC.out j c
      obtain ⟨b, rfl, hb⟩ := HD.out j c
      have ha := hn.keeps ha
      have hb := hn.keeps hb
      generalize l.getD j 0 = x at *
      clear hj hn
      go_wp2_with fail
      go_quiet (fail)
      have n2 := Lib.hid (HW.out.trans ((New.refl _).drewN nq))
      go_wp2
      go_roundg (n - (j + 1))
      case measure => have := J.out; omega
      case rel => exact ⟨j + 1, by have := J.out; omega, by go_num, n2.out⟩
    · obtain rfl : j = n := by omega
      clear hj
      go_wp2
      go_ret
      exact ⟨rfl, HW.out⟩
end Go.Proofs.YthkdgihjgllpeaaDoor
