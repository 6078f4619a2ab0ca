/- Facts for the statement on what fails: two boards beside each other; what is counted. -/
import Derived.Test.YtbkhmeongekdiaaCpSu
import Derived.Test.YtbkhmeongekdiaaCpFl
namespace Go.Proofs.Ytbkhmeongekdiaa
open Go.RowKit Go.Joins
set_option linter.unusedVariables false
set_option maxRecDepth 100000
theorem fes0 (x : Nat → Int) : 0 ≤ fes x 0 ∧ fes x 0 ≤ 1 := by
  unfold fes
  have e : wrap64 (0 + 1) = 1 := by kernel_rfl
  rw [e]
  split
  · omega
  · split <;> omega
theorem adds0 {n : Nat} (h : n ≤ 2) : adds 0 n = n := by
  rcases (show n = 0 ∨ n = 1 ∨ n = 2 by omega) with rfl | rfl | rfl
  · rfl
  · kernel_rfl
  · kernel_rfl
theorem w32_of {w : World} {a : Option Addr} {len cap : Nat} {zs : List Int}
    (h : (a = none ∧ len = 0 ∧ cap = 0 ∧ zs = []) ∨ ∃ x, a = some x ∧ len ≤ cap ∧ cap ≤ maxLen ∧ zs.length = cap ∧ (∀ i, i < zs.length → w.cell? (x.add i) = some (.int .u32 (zs.getD i 0))) ∧ ∀ n ∈ zs, (Lit.int .u32 n).wf = true) :
    ∃ l : List Int, l.length = len ∧ W32 w a l := by
  rcases h with ⟨rfl, rfl, rfl, rfl⟩ | ⟨x, rfl, h1, h2, h3, h4, h5⟩
  · exact ⟨[], rfl, fun j hj => by simp at hj, fun v hv => by simp at hv, Nat.zero_le _⟩
  · have hl : (zs.take len).length = len := by rw [List.length_take]; omega
    refine ⟨zs.take len, hl, fun j hj => ?_, fun v hv => ?_, by omega⟩
    · rw [hl] at hj
      have e : (zs.take len).getD j 0 = zs.getD j 0 := by
        rw [List.getD_eq_getElem?_getD, List.getD_eq_getElem?_getD, List.getElem?_take_of_lt hj]
      rw [e]
      exact ⟨x, rfl, h4 j (by omega)⟩
    · exact u32_bd (h5 v (List.mem_of_mem_take hv))
theorem Bd.apart {S : Nat → Prop} {w w' : World} {db : Nat} {v : Value} {L : List Int} {a s : Int} (h : Bd w db v L a s) (k : But S w w') (h1 : ¬ S db) (h2 : ∀ g, v.ownBlock = some g → ¬ S g) : Bd w' db v L a s := by
  refine ⟨h.1.but k h1, ⟨h.2.1.1, ?_⟩, h.2.2⟩
  rcases h.2.1.2 with h0 | ⟨g, cap, cur, rfl, hb, hg, rest⟩
  · exact .inl h0
  · exact .inr ⟨g, cap, cur, rfl, hb, by rw [k.block (Array.getElem?_eq_some_iff.1 hg).1 (h2 g rfl)]; exact hg, rest⟩
theorem wds_len_le (l : List Int) : (wds l).length ≤ 256 := by rw [wds_min, wdl_len l _ (Nat.min_le_left _ _)]; omega
theorem wpStill_get {P : Program} {ops : Array Oper} {w : World} {Q : Act → Prop} {a : Act} (h : Q a) : wpStill P ops w Q [] a := h
end Go.Proofs.Ytbkhmeongekdiaa
