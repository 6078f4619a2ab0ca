/- The library's table of 32 bytes (math/bits.deBruijn32tab): what the row's premise on it gives, cell by cell. -/
import Derived.Test.YtfhoonjofphddaaDoorSetA
import Derived.Test.YtfhoonjofphddaaDoorRows
import Derived.ChangeSame
import Derived.ChangeVars
import Derived.OpenShut
import Derived.JoinedOf
import Derived.LaidLaws
import Derived.LaidHandle
namespace Go.Proofs.YtfhoonjofphddaaDoor
open Go.ChangeShapes Go.WideShapes Go.RowKit
set_option linter.unusedVariables false
theorem tab_g : Tryd.prog.globalNamed "math/bits.deBruijn32tab" = some 0 := by kernel_rfl
theorem tab_t : (Tryd.prog.globals[0]?).map (·.type) = some 57 := by kernel_rfl
theorem tab_of_laid {W : World} (h : laidMet Tryd.prog [("math/bits.deBruijn32tab", Rows.laid_math_bits_deBruijn32tab)] W) : Tab32 W := by
  obtain ⟨ps, ⟨g, t, cs, f, p, q, hg, ht, hv, hd, _, _⟩, _⟩ := h
  obtain rfl := Option.some.inj (tab_g.symm.trans hg)
  obtain rfl := Option.some.inj (tab_t.symm.trans ht)
  obtain ⟨xs, m, rfl, hx, hlen, hn, hel⟩ := DataW.trod_array Tryd.underlying57 hd
  have c1 : Tryd.prog.cellsOf 5 = 1 := by kernel_rfl
  intro j hj
  have hel := hel j hj
  rw [c1] at hel
  have hx1 : xs.map (·.1) = (Lib.deBruijn32tab.map fun n : Nat => (DataW.lit (.int .u8 (n : Int)) : DataW Unit)) := by
    simp only [Prod.mk.injEq] at hx
    have e := hx.1
    unfold Rows.laid_math_bits_deBruijn32tab at e
    injection e with e
    rw [← e]; rfl
  have hxj : (xs[j]?).map (·.1) = some (.lit (.int .u8 ((Lib.deBruijn32tab.getD j 0 : Nat) : Int))) := by
    rw [← List.getElem?_map, hx1, List.getElem?_map]
    have hl : j < Lib.deBruijn32tab.length := hj
    rw [List.getD_eq_getElem?_getD, List.getElem?_eq_getElem hl]; rfl
  rcases hk : xs[j]? with _ | x
  · rw [hk] at hxj; cases hxj
  · rw [hk] at hel hxj
    obtain ⟨k, e1, e2, _⟩ := DataW.trod_int Tryd.underlying5 hel
    have hk2 : k = ((Lib.deBruijn32tab.getD j 0 : Nat) : Int) := by
      rw [e2] at hxj; simpa using hxj
    have := World.var?_cell hg hv j
    rw [this, ← hk2]
    have e3 : (cs.toList.drop (j * 1)).take 1 = [.int .u8 k] := e1
    rw [Nat.mul_one] at e3
    have e4 := congrArg (fun l : List Value => l[0]?) e3
    simpa using e4
end Go.Proofs.YtfhoonjofphddaaDoor
