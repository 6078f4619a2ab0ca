/- The document's pipes: May, Read, Write, Open. -/
import Derived.Test.YtdoppkeaidemgaaDoorPiMath
import Derived.Test.YtdoppkeaidemgaaDoorApb
import Derived.BigQuiet
import Derived.RegionTactic
import Derived.Deep.LoopGhost
namespace Go.Proofs.YtdoppkeaidemgaaDoor
open Go.RowKit
set_option linter.unusedVariables false
set_option maxRecDepth 100000
section
variable {w : World} {u : Value} {p : Pp}
theorem Byts.shape {v : Value} {l : List Int} (h : Byts w v l) : ∃ q cap, v = .slice q l.length cap := by obtain ⟨q, cap, e, -⟩ := h; exact ⟨q, cap, e⟩
theorem rpmay_any (h : Byts w u p.l) : Calls Tryd.prog 17 #[PpV u p] w fun e w' => e = .returned (.bool (decide (piOk p.l p.r p.w))) ∧ New w w' := by
  obtain ⟨q, cap, rfl⟩ := h.shape
  obtain ⟨l, r, wr⟩ := p
  unfold PpV
  dsimp only
  have nn := (New.refl w).alloc #[.slice q l.length cap, .int .i64 r, .int .i64 wr] 24
  have no : ∀ (h : ¬ piOk l r wr), decide (piOk l r wr) = false := fun h => decide_eq_false h
  by_cases h1 : l.length ≤ 64
  · have h1' : (l.length : Int) ≤ 64 := by omega
    by_cases h2 : 0 ≤ r
    · by_cases h3 : r ≤ 1048576
      · by_cases h4 : 0 ≤ wr
        · by_cases h5 : wr ≤ 1048576
          · rw [decide_eq_true (show piOk l r wr from ⟨h1, h2, h3, h4, h5⟩)]
            clear no h
            generalize l.length = n at *
            go_enter Tryd.func17, Tryd.ntmps17
            go_wp2
            go_ret
            exact ⟨rfl, nn⟩
          · rw [no (fun c => h5 c.2.2.2.2)]
            clear no h
            generalize l.length = n at *
            go_enter Tryd.func17, Tryd.ntmps17
            go_wp2
            go_ret
            exact ⟨rfl, nn⟩
        · rw [no (fun c => h4 c.2.2.2.1)]
          clear no h
          generalize l.length = n at *
          go_enter Tryd.func17, Tryd.ntmps17
          go_wp2
          go_ret
          exact ⟨rfl, nn⟩
      · rw [no (fun c => h3 c.2.2.1)]
        clear no h
        generalize l.length = n at *
        go_enter Tryd.func17, Tryd.ntmps17
        go_wp2
        go_ret
        exact ⟨rfl, nn⟩
    · rw [no (fun c => h2 c.2.1)]
      clear no h
      generalize l.length = n at *
      go_enter Tryd.func17, Tryd.ntmps17
      go_wp2
      go_ret
      exact ⟨rfl, nn⟩
  · have h1' : ¬ (l.length : Int) ≤ 64 := by omega
    rw [no (fun c => h1 c.1)]
    clear no h
    generalize l.length = n at *
    go_enter Tryd.func17, Tryd.ntmps17
    go_wp2
    go_ret
    exact ⟨rfl, nn⟩
end
end Go.Proofs.YtdoppkeaidemgaaDoor
