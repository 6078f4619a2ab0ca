/- Open files: the plain facts of the law on counts. -/
import Derived.Test.YtpapicnkhjcjoaaDoorFiQ
namespace Go.Proofs.YtpapicnkhjcjoaaDoor
open Go.RowKit
set_option linter.unusedVariables false
def ca (r : Int) : Fl := ⟨0, 1, 0, false, false, [], r⟩
def cb (r : Int) : Fl := ⟨2, 2, 0, false, false, [], r⟩
/-- the two files, the one that is counted r times -/
def cN (s : Bool) (r : Int) : Ft := if s then [(0, ca 1), (1, cb r)] else [(0, ca r), (1, cb 1)]
/-- it is gone -/
def cG (s : Bool) : Ft := if s then [(0, ca 1)] else [(1, cb 1)]
def cn (s : Bool) : Int := if s then 1 else 0
def cm (s : Bool) : Int := if s then 0 else 1
def cF (s : Bool) (r : Int) : Fl := if s then cb r else ca r
def cO (s : Bool) : Fl := if s then ca 1 else cb 1
theorem co_a : foN 3 [] (ca 0) = 0 ∧ foE 3 [] (ca 0) = 0 := by decide
theorem co_a2 : foL 3 [] (ca 0) = [(0, ca 1)] := rfl
theorem co_b : foN 3 [(0, ca 1)] (cb 0) = 1 ∧ foE 3 [(0, ca 1)] (cb 0) = 0 := by decide
theorem co_b2 (s : Bool) : foL 3 [(0, ca 1)] (cb 0) = cN s 1 := by cases s <;> rfl
theorem cn_get (s : Bool) (r : Int) : fgE (cN s r) (cn s) = 0 ∧ fgF (cN s r) (cn s) = cF s r := by cases s <;> exact ⟨rfl, rfl⟩
theorem cm_get (s : Bool) (r : Int) : fgE (cN s r) (cm s) = 0 ∧ fgF (cN s r) (cm s) = cO s := by cases s <;> exact ⟨rfl, rfl⟩
theorem cm_got (s : Bool) : fgE (cG s) (cm s) = 0 ∧ fgF (cG s) (cm s) = cO s := by cases s <;> exact ⟨rfl, rfl⟩
theorem cB (s : Bool) (r b : Int) : frB (cN s r) (cn s) b = cF s (r + b) := by unfold frB; rw [(cn_get s r).2]; cases s <;> rfl
theorem cW (s : Bool) (r k : Int) (h : 0 < k) : lwith (cN s r) (cn s) (cF s k) = cN s k := by
  cases s
  · show (if _ then (if _ then _ else _) else _) = _
    rw [if_pos (by rfl), if_pos (show 0 < (cF false k).rf from h)]
    rfl
  · show (if _ then _ else _ :: (if _ then (if _ then _ else _) else _)) = _
    rw [if_neg (by decide), if_pos (by rfl), if_pos (show 0 < (cF true k).rf from h)]
    rfl
theorem cW0 (s : Bool) (r : Int) : lwith (cN s r) (cn s) (cF s 0) = cG s := by cases s <;> rfl
theorem cF_rf (s : Bool) (r : Int) : (cF s r).rf = r := by cases s <;> rfl
theorem c_ref (s : Bool) (r : Int) (h1 : 1 ≤ r) (h2 : r ≤ 1000) : frE (cN s r) (cn s) 1 = 0 ∧ frL (cN s r) (cn s) 1 = cN s (r + 1) := by
  have e : frE (cN s r) (cn s) 1 = 0 := by
    unfold frE
    rw [(cn_get s r).1, if_neg (by decide), cB, cF_rf, if_neg (by omega)]
  exact ⟨e, by unfold frL; rw [if_pos e, cB]; exact cW s r _ (by omega)⟩
theorem c_un (s : Bool) (r : Int) (h1 : 1 ≤ r) (h2 : r ≤ 1000) : frE (cN s r) (cn s) (-1) = 0 ∧ (frO (cN s r) (cn s) (-1)).rf = r - 1 ∧ frL (cN s r) (cn s) (-1) = if r = 1 then cG s else cN s (r - 1) := by
  have e : frE (cN s r) (cn s) (-1) = 0 := by
    unfold frE
    rw [(cn_get s r).1, if_neg (by decide), cB, cF_rf, if_neg (by omega)]
  refine ⟨e, by unfold frO; rw [if_pos e, cB, cF_rf]; rfl, ?_⟩
  unfold frL
  rw [if_pos e, cB]
  by_cases c : r = 1
  · subst c
    rw [if_pos rfl]
    exact cW0 s 1
  · rw [if_neg c]
    exact cW s r _ (by omega)
theorem c_no (s : Bool) : frE (cG s) (cn s) (-1) = 9 ∧ frL (cG s) (cn s) (-1) = cG s := by cases s <;> exact ⟨by decide, rfl⟩
theorem c_len (s : Bool) : (cG s).length = 1 := by cases s <;> rfl
theorem c_in (s : Bool) : lget (cG s) (cm s) ≠ none := by cases s <;> (intro h; cases h)
theorem one_of {l : List Int} {n : Int} (h : l.length = 1) (hn : n ∈ l) : l = [n] := by
  obtain ⟨x, rfl⟩ := List.length_eq_one_iff.1 h
  rw [List.mem_singleton] at hn
  rw [hn]
end Go.Proofs.YtpapicnkhjcjoaaDoor
