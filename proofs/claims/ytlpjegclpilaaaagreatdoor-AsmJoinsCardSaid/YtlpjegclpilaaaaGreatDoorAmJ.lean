/- A text of some instructions' texts, a line each, and its numbers. No program stands in this text. -/
import Derived.Test.YtlpjegclpilaaaaGreatDoorAmLines
namespace Go.Proofs.YtlpjegclpilaaaaGreatDoor
open Go.Lib
set_option linter.unusedVariables false
def catL (Ls : List (List UInt8)) : List UInt8 := (Ls.map (· ++ [10])).flatten
theorem catL_snoc (Ls : List (List UInt8)) (x : List UInt8) : catL (Ls ++ [x]) = catL Ls ++ x ++ [10] := by simp [catL]
/-- lines, and the numbers of their instructions -/
structure Good (Ls : List (List UInt8)) (vs : List Int) : Prop where
  len : vs.length = Ls.length
  lines : ∀ t, lns (catL Ls ++ t) = Ls ++ lns t
  prog : ∀ k r acc, prg k (Ls ++ r) acc = prg (k + Ls.length) r (acc ++ vs)
theorem Good.nil : Good [] [] := ⟨rfl, fun t => rfl, fun k r acc => by simp⟩
theorem Good.snoc {Ls : List (List UInt8)} {vs : List Int} (h : Good Ls vs) {o : Nat} {a b m : Int} (hx : prs (txt o a b m) = some (o, a, b, m)) : Good (Ls ++ [txt o a b m]) (vs ++ [innum (o : Int) a b m]) := by
  have hb := txt_bytes o a b m
  generalize txt o a b m = x at *
  refine ⟨by simp [h.len], fun t => ?_, fun k r acc => ?_⟩
  · rw [catL_snoc, List.append_assoc, List.append_assoc, h.lines]
    have := lns_cons x t (fun c hc => (hb c hc).2)
    simp only [List.singleton_append, List.append_assoc]
    rw [this]
  · rw [List.append_assoc, h.prog, List.singleton_append, prg_some (x := (o, a, b, m)) (by rw [ctl_all x (fun c hc => (hb c hc).1)]; exact hx)]
    rw [List.length_append, List.length_singleton, List.append_assoc, Nat.add_assoc]
theorem Good.whole {Ls : List (List UInt8)} {vs : List Int} (h : Good Ls vs) : prg 1 (lns (catL Ls)) [] = (vs, 0, 0) := by
  have e := h.lines []
  rw [List.append_nil] at e
  rw [e, h.prog, show lns [] = [[]] from rfl, prg_skip (by decide), prg]; simp
def bogT : List UInt8 := [98, 111, 103, 117, 115, 32, 49, 10]
theorem bog_prs : prs [98, 111, 103, 117, 115, 32, 49] = none := by
  have e1 : wrds [98, 111, 103, 117, 115, 32, 49] = [[98, 111, 103, 117, 115], [49]] := by decide
  have e2 : fnd [98, 111, 103, 117, 115] = 42 := by decide
  unfold prs prsBy
  rw [e1]
  simp only
  rw [e2, nd_big (Nat.le_refl _)]; rfl
theorem Good.bogus {Ls : List (List UInt8)} {vs : List Int} (h : Good Ls vs) : prg 1 (lns (catL Ls ++ bogT)) [] = ([], 1 + Ls.length, 22) := by
  have e : lns bogT = [[98, 111, 103, 117, 115, 32, 49], []] := by decide
  have e2 : ctl [98, 111, 103, 117, 115, 32, 49] = [98, 111, 103, 117, 115, 32, 49] := by decide
  rw [h.lines, h.prog, e, prg_bad (by rw [e2]; decide) (by rw [e2]; exact bog_prs)]
end Go.Proofs.YtlpjegclpilaaaaGreatDoor
