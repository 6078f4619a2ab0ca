/- Slices of texts that can be read, whoever made them; those that came in; texts held against each other. -/
import Derived.Test.YtgoecdmnefjdnaaDoorOwnS
import Derived.SliceStrings
import Derived.ChangeSame
import Derived.Deep.LoopGhost
import Derived.Deep.QuietTactic
import Derived.BigQuiet
namespace Go.Proofs.YtgoecdmnefjdnaaDoor
open Go.ChangeShapes Go.WideShapes Go.RowKit
set_option linter.unusedVariables false
/-- a slice of texts that can be read -/
def TxR (w : World) (v : Value) (ls : List (List UInt8)) : Prop :=
  ∃ p cap, v = .slice p ls.length cap ∧ ls.length ≤ cap ∧ cap ≤ maxLen ∧ ∀ (j : Nat) x, ls[j]? = some x → ∃ a : Addr, p = some a ∧ w.cell? (a.add j) = some (.string (ba x))
theorem TxR.new {w w' : World} {v : Value} {ls : List (List UInt8)} (h : TxR w v ls) (k : New w w') : TxR w' v ls := by
  obtain ⟨p, cap, e, h1, h0, h2⟩ := h
  refine ⟨p, cap, e, h1, h0, fun j x hx => ?_⟩
  obtain ⟨a, ha, hc⟩ := h2 j x hx
  exact ⟨a, ha, k.cellv hc⟩
theorem OwnS.txr {base : Nat} {w : World} {v : Value} {ls : List (List UInt8)} (h : OwnS base w v ls) : TxR w v ls := by
  have hh := h
  rcases h.2 with ⟨rfl, hn⟩ | ⟨g, cap, cur, rfl, hb, hg, h1, h2, h3, h4⟩
  · have : ls = [] := List.eq_nil_of_length_eq_zero hn
    subst this
    exact ⟨none, 0, rfl, Nat.le_refl _, Nat.zero_le _, fun j x hx => by simp at hx⟩
  · refine ⟨_, cap, rfl, h1, by omega, fun j x hx => ⟨_, rfl, ?_⟩⟩
    have hj := (List.getElem?_eq_some_iff.1 hx).1
    have e : (⟨g, 0, none⟩ : Addr).add j = ⟨g, j, none⟩ := by unfold Addr.add; split <;> simp_all
    rw [e, World.ownsRow.cellAt hh j (by omega), List.getElem?_map, hx]; rfl
/-- a slice of texts that came in -/
def StrRows (w : World) (a : Option Addr) (n cap : Nat) : Prop := ∃ ls : List (List UInt8), ls.length = n ∧ TxR w (.slice a n cap) ls ∧ ∀ x ∈ ls, x.length ≤ maxLen
theorem strrows_of {H : Type} {enc : TypeId × Value → H} {P : Program} {w : World} {base : Nat} {spare : Nat → Bool} {held : Bool} {t e : TypeId} {a : Option Addr} {len cap : Nat} {d : DataW H} {p : List MemPlace}
    (ht : P.underlying t = some (.slice e)) (he : P.underlying e = some .string) (hc : P.cellsOf e = 1)
    (h : DataW.Trod enc P w base spare held t (.slice a len cap) d p) : StrRows w a len cap := by
  obtain ⟨fuel, hf⟩ := h
  rcases open_strings ht he hc hf with ⟨hcs, _⟩ | ⟨x, l, c, ss, hcs, _, hl, hm, hz, _, hcell, hsz⟩
  · simp [Value.cells] at hcs
    obtain ⟨rfl, rfl, rfl⟩ := hcs
    exact ⟨[], rfl, ⟨none, 0, rfl, Nat.le_refl _, Nat.zero_le _, fun j x hx => by simp at hx⟩, fun x hx => by simp at hx⟩
  · simp [Value.cells] at hcs
    obtain ⟨rfl, rfl, rfl⟩ := hcs
    have hzl : len ≤ ss.length := by rw [hz]; split <;> omega
    have hlen : ((ss.take len).map fun s => s.data.toList).length = len := by rw [List.length_map, List.length_take]; omega
    refine ⟨(ss.take len).map fun s => s.data.toList, hlen, ⟨some x, cap, by rw [hlen], by rw [hlen]; exact hl, hm, fun j y hy => ⟨x, rfl, ?_⟩⟩, ?_⟩
    · have hj := (List.getElem?_eq_some_iff.1 hy).1
      rw [hlen] at hj
      have hjs : j < ss.length := by omega
      rw [hcell j hjs]
      rw [List.getElem?_map, List.getElem?_take, if_pos hj, List.getElem?_eq_getElem hjs] at hy
      simp only [Option.map_some, Option.some.injEq] at hy
      rw [← hy, ba_of, List.getD, List.getElem?_eq_getElem hjs]; rfl
    · intro y hy
      obtain ⟨s, hs, rfl⟩ := List.mem_map.1 hy
      have := hsz s (List.mem_of_mem_take hs)
      rw [Lib.size_eq] at this; exact this
end Go.Proofs.YtgoecdmnefjdnaaDoor
