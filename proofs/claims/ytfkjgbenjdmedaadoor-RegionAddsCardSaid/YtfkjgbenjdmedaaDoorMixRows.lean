/- A slice that came in, of structs of numbers and bools, structs within structs too, opened cell by cell: what the row's reading gives. -/
import Derived.Test.YtfkjgbenjdmedaaDoorFlatTy
import Derived.ChangeSlices
namespace Go.Proofs.YtfkjgbenjdmedaaDoor
open Go.ChangeShapes Go.WideShapes Go.RowKit Go.Deep
set_option linter.unusedVariables false
section
variable {H : Type} {enc : TypeId × Value → H} {P : Program} {w : World} {base : Nat} {spare : Nat → Bool} {held : Bool}
/-- n structs of such cells, one behind the other -/
def MixRows (ks : List (Option IntKind)) (w : World) (a : Option Addr) (n : Nat) : Prop :=
  n ≤ maxLen ∧ ∀ j, j < n → ∃ x, a = some x ∧ ∀ (f : Nat) (k : Option IntKind), ks[f]? = some k → ∃ v, w.cell? (x.add (j * ks.length + f)) = some v ∧ FieldIs k v
theorem mixrows_of {t e : TypeId} {ks : List (Option IntKind)} {a : Option Addr} {len cap : Nat} {d : DataW H} {p : List MemPlace}
    (ht : P.underlying t = some (.slice e)) (he : FlatTy P e ks) (hC : P.cellsOf e = ks.length) (h : DataW.Trod enc P w base spare held t (.slice a len cap) d p) : MixRows ks w a len := by
  obtain ⟨fuel, hf⟩ := h
  rcases open_slice ht hf with ⟨hcs, _⟩ | ⟨x, l, c', m, n, D, Pl, hcs, _, hl, hm, hmm, _, hi⟩
  · simp [Value.cells] at hcs
    obtain ⟨rfl, rfl, rfl⟩ := hcs
    exact ⟨Nat.zero_le _, fun j hj => by omega⟩
  · simp [Value.cells] at hcs
    obtain ⟨rfl, rfl, rfl⟩ := hcs
    refine ⟨by omega, fun j hj => ⟨x, rfl, ?_⟩⟩
    have hjm : j < m := by rw [hmm]; split <;> omega
    obtain ⟨cs', hcells, htr⟩ := hi j hjm
    rw [hC] at hcells
    obtain ⟨_, hcl, hat⟩ := World.cells?_some hcells
    intro f k hk
    have hfl : f < ks.length := (List.getElem?_eq_some_iff.1 hk).1
    have hfc : f < cs'.length := by omega
    exact ⟨cs'[f], by rw [← Go.Deep.add_add, hat f hfl, List.getElem?_eq_getElem hfc], he.cells hC htr f k _ hk (List.getElem?_eq_getElem hfc)⟩
end
end Go.Proofs.YtfkjgbenjdmedaaDoor
