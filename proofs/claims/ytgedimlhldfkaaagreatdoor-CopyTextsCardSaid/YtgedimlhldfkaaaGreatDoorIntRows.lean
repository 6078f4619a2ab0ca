/- A slice of structs of whole numbers that came in, opened cell by cell: what the row's reading gives. -/
import Derived.Test.YtgedimlhldfkaaaGreatDoorNumF
import Derived.Deep.Slices
import Derived.Deep.Fields
import Derived.ChangeSame
namespace Go.Proofs.YtgedimlhldfkaaaGreatDoor
open Go.ChangeShapes Go.WideShapes Go.RowKit Go.Deep
set_option linter.unusedVariables false
/-- n structs of c whole numbers, one behind the other -/
def IntRows (k : IntKind) (c : Nat) (w : World) (a : Option Addr) (n : Nat) : Prop :=
  n ≤ maxLen ∧ ∀ j, j < n → ∃ x, a = some x ∧ ∀ f, f < c → ∃ v : Int, w.cell? (x.add (j * c + f)) = some (.int k v) ∧ (Lit.int k v).wf = true
theorem introws_of {H : Type} {enc : TypeId × Value → H} {P : Program} {w : World} {base : Nat} {spare : Nat → Bool} {held : Bool} {k : IntKind} {t e : TypeId} {fs : Array Field} {a : Option Addr} {len cap : Nat} {d : DataW H} {p : List MemPlace}
    (ht : P.underlying t = some (.slice e)) (he : P.underlying e = some (.struct fs)) (hone : oneCellFields P fs = true) (hC : P.cellsOf e = fs.size) (hk : ∀ (i : Nat) (f : Field), fs[i]? = some f → P.underlying f.type = some (.int k))
    (h : DataW.Trod enc P w base spare held t (.slice a len cap) d p) : IntRows k fs.size w a len := by
  obtain ⟨fuel, hf⟩ := h
  rcases open_slice ht hf with ⟨hcs, _⟩ | ⟨x, l, c, m, n, D, Pl, hcs, _, hl, hm, hmm, _, hi⟩
  · simp [Value.cells] at hcs
    obtain ⟨rfl, rfl, rfl⟩ := hcs
    exact ⟨Nat.zero_le _, fun j hj => by omega⟩
  · simp [Value.cells] at hcs
    obtain ⟨rfl, rfl, rfl⟩ := hcs
    refine ⟨by omega, fun j hj => ⟨x, rfl, fun f hf => ?_⟩⟩
    have hjm : j < m := by rw [hmm]; split <;> omega
    obtain ⟨cs', hcells, htr⟩ := hi j hjm
    rw [hC] at hcells
    obtain ⟨ys, q, _, _, hlen, hyl, hfl⟩ := DataW.trod_struct he htr
    obtain ⟨_, hcl, hat⟩ := World.cells?_some hcells
    have hfe : fs[f]? = some fs[f] := Array.getElem?_eq_getElem hf
    obtain ⟨ho, hc1⟩ := hone_of hone f _ hfe
    have h1 := hfl f _ hfe
    rw [ho, hc1] at h1
    have hfc : f < cs'.length := by omega
    have hdt : (cs'.drop f).take 1 = [cs'[f]] := by rw [List.drop_eq_getElem_cons hfc]; rfl
    rw [hdt, List.getElem?_eq_getElem (show f < ys.length by omega)] at h1
    obtain ⟨v, e1, _, e3⟩ := DataW.trod_int (hk f _ hfe) h1
    refine ⟨v, ?_, e3⟩
    rw [← Go.Deep.add_add, hat f hf, List.getElem?_eq_getElem hfc]
    have := List.head_eq_of_cons_eq e1
    rw [this]
/-- a field's address as the walk has it -/
theorem add_field (x : Addr) (k f : Nat) (hf : f ≠ 0) : x.add (k + f) = ⟨(x.add k).block, (x.add k).off + f, none⟩ := by
  rw [← Go.Deep.add_add]
  generalize x.add k = y
  simp [Addr.add, hf]
end Go.Proofs.YtgedimlhldfkaaaGreatDoor
