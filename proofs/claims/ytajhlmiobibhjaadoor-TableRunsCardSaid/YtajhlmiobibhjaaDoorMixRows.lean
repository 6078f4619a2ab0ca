/- A slice that came in, of structs of numbers and bools, structs within structs too, opened cell by cell: what the row's reading gives. -/
import Derived.Test.YtajhlmiobibhjaaDoorFlat
import Derived.ChangeSlices
namespace Go.Proofs.YtajhlmiobibhjaaDoor
open Go.ChangeShapes Go.WideShapes Go.RowKit Go.Deep
set_option linter.unusedVariables false
mutual
/-- a type of numbers and bools alone, cell by cell -/
inductive FlatTy (P : Program) : TypeId → List (Option IntKind) → Prop
  | int {t : TypeId} {k : IntKind} : P.underlying t = some (.int k) → FlatTy P t [some k]
  | bool {t : TypeId} : P.underlying t = some .bool → FlatTy P t [none]
  | struct {t : TypeId} {fs : Array Field} {ks : List (Option IntKind)} : P.underlying t = some (.struct fs) → FlatFs P fs.toList 0 ks → FlatTy P t ks
inductive FlatFs (P : Program) : List Field → Nat → List (Option IntKind) → Prop
  | nil {o : Nat} : FlatFs P [] o []
  | cons {f : Field} {fs : List Field} {o : Nat} {ks ks' : List (Option IntKind)} : f.offset = o → FlatTy P f.type ks → P.cellsOf f.type = ks.length → FlatFs P fs (o + ks.length) ks' → FlatFs P (f :: fs) o (ks ++ ks')
end
section
variable {H : Type} {enc : TypeId × Value → H} {P : Program} {w : World} {base : Nat} {spare : Nat → Bool} {held : Bool}
mutual
theorem FlatTy.cells {t : TypeId} {ks : List (Option IntKind)} (h : FlatTy P t ks) : ∀ {fuel : Nat} {cs : List Value} {x : DataW H × List MemPlace}, P.cellsOf t = ks.length → DataW.trod enc P w base spare held fuel t cs = some x →
    ∀ (i : Nat) (k : Option IntKind) (v : Value), ks[i]? = some k → cs[i]? = some v → FieldIs k v := by
  intro fuel cs x hc ht i k v hi hv
  match h with
  | .int hu =>
    obtain ⟨n, e1, _, e3⟩ := DataW.trod_int hu ht
    subst e1
    match i, hi, hv with
    | 0, hi, hv => simp at hi hv; subst hi hv; exact ⟨n, rfl, e3⟩
    | i + 1, hi, hv => simp at hi
  | .bool hu =>
    obtain ⟨b, e1, _⟩ := DataW.trod_bool hu ht
    subst e1
    match i, hi, hv with
    | 0, hi, hv => simp at hi hv; subst hi hv; exact ⟨b, rfl⟩
    | i + 1, hi, hv => simp at hi
  | .struct hu hf =>
    obtain ⟨ys, n, _, _, hlen, hyl, hfl⟩ := DataW.trod_struct hu ht
    refine FlatFs.cells hf (n := n) (cs := cs) ?_ i k v hi (by simpa using hv)
    intro j f hj
    have hj' := Array.getElem?_eq_some_iff.1 (show _ = some f from by simpa using hj)
    have h1 := hfl j f (by simpa using hj)
    rw [List.getElem?_eq_getElem (show j < ys.length by rw [hyl]; exact hj'.1)] at h1
    exact ⟨_, h1⟩
theorem FlatFs.cells {fs : List Field} {o : Nat} {ks : List (Option IntKind)} (h : FlatFs P fs o ks) : ∀ {n : Nat} {cs : List Value}, (∀ (j : Nat) (f : Field), fs[j]? = some f → ∃ y : DataW H × List MemPlace, DataW.trod enc P w base spare held n f.type ((cs.drop f.offset).take (P.cellsOf f.type)) = some y) →
    ∀ (i : Nat) (k : Option IntKind) (v : Value), ks[i]? = some k → cs[o + i]? = some v → FieldIs k v := by
  intro n cs hall i k v hi hv
  match h with
  | .nil => simp at hi
  | .cons (f := f) (fs := fs') (ks := ks1) (ks' := ks2) ho hty hsz hrest =>
    by_cases c : i < ks1.length
    · rw [List.getElem?_append_left c] at hi
      obtain ⟨y, hy⟩ := hall 0 f rfl
      refine FlatTy.cells hty hsz hy i k v hi ?_
      rw [List.getElem?_take, if_pos (by omega), List.getElem?_drop, ho]; exact hv
    · rw [List.getElem?_append_right (by omega)] at hi
      refine FlatFs.cells hrest (n := n) (cs := cs) (fun j f' hj => hall (j + 1) f' (by simpa using hj)) (i - ks1.length) k v hi ?_
      rw [show o + ks1.length + (i - ks1.length) = o + i by omega]; exact hv
end
/-- n structs of such cells, one behind the other -/
def MixRows (ks : List (Option IntKind)) (w : World) (a : Option Addr) (n : Nat) : Prop :=
  n ≤ maxLen ∧ ∀ j, j < n → ∃ x, a = some x ∧ ∀ (f : Nat) (k : Option IntKind), ks[f]? = some k → ∃ v, w.cell? (x.add (j * ks.length + f)) = some v ∧ FieldIs k v
theorem mixrows_of {t e : TypeId} {ks : List (Option IntKind)} {a : Option Addr} {len cap : Nat} {d : DataW H} {p : List MemPlace}
    (ht : P.underlying t = some (.slice e)) (he : FlatTy P e ks) (hC : P.cellsOf e = ks.length) (h : DataW.Trod enc P w base spare held t (.slice a len cap) d p) : MixRows ks w a len := by
  obtain ⟨fuel, hf⟩ := h
  rcases open_slice ht hf with ⟨hcs, _⟩ | ⟨x, l, c', m, n, D, Pl, hcs, _, hl, hm, hmm, _, hi⟩
  · simp [Value.cells] at hcs
    obtain ⟨rfl, rfl, rfl⟩ := hcs
    exact ⟨Nat.zero_le _, fun j hj => by omega⟩
  · simp [Value.cells] at hcs
    obtain ⟨rfl, rfl, rfl⟩ := hcs
    refine ⟨by omega, fun j hj => ⟨x, rfl, ?_⟩⟩
    have hjm : j < m := by rw [hmm]; split <;> omega
    obtain ⟨cs', hcells, htr⟩ := hi j hjm
    rw [hC] at hcells
    obtain ⟨_, hcl, hat⟩ := World.cells?_some hcells
    intro f k hk
    have hfl : f < ks.length := (List.getElem?_eq_some_iff.1 hk).1
    have hfc : f < cs'.length := by omega
    exact ⟨cs'[f], by rw [← Go.Deep.add_add, hat f hfl, List.getElem?_eq_getElem hfc], he.cells hC htr f k _ hk (List.getElem?_eq_getElem hfc)⟩
end
end Go.Proofs.YtajhlmiobibhjaaDoor
