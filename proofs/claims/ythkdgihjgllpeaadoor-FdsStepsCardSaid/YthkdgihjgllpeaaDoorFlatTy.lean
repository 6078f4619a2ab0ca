/- Types of numbers and bools alone, structs within structs and arrays too, opened cell by cell; a struct of such a type that came in by value. -/
import Derived.Test.YthkdgihjgllpeaaDoorFlat
import Derived.OpenShut
namespace Go.Proofs.YthkdgihjgllpeaaDoor
open Go.ChangeShapes Go.WideShapes Go.RowKit Go.Deep
set_option linter.unusedVariables false
theorem flatten_get {α : Type} (ks : List α) : ∀ (n i : Nat) (k : α), (List.replicate n ks).flatten[i]? = some k → ∃ q r, q < n ∧ r < ks.length ∧ i = q * ks.length + r ∧ ks[r]? = some k
  | 0, i, k, h => by simp at h
  | n + 1, i, k, h => by
    rw [List.replicate_succ, List.flatten_cons] at h
    by_cases c : i < ks.length
    · rw [List.getElem?_append_left c] at h
      exact ⟨0, i, by omega, c, by omega, h⟩
    · rw [List.getElem?_append_right (by omega)] at h
      obtain ⟨q, r, h1, h2, h3, h4⟩ := flatten_get ks n _ k h
      refine ⟨q + 1, r, by omega, h2, ?_, h4⟩
      rw [Nat.succ_mul]; omega
mutual
/-- a type of numbers and bools alone, cell by cell -/
inductive FlatTy (P : Program) : TypeId → List (Option IntKind) → Prop
  | int {t : TypeId} {k : IntKind} : P.underlying t = some (.int k) → FlatTy P t [some k]
  | bool {t : TypeId} : P.underlying t = some .bool → FlatTy P t [none]
  | array {t e : TypeId} {n : Nat} {ks : List (Option IntKind)} : P.underlying t = some (.array n e) → FlatTy P e ks → P.cellsOf e = ks.length → FlatTy P t (List.replicate n ks).flatten
  | struct {t : TypeId} {fs : Array Field} {ks : List (Option IntKind)} : P.underlying t = some (.struct fs) → FlatFs P fs.toList 0 ks → FlatTy P t ks
inductive FlatFs (P : Program) : List Field → Nat → List (Option IntKind) → Prop
  | nil {o : Nat} : FlatFs P [] o []
  | cons {f : Field} {fs : List Field} {o : Nat} {ks ks' : List (Option IntKind)} : f.offset = o → FlatTy P f.type ks → P.cellsOf f.type = ks.length → FlatFs P fs (o + ks.length) ks' → FlatFs P (f :: fs) o (ks ++ ks')
end
section
variable {H : Type} {enc : TypeId × Value → H} {P : Program} {w : World} {base : Nat} {spare : Nat → Bool} {held : Bool}
mutual
theorem FlatTy.cells {t : TypeId} {ks : List (Option IntKind)} (h : FlatTy P t ks) : ∀ {fuel : Nat} {cs : List Value} {x : DataW H × List MemPlace}, P.cellsOf t = ks.length → DataW.trod enc P w base spare held fuel t cs = some x →
    ∀ (i : Nat) (k : Option IntKind) (v : Value), ks[i]? = some k → cs[i]? = some v → FieldIs k v := by
  intro fuel cs x hc ht i k v hi hv
  match h with
  | .int hu =>
    obtain ⟨n, e1, _, e3⟩ := DataW.trod_int hu ht
    subst e1
    match i, hi, hv with
    | 0, hi, hv => simp at hi hv; subst hi hv; exact ⟨n, rfl, e3⟩
    | i + 1, hi, hv => simp at hi
  | .bool hu =>
    obtain ⟨b, e1, _⟩ := DataW.trod_bool hu ht
    subst e1
    match i, hi, hv with
    | 0, hi, hv => simp at hi hv; subst hi hv; exact ⟨b, rfl⟩
    | i + 1, hi, hv => simp at hi
  | .array (n := n) (ks := ks1) hu he hce =>
    obtain ⟨xs, m, _, _, _, hxl, hel⟩ := DataW.trod_array hu ht
    have hi2 := flatten_get ks1 n i k hi
    obtain ⟨q, r, hq, hr, e1, e2⟩ := hi2
    have h1 := hel q hq
    rw [List.getElem?_eq_getElem (show q < xs.length by omega)] at h1
    refine FlatTy.cells he hce h1 r k v e2 ?_
    rw [hce, List.getElem?_take, if_pos hr, List.getElem?_drop, ← e1]; exact hv
  | .struct hu hf =>
    obtain ⟨ys, n, _, _, hlen, hyl, hfl⟩ := DataW.trod_struct hu ht
    refine FlatFs.cells hf (n := n) (cs := cs) ?_ i k v hi (by simpa using hv)
    intro j f hj
    have hj' := Array.getElem?_eq_some_iff.1 (show _ = some f from by simpa using hj)
    have h1 := hfl j f (by simpa using hj)
    rw [List.getElem?_eq_getElem (show j < ys.length by rw [hyl]; exact hj'.1)] at h1
    exact ⟨_, h1⟩
theorem FlatFs.cells {fs : List Field} {o : Nat} {ks : List (Option IntKind)} (h : FlatFs P fs o ks) : ∀ {n : Nat} {cs : List Value}, (∀ (j : Nat) (f : Field), fs[j]? = some f → ∃ y : DataW H × List MemPlace, DataW.trod enc P w base spare held n f.type ((cs.drop f.offset).take (P.cellsOf f.type)) = some y) →
    ∀ (i : Nat) (k : Option IntKind) (v : Value), ks[i]? = some k → cs[o + i]? = some v → FieldIs k v := by
  intro n cs hall i k v hi hv
  match h with
  | .nil => simp at hi
  | .cons (f := f) (fs := fs') (ks := ks1) (ks' := ks2) ho hty hsz hrest =>
    by_cases c : i < ks1.length
    · rw [List.getElem?_append_left c] at hi
      obtain ⟨y, hy⟩ := hall 0 f rfl
      refine FlatTy.cells hty hsz hy i k v hi ?_
      rw [List.getElem?_take, if_pos (by omega), List.getElem?_drop, ho]; exact hv
    · rw [List.getElem?_append_right (by omega)] at hi
      refine FlatFs.cells hrest (n := n) (cs := cs) (fun j f' hj => hall (j + 1) f' (by simpa using hj)) (i - ks1.length) k v hi ?_
      rw [show o + ks1.length + (i - ks1.length) = o + i by omega]; exact hv
end
theorem flat_of_ty {r : Reach} {b0 : Nat} {t : TypeId} {fs : Array Field} {ks : List (Option IntKind)} {v : Value} {d : DataW H} {p : List MemPlace}
    (hs : P.underlying t = some (.struct fs)) (hty : FlatTy P t ks) (hC : P.cellsOf t = ks.length) (hv : Value.okWide P w r b0 t v) (h : DataW.Trod enc P w base spare held t v d p) : Flat ks v := by
  obtain ⟨cs, rfl, hsz⟩ := okWide_struct hs hv
  obtain ⟨fuel, hf⟩ := h
  refine ⟨cs, rfl, by rw [hsz, hC], fun i k x hi hx => ?_⟩
  exact hty.cells hC hf i k x hi (by simp only [Value.cells]; simpa using hx)
theorem flat_of_arr {r : Reach} {b0 : Nat} {t e : TypeId} {n : Nat} {ks : List (Option IntKind)} {v : Value} {d : DataW H} {p : List MemPlace}
    (hs : P.underlying t = some (.array n e)) (hty : FlatTy P t ks) (hC : P.cellsOf t = ks.length) (hv : Value.okWide P w r b0 t v) (h : DataW.Trod enc P w base spare held t v d p) : Flat ks v := by
  obtain ⟨cs, rfl, hsz⟩ : ∃ cs, v = .agg cs ∧ cs.size = P.cellsOf t := by
    simp only [Value.okWide, hs] at hv
    obtain ⟨cs, h1, h2, _⟩ := hv
    exact ⟨cs, h1, h2⟩
  obtain ⟨fuel, hf⟩ := h
  refine ⟨cs, rfl, by rw [hsz, hC], fun i k x hi hx => ?_⟩
  exact hty.cells hC hf i k x hi (by simp only [Value.cells]; simpa using hx)
end
end Go.Proofs.YthkdgihjgllpeaaDoor
