/- A struct of numbers and bools that came in by value, opened: what the row's reading gives. -/
import Derived.Test.YthkdgihjgllpeaaDoorBase
import Derived.Deep.Slices
import Derived.Deep.Fields
import Derived.ChangeSame
import Derived.Lib.SmallJoins
import Derived.Carry
namespace Go.Proofs.YthkdgihjgllpeaaDoor
open Go.ChangeShapes Go.WideShapes Go.RowKit Go.Deep Go.Joins
set_option linter.unusedVariables false
/-- one field: a number of a kind, or a bool -/
def FieldIs : Option IntKind → Value → Prop
  | some k, v => ∃ n, v = .int k n ∧ (Lit.int k n).wf = true
  | none, v => ∃ b, v = .bool b
/-- a struct of such fields -/
def Flat (ks : List (Option IntKind)) (v : Value) : Prop :=
  ∃ cs : Array Value, v = .agg cs ∧ cs.size = ks.length ∧ ∀ (i : Nat) (k : Option IntKind) (x : Value), ks[i]? = some k → cs[i]? = some x → FieldIs k x
theorem flat_of {H : Type} {enc : TypeId × Value → H} {P : Program} {w : World} {base : Nat} {spare : Nat → Bool} {held : Bool} {r : Reach} {b0 : Nat} {t : TypeId} {fs : Array Field} {ks : List (Option IntKind)} {v : Value} {d : DataW H} {p : List MemPlace}
    (hs : P.underlying t = some (.struct fs)) (hone : oneCellFields P fs = true) (hC : P.cellsOf t = ks.length) (hn : fs.size = ks.length)
    (hk : ∀ (i : Nat) (k : Option IntKind) (f : Field), ks[i]? = some k → fs[i]? = some f → P.underlying f.type = some (match k with | some k => .int k | none => .bool))
    (hv : Value.okWide P w r b0 t v) (h : DataW.Trod enc P w base spare held t v d p) : Flat ks v := by
  obtain ⟨cs, rfl, hsz⟩ := okWide_struct hs hv
  refine ⟨cs, rfl, by rw [hsz, hC], ?_⟩
  intro i k x hi hx
  obtain ⟨fuel, hf⟩ := h
  obtain ⟨ys, n, _, _, hlen, hyl, hfl⟩ := DataW.trod_struct hs hf
  have hil : i < ks.length := (List.getElem?_eq_some_iff.1 hi).1
  have hfe : fs[i]? = some fs[i] := Array.getElem?_eq_getElem (by omega)
  obtain ⟨ho, hc1⟩ := hone_of hone i _ hfe
  have h1 := hfl i _ hfe
  have hcl : cs.toList.length = ks.length := by simp; omega
  have hdt : (cs.toList.drop i).take 1 = [x] := by
    rw [List.drop_eq_getElem_cons (by omega)]
    have : cs.toList[i] = x := by
      have := (Array.getElem?_eq_some_iff.1 hx).2
      simpa using this
    rw [this]; rfl
  rw [ho, hc1] at h1
  simp only [Value.cells] at h1
  rw [hdt, List.getElem?_eq_getElem (show i < ys.length by omega)] at h1
  have hu := hk i k _ hi hfe
  cases k with
  | some k =>
    obtain ⟨m, e1, _, e3⟩ := DataW.trod_int hu h1
    exact ⟨m, List.head_eq_of_cons_eq e1, e3⟩
  | none =>
    obtain ⟨b, e1, _⟩ := DataW.trod_bool hu h1
    exact ⟨b, List.head_eq_of_cons_eq e1⟩
theorem flat2 {k0 k1 : Option IntKind} {v : Value} (h : Flat [k0, k1] v) : ∃ x0 x1, v = .agg #[x0, x1] ∧ FieldIs k0 x0 ∧ FieldIs k1 x1 := by
  obtain ⟨cs, rfl, hz, hf⟩ := h
  obtain ⟨x0, x1, rfl⟩ := array2 (hz.trans rfl)
  exact ⟨x0, x1, rfl, hf 0 _ _ rfl rfl, hf 1 _ _ rfl rfl⟩
theorem flat3 {k0 k1 k2 : Option IntKind} {v : Value} (h : Flat [k0, k1, k2] v) : ∃ x0 x1 x2, v = .agg #[x0, x1, x2] ∧ FieldIs k0 x0 ∧ FieldIs k1 x1 ∧ FieldIs k2 x2 := by
  obtain ⟨cs, rfl, hz, hf⟩ := h
  obtain ⟨x0, x1, x2, rfl⟩ := array3 (hz.trans rfl)
  exact ⟨x0, x1, x2, rfl, hf 0 _ _ rfl rfl, hf 1 _ _ rfl rfl, hf 2 _ _ rfl rfl⟩
theorem flat4 {k0 k1 k2 k3 : Option IntKind} {v : Value} (h : Flat [k0, k1, k2, k3] v) : ∃ x0 x1 x2 x3, v = .agg #[x0, x1, x2, x3] ∧ FieldIs k0 x0 ∧ FieldIs k1 x1 ∧ FieldIs k2 x2 ∧ FieldIs k3 x3 := by
  obtain ⟨cs, rfl, hz, hf⟩ := h
  obtain ⟨x0, x1, x2, x3, rfl⟩ := array4 (hz.trans rfl)
  exact ⟨x0, x1, x2, x3, rfl, hf 0 _ _ rfl rfl, hf 1 _ _ rfl rfl, hf 2 _ _ rfl rfl, hf 3 _ _ rfl rfl⟩
end Go.Proofs.YthkdgihjgllpeaaDoor
