/- A struct by value that came in, one of whose fields is a slice of structs (of numbers, bools, texts, slices of bytes): opened cell by cell. -/
import Derived.Test.YtealjgfijlencaaDoorByIn
namespace Go.Proofs.YtealjgfijlencaaDoor
open Go.ChangeShapes Go.WideShapes Go.RowKit Go.Deep
set_option linter.unusedVariables false
/-- what a field is -/
inductive Fv where
  | one (k : Fk)
  | rows (ks : List Fk)
def FvIs (w : World) : Fv → Value → Prop
  | .one k, v => FkIs w k v
  | .rows ks, v => ∃ a len cap, v = .slice a len cap ∧ len ≤ cap ∧ cap ≤ maxLen ∧ FkRows ks w a len
def FvTy (P : Program) (t : TypeId) : Fv → Prop
  | .one k => FkTy P t k
  | .rows ks => ∃ e fs, P.underlying t = some (.slice e) ∧ P.underlying e = some (.struct fs) ∧ oneCellFields P fs = true ∧ P.cellsOf e = ks.length ∧ fs.size = ks.length ∧ ∀ (i : Nat) (f : Field) (c : Fk), fs[i]? = some f → ks[i]? = some c → FkTy P f.type c
section
variable {H : Type} {enc : TypeId × Value → H} {P : Program} {w : World} {base : Nat} {spare : Nat → Bool} {held : Bool}
theorem fvis_of {t : TypeId} {k : Fv} {fuel : Nat} {u : Value} {x : DataW H × List MemPlace} (hT : FvTy P t k) (h1 : DataW.trod enc P w base spare held fuel t [u] = some x) : FvIs w k u := by
  cases k with
  | one k =>
    cases k with
    | num k =>
      obtain ⟨v, e1, _, e3⟩ := DataW.trod_int hT h1
      exact ⟨v, List.head_eq_of_cons_eq e1, e3⟩
    | bit =>
      obtain ⟨b, e1, _⟩ := DataW.trod_bool hT h1
      exact ⟨b, List.head_eq_of_cons_eq e1⟩
    | str =>
      obtain ⟨s, e1, _, e3⟩ := DataW.trod_string hT h1
      exact ⟨s.data.toList, by rw [ba_of]; exact List.head_eq_of_cons_eq e1, by rw [← Lib.size_eq]; exact e3⟩
    | bys =>
      obtain ⟨e', h2, h3, h4⟩ := hT
      exact byin_of h2 h3 h4 h1
  | rows ks =>
    obtain ⟨e, fs, ht, he, hone, hC, hs, hk⟩ := hT
    have key : ∃ a len cap, u = .slice a len cap ∧ len ≤ cap ∧ cap ≤ maxLen := by
      rcases open_slice ht h1 with ⟨hcs, _⟩ | ⟨x, l, c', m, n, D, Pl, hcs, _, hl, hm, hmm, _, hi⟩
      · exact ⟨none, 0, 0, List.head_eq_of_cons_eq hcs, Nat.le_refl _, Nat.zero_le _⟩
      · exact ⟨some x, l, c', List.head_eq_of_cons_eq hcs, hl, hm⟩
    obtain ⟨a, len, cap, rfl, k1, k2⟩ := key
    obtain ⟨d, p⟩ := x
    exact ⟨a, len, cap, rfl, k1, k2, fkrows_of (d := d) (p := p) ht he hone hC hs hk ⟨fuel, by simpa [Value.cells] using h1⟩⟩
/-- one struct of such fields, by value -/
def FvVal (ks : List Fv) (w : World) (v : Value) : Prop :=
  ∃ cs : Array Value, v = .agg cs ∧ cs.size = ks.length ∧ ∀ (i : Nat) (k : Fv) (x : Value), ks[i]? = some k → cs[i]? = some x → FvIs w k x
theorem fvval_of {ks : List Fv} {t : TypeId} {r : Reach} {b0 : Nat} {fs : Array Field} {v : Value} {d : DataW H} {p : List MemPlace}
    (hs : P.underlying t = some (.struct fs)) (hone : oneCellFields P fs = true) (hC : P.cellsOf t = ks.length) (hn : fs.size = ks.length) (hk : ∀ (i : Nat) (f : Field) (c : Fv), fs[i]? = some f → ks[i]? = some c → FvTy P f.type c)
    (hv : Value.okWide P w r b0 t v) (h : DataW.Trod enc P w base spare held t v d p) : FvVal ks w v := by
  obtain ⟨cs, rfl, hsz⟩ := okWide_struct hs hv
  refine ⟨cs, rfl, by rw [hsz, hC], ?_⟩
  intro i k x hi hx
  obtain ⟨fuel, hf⟩ := h
  obtain ⟨ys, n, _, _, hlen, hyl, hfl⟩ := DataW.trod_struct hs hf
  have hil : i < ks.length := (List.getElem?_eq_some_iff.1 hi).1
  have hfe : fs[i]? = some fs[i] := Array.getElem?_eq_getElem (by omega)
  obtain ⟨ho, hc1⟩ := hone_of hone i _ hfe
  have h1 := hfl i _ hfe
  have hcl : cs.toList.length = ks.length := by simp; omega
  have hdt : (cs.toList.drop i).take 1 = [x] := by
    rw [List.drop_eq_getElem_cons (by omega)]
    have : cs.toList[i] = x := by
      have := (Array.getElem?_eq_some_iff.1 hx).2
      simpa using this
    rw [this]; rfl
  rw [ho, hc1] at h1
  simp only [Value.cells] at h1
  rw [hdt, List.getElem?_eq_getElem (show i < ys.length by omega)] at h1
  exact fvis_of (hk i _ k hfe hi) h1
theorem fvval2 {k0 k1 : Fv} {v : Value} (h : FvVal [k0, k1] w v) : ∃ x0 x1, v = .agg #[x0, x1] ∧ FvIs w k0 x0 ∧ FvIs w k1 x1 := by
  obtain ⟨cs, rfl, hz, hf⟩ := h
  obtain ⟨x0, x1, rfl⟩ := Go.Joins.array2 (hz.trans rfl)
  exact ⟨x0, x1, rfl, hf 0 _ _ rfl rfl, hf 1 _ _ rfl rfl⟩
end
end Go.Proofs.YtealjgfijlencaaDoor
