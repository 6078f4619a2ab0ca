/- A slice of bytes that came in; a slice that came in, of structs whose fields are numbers, bools, texts and slices of bytes, opened cell by cell. -/
import Derived.Test.YtealjgfijlencaaDoorByts
import Derived.Test.YtealjgfijlencaaDoorBa
import Derived.ChangeSlices
import Derived.Deep.Slices
import Derived.Deep.Fields
import Derived.SliceStrings
import Derived.ChangeSame
import Derived.Lib.SmallJoins
import Derived.Carry
namespace Go.Proofs.YtealjgfijlencaaDoor
open Go.ChangeShapes Go.WideShapes Go.RowKit Go.Deep
set_option linter.unusedVariables false
/-- a slice of bytes that came in -/
def ByIn (w : World) (v : Value) (l : List Int) : Prop :=
  ∃ p cap, v = .slice p l.length cap ∧ l.length ≤ cap ∧ cap ≤ maxLen ∧ Oct l ∧ ∀ i, i < l.length → ∃ a, p = some a ∧ w.cell? (a.add i) = some (.int .u8 (l.getD i 0))
theorem ByIn.byts {w : World} {v : Value} {l : List Int} (h : ByIn w v l) : Byts w v l := by
  obtain ⟨p, cap, h1, h2, h3, h4, h5⟩ := h
  exact ⟨p, cap, h1, ⟨h2, h3⟩, h5⟩
theorem ByIn.oct {w : World} {v : Value} {l : List Int} (h : ByIn w v l) : Oct l := by obtain ⟨p, cap, h1, h2, h3, h4, h5⟩ := h; exact h4
theorem ByIn.new {w w' : World} {v : Value} {l : List Int} (h : ByIn w v l) (k : New w w') : ByIn w' v l := by
  obtain ⟨p, cap, h1, h2, h3, h4, h5⟩ := h
  refine ⟨p, cap, h1, h2, h3, h4, fun i hi => ?_⟩
  obtain ⟨a, ha, hc⟩ := h5 i hi
  exact ⟨a, ha, by rw [k.cell (World.block_lt_of_cell? w _ hc)]; exact hc⟩
/-- a field's address as the walk has it -/
theorem fk_field (x : Addr) (k f : Nat) (hf : f ≠ 0) : x.add (k + f) = ⟨(x.add k).block, (x.add k).off + f, none⟩ := by
  rw [← Go.Deep.add_add]
  generalize x.add k = y
  simp [Addr.add, hf]
/-- what a field is -/
inductive Fk where
  | num (k : IntKind)
  | bit
  | str
  | bys
def FkIs (w : World) : Fk → Value → Prop
  | .num k, v => ∃ n, v = .int k n ∧ (Lit.int k n).wf = true
  | .bit, v => ∃ b, v = .bool b
  | .str, v => ∃ l : List UInt8, v = .string (ba l) ∧ l.length ≤ maxLen
  | .bys, v => ∃ l, ByIn w v l
def FkTy (P : Program) (t : TypeId) : Fk → Prop
  | .num k => P.underlying t = some (.int k)
  | .bit => P.underlying t = some .bool
  | .str => P.underlying t = some .string
  | .bys => ∃ e, P.underlying t = some (.slice e) ∧ P.underlying e = some (.int .u8) ∧ P.cellsOf e = 1
/-- n structs of such fields, one behind the other -/
def FkRows (ks : List Fk) (w : World) (a : Option Addr) (n : Nat) : Prop :=
  n ≤ maxLen ∧ ∀ j, j < n → ∃ x, a = some x ∧ ∀ f c, ks[f]? = some c → ∃ u, w.cell? (x.add (j * ks.length + f)) = some u ∧ FkIs w c u
section
variable {H : Type} {enc : TypeId × Value → H} {P : Program} {w : World} {base : Nat} {spare : Nat → Bool} {held : Bool}
theorem byin_of {t e : TypeId} {fuel : Nat} {u : Value} {x : DataW H × List MemPlace} (ht : P.underlying t = some (.slice e)) (he : P.underlying e = some (.int .u8)) (hc : P.cellsOf e = 1)
    (h : DataW.trod enc P w base spare held fuel t [u] = some x) : ∃ l, ByIn w u l := by
  rcases open_ints ht he hc h with ⟨hcs, _⟩ | ⟨a, len, cap, zs, hcs, _, hl, hm, hz, _, hcell, hwz⟩
  · cases hcs
    exact ⟨[], none, 0, rfl, Nat.le_refl _, Nat.zero_le _, Oct.nil, fun i hi => absurd hi (Nat.not_lt_zero _)⟩
  · cases hcs
    have hzl : len ≤ zs.length := by rw [hz]; split <;> omega
    have hlen : (zs.take len).length = len := by rw [List.length_take]; omega
    refine ⟨zs.take len, some a, cap, by rw [hlen], by omega, hm, fun n hn => u8_bd (hwz n (List.mem_of_mem_take hn)), fun i hi => ⟨a, rfl, ?_⟩⟩
    rw [hlen] at hi
    rw [hcell i (by omega), getD_eq _ _ (by omega), getD_eq _ _ (by omega), List.getElem_take]
theorem fkrows_of {ks : List Fk} {t e : TypeId} {fs : Array Field} {a : Option Addr} {len cap : Nat} {d : DataW H} {p : List MemPlace}
    (ht : P.underlying t = some (.slice e)) (he : P.underlying e = some (.struct fs)) (hone : oneCellFields P fs = true) (hC : P.cellsOf e = ks.length) (hs : fs.size = ks.length) (hk : ∀ (i : Nat) (f : Field) (c : Fk), fs[i]? = some f → ks[i]? = some c → FkTy P f.type c)
    (h : DataW.Trod enc P w base spare held t (.slice a len cap) d p) : FkRows ks w a len := by
  obtain ⟨fuel, hf⟩ := h
  rcases open_slice ht hf with ⟨hcs, _⟩ | ⟨x, l, c', m, n, D, Pl, hcs, _, hl, hm, hmm, _, hi⟩
  · simp [Value.cells] at hcs
    obtain ⟨rfl, rfl, rfl⟩ := hcs
    exact ⟨Nat.zero_le _, fun j hj => by omega⟩
  · simp [Value.cells] at hcs
    obtain ⟨rfl, rfl, rfl⟩ := hcs
    refine ⟨by omega, fun j hj => ⟨x, rfl, ?_⟩⟩
    have hjm : j < m := by rw [hmm]; split <;> omega
    obtain ⟨cs', hcells, htr⟩ := hi j hjm
    rw [hC] at hcells
    obtain ⟨ys, q, _, _, hlen, hyl, hfl⟩ := DataW.trod_struct he htr
    obtain ⟨_, hcl, hat⟩ := World.cells?_some hcells
    intro f c hkf
    have hfl1 := (List.getElem?_eq_some_iff.1 hkf).1
    have hfe : fs[f]? = some fs[f] := Array.getElem?_eq_getElem (by omega)
    obtain ⟨ho, hc1⟩ := hone_of hone f _ hfe
    have h1 := hfl f _ hfe
    rw [ho, hc1] at h1
    have hfc : f < cs'.length := by omega
    have hdt : (cs'.drop f).take 1 = [cs'[f]] := by rw [List.drop_eq_getElem_cons hfc]; rfl
    rw [hdt, List.getElem?_eq_getElem (show f < ys.length by omega)] at h1
    refine ⟨cs'[f], by rw [← Go.Deep.add_add, hat f (by omega), List.getElem?_eq_getElem hfc], ?_⟩
    have hT := hk f _ c hfe hkf
    cases c with
    | num k =>
      obtain ⟨v, e1, _, e3⟩ := DataW.trod_int hT h1
      exact ⟨v, List.head_eq_of_cons_eq e1, e3⟩
    | bit =>
      obtain ⟨b, e1, _⟩ := DataW.trod_bool hT h1
      exact ⟨b, List.head_eq_of_cons_eq e1⟩
    | str =>
      obtain ⟨s, e1, _, e3⟩ := DataW.trod_string hT h1
      exact ⟨s.data.toList, by rw [ba_of]; exact List.head_eq_of_cons_eq e1, by rw [← Lib.size_eq]; exact e3⟩
    | bys =>
      obtain ⟨e', h2, h3, h4⟩ := hT
      exact byin_of h2 h3 h4 h1
/-- one struct of such fields, by value -/
def FkVal (ks : List Fk) (w : World) (v : Value) : Prop :=
  ∃ cs : Array Value, v = .agg cs ∧ cs.size = ks.length ∧ ∀ (i : Nat) (k : Fk) (x : Value), ks[i]? = some k → cs[i]? = some x → FkIs w k x
theorem fkval_of {ks : List Fk} {t : TypeId} {r : Reach} {b0 : Nat} {fs : Array Field} {v : Value} {d : DataW H} {p : List MemPlace}
    (hs : P.underlying t = some (.struct fs)) (hone : oneCellFields P fs = true) (hC : P.cellsOf t = ks.length) (hn : fs.size = ks.length) (hk : ∀ (i : Nat) (f : Field) (c : Fk), fs[i]? = some f → ks[i]? = some c → FkTy P f.type c)
    (hv : Value.okWide P w r b0 t v) (h : DataW.Trod enc P w base spare held t v d p) : FkVal ks w v := by
  obtain ⟨cs, rfl, hsz⟩ := okWide_struct hs hv
  refine ⟨cs, rfl, by rw [hsz, hC], ?_⟩
  intro i k x hi hx
  obtain ⟨fuel, hf⟩ := h
  obtain ⟨ys, n, _, _, hlen, hyl, hfl⟩ := DataW.trod_struct hs hf
  have hil : i < ks.length := (List.getElem?_eq_some_iff.1 hi).1
  have hfe : fs[i]? = some fs[i] := Array.getElem?_eq_getElem (by omega)
  obtain ⟨ho, hc1⟩ := hone_of hone i _ hfe
  have h1 := hfl i _ hfe
  have hcl : cs.toList.length = ks.length := by simp; omega
  have hdt : (cs.toList.drop i).take 1 = [x] := by
    rw [List.drop_eq_getElem_cons (by omega)]
    have : cs.toList[i] = x := by
      have := (Array.getElem?_eq_some_iff.1 hx).2
      simpa using this
    rw [this]; rfl
  rw [ho, hc1] at h1
  simp only [Value.cells] at h1
  rw [hdt, List.getElem?_eq_getElem (show i < ys.length by omega)] at h1
  have hT := hk i _ k hfe hi
  cases k with
  | num k =>
    obtain ⟨v, e1, _, e3⟩ := DataW.trod_int hT h1
    exact ⟨v, List.head_eq_of_cons_eq e1, e3⟩
  | bit =>
    obtain ⟨b, e1, _⟩ := DataW.trod_bool hT h1
    exact ⟨b, List.head_eq_of_cons_eq e1⟩
  | str =>
    obtain ⟨s, e1, _, e3⟩ := DataW.trod_string hT h1
    exact ⟨s.data.toList, by rw [ba_of]; exact List.head_eq_of_cons_eq e1, by rw [← Lib.size_eq]; exact e3⟩
  | bys =>
    obtain ⟨e', h2, h3, h4⟩ := hT
    exact byin_of h2 h3 h4 h1
theorem fkval3 {k0 k1 k2 : Fk} {v : Value} (h : FkVal [k0, k1, k2] w v) : ∃ x0 x1 x2, v = .agg #[x0, x1, x2] ∧ FkIs w k0 x0 ∧ FkIs w k1 x1 ∧ FkIs w k2 x2 := by
  obtain ⟨cs, rfl, hz, hf⟩ := h
  obtain ⟨x0, x1, x2, rfl⟩ := Go.Joins.array3 (hz.trans rfl)
  exact ⟨x0, x1, x2, rfl, hf 0 _ _ rfl rfl, hf 1 _ _ rfl rfl, hf 2 _ _ rfl rfl⟩
end
end Go.Proofs.YtealjgfijlencaaDoor
