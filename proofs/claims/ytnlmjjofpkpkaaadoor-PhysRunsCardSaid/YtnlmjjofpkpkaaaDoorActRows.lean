/- A slice that came in, of structs of whole numbers with a slice of bytes behind them, opened cell by cell: what the row's reading gives. -/
import Derived.Test.YtnlmjjofpkpkaaaDoorPhG
import Derived.Test.YtnlmjjofpkpkaaaDoorIntRows
import Derived.ChangeSlices
namespace Go.Proofs.YtnlmjjofpkpkaaaDoor
open Go.ChangeShapes Go.WideShapes Go.RowKit Go.Deep
set_option linter.unusedVariables false
/-- a slice of bytes that came in -/
def ByIn (w : World) (v : Value) (l : List Int) : Prop :=
  ∃ p cap, v = .slice p l.length cap ∧ l.length ≤ cap ∧ cap ≤ maxLen ∧ Oct l ∧ ∀ i, i < l.length → ∃ a, p = some a ∧ w.cell? (a.add i) = some (.int .u8 (l.getD i 0))
theorem ByIn.byts {w : World} {v : Value} {l : List Int} (h : ByIn w v l) : Byts w v l := by
  obtain ⟨p, cap, h1, h2, h3, h4, h5⟩ := h
  exact ⟨p, cap, h1, Nat.le_trans h2 h3, h5⟩
theorem ByIn.oct {w : World} {v : Value} {l : List Int} (h : ByIn w v l) : Oct l := by obtain ⟨p, cap, h1, h2, h3, h4, h5⟩ := h; exact h4
theorem ByIn.new {w w' : World} {v : Value} {l : List Int} (h : ByIn w v l) (k : New w w') : ByIn w' v l := by
  obtain ⟨p, cap, h1, h2, h3, h4, h5⟩ := h
  refine ⟨p, cap, h1, h2, h3, h4, fun i hi => ?_⟩
  obtain ⟨a, ha, hc⟩ := h5 i hi
  exact ⟨a, ha, by rw [k.cell (World.block_lt_of_cell? w _ hc)]; exact hc⟩
/-- n structs of c whole numbers and a slice of bytes, one behind the other -/
def ActRows (k : IntKind) (c : Nat) (w : World) (a : Option Addr) (n : Nat) : Prop :=
  n ≤ maxLen ∧ ∀ j, j < n → ∃ x, a = some x ∧ (∀ f, f < c → ∃ v : Int, w.cell? (x.add (j * (c + 1) + f)) = some (.int k v) ∧ (Lit.int k v).wf = true) ∧ ∃ u l, w.cell? (x.add (j * (c + 1) + c)) = some u ∧ ByIn w u l
section
variable {H : Type} {enc : TypeId × Value → H} {P : Program} {w : World} {base : Nat} {spare : Nat → Bool} {held : Bool}
theorem byin_of {t e : TypeId} {fuel : Nat} {u : Value} {x : DataW H × List MemPlace} (ht : P.underlying t = some (.slice e)) (he : P.underlying e = some (.int .u8)) (hc : P.cellsOf e = 1)
    (h : DataW.trod enc P w base spare held fuel t [u] = some x) : ∃ l, ByIn w u l := by
  rcases open_ints ht he hc h with ⟨hcs, _⟩ | ⟨a, len, cap, zs, hcs, _, hl, hm, hz, _, hcell, hwz⟩
  · cases hcs
    exact ⟨[], none, 0, rfl, Nat.le_refl _, Nat.zero_le _, Oct.nil, fun i hi => absurd hi (Nat.not_lt_zero _)⟩
  · cases hcs
    have hzl : len ≤ zs.length := by rw [hz]; split <;> omega
    have hlen : (zs.take len).length = len := by rw [List.length_take]; omega
    refine ⟨zs.take len, some a, cap, by rw [hlen], by omega, hm, fun n hn => u8_bd (hwz n (List.mem_of_mem_take hn)), fun i hi => ⟨a, rfl, ?_⟩⟩
    rw [hlen] at hi
    rw [hcell i (by omega), getD_eq _ _ (by omega), getD_eq _ _ (by omega), List.getElem_take]
theorem actrows_of {k : IntKind} {t e tB eB : TypeId} {fs : Array Field} {a : Option Addr} {len cap : Nat} {d : DataW H} {p : List MemPlace} (c : Nat)
    (ht : P.underlying t = some (.slice e)) (he : P.underlying e = some (.struct fs)) (hone : oneCellFields P fs = true) (hC : P.cellsOf e = c + 1) (hs : fs.size = c + 1) (hk : ∀ (i : Nat) (f : Field), i < c → fs[i]? = some f → P.underlying f.type = some (.int k))
    (hB : ∀ f : Field, fs[c]? = some f → f.type = tB) (htB : P.underlying tB = some (.slice eB)) (heB : P.underlying eB = some (.int .u8)) (hcB : P.cellsOf eB = 1)
    (h : DataW.Trod enc P w base spare held t (.slice a len cap) d p) : ActRows k c w a len := by
  obtain ⟨fuel, hf⟩ := h
  rcases open_slice ht hf with ⟨hcs, _⟩ | ⟨x, l, c', m, n, D, Pl, hcs, _, hl, hm, hmm, _, hi⟩
  · simp [Value.cells] at hcs
    obtain ⟨rfl, rfl, rfl⟩ := hcs
    exact ⟨Nat.zero_le _, fun j hj => by omega⟩
  · simp [Value.cells] at hcs
    obtain ⟨rfl, rfl, rfl⟩ := hcs
    refine ⟨by omega, fun j hj => ⟨x, rfl, ?_⟩⟩
    have hjm : j < m := by rw [hmm]; split <;> omega
    obtain ⟨cs', hcells, htr⟩ := hi j hjm
    rw [hC] at hcells
    obtain ⟨ys, q, _, _, hlen, hyl, hfl⟩ := DataW.trod_struct he htr
    obtain ⟨_, hcl, hat⟩ := World.cells?_some hcells
    have key : ∀ f, f < c + 1 → ∃ (fd : Field) (u : Value) (y : DataW H × List MemPlace), fs[f]? = some fd ∧ w.cell? (x.add (j * (c + 1) + f)) = some u ∧ DataW.trod enc P w base spare held q fd.type [u] = some y := by
      intro f hf
      have hfe : fs[f]? = some fs[f] := Array.getElem?_eq_getElem (by omega)
      obtain ⟨ho, hc1⟩ := hone_of hone f _ hfe
      have h1 := hfl f _ hfe
      rw [ho, hc1] at h1
      have hfc : f < cs'.length := by omega
      have hdt : (cs'.drop f).take 1 = [cs'[f]] := by rw [List.drop_eq_getElem_cons hfc]; rfl
      rw [hdt, List.getElem?_eq_getElem (show f < ys.length by omega)] at h1
      exact ⟨_, _, _, hfe, by rw [← Go.Deep.add_add, hat f hf, List.getElem?_eq_getElem hfc], h1⟩
    constructor
    · intro f hf
      obtain ⟨fd, u, y, h1, h2, h3⟩ := key f (by omega)
      obtain ⟨v, e1, _, e3⟩ := DataW.trod_int (hk f _ hf h1) h3
      have := List.head_eq_of_cons_eq e1
      exact ⟨v, by rw [h2, this], e3⟩
    · obtain ⟨fd, u, y, h1, h2, h3⟩ := key c (by omega)
      rw [hB fd h1] at h3
      obtain ⟨l, hl⟩ := byin_of htB heB hcB h3
      exact ⟨u, l, h2, hl⟩
end
end Go.Proofs.YtnlmjjofpkpkaaaDoor
