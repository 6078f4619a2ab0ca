/- A struct by value that came in, with a slice among its fields: what was read of that slice takes no more than an address space. -/
import Derived.Test.YtealjgfijlencaaDoorFkIn
import Derived.SizedLaws
namespace Go.Proofs.YtealjgfijlencaaDoor
open Go.ChangeShapes Go.WideShapes Go.RowKit Go.Deep
set_option linter.unusedVariables false
/-- the slice in field i takes no more bytes, c for each element -/
def RowBytes (c i : Nat) (v : Value) : Prop := ∀ (cs : Array Value) (p : Option Addr) (n cap : Nat), v = .agg cs → cs[i]? = some (.slice p n cap) → n * c ≤ 140737488351232
section
variable {H : Type} {enc : TypeId × Value → H} {P : Program} {w : World} {base : Nat} {spare : Nat → Bool} {held : Bool}
theorem rowbytes_of {t : TypeId} {r : Reach} {b0 : Nat} {fs : Array Field} {v : Value} {d : DataW H} {p : List MemPlace} {ts : List TypeId} {ds : List (DataW H)} {j i c : Nat} {f : Field} {e : TypeId}
    (h : (DataW.weightsEach P ts ds).all (· ≤ reachBytes) = true) (hts : ts[j]? = some t) (hds : ds[j]? = some d)
    (hs : P.underlying t = some (.struct fs)) (hone : oneCellFields P fs = true) (hC : P.cellsOf t = fs.size) (hf : fs[i]? = some f) (he : P.underlying f.type = some (.slice e)) (hb : P.bytesOf e = c)
    (hv : Value.okWide P w r b0 t v) (hx : DataW.Trod enc P w base spare held t v d p) : RowBytes c i v := by
  intro cs q n cap hvc hci
  subst hvc
  obtain ⟨fuel, hfu⟩ := hx
  obtain ⟨ys, k, _, hd, hlen, hyl, hfl⟩ := DataW.trod_struct hs hfu
  have hil : i < fs.size := (Array.getElem?_eq_some_iff.1 hf).1
  obtain ⟨ho, hc1⟩ := hone_of hone i _ hf
  have h1 := hfl i _ hf
  have hcil : i < cs.size := (Array.getElem?_eq_some_iff.1 hci).1
  have hdt : (cs.toList.drop i).take 1 = [.slice q n cap] := by
    rw [List.drop_eq_getElem_cons (by simpa using hcil)]
    have : cs.toList[i]'(by simpa using hcil) = .slice q n cap := by
      have := (Array.getElem?_eq_some_iff.1 hci).2
      simpa using this
    rw [this]; rfl
  rw [ho, hc1] at h1
  simp only [Value.cells] at h1
  rw [hdt, List.getElem?_eq_getElem (show i < ys.length by omega)] at h1
  have hdd : d = .agg (ys.map (·.1)) := (Prod.mk.inj hd).1
  have key : ∀ m ∈ (ys[i]'(by omega)).1.weights P f.type, m ≤ reachBytes := by
    intro m hm
    have h2 : m ∈ DataW.weightsEach P ts ds := DataW.weights_mem_each hts hds m (by
      rw [hdd]
      simp only [DataW.weights, hs]
      exact DataW.weights_mem_each (j := i) (t := f.type) (d := (ys[i]'(by omega)).1) (by simp [hf]) (by simp [List.getElem?_map, List.getElem?_eq_getElem (show i < ys.length by omega)]) m hm)
    simpa using List.all_eq_true.1 h m h2
  rcases open_slice he h1 with ⟨hcs, _⟩ | ⟨x, l, c', m, nn, D, Pl, hcs, _, hl, hm, hmm, hxx, hi⟩
  · have := List.head_eq_of_cons_eq hcs
    cases this
    omega
  · have := List.head_eq_of_cons_eq hcs
    cases this
    rw [hxx] at key
    simp only [DataW.weights, he] at key
    have h3 := key _ List.mem_cons_self
    rw [hb, List.length_map, List.length_range] at h3
    have h2 := Nat.le_trans (Nat.mul_le_mul_right c (Nat.le_add_right n _)) h3
    simpa [reachBytes] using h2
end
end Go.Proofs.YtealjgfijlencaaDoor
