/- Types of numbers, bools, texts and slices of bytes, structs within structs and arrays too, opened cell by cell: a slice of such structs that came in, one by value. -/
import Derived.Test.YtpapicnkhjcjoaaDoorByIn
import Derived.Test.YtpapicnkhjcjoaaDoorFlatTy
namespace Go.Proofs.YtpapicnkhjcjoaaDoor
open Go.ChangeShapes Go.WideShapes Go.RowKit Go.Deep
set_option linter.unusedVariables false
mutual
/-- a type of such cells -/
inductive FkTree (P : Program) : TypeId → List Fk → Prop
  | leaf {t : TypeId} {k : Fk} : FkTy P t k → FkTree P t [k]
  | array {t e : TypeId} {n : Nat} {ks : List Fk} : P.underlying t = some (.array n e) → FkTree P e ks → P.cellsOf e = ks.length → FkTree P t (List.replicate n ks).flatten
  | struct {t : TypeId} {fs : Array Field} {ks : List Fk} : P.underlying t = some (.struct fs) → FkFs P fs.toList 0 ks → FkTree P t ks
inductive FkFs (P : Program) : List Field → Nat → List Fk → Prop
  | nil {o : Nat} : FkFs P [] o []
  | cons {f : Field} {fs : List Field} {o : Nat} {ks ks' : List Fk} : f.offset = o → FkTree P f.type ks → P.cellsOf f.type = ks.length → FkFs P fs (o + ks.length) ks' → FkFs P (f :: fs) o (ks ++ ks')
end
section
variable {H : Type} {enc : TypeId × Value → H} {P : Program} {w : World} {base : Nat} {spare : Nat → Bool} {held : Bool}
theorem fk_leaf {t : TypeId} {k : Fk} (hT : FkTy P t k) {fuel : Nat} {v : Value} {x : DataW H × List MemPlace} (h1 : DataW.trod enc P w base spare held fuel t [v] = some x) : FkIs w k v := by
  cases k with
  | num k =>
    obtain ⟨v', e1, _, e3⟩ := DataW.trod_int hT h1
    exact ⟨v', List.head_eq_of_cons_eq e1, e3⟩
  | bit =>
    obtain ⟨b, e1, _⟩ := DataW.trod_bool hT h1
    exact ⟨b, List.head_eq_of_cons_eq e1⟩
  | str =>
    obtain ⟨s, e1, _, e3⟩ := DataW.trod_string hT h1
    exact ⟨s.data.toList, by rw [ba_of]; exact List.head_eq_of_cons_eq e1, by rw [← Lib.size_eq]; exact e3⟩
  | bys =>
    obtain ⟨e', h2, h3, h4⟩ := hT
    exact byin_of h2 h3 h4 h1
mutual
theorem FkTree.cells {t : TypeId} {ks : List Fk} (h : FkTree P t ks) : ∀ {fuel : Nat} {cs : List Value} {x : DataW H × List MemPlace}, P.cellsOf t = ks.length → cs.length = ks.length → DataW.trod enc P w base spare held fuel t cs = some x →
    ∀ (i : Nat) (k : Fk) (v : Value), ks[i]? = some k → cs[i]? = some v → FkIs w k v := by
  intro fuel cs x hc hlc ht i k v hi hv
  match h with
  | .leaf hT =>
    obtain ⟨c, rfl⟩ := List.length_eq_one_iff.1 hlc
    match i, hi, hv with
    | 0, hi, hv => simp at hi hv; subst hi hv; exact fk_leaf hT ht
    | i + 1, hi, hv => simp at hi
  | .array (n := n) (ks := ks1) hu he hce =>
    obtain ⟨xs, m, _, _, hcl, hxl, hel⟩ := DataW.trod_array hu ht
    have hi2 := flatten_get ks1 n i k hi
    obtain ⟨q, r, hq, hr, e1, e2⟩ := hi2
    have h1 := hel q hq
    rw [List.getElem?_eq_getElem (show q < xs.length by omega)] at h1
    have hfl : (List.replicate n ks1).flatten.length = n * ks1.length := by simp [List.length_flatten]
    have hqn : q * ks1.length + ks1.length ≤ n * ks1.length := by rw [← Nat.succ_mul]; exact Nat.mul_le_mul_right _ hq
    refine FkTree.cells he hce ?_ h1 r k v e2 ?_
    · rw [List.length_take, List.length_drop, hlc, hfl, hce]; omega
    · rw [hce, List.getElem?_take, if_pos hr, List.getElem?_drop, ← e1]; exact hv
  | .struct hu hf =>
    obtain ⟨ys, n, _, _, hlen, hyl, hfl⟩ := DataW.trod_struct hu ht
    refine FkFs.cells hf (n := n) (cs := cs) (by omega) ?_ i k v hi (by simpa using hv)
    intro j f hj
    have hj' := Array.getElem?_eq_some_iff.1 (show _ = some f from by simpa using hj)
    have h1 := hfl j f (by simpa using hj)
    rw [List.getElem?_eq_getElem (show j < ys.length by rw [hyl]; exact hj'.1)] at h1
    exact ⟨_, h1⟩
theorem FkFs.cells {fs : List Field} {o : Nat} {ks : List Fk} (h : FkFs P fs o ks) : ∀ {n : Nat} {cs : List Value}, cs.length = o + ks.length → (∀ (j : Nat) (f : Field), fs[j]? = some f → ∃ y : DataW H × List MemPlace, DataW.trod enc P w base spare held n f.type ((cs.drop f.offset).take (P.cellsOf f.type)) = some y) →
    ∀ (i : Nat) (k : Fk) (v : Value), ks[i]? = some k → cs[o + i]? = some v → FkIs w k v := by
  intro n cs hlc hall i k v hi hv
  match h with
  | .nil => simp at hi
  | .cons (f := f) (fs := fs') (ks := ks1) (ks' := ks2) ho hty hsz hrest =>
    rw [List.length_append] at hlc
    by_cases c : i < ks1.length
    · rw [List.getElem?_append_left c] at hi
      obtain ⟨y, hy⟩ := hall 0 f rfl
      refine FkTree.cells hty hsz (by rw [List.length_take, List.length_drop, hsz, ho]; omega) hy i k v hi ?_
      rw [List.getElem?_take, if_pos (by omega), List.getElem?_drop, ho]; exact hv
    · rw [List.getElem?_append_right (by omega)] at hi
      refine FkFs.cells hrest (n := n) (cs := cs) (by omega) (fun j f' hj => hall (j + 1) f' (by simpa using hj)) (i - ks1.length) k v hi ?_
      rw [show o + ks1.length + (i - ks1.length) = o + i by omega]; exact hv
end
/-- a slice of such structs that came in -/
theorem fkrows_tree {ks : List Fk} {t e : TypeId} {a : Option Addr} {len cap : Nat} {d : DataW H} {p : List MemPlace}
    (ht : P.underlying t = some (.slice e)) (he : FkTree P e ks) (hC : P.cellsOf e = ks.length) (h : DataW.Trod enc P w base spare held t (.slice a len cap) d p) : FkRows ks w a len := by
  obtain ⟨fuel, hf⟩ := h
  rcases open_slice ht hf with ⟨hcs, _⟩ | ⟨x, l, c', m, n, D, Pl, hcs, _, hl, hm, hmm, _, hi⟩
  · simp [Value.cells] at hcs
    obtain ⟨rfl, rfl, rfl⟩ := hcs
    exact ⟨Nat.zero_le _, fun j hj => by omega⟩
  · simp [Value.cells] at hcs
    obtain ⟨rfl, rfl, rfl⟩ := hcs
    refine ⟨by omega, fun j hj => ⟨x, rfl, ?_⟩⟩
    have hjm : j < m := by rw [hmm]; split <;> omega
    obtain ⟨cs', hcells, htr⟩ := hi j hjm
    rw [hC] at hcells
    obtain ⟨_, hcl, hat⟩ := World.cells?_some hcells
    intro f k hk
    have hfl : f < ks.length := (List.getElem?_eq_some_iff.1 hk).1
    have hfc : f < cs'.length := by omega
    exact ⟨cs'[f], by rw [← Go.Deep.add_add, hat f hfl, List.getElem?_eq_getElem hfc], he.cells hC (by omega) htr f k _ hk (List.getElem?_eq_getElem hfc)⟩
/-- one such struct, by value -/
theorem fkval_tree {ks : List Fk} {r : Reach} {b0 : Nat} {t : TypeId} {fs : Array Field} {v : Value} {d : DataW H} {p : List MemPlace}
    (hs : P.underlying t = some (.struct fs)) (hty : FkTree P t ks) (hC : P.cellsOf t = ks.length) (hv : Value.okWide P w r b0 t v) (h : DataW.Trod enc P w base spare held t v d p) : FkVal ks w v := by
  obtain ⟨cs, rfl, hsz⟩ := okWide_struct hs hv
  obtain ⟨fuel, hf⟩ := h
  refine ⟨cs, rfl, by rw [hsz, hC], fun i k x hi hx => ?_⟩
  exact hty.cells hC (by simp only [Value.cells]; simpa using hsz.trans hC) hf i k x hi (by simp only [Value.cells]; simpa using hx)
end
end Go.Proofs.YtpapicnkhjcjoaaDoor
