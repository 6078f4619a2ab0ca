/- What the statements on regions are told: a list that came in; given to the program as its own; and held against another one. Contracts, for any list, in any world; behind each there are only new blocks. -/
import Derived.Test.YtgedimlhldfkaaaGreatDoorReL
import Derived.Test.YtgedimlhldfkaaaGreatDoorMixRows
import Derived.RegionTactic
import Derived.SizedLaws
namespace Go.Proofs.YtgedimlhldfkaaaGreatDoor
open Go.ChangeShapes Go.WideShapes Go.RowKit Go.Deep
set_option linter.unusedVariables false
set_option maxRecDepth 100000
/-- so many elements take so many bytes: what was read takes no more than an address space -/
theorem slice_bytes {H : Type} {enc : TypeId × Value → H} {P : Program} {w : World} {base : Nat} {spare : Nat → Bool} {held : Bool} {t e : TypeId} {a : Option Addr} {len cap c : Nat} {d : DataW H} {p : List MemPlace} {ts : List TypeId} {ds : List (DataW H)} {j : Nat}
    (h : (DataW.weightsEach P ts ds).all (· ≤ reachBytes) = true) (hts : ts[j]? = some t) (hds : ds[j]? = some d) (ht : P.underlying t = some (.slice e)) (hb : P.bytesOf e = c) (hx : DataW.Trod enc P w base spare held t (.slice a len cap) d p) : len * c ≤ 140737488351232 := by
  obtain ⟨fuel, hf⟩ := hx
  rcases open_slice ht hf with ⟨hcs, _⟩ | ⟨x, l, c', m, n, D, Pl, hcs, _, hl, hm, hmm, hxx, hi⟩
  · simp [Value.cells] at hcs
    obtain ⟨rfl, rfl, rfl⟩ := hcs
    omega
  · simp [Value.cells] at hcs
    obtain ⟨rfl, rfl, rfl⟩ := hcs
    have hd : d = _ := (Prod.mk.inj hxx).1
    rw [hd] at hds
    have := sized_slice h hts hds ht
    rw [hb, List.length_map, List.length_range] at this
    have h2 := Nat.le_trans (Nat.mul_le_mul_right c (Nat.le_add_right len _)) this
    simpa [reachBytes] using h2
/-- regions that can be read, of an argument -/
def RgsA (w : World) (v : Value) (l : List Rg) : Prop := ∃ p cap, v = .slice p l.length cap ∧ l.length ≤ maxLen ∧ ∀ i (hi : i < l.length), ∃ x, p = some x ∧ RgAt w (x.add (i * 3)) l[i]
theorem Rgs.arg {w : World} {v : Value} {l : List Rg} (h : Rgs w v l) : RgsA w v l := by
  obtain ⟨p, cap, h1, h2, h3, h4⟩ := h
  exact ⟨p, cap, h1, by omega, h4⟩
theorem RgsA.new {w w' : World} {v : Value} {l : List Rg} (h : RgsA w v l) (k : New w w') : RgsA w' v l := by
  obtain ⟨p, cap, h1, h2, h4⟩ := h
  exact ⟨p, cap, h1, h2, fun i hi => by obtain ⟨x, hx, hr⟩ := h4 i hi; exact ⟨x, hx, hr.new k⟩⟩
theorem RgsA.shape {w : World} {v : Value} {l : List Rg} (h : RgsA w v l) : ∃ p cap, v = .slice p l.length cap := by obtain ⟨p, cap, h1, _⟩ := h; exact ⟨p, cap, h1⟩
theorem RgsA.len {w : World} {v : Value} {l : List Rg} (h : RgsA w v l) : l.length ≤ 9223372036854775807 := by obtain ⟨p, cap, h1, h2, _⟩ := h; unfold maxLen at h2; omega
theorem RgsA.at_ {w : World} {l : List Rg} {p : Option Addr} {n cap : Nat} (h : RgsA w (.slice p n cap) l) (i : Nat) (hi : i < l.length) : ∃ x, p = some x ∧ RgAt w (x.add (i * 3)) l[i] := by
  obtain ⟨p', cap', h1, h2, h4⟩ := h
  cases h1
  exact h4 i hi
/-- numbers as the statement's reading gives them -/
def RgFit (r : Rg) : Prop := (-9223372036854775808 ≤ r.f ∧ r.f ≤ 9223372036854775807) ∧ (-9223372036854775808 ≤ r.t ∧ r.t ≤ 9223372036854775807) ∧ r.p ≤ 255
theorem regs_of_mix {w : World} {a : Option Addr} {n cap : Nat} (h : MixRows [some .i64, some .i64, some .u8] w a n) : ∃ L : List Rg, L.length = n ∧ (∀ r ∈ L, RgFit r) ∧ RgsA w (.slice a n cap) L := by
  obtain ⟨hn, hc⟩ := h
  have key : ∀ j, j < n → ∃ r : Rg, RgFit r ∧ ∃ x, a = some x ∧ RgAt w (x.add (j * 3)) r := by
    intro j hj
    obtain ⟨x, hx, hf⟩ := hc j hj
    obtain ⟨v0, c0, n0, rfl, f0⟩ := hf 0 _ rfl
    obtain ⟨v1, c1, n1, rfl, f1⟩ := hf 1 _ rfl
    obtain ⟨v2, c2, n2, rfl, f2⟩ := hf 2 _ rfl
    have b2 := u8_bd f2
    obtain ⟨p, rfl⟩ := Int.eq_ofNat_of_zero_le b2.1
    refine ⟨⟨n0, n1, p⟩, ⟨i64_bd f0, i64_bd f1, by simp only; omega⟩, x, hx, c0, ?_, ?_⟩
    · rw [← c1, ← Go.Deep.add_add]; rfl
    · rw [← c2, ← Go.Deep.add_add]; rfl
  have pick : ∀ m, m ≤ n → ∃ L : List Rg, L.length = m ∧ (∀ r ∈ L, RgFit r) ∧ ∀ i (hi : i < L.length), ∃ x, a = some x ∧ RgAt w (x.add (i * 3)) L[i] := by
    intro m
    induction m with
    | zero => exact fun _ => ⟨[], rfl, (fun r h => absurd h List.not_mem_nil), fun i hi => absurd hi (Nat.not_lt_zero _)⟩
    | succ m ih =>
      intro hm
      obtain ⟨L, h1, h2, h3⟩ := ih (by omega)
      obtain ⟨r, hr, x, hx, hrx⟩ := key m (by omega)
      refine ⟨L ++ [r], by simp [h1], fun s hs => ?_, fun i hi => ?_⟩
      · rcases List.mem_append.1 hs with hs | hs
        · exact h2 s hs
        · rw [List.mem_singleton.1 hs]; exact hr
      · by_cases c : i < L.length
        · rw [List.getElem_append_left c]; exact h3 i c
        · obtain rfl : i = L.length := by simp at hi; omega
          rw [List.getElem_append_right (Nat.le_refl _)]
          simp only [Nat.sub_self, List.getElem_cons_zero]
          exact ⟨x, hx, by rw [h1]; exact hrx⟩
  obtain ⟨L, h1, h2, h3⟩ := pick n (Nat.le_refl _)
  subst h1
  exact ⟨L, rfl, h2, a, cap, rfl, hn, h3⟩
end Go.Proofs.YtgedimlhldfkaaaGreatDoor
