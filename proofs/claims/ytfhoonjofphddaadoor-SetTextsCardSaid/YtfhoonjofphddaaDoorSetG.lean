/- Small facts that the laws of the layer of sets of signals share. -/
import Derived.Test.YtfhoonjofphddaaDoorSetF
namespace Go.Proofs.YtfhoonjofphddaaDoor
open Go.RowKit
set_option linter.unusedVariables false
theorem Ints.shape {w : World} {v : Value} {x : Int} (h : Ints w v (lst x)) :
    (v = .slice none 0 0 ∧ cnt x = 0 ∧ firstS x = 0) ∨ (∃ p cap, v = .slice (some p) 0 cap ∧ cnt x = 0 ∧ firstS x = 0) ∨
    ∃ b o cap, v = .slice (some ⟨b, o, none⟩) (cnt x) cap ∧ 0 < cnt x ∧ cnt x ≤ cap ∧ w.cell? ⟨b, o, none⟩ = some (.int .i64 (firstS x)) := by
  have z : lst x = [] → cnt x = 0 ∧ firstS x = 0 := fun e => by unfold cnt firstS; rw [e]; exact ⟨rfl, rfl⟩
  rcases h with ⟨rfl, h⟩ | ⟨b, o, cap, rfl, h1, h2, h3, h4⟩
  · exact .inl ⟨rfl, z h⟩
  · by_cases c : lst x = []
    · refine .inr (.inl ⟨⟨b, o, none⟩, cap, by rw [c]; rfl, z c⟩)
    · have hp : 0 < (lst x).length := by rcases l : lst x with _ | ⟨a, t⟩; exact absurd l c; simp
      refine .inr (.inr ⟨b, o, cap, rfl, hp, h1, ?_⟩)
      rw [show (⟨b, o, none⟩ : Addr) = ⟨b, o + 0, none⟩ from rfl, h4 0 hp]
      unfold firstS
      cases e : lst x with
      | nil => exact absurd e c
      | cons a t => rfl
theorem ints_one (w : World) (n : Int) : Ints (w.alloc (.cells #[.int .i64 n] 3)) (.slice (some ⟨w.heap.size, 0, none⟩) 1 1) [n] := by
  refine .inr ⟨w.heap.size, 0, 1, rfl, Nat.le_refl _, by unfold maxLen; omega, by simp, fun i hi => ?_⟩
  have : i = 0 := by simpa using hi
  subst this
  rw [World.cell?_alloc_at _ _ _ _ rfl]; rfl
theorem parse_txt (x : Int) (w : World) (h : 0 ≤ x) (h' : x ≤ 2147483647) : Calls Tryd.prog 21 #[.string (txt x)] w fun e w' => e = .returned (.tuple #[.int .u32 x, .nilIface]) ∧ w = w' := by
  refine (parse_any (txt x) w (by have e : (txt x).size = 8 := by { show (tx x 8).toArray.size = 8; rw [List.size_toArray, tx_len] }
                                  rw [e]; unfold maxLen; omega)).mono fun e w' he => ⟨?_, he.2⟩
  have r := tx_read x h h'
  rw [he.1, show (txt x).data.toList = tx x 8 from rfl, r.2, pec_yes r.1]; rfl
theorem text_x (x : Int) (w : World) (h : 0 ≤ x) (h' : x ≤ 2147483647) : Calls Tryd.prog 23 #[.int .u32 x] w (StrN (txt x) w) := by
  have t := text_any x w h (by omega)
  rw [low_of x h h'] at t; exact t
theorem mod31 (a : Int) : ∃ n, wrap64 (1 + wrap64 ((IntKind.u64.wrap a).tmod 31)) = n ∧ 1 ≤ n ∧ n ≤ 31 := by
  refine ⟨_, rfl, ?_⟩
  rw [IntKind.wrap_u64, Int.tmod_eq_emod_of_nonneg (by omega)]
  unfold wrap64; omega
theorem asc_get (x : Int) (j : Nat) (h0 : 0 < j) (h : j < (lst x).length) : (lst x).getD (j - 1) 0 < (lst x).getD j 0 := by
  have p := List.pairwise_iff_getElem.1 (lst_asc x) (j - 1) j (by omega) h (by omega)
  rw [List.getD_eq_getElem?_getD, List.getD_eq_getElem?_getD, List.getElem?_eq_getElem h, List.getElem?_eq_getElem (by omega)]
  exact p
theorem lst_rng (x : Int) (j : Nat) (h : j < (lst x).length) : 1 ≤ (lst x).getD j 0 ∧ (lst x).getD j 0 ≤ 31 := by
  have m := getD_mem h rfl
  have := hasS_rng x _ ((lst_mem x _).1 m)
  exact this
theorem under_32 (k : Nat) (h : k < 32) : k = 0 ∨ k = 1 ∨ k = 2 ∨ k = 3 ∨ k = 4 ∨ k = 5 ∨ k = 6 ∨ k = 7 ∨ k = 8 ∨ k = 9 ∨ k = 10 ∨ k = 11 ∨ k = 12 ∨ k = 13 ∨ k = 14 ∨ k = 15 ∨ k = 16 ∨ k = 17 ∨ k = 18 ∨ k = 19 ∨ k = 20 ∨ k = 21 ∨ k = 22 ∨ k = 23 ∨ k = 24 ∨ k = 25 ∨ k = 26 ∨ k = 27 ∨ k = 28 ∨ k = 29 ∨ k = 30 ∨ k = 31 := by omega
theorem cell_lt {w : World} {p : Addr} {v : Value} (h : w.cell? p = some v) : p.block < w.heap.size := by
  rcases Nat.lt_or_ge p.block w.heap.size with k | k
  · exact k
  · simp [World.cell?, Array.getElem?_eq_none k] at h
/-- a slice of whole numbers that came in, as the list of its elements -/
def IRow (w : World) (a : Option Addr) (l : List Int) : Prop := ∀ j, j < l.length → ∃ x, a = some x ∧ w.cell? (x.add j) = some (.int .i64 (l.getD j 0)) ∧ -9223372036854775808 ≤ l.getD j 0 ∧ l.getD j 0 ≤ 9223372036854775807
theorem IRow.of {w : World} {a : Option Addr} {len cap : Nat} {zs : List Int}
    (h : (a = none ∧ len = 0 ∧ cap = 0 ∧ zs = []) ∨ ∃ x, a = some x ∧ len ≤ cap ∧ cap ≤ maxLen ∧ zs.length = cap ∧ (∀ i, i < zs.length → w.cell? (x.add i) = some (.int .i64 (zs.getD i 0))) ∧ ∀ n ∈ zs, (Lit.int .i64 n).wf = true) :
    ∃ l : List Int, l.length = len ∧ len ≤ maxLen ∧ IRow w a l := by
  rcases h with ⟨rfl, rfl, rfl, rfl⟩ | ⟨x, rfl, h1, h2, h3, h4, h5⟩
  · exact ⟨[], rfl, by unfold maxLen; omega, fun j hj => by simp at hj⟩
  · have hl : (zs.take len).length = len := by rw [List.length_take]; omega
    refine ⟨zs.take len, hl, by omega, fun j hj => ?_⟩
    rw [hl] at hj
    have e : (zs.take len).getD j 0 = zs.getD j 0 := by
      rw [List.getD_eq_getElem?_getD, List.getD_eq_getElem?_getD, List.getElem?_take_of_lt hj]
    have hz : j < zs.length := by omega
    rw [e]
    refine ⟨x, rfl, h4 j hz, ?_⟩
    have : zs.getD j 0 ∈ zs := getD_mem hz rfl
    exact i64_bd (h5 _ this)
theorem Ints.len {w : World} {v : Value} {x : Int} (h : Ints w v (lst x)) : ∃ p cap, v = .slice p (cnt x) cap := by
  rcases h.shape with ⟨rfl, k, _⟩ | ⟨p, cap, rfl, k, _⟩ | ⟨b, o, cap, rfl, _⟩
  · exact ⟨_, _, by rw [k]⟩
  · exact ⟨_, _, by rw [k]⟩
  · exact ⟨_, _, rfl⟩
/-- the 32 bools that the call lays down: what is in the set -/
def Marks (b : Nat) (s : Int) (w : World) : Prop := ∀ m : Nat, m < 32 → w.cell? ⟨b, m, none⟩ = some (.bool (hasS s m)) ∧ w.frozen? ⟨b, m, none⟩ = false
theorem Marks.new {b : Nat} {s : Int} {w w' : World} (h : Marks b s w) (k : New w w') : Marks b s w' := by
  intro m hm
  have hb := cell_lt (h m hm).1
  rw [k.cell (p := ⟨b, m, none⟩) hb, k.frozen (p := ⟨b, m, none⟩) hb]; exact h m hm
theorem Marks.set {b : Nat} {s t : Int} {w : World} (h : Marks b s w) (h0 : 0 ≤ s) (h1 : 1 ≤ t) (h2 : t ≤ 31) : Marks b (addS s t) (w.setCell ⟨b, t.toNat, none⟩ (.bool true)) := by
  intro m hm
  refine ⟨?_, (World.frozen?_setCell _ _ _ _).trans (h m hm).2⟩
  by_cases c : m = t.toNat
  · subst c
    rw [World.cell?_setCell_same _ _ _ (h _ hm).1, hasS_add s t _ h0]
    have e : ((t.toNat : Nat) : Int) = t := by omega
    rw [e]; simp [h1, h2]
  · rw [World.cell?_setCell_other _ _ _ _ (by simp), (h m hm).1, hasS_add s t _ h0]
    have e : ¬ t = (m : Int) := by omega
    simp [e]
end Go.Proofs.YtfhoonjofphddaaDoor
