/- What the document's own answers on tables of two levels lean on: a list of pages and entries in memory, that can be read, or that the call made; what a page is, and what may be. Contracts, for any list, in any world. -/
import Derived.Test.YtajhlmiobibhjaaDoorTdMath
import Derived.Test.YtajhlmiobibhjaaDoorTbJ
import Derived.Test.YtajhlmiobibhjaaDoorFrE
import Derived.Deep.DeepCutAuto
import Derived.Deep.CutBlock
namespace Go.Proofs.YtajhlmiobibhjaaDoor
open Go.RowKit
set_option linter.unusedVariables false
set_option maxRecDepth 100000
theorem Box.four' {w : World} {b : Nat} {t : TypeId} {x y z u : Value} (h : Box w b #[x, y, z, u] t) : b < w.heap.size ∧ (w.cell? ⟨b, 0, none⟩ = some x ∧ w.cell? ⟨b, 1, none⟩ = some y ∧ w.cell? ⟨b, 2, none⟩ = some z ∧ w.cell? ⟨b, 3, none⟩ = some u) ∧ w.frozen? ⟨b, 0, none⟩ = false ∧ w.frozen? ⟨b, 1, none⟩ = false ∧ w.frozen? ⟨b, 2, none⟩ = false ∧ w.frozen? ⟨b, 3, none⟩ = false :=
  ⟨h.lt, h.four, h.unfrozen 0, h.unfrozen 1, h.unfrozen 2, h.unfrozen 3⟩
theorem item_info : (Tryd.prog.info? 69).map (fun i => (i.zero, i.size, i.bytes)) = some (some (.agg #[.int .i64 0, .int .i64 0, .int .u8 0, .bool false]), 4, 24) := by kernel_rfl
/-- a page and its entry, cell by cell -/
noncomputable def icell (x : Int × Int) : List Value := [.int .i64 x.1, .int .i64 (dcf x.2), .int .u8 (dcp x.2), .bool (dcc x.2)]
noncomputable def icells (l : List (Int × Int)) : List Value := l.flatMap icell
theorem icells_len (l : List (Int × Int)) : (icells l).length = l.length * 4 := by
  induction l with
  | nil => rfl
  | cons x l ih => unfold icells at *; rw [List.flatMap_cons, List.length_append, ih, List.length_cons]; simp [icell]; omega
theorem icells_push (l : List (Int × Int)) (x : Int × Int) : icells (l ++ [x]) = icells l ++ icell x := by simp [icells]
theorem icells_get (l : List (Int × Int)) (i f : Nat) (hi : i < l.length) (hf : f < 4) : (icells l)[i * 4 + f]? = (icell l[i])[f]? := by
  induction l generalizing i with
  | nil => simp at hi
  | cons x l ih =>
    have e : icells (x :: l) = icell x ++ icells l := by simp [icells]
    rw [e]
    match i, hi with
    | 0, _ => rw [List.getElem?_append_left (by simp [icell]; omega)]; simp
    | i + 1, hi => rw [List.getElem?_append_right (by simp [icell]; omega)]; simpa [icell, show (i + 1) * 4 + f - 4 = i * 4 + f by omega] using ih i (by simpa using hi)
/-- a list of pages and entries that the call made, or nil -/
def OwnI (base : Nat) (w : World) (v : Value) (l : List (Int × Int)) : Prop := w.ownsRow base 69 4 v l.length (icells l)
/-- one that can be read -/
def Its (w : World) (v : Value) (l : List (Int × Int)) : Prop :=
  (v = .slice none 0 0 ∧ l = []) ∨ ∃ b cap, v = .slice (some ⟨b, 0, none⟩) l.length cap ∧ l.length ≤ cap ∧ cap ≤ maxLen ∧ b < w.heap.size ∧
    ∀ i (hi : i < l.length), w.cell? ⟨b, i * 4, none⟩ = some (.int .i64 (l[i]).1) ∧ w.cell? ⟨b, i * 4 + 1, none⟩ = some (.int .i64 (dcf (l[i]).2)) ∧ w.cell? ⟨b, i * 4 + 2, none⟩ = some (.int .u8 (dcp (l[i]).2)) ∧ w.cell? ⟨b, i * 4 + 3, none⟩ = some (.bool (dcc (l[i]).2))
section
variable {base : Nat} {w w' : World} {v : Value} {l : List (Int × Int)}
theorem OwnI.nil (base : Nat) (w : World) : OwnI base w (.slice none 0 0) [] := ⟨by simp [icells], .inl ⟨rfl, rfl⟩⟩
theorem OwnI.new (h : OwnI base w v l) (k : New w w') : OwnI base w' v l := by
  refine ⟨h.1, ?_⟩
  rcases h.2 with hn | ⟨g, cap, cur, rfl, hb, hg, rest⟩
  · exact .inl hn
  · exact .inr ⟨g, cap, cur, rfl, hb, by rw [k.block (Array.getElem?_eq_some_iff.1 hg).1]; exact hg, rest⟩
theorem OwnI.more {base' : Nat} (h : OwnI base w v l) (k : base' ≤ base) : OwnI base' w v l := by
  refine ⟨h.1, ?_⟩
  rcases h.2 with hn | ⟨g, cap, cur, rfl, hb, rest⟩
  · exact .inl hn
  · exact .inr ⟨g, cap, cur, rfl, by omega, rest⟩
theorem OwnI.its (h : OwnI base w v l) : Its w v l := by
  rcases h.2 with ⟨rfl, hn⟩ | ⟨g, cap, cur, rfl, hb, hg, h1, h2, h3, h4⟩
  · refine .inl ⟨rfl, ?_⟩
    have := icells_len l
    rw [hn] at this
    exact List.eq_nil_of_length_eq_zero (by simp at this; omega)
  · refine .inr ⟨g, cap, rfl, h1, h2, (Array.getElem?_eq_some_iff.1 hg).1, fun i hi => ?_⟩
    have key : ∀ f, f < 4 → w.cell? ⟨g, i * 4 + f, none⟩ = (icell l[i])[f]? := by
      intro f hf
      have e := icells_get l i f hi hf
      rw [← h4, List.getElem?_take, if_pos (by omega)] at e
      rw [← e]
      simp [World.cell?, hg]
    exact ⟨key 0 (by omega), key 1 (by omega), key 2 (by omega), key 3 (by omega)⟩
theorem Its.new (h : Its w v l) (k : New w w') : Its w' v l := by
  rcases h with h | ⟨b, cap, h1, h2, h3, h4, h5⟩
  · exact .inl h
  · exact .inr ⟨b, cap, h1, h2, h3, Nat.lt_of_lt_of_le h4 k.size, fun i hi => by
      obtain ⟨c0, c1, c2, c3⟩ := h5 i hi
      exact ⟨(k.cell h4).trans c0, (k.cell h4).trans c1, (k.cell h4).trans c2, (k.cell h4).trans c3⟩⟩
theorem Its.len (h : Its w v l) : ∃ p cap, v = .slice p l.length cap := by
  rcases h with ⟨rfl, rfl⟩ | ⟨b, cap, rfl, _⟩
  · exact ⟨_, _, rfl⟩
  · exact ⟨_, _, rfl⟩
theorem Its.some (h : Its w v l) (hl : 0 < l.length) : ∃ b cap, v = .slice (some ⟨b, 0, none⟩) l.length cap ∧ l.length ≤ cap ∧ cap ≤ maxLen ∧ b < w.heap.size ∧
    ∀ i (hi : i < l.length), w.cell? ⟨b, i * 4, none⟩ = some (.int .i64 (l[i]).1) ∧ w.cell? ⟨b, i * 4 + 1, none⟩ = some (.int .i64 (dcf (l[i]).2)) ∧ w.cell? ⟨b, i * 4 + 2, none⟩ = some (.int .u8 (dcp (l[i]).2)) ∧ w.cell? ⟨b, i * 4 + 3, none⟩ = some (.bool (dcc (l[i]).2)) := by
  rcases h with ⟨rfl, rfl⟩ | h
  · simp at hl
  · exact h
theorem OwnI.push {w0 wr w1 : World} {v' : Value} {x : Int × Int} {o : Obj} (hnx : New w0 wr) (hb : base = w0.heap.size)
    (hown : OwnI base wr v l) (hown' : w1.ownsRow base 69 4 v' (l.length + 1) (icells l ++ icell x)) (hgrow : (wr.alloc o).grownBy w1 v.ownBlock) : OwnI base w1 v' (l ++ [x]) ∧ New w0 w1 := by
  subst hb
  refine ⟨?_, (hnx.allocO o).grown hgrow fun k hk => (World.ownsRow.lt hown k hk).1⟩
  unfold OwnI; rw [icells_push, List.length_append, List.length_singleton]; exact hown'
end
theorem rpage_yes (p : Nat) (w : World) (hp : p < 4096) : Calls Tryd.prog 39 #[.int .i64 p] w fun e w' => e = .returned (.bool true) ∧ w = w' := by
  have e1 : (p : Int) < 4096 := by omega
  have e2 : decide ((p : Int) < 4096) = true := by simpa using e1
  go_enter Tryd.func39, Tryd.ntmps39
  go_wp2
  go_ret
  exact ⟨rfl, rfl⟩
theorem rpage_no (m : Int) (w : World) (hp : ¬ (0 ≤ m ∧ m < 4096)) : Calls Tryd.prog 39 #[.int .i64 m] w fun e w' => e = .returned (.bool false) ∧ w = w' := by
  by_cases c : 0 ≤ m
  · have e1 : 4096 ≤ m := by omega
    have e2 : decide (m < 4096) = false := by simpa using e1
    clear hp
    go_enter Tryd.func39, Tryd.ntmps39
    go_wp2
    go_ret
    exact ⟨rfl, rfl⟩
  · have e1 : m < 0 := by omega
    have e2 : decide (0 ≤ m) = false := by simpa using c
    clear hp c
    go_enter Tryd.func39, Tryd.ntmps39
    go_wp2
    go_ret
    exact ⟨rfl, rfl⟩
end Go.Proofs.YtajhlmiobibhjaaDoor
