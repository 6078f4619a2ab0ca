/- The document's own answers on spaces of pages, as plain lists and numbers: which bytes a page has, by numbers; what each step makes of them. -/
import Derived.Test.YtgedimlhldfkaaaGreatDoorReMath
import Derived.Test.YtgedimlhldfkaaaGreatDoorReK
import Derived.Test.YtgedimlhldfkaaaGreatDoorFrC
import Derived.Test.YtgedimlhldfkaaaGreatDoorPhF
import Derived.Deep.DeepCutAuto
import Derived.Deep.CutBlock
import Derived.Lib.AppendZeros
import Derived.Test.YtgedimlhldfkaaaGreatDoorBut
namespace Go.Proofs.YtgedimlhldfkaaaGreatDoor
set_option linter.unusedVariables false
/-- all frames, those taken, the bytes by numbers, how many spaces have each -/
structure DW where
  many : Int
  taken : Int
  by_ : List (List Int)
  rf : List Int
/-- regions; pages and their numbers; the upper parts; whether it was freed -/
structure DS where
  L : List Rg
  it : List (Int × Int)
  up : List Int
  gone : Bool
/-- the number of a page's bytes; -1: it has none -/
def dID : List (Int × Int) → Int → Int
  | [], _ => -1
  | x :: l, p => if x.1 = p then x.2 else dID l p
theorem dID_none {l : List (Int × Int)} {p : Int} (h : ∀ i (hi : i < l.length), (l[i]).1 ≠ p) : dID l p = -1 := by
  induction l with
  | nil => rfl
  | cons x l ih =>
    have h0 := h 0 (by simp)
    simp only [List.getElem_cons_zero] at h0
    rw [dID, if_neg h0, ih fun i hi => by have := h (i + 1) (by simp; omega); simpa using this]
theorem dID_hit {l : List (Int × Int)} {p : Int} (j : Nat) (hj : j < l.length) (h : ∀ i (hi : i < l.length), i < j → (l[i]).1 ≠ p) (e : (l[j]).1 = p) : dID l p = (l[j]).2 := by
  induction l generalizing j with
  | nil => simp at hj
  | cons x l ih =>
    cases j with
    | zero => simp at e; rw [dID, if_pos e]; rfl
    | succ j =>
      have h0 := h 0 (by simp) (by omega)
      simp only [List.getElem_cons_zero] at h0
      rw [dID, if_neg h0, ih j (by simpa using hj) (fun i hi hij => by have := h (i + 1) (by simp; omega) (by omega); simpa using this) (by simpa using e)]
      simp
theorem dID_mem {l : List (Int × Int)} {p : Int} (h : dID l p ≠ -1) : (p, dID l p) ∈ l := by
  induction l with
  | nil => exact absurd rfl h
  | cons x l ih =>
    unfold dID at h ⊢
    by_cases c : x.1 = p
    · rw [if_pos c]; rw [← c]; exact List.mem_cons_self
    · rw [if_neg c] at h ⊢; exact List.mem_cons_of_mem _ (ih h)
/-- is an upper part there -/
def dup (l : List Int) (u : Int) : Bool := l.any (· == u)
theorem dup_none {l : List Int} {u : Int} (h : ∀ i (hi : i < l.length), l[i] ≠ u) : dup l u = false := by
  unfold dup
  rw [Bool.eq_false_iff, ne_eq, List.any_eq_true]
  rintro ⟨x, hx, e⟩
  obtain ⟨i, hi, rfl⟩ := List.mem_iff_getElem.1 hx
  exact h i hi (by simpa using e)
theorem dup_hit {l : List Int} {u : Int} (j : Nat) (hj : j < l.length) (e : l[j] = u) : dup l u = true := by
  unfold dup
  rw [List.any_eq_true]
  exact ⟨l[j], List.getElem_mem hj, by simpa using e⟩
/-- the loop of put: what is there behind so many, and whether the page was laid down -/
def dputN (l : List (Int × Int)) (p d : Int) : Nat → List (Int × Int) × Bool
  | 0 => ([], false)
  | n + 1 =>
    if (l.getD n (0, 0)).1 = p then ((dputN l p d n).1 ++ [(p, d)], true)
    else if p < (l.getD n (0, 0)).1 ∧ (dputN l p d n).2 = false then ((dputN l p d n).1 ++ [(p, d)] ++ [l.getD n (0, 0)], true)
    else ((dputN l p d n).1 ++ [l.getD n (0, 0)], (dputN l p d n).2)
def dput (l : List (Int × Int)) (p d : Int) : List (Int × Int) := if (dputN l p d l.length).2 = true then (dputN l p d l.length).1 else (dputN l p d l.length).1 ++ [(p, d)]
theorem dputN_len (l : List (Int × Int)) (p d : Int) : ∀ n, (dputN l p d n).1.length ≤ 2 * n
  | 0 => by simp [dputN]
  | n + 1 => by
    have := dputN_len l p d n
    unfold dputN
    split
    · simp; omega
    · split
      · simp; omega
      · simp; omega
/-- the pages but one -/
def dcutL (l : List (Int × Int)) (p : Int) : List (Int × Int) := l.filter fun x => decide (x.1 ≠ p)
theorem dcutL_push (l : List (Int × Int)) (p : Int) (x : Int × Int) : dcutL (l ++ [x]) p = if x.1 ≠ p then dcutL l p ++ [x] else dcutL l p := by
  unfold dcutL
  rw [List.filter_append]
  by_cases c : x.1 = p
  · rw [if_neg (fun h => h c)]; simp [c]
  · rw [if_pos c]; simp [c]
/-- a page's bytes go -/
def ddrop (w : DW) (s : DS) (p : Int) : DW × DS :=
  if dID s.it p < 0 then (w, s)
  else
    let r := w.rf.set (dID s.it p).toNat (w.rf.getD (dID s.it p).toNat 0 - 1)
    (⟨w.many, if r.getD (dID s.it p).toNat 0 = 0 then w.taken - 1 else w.taken, w.by_, r⟩, ⟨s.L, dcutL s.it p, s.up, s.gone⟩)
/-- bytes that are taken once -/
def dmade (w : DW) (b : List Int) : DW := ⟨w.many, w.taken + 1, w.by_ ++ [b], w.rf ++ [1]⟩
end Go.Proofs.YtgedimlhldfkaaaGreatDoor
namespace Go.Proofs.YtgedimlhldfkaaaGreatDoor
open Go.RowKit
set_option linter.unusedVariables false
set_option maxRecDepth 100000
theorem spitem_info : (Tryz.prog.info? 203).map (fun i => (i.zero, i.size, i.bytes)) = some (some (.agg #[.int .i64 0, .int .i64 0]), 2, 16) := by kernel_rfl
def pcell (x : Int × Int) : List Value := [.int .i64 x.1, .int .i64 x.2]
def pcells (l : List (Int × Int)) : List Value := l.flatMap pcell
theorem pcells_len (l : List (Int × Int)) : (pcells l).length = l.length * 2 := by
  induction l with
  | nil => rfl
  | cons x l ih => unfold pcells at *; rw [List.flatMap_cons, List.length_append, ih, List.length_cons]; simp [pcell]; omega
theorem pcells_push (l : List (Int × Int)) (x : Int × Int) : pcells (l ++ [x]) = pcells l ++ pcell x := by simp [pcells]
theorem pcells_get (l : List (Int × Int)) (i f : Nat) (hi : i < l.length) (hf : f < 2) : (pcells l)[i * 2 + f]? = (pcell l[i])[f]? := by
  induction l generalizing i with
  | nil => simp at hi
  | cons x l ih =>
    have e : pcells (x :: l) = pcell x ++ pcells l := by simp [pcells]
    rw [e]
    match i, hi with
    | 0, _ => rw [List.getElem?_append_left (by simp [pcell]; omega)]; simp
    | i + 1, hi => rw [List.getElem?_append_right (by simp [pcell]; omega)]; simpa [pcell, show (i + 1) * 2 + f - 2 = i * 2 + f by omega] using ih i (by simpa using hi)
/-- pages and numbers that the call made, or nil -/
def OwnP (base : Nat) (w : World) (v : Value) (l : List (Int × Int)) : Prop := w.ownsRow base 203 2 v l.length (pcells l)
/-- such that can be read -/
def Itp (w : World) (v : Value) (l : List (Int × Int)) : Prop :=
  (v = .slice none 0 0 ∧ l = []) ∨ ∃ b cap, v = .slice (some ⟨b, 0, none⟩) l.length cap ∧ l.length ≤ cap ∧ cap ≤ maxLen ∧ b < w.heap.size ∧
    ∀ i (hi : i < l.length), w.cell? ⟨b, i * 2, none⟩ = some (.int .i64 (l[i]).1) ∧ w.cell? ⟨b, i * 2 + 1, none⟩ = some (.int .i64 (l[i]).2)
section
variable {base : Nat} {w w' : World} {v : Value} {l : List (Int × Int)}
theorem OwnP.nil (base : Nat) (w : World) : OwnP base w (.slice none 0 0) [] := ⟨by simp [pcells], .inl ⟨rfl, rfl⟩⟩
theorem OwnP.new (h : OwnP base w v l) (k : New w w') : OwnP base w' v l := by
  refine ⟨h.1, ?_⟩
  rcases h.2 with hn | ⟨g, cap, cur, rfl, hb, hg, rest⟩
  · exact .inl hn
  · exact .inr ⟨g, cap, cur, rfl, hb, by rw [k.block (Array.getElem?_eq_some_iff.1 hg).1]; exact hg, rest⟩
theorem OwnP.more {base' : Nat} (h : OwnP base w v l) (k : base' ≤ base) : OwnP base' w v l := by
  refine ⟨h.1, ?_⟩
  rcases h.2 with hn | ⟨g, cap, cur, rfl, hb, rest⟩
  · exact .inl hn
  · exact .inr ⟨g, cap, cur, rfl, by omega, rest⟩
theorem OwnP.itp (h : OwnP base w v l) : Itp w v l := by
  rcases h.2 with ⟨rfl, hn⟩ | ⟨g, cap, cur, rfl, hb, hg, h1, h2, h3, h4⟩
  · refine .inl ⟨rfl, ?_⟩
    have := pcells_len l
    rw [hn] at this
    exact List.eq_nil_of_length_eq_zero (by simp at this; omega)
  · refine .inr ⟨g, cap, rfl, h1, h2, (Array.getElem?_eq_some_iff.1 hg).1, fun i hi => ?_⟩
    have key : ∀ f, f < 2 → w.cell? ⟨g, i * 2 + f, none⟩ = (pcell l[i])[f]? := by
      intro f hf
      have e := pcells_get l i f hi hf
      rw [← h4, List.getElem?_take, if_pos (by omega)] at e
      rw [← e]
      simp [World.cell?, hg]
    exact ⟨key 0 (by omega), key 1 (by omega)⟩
theorem OwnP.shape (h : OwnP base w v l) : ∃ p k c, v = .slice p k c := by
  rcases h.2 with ⟨rfl, _⟩ | ⟨g, cap, cur, rfl, _⟩
  · exact ⟨_, _, _, rfl⟩
  · exact ⟨_, _, _, rfl⟩
theorem Itp.new (h : Itp w v l) (k : New w w') : Itp w' v l := by
  rcases h with h | ⟨b, cap, h1, h2, h3, h4, h5⟩
  · exact .inl h
  · exact .inr ⟨b, cap, h1, h2, h3, Nat.lt_of_lt_of_le h4 k.size, fun i hi => by
      obtain ⟨c0, c1⟩ := h5 i hi
      exact ⟨(k.cell h4).trans c0, (k.cell h4).trans c1⟩⟩
theorem Itp.len (h : Itp w v l) : ∃ p cap, v = .slice p l.length cap := by
  rcases h with ⟨rfl, rfl⟩ | ⟨b, cap, rfl, _⟩
  · exact ⟨_, _, rfl⟩
  · exact ⟨_, _, rfl⟩
theorem Itp.max (h : Itp w v l) : l.length ≤ maxLen := by
  rcases h with ⟨rfl, rfl⟩ | ⟨b, cap, rfl, h1, h2, _⟩
  · exact Nat.zero_le _
  · omega
theorem Itp.some (h : Itp w v l) (hl : 0 < l.length) : ∃ b cap, v = .slice (some ⟨b, 0, none⟩) l.length cap ∧ l.length ≤ cap ∧ cap ≤ maxLen ∧ b < w.heap.size ∧
    ∀ i (hi : i < l.length), w.cell? ⟨b, i * 2, none⟩ = some (.int .i64 (l[i]).1) ∧ w.cell? ⟨b, i * 2 + 1, none⟩ = some (.int .i64 (l[i]).2) := by
  rcases h with ⟨rfl, rfl⟩ | h
  · simp at hl
  · exact h
theorem OwnP.push {w0 wr w1 : World} {v' : Value} {x : Int × Int} {o : Obj} (hnx : New w0 wr) (hb : base = w0.heap.size)
    (hown : OwnP base wr v l) (hown' : w1.ownsRow base 203 2 v' (l.length + 1) (pcells l ++ pcell x)) (hgrow : (wr.alloc o).grownBy w1 v.ownBlock) : OwnP base w1 v' (l ++ [x]) ∧ New w0 w1 := by
  subst hb
  refine ⟨?_, (hnx.allocO o).grown hgrow fun k hk => (World.ownsRow.lt hown k hk).1⟩
  unfold OwnP; rw [pcells_push, List.length_append, List.length_singleton]; exact hown'
end
/-- bytes by numbers, that the call made, or nil -/
def OwnV (base : Nat) (w : World) (v : Value) (L : List (List Int)) : Prop := ∃ us : List Value, us.length = L.length ∧ w.ownsRow base 28 1 v us.length us ∧ ∀ i (hi : i < L.length) (hu : i < us.length), Byts w us[i] L[i]
/-- such that can be read -/
def Bss (w : World) (v : Value) (L : List (List Int)) : Prop :=
  (v = .slice none 0 0 ∧ L = []) ∨ ∃ b cap, v = .slice (some ⟨b, 0, none⟩) L.length cap ∧ L.length ≤ cap ∧ cap ≤ maxLen ∧ b < w.heap.size ∧
    ∀ i (hi : i < L.length), ∃ u, w.cell? ⟨b, i, none⟩ = some u ∧ Byts w u L[i]
section
variable {base : Nat} {w w' : World} {v : Value} {L : List (List Int)}
theorem OwnV.bss (h : OwnV base w v L) : Bss w v L := by
  obtain ⟨us, hl, ho, hu⟩ := h
  rcases ho.2 with ⟨rfl, hn⟩ | ⟨g, cap, cur, rfl, hb, hg, h1, h2, h3, h4⟩
  · exact .inl ⟨rfl, List.eq_nil_of_length_eq_zero (by omega)⟩
  · refine .inr ⟨g, cap, by rw [hl], by omega, h2, (Array.getElem?_eq_some_iff.1 hg).1, fun i hi => ⟨us[i]'(by omega), ?_, hu i hi (by omega)⟩⟩
    have e : us[i]? = some (us[i]'(by omega)) := List.getElem?_eq_getElem (by omega)
    have e2 := congrArg (fun z : List Value => z[i]?) h4
    simp only [List.getElem?_take] at e2
    rw [if_pos (by omega), e] at e2
    simp only [World.cell?, hg]
    simpa using e2
theorem Bss.new (h : Bss w v L) (k : New w w') : Bss w' v L := by
  rcases h with h | ⟨b, cap, h1, h2, h3, h4, h5⟩
  · exact .inl h
  · exact .inr ⟨b, cap, h1, h2, h3, Nat.lt_of_lt_of_le h4 k.size, fun i hi => by
      obtain ⟨u, c0, c1⟩ := h5 i hi
      exact ⟨u, (k.cell h4).trans c0, c1.new k⟩⟩
theorem Bss.len (h : Bss w v L) : ∃ p cap, v = .slice p L.length cap := by
  rcases h with ⟨rfl, rfl⟩ | ⟨b, cap, rfl, _⟩
  · exact ⟨_, _, rfl⟩
  · exact ⟨_, _, rfl⟩
theorem Bss.max (h : Bss w v L) : L.length ≤ maxLen := by
  rcases h with ⟨rfl, rfl⟩ | ⟨b, cap, rfl, h1, h2, _⟩
  · exact Nat.zero_le _
  · omega
theorem Bss.at_ (h : Bss w v L) (i : Nat) (hi : i < L.length) : ∃ b cap u, v = .slice (some ⟨b, 0, none⟩) L.length cap ∧ b < w.heap.size ∧ w.cell? ⟨b, i, none⟩ = some u ∧ Byts w u L[i] := by
  rcases h with ⟨rfl, rfl⟩ | ⟨b, cap, rfl, h1, h2, h3, h4⟩
  · simp at hi
  · obtain ⟨u, c0, c1⟩ := h4 i hi
    exact ⟨b, cap, u, rfl, h3, c0, c1⟩
end
/-- a whole world, a whole space, by value -/
def DWv (w : World) (v : Value) (d : DW) : Prop := ∃ vb vr, v = .agg #[.int .i64 d.many, .int .i64 d.taken, vb, vr] ∧ Bss w vb d.by_ ∧ Ints w vr d.rf
def DSv (w : World) (v : Value) (s : DS) : Prop := ∃ vR vL vU, v = .agg #[vR, vL, vU, .bool s.gone] ∧ Rgs w vR s.L ∧ Itp w vL s.it ∧ Ints w vU s.up
theorem DWv.new {w w' : World} {v : Value} {d : DW} (h : DWv w v d) (k : New w w') : DWv w' v d := by
  obtain ⟨vb, vr, h1, h2, h3⟩ := h; exact ⟨vb, vr, h1, h2.new k, h3.new k⟩
theorem DSv.new {w w' : World} {v : Value} {d : DS} (h : DSv w v d) (k : New w w') : DSv w' v d := by
  obtain ⟨vR, vL, vU, h1, h2, h3, h4⟩ := h; exact ⟨vR, vL, vU, h1, h2.new k, h3.new k, h4.new k⟩
end Go.Proofs.YtgedimlhldfkaaaGreatDoor
namespace Go.Proofs.YtgedimlhldfkaaaGreatDoor
open Go.RowKit
set_option linter.unusedVariables false
set_option maxRecDepth 100000
/-- a slice, whichever -/
def Slc (v : Value) : Prop := ∃ p k c, v = .slice p k c
/-- a slice that begins behind a place -/
def VB (b : Nat) (v : Value) : Prop := ∀ a n c, v = .slice (some a) n c → b ≤ a.block
theorem VB.nil (b n c : Nat) : VB b (.slice none n c) := fun a m k e => by cases e
theorem VB.mono {b b' : Nat} {v : Value} (h : VB b v) (k : b' ≤ b) : VB b' v := fun a n c e => Nat.le_trans k (h a n c e)
theorem vb_own {w : World} {base k n : Nat} {T : TypeId} {v : Value} {ys : List Value} (h : w.ownsRow base T k v n ys) : VB base v := by
  rcases h.2 with ⟨rfl, _⟩ | ⟨g, cap, cur, rfl, hb, _⟩
  · exact VB.nil _ _ _
  · intro a n c e; cases e; exact hb
/-- a space by value whose slices begin behind a place -/
def VS (b : Nat) (V : Value) : Prop := ∀ vR vL vU g, V = .agg #[vR, vL, vU, g] → VB b vR ∧ VB b vL ∧ VB b vU
theorem VS.mk {b : Nat} {vR vL vU g : Value} (h1 : VB b vR) (h2 : VB b vL) (h3 : VB b vU) : VS b (.agg #[vR, vL, vU, g]) := fun _ _ _ _ e => by cases e; exact ⟨h1, h2, h3⟩
theorem VS.parts {b : Nat} {vR vL vU g : Value} (h : VS b (.agg #[vR, vL, vU, g])) : VB b vR ∧ VB b vL ∧ VB b vU := h _ _ _ _ rfl
theorem Rgs.slc {w : World} {v : Value} {l : List Rg} (h : Rgs w v l) : Slc v := by obtain ⟨p, c, e, _⟩ := h.shape; exact ⟨p, _, c, e⟩
theorem Itp.slc {w : World} {v : Value} {l : List (Int × Int)} (h : Itp w v l) : Slc v := by obtain ⟨p, c, e⟩ := h.len; exact ⟨p, _, c, e⟩
theorem Ints.slc {w : World} {v : Value} {l : List Int} (h : Ints w v l) : Slc v := by obtain ⟨p, c, e⟩ := h.len; exact ⟨p, _, c, e⟩
theorem Bss.slc {w : World} {v : Value} {l : List (List Int)} (h : Bss w v l) : Slc v := by obtain ⟨p, c, e⟩ := h.len; exact ⟨p, _, c, e⟩
section
variable {w : World} {vR vL vU : Value} {L : List (Int × Int)} {U : List Int} {g : Bool}
set_option maxHeartbeats 1000000 in
theorem rid_any (p : Int) (h1 : Slc vR) (h2 : Itp w vL L) (h3 : Slc vU) : Calls Tryz.prog 119 #[.agg #[vR, vL, vU, .bool g], .int .i64 p] w fun e w' => e = .returned (.int .i64 (dID L p)) ∧ New w w' := by
  obtain ⟨p1, k1, c1, rfl⟩ := h1
  obtain ⟨p3, k3, c3, rfl⟩ := h3
  obtain ⟨p2, c2, rfl⟩ := h2.len
  have n0 := (New.refl w).alloc #[.slice p1 k1 c1, .slice p2 L.length c2, .slice p3 k3 c3, .bool g] 84
  have HI := Lib.hid (h2.new n0)
  have hm := h2.max
  unfold maxLen at hm
  clear h2
  go_enter Tryz.func119, Tryz.ntmps119
  go_wp2
  obtain ⟨W0, hW0⟩ : ∃ W0, W0 = w.alloc (.cells #[.slice p1 k1 c1, .slice p2 L.length c2, .slice p3 k3 c3, .bool g] 84) := ⟨_, rfl⟩
  rw [← hW0]
  rw [← hW0] at n0 HI
  have B0 : Box W0 w.heap.size #[.slice p1 k1 c1, .slice p2 L.length c2, .slice p3 k3 c3, .bool g] 84 := by rw [hW0]; exact Box.here w _ _ _ rfl
  obtain ⟨a0, a1, a2, a3⟩ := B0.four
  clear hW0 B0
  go_loopg [5] L.length (fun k i wr => ∃ j : Nat, j + k = L.length ∧ i = .int .i64 (j : Int) ∧ W0 = wr ∧ ∀ i (hi : i < L.length), i < j → (L[i]).1 ≠ p)
  case atStart => exact ⟨0, by omega, rfl, rfl, fun i _ h => absurd h (Nat.not_lt_zero _)⟩
  case round =>
    obtain ⟨j, hj, rfl, rfl, hn⟩ := hrel
    by_cases c : j < L.length
    · obtain ⟨b, cap, e, _, _, _, hc⟩ := HI.out.some (by omega)
      cases e
      obtain ⟨c0, c1'⟩ := hc j c
      have HN := Lib.hid hn
      have J := Lib.hid hj
      by_cases d : (L[j]).1 = p
      · have T := Lib.hid (dID_hit j c hn d)
        have f : ((L[j]).1 == p) = true := by simpa using d
        generalize (L[j]).1 = x at *
        generalize (L[j]).2 = y at *
        clear d hj hc hn
        go_wp2
        go_ret
        exact ⟨ret_int (by first | rw [T.out] | rfl), n0⟩
      · have f : ((L[j]).1 == p) = false := by simpa using d
        have HD := Lib.hid d
        generalize hx : (L[j]).1 = x at f c0
        have HX := Lib.hid hx
        clear d hj hc hn hx
        go_wp2
        go_roundg (L.length - (j + 1))
        case measure => have := J.out; omega
        case rel => exact ⟨j + 1, by have := J.out; omega, by go_num, rfl, fun i hi hij => by
          by_cases e : i = j
          · subst e; exact HD.out
          · exact HN.out i hi (by omega)⟩
    · obtain rfl : j = L.length := by omega
      have T := Lib.hid (dID_none fun i hi => hn i hi hi)
      clear hj c hn
      go_wp2
      go_ret
      exact ⟨ret_int (by first | rw [T.out] | rfl), n0⟩
set_option maxHeartbeats 1000000 in
theorem rupper_any (p q : Nat) (hp : p < 4096) (hq : p / 64 = q) (h1 : Slc vR) (h2 : Slc vL) (h3 : Ints w vU U) : Calls Tryz.prog 121 #[.agg #[vR, vL, vU, .bool g], .int .i64 p] w fun e w' => e = .returned (.bool (dup U (q : Int))) ∧ New w w' := by
  obtain ⟨p1, k1, c1, rfl⟩ := h1
  obtain ⟨p2, k2, c2, rfl⟩ := h2
  have hB : U.length ≤ 9223372036854775807 := by
    rcases h3 with ⟨_, rfl⟩ | ⟨b, cap, _, h1, h2, _⟩
    · simp
    · unfold maxLen at h2; omega
  obtain ⟨p3, c3, rfl⟩ := h3.len
  have n0 := (New.refl w).alloc #[.slice p1 k1 c1, .slice p2 k2 c2, .slice p3 U.length c3, .bool g] 84
  have HI := Lib.hid (h3.new n0)
  have et : (p : Int).tdiv 64 = (q : Int) := by rw [Int.tdiv_eq_ediv_of_nonneg (by omega)]; omega
  have ew : wrap64 (q : Int) = (q : Int) := by unfold wrap64; omega
  clear h3 hq
  go_enter Tryz.func121, Tryz.ntmps121
  go_wp2
  obtain ⟨W0, hW0⟩ : ∃ W0, W0 = w.alloc (.cells #[.slice p1 k1 c1, .slice p2 k2 c2, .slice p3 U.length c3, .bool g] 84) := ⟨_, rfl⟩
  rw [← hW0]
  rw [← hW0] at n0 HI
  have B0 : Box W0 w.heap.size #[.slice p1 k1 c1, .slice p2 k2 c2, .slice p3 U.length c3, .bool g] 84 := by rw [hW0]; exact Box.here w _ _ _ rfl
  obtain ⟨a0, a1, a2, a3⟩ := B0.four
  clear hW0 B0
  go_loopg [5] U.length (fun k i wr => ∃ j : Nat, j + k = U.length ∧ i = .int .i64 (j : Int) ∧ W0 = wr ∧ ∀ i (hi : i < U.length), i < j → U[i] ≠ (q : Int))
  case atStart => exact ⟨0, by omega, rfl, rfl, fun i _ h => absurd h (Nat.not_lt_zero _)⟩
  case round =>
    obtain ⟨j, hj, rfl, rfl, hn⟩ := hrel
    by_cases c : j < U.length
    · obtain ⟨b, e, c0⟩ : ∃ b, p3 = some ⟨b, 0, none⟩ ∧ W0.cell? ⟨b, j, none⟩ = some (.int .i64 U[j]) := by
        rcases HI.out with ⟨_, h⟩ | ⟨b, cap, h1, _, _, _, h5⟩
        · rw [h] at c; simp at c
        · cases h1
          refine ⟨b, rfl, ?_⟩
          rw [h5 j c, List.getD_eq_getElem?_getD, List.getElem?_eq_getElem c]; rfl
      subst e
      have HN := Lib.hid hn
      have J := Lib.hid hj
      by_cases d : U[j] = (q : Int)
      · have T := Lib.hid (dup_hit j c d)
        have f : (U[j] == (q : Int)) = true := by simpa using d
        generalize U[j] = x at *
        clear d hj hn
        go_wp2
        go_ret
        exact ⟨Eq.trans rfl (congrArg (fun z => Ending.returned (.bool z)) T.out.symm), n0⟩
      · have f : (U[j] == (q : Int)) = false := by simpa using d
        have HD := Lib.hid d
        generalize hx : U[j] = x at f c0
        have HX := Lib.hid hx
        clear d hj hn hx
        go_wp2
        go_roundg (U.length - (j + 1))
        case measure => have := J.out; omega
        case rel => exact ⟨j + 1, by have := J.out; omega, by go_num, rfl, fun i hi hij => by
          by_cases e : i = j
          · subst e; exact HD.out
          · exact HN.out i hi (by omega)⟩
    · obtain rfl : j = U.length := by omega
      have T := Lib.hid (dup_none fun i hi => hn i hi hi)
      clear hj c hn
      go_wp2
      go_ret
      exact ⟨Eq.trans rfl (congrArg (fun z => Ending.returned (.bool z)) T.out.symm), n0⟩
end
end Go.Proofs.YtgedimlhldfkaaaGreatDoor
namespace Go.Proofs.YtgedimlhldfkaaaGreatDoor
open Go.RowKit Go.Joins
set_option linter.unusedVariables false
set_option maxRecDepth 100000
section
variable {W w w' : World} {TS T : TypeId} {z : Value} {nb : Nat}
/-- cells behind a row that the call made -/
theorem add_cells (ht : Tryz.prog.underlying TS = some (.slice T)) (hin : (Tryz.prog.info? T).map (fun i => (i.zero, i.size, i.bytes)) = some (some z, 1, nb)) (hz1 : z.cells.size = 1) (hnb : nb ≤ 24) (hn : New W w) {v u : Value} {xs us : List Value}
    (h : w.ownsRow W.heap.size T 1 v xs.length xs) (hu : (u = .slice none 0 0 ∧ us = []) ∨ ∃ b cap, u = .slice (some ⟨b, 0, none⟩) us.length cap ∧ ∀ i (hi : i < us.length), w.cell? ⟨b, i, none⟩ = some us[i]) (h1 : ∀ x ∈ us, x.oneCell' = true) (hl : xs.length + us.length ≤ 2000000) :
    ∃ v' w1, (Builtin.append_ #[TS, TS] TS #[v, u]).run Tryz.prog w = .ok v' w1 ∧ w1.ownsRow W.heap.size T 1 v' (xs ++ us).length (xs ++ us) ∧ New W w1 := by
  obtain ⟨i0, hi, hz0, hzs, hzb⟩ := info_parts hin
  rcases hu with ⟨rfl, rfl⟩ | ⟨b, cap, rfl, hc⟩
  · refine ⟨v, w, ?_, by rw [List.append_nil]; exact h, hn⟩
    have hst : ∀ a, (storeCells a []).run Tryz.prog w = .ok () w := fun a => rfl
    rcases h.2 with ⟨rfl, _⟩ | ⟨g, cap, cur, rfl, hb, hg, h1, h2, h3, h4⟩
    · simp [Builtin.append_, run_underlying ht, sizeOf, typeInfo, hi, Builtin.lenOf, Builtin.firstCells]
    · simp [Builtin.append_, run_underlying ht, sizeOf, typeInfo, hi, Builtin.lenOf, Builtin.firstCells, h1, hst]
  · obtain ⟨v', w1, k1, k2, k3, _⟩ := run_append_own (P := Tryz.prog) w W.heap.size TS TS T i0 z 1 nb ht hi hz0 hzs hzb hz1 (by decide) v xs.length xs h ⟨b, 0, none⟩ us.length cap us (by omega) (fun j x hx => by
        obtain ⟨hj, rfl⟩ := List.getElem?_eq_some_iff.1 hx
        rw [Addr.add_mid, Nat.zero_add]; exact hc j hj) h1 (by unfold maxLen; omega) (by
        refine Nat.le_trans (Nat.mul_le_mul_left _ hnb) ?_; omega) hn.size
    refine ⟨v', w1, k1, ?_, hn.grown k3 fun k hk => (World.ownsRow.lt h k hk).1⟩
    rw [List.length_append]; exact k2
/-- one cell behind a row whose room ends there: a new row -/
theorem clip_cells (ht : Tryz.prog.underlying TS = some (.slice T)) (hin : (Tryz.prog.info? T).map (fun i => (i.zero, i.size, i.bytes)) = some (some z, 1, nb)) (hz1 : z.cells.size = 1) (hnb : nb ≤ 24) (hn : New W w) {p : Option Addr} {us : List Value} {x : Value} {ad : Addr}
    (hu : (p = none ∧ us = []) ∨ ∃ b, p = some ⟨b, 0, none⟩ ∧ ∀ i (hi : i < us.length), w.cell? ⟨b, i, none⟩ = some us[i]) (h1 : ∀ y ∈ us, y.oneCell' = true) (hx : w.cell? ad = some x) (hx1 : x.oneCell' = true) (hl : us.length ≤ 1000000) :
    ∃ v' w1, (Builtin.append_ #[TS, TS] TS #[.slice p us.length us.length, .slice (some ad) 1 1]).run Tryz.prog w = .ok v' w1 ∧ w1.ownsRow W.heap.size T 1 v' (us ++ [x]).length (us ++ [x]) ∧ New W w1 := by
  obtain ⟨i0, hi, hz0, hzs, hzb⟩ := info_parts hin
  have hnews : ∀ j u, ([x] : List Value)[j]? = some u → w.cell? (ad.add j) = some u := by
    intro j u hu; rcases j with _ | j <;> simp at hu; subst hu; simpa [Addr.add] using hx
  rcases hu with ⟨rfl, rfl⟩ | ⟨b, rfl, hc⟩
  · obtain ⟨v', w1, k1, k2, k3, _⟩ := run_append_own (P := Tryz.prog) w W.heap.size TS TS T i0 z 1 nb ht hi hz0 hzs hzb hz1 (by decide) (.slice none 0 0) 0 [] (World.ownsRow_nil w _ _ 1) ad 1 1 [x] rfl hnews (by intro u hu; simp at hu; subst hu; exact hx1) (by unfold maxLen; omega) (by omega) hn.size
    exact ⟨v', w1, k1, k2, hn.grown k3 fun k hk => by cases hk⟩
  · have holds : ∀ j v, us[j]? = some v → w.cell? ((⟨b, 0, none⟩ : Addr).add j) = some v := by
      intro j v hv
      obtain ⟨hj, rfl⟩ := List.getElem?_eq_some_iff.1 hv
      rw [Addr.add_mid, Nat.zero_add]; exact hc j hj
    have hr := run_append_grow (P := Tryz.prog) w TS TS T i0 z ht hi hz0 ⟨b, 0, none⟩ us.length us.length us (by rw [hzs]; omega) holds ad 1 1 [x] (by rw [hzs]; rfl) hnews (by omega) (by omega) (by
      rw [hzb]
      exact growslice_fits (by omega) (Nat.le_trans (Nat.mul_le_mul_left _ hnb) (by omega)))
    have hgr : ∀ o, w.grownBy (w.drew.alloc o) none := fun o => ⟨rfl, rfl, rfl, by simp, fun k hk _ => Below.heap_alloc w.drew o k hk⟩
    refine ⟨_, _, hr, ?_, New.grownNone hn (hgr _)⟩
    have hge := grownCap_ge w (us.length + 1) us.length T
    have hcm := grownCap_le_maxLen w (us.length + 1) us.length T (by unfold maxLen; omega)
    unfold World.ownsRow
    rw [List.length_append, List.length_singleton]
    refine ⟨by simp, .inr ⟨w.heap.size, _, _, rfl, hn.size, heap_alloc_new w.drew _, hge, hcm, ?_, ?_⟩⟩
    · simp only [Array.size_append, List.size_toArray, size_zeroCells, List.length_singleton, hz1]
      omega
    · simp only [Array.toList_append, Nat.mul_one]
      exact List.take_left' (by simp)
end
section
variable {W w w' : World} {v u : Value} {xs l : List Int}
theorem Ints.row (h : Ints w v l) : (v = .slice none 0 0 ∧ l.map (Value.int .i64) = []) ∨ ∃ b cap, v = .slice (some ⟨b, 0, none⟩) (l.map (Value.int .i64)).length cap ∧ ∀ i (hi : i < (l.map (Value.int .i64)).length), w.cell? ⟨b, i, none⟩ = some (l.map (Value.int .i64))[i] := by
  rcases h with ⟨rfl, rfl⟩ | ⟨b, cap, rfl, h1, h2, h3, h4⟩
  · exact .inl ⟨rfl, rfl⟩
  · refine .inr ⟨b, cap, by rw [List.length_map], fun i hi => ?_⟩
    rw [List.length_map] at hi
    rw [h4 i hi, List.getElem_map, List.getD_eq_getElem?_getD, List.getElem?_eq_getElem hi]; rfl
theorem ints_one (l : List Int) : ∀ x ∈ l.map (Value.int .i64), x.oneCell' = true := by
  intro x hx; obtain ⟨y, _, rfl⟩ := List.mem_map.1 hx; rfl
theorem add_ints (hn : New W w) (h : Own W.heap.size w v xs) (hu : Ints w u l) (hl : xs.length + l.length ≤ 2000000) :
    ∃ v' w1, (Builtin.append_ #[43, 43] 43 #[v, u]).run Tryz.prog w = .ok v' w1 ∧ Own W.heap.size w1 v' (xs ++ l) ∧ New W w1 := by
  have h' : w.ownsRow W.heap.size 3 1 v (xs.map (Value.int .i64)).length (xs.map (Value.int .i64)) := by rw [List.length_map]; exact h
  obtain ⟨v', w1, k1, k2, k3⟩ := add_cells Tryz.underlying43 int_info rfl (by omega) hn h' hu.row (ints_one l) (by simpa using hl)
  refine ⟨v', w1, k1, ?_, k3⟩
  unfold Own
  rw [← List.map_append, List.length_map] at k2
  exact k2
theorem Own.set {base g k c : Nat} (h : Own base w (.slice (some ⟨g, 0, none⟩) k c) l) (i : Nat) (n : Int) : Own base (w.setCell ⟨g, i, none⟩ (.int .i64 n)) (.slice (some ⟨g, 0, none⟩) k c) (l.set i n) := by
  have hl : (l.set i n).length = l.length := List.length_set
  refine ⟨by simp, ?_⟩
  rw [hl]
  rcases h.2 with ⟨hn, _⟩ | ⟨g', cap', cur, e, hb, hg, h1, h2, h3, h4⟩
  · cases hn
  · cases e
    refine .inr ⟨g, c, cur.setIfInBounds i (.int .i64 n), rfl, hb, block_setCell hg _, h1, h2, by simpa using h3, ?_⟩
    rw [Array.toList_setIfInBounds, List.take_set, h4, List.map_set]
set_option maxHeartbeats 1000000 in
theorem rwith_any (hv : Ints w v l) (hl : l.length ≤ 1000000) (i : Nat) (hi : i < l.length) (n : Int) : Calls Tryz.prog 124 #[v, .int .i64 i, .int .i64 n] w fun e w' => ∃ u, e = .returned u ∧ Own w.heap.size w' u (l.set i n) ∧ New w w' := by
  obtain ⟨u, w1, hr, ow, nw⟩ := add_ints (New.refl w) (Own.nil w.heap.size w) hv (by simp; omega)
  rw [List.nil_append] at ow
  obtain ⟨p, cap, rfl⟩ := hv.len
  obtain ⟨g, c, rfl, hg⟩ : ∃ g c, u = .slice (some ⟨g, 0, none⟩) l.length c ∧ w1.heap[g]? ≠ none := by
    rcases ow.2 with ⟨_, hn⟩ | ⟨g, c, cur, rfl, _, hg, _⟩
    · omega
    · exact ⟨g, c, rfl, by rw [hg]; simp⟩
  have hgl : w.heap.size ≤ g ∧ g < w1.heap.size := by
    rcases ow.2 with ⟨hn, _⟩ | ⟨g', c', cur, e, hb, hg, _⟩
    · cases hn
    · cases e; exact ⟨hb, (Array.getElem?_eq_some_iff.1 hg).1⟩
  have c0 : ∃ x, w1.cell? ⟨g, i, none⟩ = some x := by
    rcases ow.ints with ⟨hn, _⟩ | ⟨b, cap, e, _, _, _, h⟩
    · cases hn
    · cases e; exact ⟨_, h i hi⟩
  obtain ⟨x, c0⟩ := c0
  have fr : w1.frozen? ⟨g, i, none⟩ = false := by
    rcases ow.2 with ⟨hn, _⟩ | ⟨g', c', cur, e, hb, hg, _⟩
    · cases hn
    · cases e; exact unfrozen_of_block hg i
  have OS := Lib.hid (ow.set i n)
  have NS := Lib.hid (nw.setCell (p := ⟨g, i, none⟩) hgl.1 (.int .i64 n))
  have g1 : decide ((i : Int) < (l.length : Int)) = true := by simp; omega
  clear hv ow nw hg
  go_enter Tryz.func124, Tryz.ntmps124
  go_wp2_with (at_builtin; refine Lib.wpList_append_run _ rfl _ _ _ _ rfl _ _ rfl rfl _ _ hr ?_)
  go_ret
  exact ⟨_, rfl, OS.out, NS.out⟩
end
end Go.Proofs.YtgedimlhldfkaaaGreatDoor
namespace Go.Proofs.YtgedimlhldfkaaaGreatDoor
open Go.RowKit Go.Joins
set_option linter.unusedVariables false
set_option maxRecDepth 100000
section
variable {W w w' : World} {v u : Value} {xs l : List Int} {d : DW} {s : DS}
theorem slb_info : (Tryz.prog.info? 28).map (fun i => (i.zero, i.size, i.bytes)) = some (some (.slice none 0 0), 1, 24) := by kernel_rfl
theorem Ints.clip1 (h : Ints w v l) : ∃ p cap, v = .slice p l.length cap ∧ l.length ≤ cap ∧ cap ≤ maxLen ∧ ((p = none ∧ l.map (Value.int .i64) = []) ∨ ∃ b, p = some ⟨b, 0, none⟩ ∧ ∀ i (hi : i < (l.map (Value.int .i64)).length), w.cell? ⟨b, i, none⟩ = some (l.map (Value.int .i64))[i]) := by
  rcases h with ⟨rfl, rfl⟩ | ⟨b, cap, rfl, h1, h2, h3, h4⟩
  · exact ⟨none, 0, rfl, Nat.le_refl _, Nat.zero_le _, .inl ⟨rfl, rfl⟩⟩
  · refine ⟨_, cap, rfl, h1, h2, .inr ⟨b, rfl, fun i hi => ?_⟩⟩
    rw [List.length_map] at hi
    rw [h4 i hi, List.getElem_map, List.getD_eq_getElem?_getD, List.getElem?_eq_getElem hi]; rfl
theorem clip_ints (hn : New W w) {p : Option Addr} {x : Int} {ad : Addr} (hu : (p = none ∧ l.map (Value.int .i64) = []) ∨ ∃ b, p = some ⟨b, 0, none⟩ ∧ ∀ i (hi : i < (l.map (Value.int .i64)).length), w.cell? ⟨b, i, none⟩ = some (l.map (Value.int .i64))[i]) (hx : w.cell? ad = some (.int .i64 x)) (hl : l.length ≤ 1000000) :
    ∃ v' w1, (Builtin.append_ #[43, 43] 43 #[.slice p l.length l.length, .slice (some ad) 1 1]).run Tryz.prog w = .ok v' w1 ∧ Own W.heap.size w1 v' (l ++ [x]) ∧ New W w1 := by
  obtain ⟨v', w1, k1, k2, k3⟩ := clip_cells Tryz.underlying43 int_info rfl (by omega) hn hu (ints_one l) hx rfl (by simpa using hl)
  rw [List.length_map] at k1
  refine ⟨v', w1, k1, ?_, k3⟩
  unfold Own
  have e : l.map (Value.int .i64) ++ [Value.int .i64 x] = (l ++ [x]).map (Value.int .i64) := by simp
  rw [e, List.length_map] at k2
  exact k2
/-- the slices of a list of bytes -/
theorem Bss.clip1 {L : List (List Int)} (h : Bss w v L) : ∃ p cap, v = .slice p L.length cap ∧ L.length ≤ cap ∧ cap ≤ maxLen ∧ ∃ us : List Value, us.length = L.length ∧ ((p = none ∧ us = []) ∨ ∃ b, p = some ⟨b, 0, none⟩ ∧ ∀ i (hi : i < us.length), w.cell? ⟨b, i, none⟩ = some us[i]) ∧
    ∀ i (hi : i < L.length) (hu : i < us.length), Byts w us[i] L[i] := by
  rcases h with ⟨rfl, rfl⟩ | ⟨b, cap, rfl, h1, h2, h3, h4⟩
  · exact ⟨none, 0, rfl, Nat.le_refl _, Nat.zero_le _, [], rfl, .inl ⟨rfl, rfl⟩, fun i hi => absurd hi (Nat.not_lt_zero _)⟩
  · have pick : ∀ m, m ≤ L.length → ∃ us : List Value, us.length = m ∧ ∀ i (hu : i < us.length) (hi : i < L.length), w.cell? ⟨b, i, none⟩ = some us[i] ∧ Byts w us[i] L[i] := by
      intro m
      induction m with
      | zero => exact fun _ => ⟨[], rfl, fun i hi => absurd hi (Nat.not_lt_zero _)⟩
      | succ m ih =>
        intro hm
        obtain ⟨us, e, hc⟩ := ih (by omega)
        obtain ⟨u, c0, c1⟩ := h4 m (by omega)
        refine ⟨us ++ [u], by simp [e], fun i hu hi => ?_⟩
        by_cases c : i < us.length
        · rw [List.getElem_append_left c]; exact hc i c hi
        · have : i = m := by simp at hu; omega
          subst this
          rw [List.getElem_append_right (by omega)]
          simp only [e, Nat.sub_self, List.getElem_cons_zero]
          exact ⟨c0, c1⟩
    obtain ⟨us, e, hc⟩ := pick L.length (Nat.le_refl _)
    exact ⟨_, cap, rfl, h1, h2, us, e, .inr ⟨b, rfl, fun i hi => (hc i hi (by omega)).1⟩, fun i hi hu => (hc i hu hi).2⟩
theorem byts_one {x : Value} (h : Byts w x l) : x.oneCell' = true := by obtain ⟨p, cap, rfl, _⟩ := h; rfl
theorem row_far {T : TypeId} {base n kk : Nat} {ys : List Value} (h : w.ownsRow base T kk v n ys) {p : Addr} (hp : p.block < base) (x : Value) : (w.setCell p x).ownsRow base T kk v n ys := by
  refine ⟨h.1, ?_⟩
  rcases h.2 with hn | ⟨g, cap, cur, rfl, hb, hg, rest⟩
  · exact .inl hn
  · exact .inr ⟨g, cap, cur, rfl, hb, by rw [Below.heap_setCell _ _ _ _ (by omega)]; exact hg, rest⟩
theorem row_new {T : TypeId} {base n kk : Nat} {ys : List Value} (h : w.ownsRow base T kk v n ys) (k : New w w') : w'.ownsRow base T kk v n ys := by
  refine ⟨h.1, ?_⟩
  rcases h.2 with hn | ⟨g, cap, cur, rfl, hb, hg, rest⟩
  · exact .inl hn
  · exact .inr ⟨g, cap, cur, rfl, hb, by rw [k.block (Array.getElem?_eq_some_iff.1 hg).1]; exact hg, rest⟩
/-- a world's four cells, stored -/
def st4 (w : World) (b : Nat) (x y z u : Value) : World := (((w.setCell ⟨b, 0, none⟩ x).setCell ⟨b, 1, none⟩ y).setCell ⟨b, 2, none⟩ z).setCell ⟨b, 3, none⟩ u
theorem row_st4 {T : TypeId} {base n b kk : Nat} {ys : List Value} (h : w.ownsRow base T kk v n ys) (hp : b < base) (x y z t : Value) : (st4 w b x y z t).ownsRow base T kk v n ys :=
  row_far (row_far (row_far (row_far h (p := ⟨b, 0, none⟩) hp x) (p := ⟨b, 1, none⟩) hp y) (p := ⟨b, 2, none⟩) hp z) (p := ⟨b, 3, none⟩) hp t
theorem Box.st4 {b : Nat} {x y z t x' y' z' t' : Value} {T : TypeId} (h : Box w b #[x, y, z, t] T) : Box (st4 w b x' y' z' t') b #[x', y', z', t'] T := (((h.set 0 x').set 1 y').set 2 z').set 3 t'
theorem New.st4 {b : Nat} (h : New W w) (hb : W.heap.size ≤ b) (x y z t : Value) : New W (st4 w b x y z t) :=
  (((h.setCell (p := ⟨b, 0, none⟩) hb x).setCell (p := ⟨b, 1, none⟩) hb y).setCell (p := ⟨b, 2, none⟩) hb z).setCell (p := ⟨b, 3, none⟩) hb t
/-- a row of slices and what lies in them, as bytes by numbers -/
theorem rows_bss {L : List (List Int)} {us : List Value} {base : Nat} (h : w.ownsRow base 28 1 v us.length us) (hl : us.length = L.length) (hb : ∀ i (hi : i < L.length) (hu : i < us.length), Byts w us[i] L[i]) : Bss w v L := OwnV.bss ⟨us, hl, h, hb⟩
set_option maxHeartbeats 2000000 in
theorem rmade_any (V : Value) (h : DWv w V d) (b : List Int) (hb : Byts w v b) (ht : -1000000 ≤ d.taken ∧ d.taken ≤ 1000000) (h1 : d.by_.length ≤ 100000) (h2 : d.rf.length ≤ 100000) :
    Calls Tryz.prog 122 #[V, v] w fun e w' => ∃ V', e = .returned (.tuple #[V', .int .i64 (d.rf.length : Int)]) ∧ DWv w' V' (dmade d b) ∧ New w w' := by
  obtain ⟨vb, vr, rfl, hB, hR⟩ := h
  obtain ⟨pb, cb, rfl, q1, q2, us, hus, hu, hub⟩ := hB.clip1
  obtain ⟨pr, cr, rfl, r1, r2, hr⟩ := hR.clip1
  obtain ⟨p, cap, rfl, hlm⟩ : ∃ p cap, v = .slice p b.length cap ∧ b.length ≤ maxLen := by obtain ⟨p, cap, h1, h2, _⟩ := hb; exact ⟨p, cap, h1, h2⟩
  obtain ⟨E1, hE1⟩ : ∃ E, E = ((w.alloc (.cells #[.int .i64 d.many, .int .i64 (d.taken + 1), .slice pb d.by_.length cb, .slice pr d.rf.length cr] 63)).alloc (.cells #[.int .i64 0, .int .i64 0, .slice none 0 0, .slice none 0 0] 63)).alloc (.cells #[.slice p b.length cap] 28) := ⟨_, rfl⟩
  have n1 : New w E1 := by rw [hE1]; exact (((New.refl w).alloc _ _).alloc _ _).alloc _ _
  have hx1 : E1.cell? ⟨w.heap.size + 1 + 1, 0, none⟩ = some (.slice p b.length cap) := by rw [hE1]; exact (Box.here _ _ _ _ (by rw [World.size_alloc, World.size_alloc])).one
  have bA : Box E1 w.heap.size #[.int .i64 d.many, .int .i64 (d.taken + 1), .slice pb d.by_.length cb, .slice pr d.rf.length cr] 63 := by rw [hE1]; exact ((Box.here w _ _ _ rfl).alloc _).alloc _
  have bZ : Box E1 (w.heap.size + 1) #[.int .i64 0, .int .i64 0, .slice none 0 0, .slice none 0 0] 63 := by rw [hE1]; exact (Box.here _ _ _ _ (by simp)).alloc _
  have hu1 : (pb = none ∧ us = []) ∨ ∃ b, pb = some ⟨b, 0, none⟩ ∧ ∀ i (hi : i < us.length), E1.cell? ⟨b, i, none⟩ = some us[i] := by
    rcases hu with h | ⟨b, h, k⟩
    · exact .inl h
    · exact .inr ⟨b, h, fun i hi => n1.keeps (k i hi)⟩
  have one : ∀ y ∈ us, y.oneCell' = true := by
    intro y hy
    obtain ⟨i, hi, rfl⟩ := List.mem_iff_getElem.1 hy
    exact byts_one (hub i (by omega) hi)
  obtain ⟨v1, w1, k1, o1, x1⟩ := clip_cells Tryz.underlying61 slb_info rfl (by omega) (New.refl E1) hu1 one hx1 rfl (by omega)
  rw [hus] at k1
  have s1 : E1.heap.size = w.heap.size + 1 + 1 + 1 := by rw [hE1]; simp [World.size_alloc]
  have m1 := n1.trans x1
  have bA1 : Box (w1.setCell ⟨w.heap.size, 2, none⟩ v1) w.heap.size #[.int .i64 d.many, .int .i64 (d.taken + 1), v1, .slice pr d.rf.length cr] 63 := (bA.new x1).set 2 v1
  have bZ1 := (bZ.new x1).other (p := ⟨w.heap.size, 2, none⟩) (by simp) v1
  have m2 := m1.setCell (p := ⟨w.heap.size, 2, none⟩) (Nat.le_refl _) v1
  obtain ⟨E2, hE2⟩ : ∃ E, E = (w1.setCell ⟨w.heap.size, 2, none⟩ v1).alloc (.cells #[.int .i64 1] 3) := ⟨_, rfl⟩
  have n2 : New w E2 := by rw [hE2]; exact m2.alloc _ _
  have hs1 : (w1.setCell ⟨w.heap.size, 2, none⟩ v1).heap.size = w1.heap.size := by simp [World.setCell]
  have hx2 : E2.cell? ⟨w1.heap.size, 0, none⟩ = some (.int .i64 1) := by rw [hE2]; exact (Box.here _ _ _ _ hs1.symm).one
  have hr1 : (pr = none ∧ d.rf.map (Value.int .i64) = []) ∨ ∃ b, pr = some ⟨b, 0, none⟩ ∧ ∀ i (hi : i < (d.rf.map (Value.int .i64)).length), E2.cell? ⟨b, i, none⟩ = some (d.rf.map (Value.int .i64))[i] := by
    rcases hr with h | ⟨b, h, k⟩
    · exact .inl h
    · exact .inr ⟨b, h, fun i hi => n2.keeps (k i hi)⟩
  obtain ⟨v2, w2, k2, o2, x2⟩ := clip_cells Tryz.underlying43 int_info rfl (by omega) (New.refl E2) hr1 (ints_one d.rf) hx2 rfl (by simp; omega)
  rw [List.length_map] at k2
  have s2 : E2.heap.size = w1.heap.size + 1 := by rw [hE2, World.size_alloc, hs1]
  have m3 := n2.trans x2
  have bA2 : Box E2 w.heap.size #[.int .i64 d.many, .int .i64 (d.taken + 1), v1, .slice pr d.rf.length cr] 63 := by rw [hE2]; exact bA1.alloc _
  have bZ2 : Box E2 (w.heap.size + 1) #[.int .i64 0, .int .i64 0, .slice none 0 0, .slice none 0 0] 63 := by rw [hE2]; exact bZ1.alloc _
  have bA3 : Box (w2.setCell ⟨w.heap.size, 3, none⟩ v2) w.heap.size #[.int .i64 d.many, .int .i64 (d.taken + 1), v1, v2] 63 := (bA2.new x2).set 3 v2
  have bZ3 := (bZ2.new x2).other (p := ⟨w.heap.size, 3, none⟩) (by simp) v2
  have hsz : E1.heap.size ≤ w1.heap.size := x1.size
  have OO1 := row_far (row_new (row_new (row_far o1 (p := ⟨w.heap.size, 2, none⟩) (by simp only; omega) v1) (by rw [hE2]; exact (New.refl _).alloc _ _)) x2) (p := ⟨w.heap.size, 3, none⟩) (by simp only; omega) v2
  have OO2 := row_far o2 (p := ⟨w.heap.size, 3, none⟩) (by simp only; omega) v2
  obtain ⟨pv1, kv1, q3⟩ : ∃ p k, v1 = .slice p (d.by_.length + 1) k := by
    have hl : (us ++ [Value.slice p b.length cap]).length = d.by_.length + 1 := by simp [hus]
    rw [hl] at o1
    rcases o1.2 with ⟨rfl, hn⟩ | ⟨g, cap, cur, rfl, _⟩
    · omega
    · exact ⟨_, _, rfl⟩
  obtain ⟨pv2, kv2, q4⟩ : ∃ p k, v2 = .slice p (d.rf.length + 1) k := by
    have hl : (d.rf.map (Value.int .i64) ++ [Value.int .i64 1]).length = d.rf.length + 1 := by simp
    rw [hl] at o2
    rcases o2.2 with ⟨rfl, hn⟩ | ⟨g, cap, cur, rfl, _⟩
    · omega
    · exact ⟨_, _, rfl⟩
  subst q3
  subst q4
  obtain ⟨_, _, e2, e3⟩ := (bA.new x1).four
  obtain ⟨_, _, _, a3⟩ := bA1.four
  obtain ⟨_, _, _, g3⟩ := (bA2.new x2).four
  obtain ⟨c0, c1, c2, c3⟩ := bA3.four
  obtain ⟨z0, z1, z2, z3⟩ := bZ3.four
  have f2 := (bA.new x1).unfrozen 2
  have f3 := (bA2.new x2).unfrozen 3
  have y0 := bZ3.unfrozen 0
  have y1 := bZ3.unfrozen 1
  have y2 := bZ3.unfrozen 2
  have y3 := bZ3.unfrozen 3
  have HW := Lib.hid (show ∀ W, W = (st4 (w2.setCell ⟨w.heap.size, 3, none⟩ (.slice pv2 (d.rf.length + 1) kv2)) (w.heap.size + 1) (.int .i64 d.many) (.int .i64 (d.taken + 1)) (.slice pv1 (d.by_.length + 1) kv1) (.slice pv2 (d.rf.length + 1) kv2)).drew →
      Box W (w.heap.size + 1) #[.int .i64 d.many, .int .i64 (d.taken + 1), .slice pv1 (d.by_.length + 1) kv1, .slice pv2 (d.rf.length + 1) kv2] 63 ∧ DWv W (.agg #[.int .i64 d.many, .int .i64 (d.taken + 1), .slice pv1 (d.by_.length + 1) kv1, .slice pv2 (d.rf.length + 1) kv2]) (dmade d b) ∧ New w W from by
    intro W hW
    have nw : New w W := by rw [hW]; exact ((m3.setCell (p := ⟨w.heap.size, 3, none⟩) (Nat.le_refl _) _).st4 (by omega) _ _ _ _).drew
    have rr1 := row_new (row_st4 OO1 (b := w.heap.size + 1) (by omega) (.int .i64 d.many) (.int .i64 (d.taken + 1)) (.slice pv1 (d.by_.length + 1) kv1) (.slice pv2 (d.rf.length + 1) kv2)) (New.refl _).drew
    have rr2 := row_new (row_st4 OO2 (b := w.heap.size + 1) (by omega) (.int .i64 d.many) (.int .i64 (d.taken + 1)) (.slice pv1 (d.by_.length + 1) kv1) (.slice pv2 (d.rf.length + 1) kv2)) (New.refl _).drew
    have z := (Box.st4 bZ3 (x' := .int .i64 d.many) (y' := .int .i64 (d.taken + 1)) (z' := .slice pv1 (d.by_.length + 1) kv1) (t' := .slice pv2 (d.rf.length + 1) kv2)).new (New.refl _).drew
    rw [← hW] at rr1 rr2 z
    have key : ∀ i (h1 : i < (d.by_ ++ [b]).length) (h2 : i < (us ++ [Value.slice p b.length cap]).length), Byts W (us ++ [Value.slice p b.length cap])[i] (d.by_ ++ [b])[i] := by
      intro i h1 h2
      by_cases c : i < us.length
      · rw [List.getElem_append_left c, List.getElem_append_left (show i < d.by_.length by omega)]; exact (hub i (by omega) c).new nw
      · have : i = us.length := by simp at h2; omega
        subst this
        rw [List.getElem_append_right (Nat.le_refl _), List.getElem_append_right (show d.by_.length ≤ us.length by omega)]
        simp only [hus, Nat.sub_self, List.getElem_cons_zero]
        exact hb.new nw
    refine ⟨z, ⟨_, _, rfl, rows_bss rr1 (by simp [dmade, hus]) key, ?_⟩, nw⟩
    · refine Own.ints (base := E2.heap.size) ?_
      unfold Own
      have e : d.rf.map (Value.int .i64) ++ [Value.int .i64 1] = (dmade d b).rf.map (Value.int .i64) := by simp [dmade]
      rw [e, List.length_map] at rr2
      exact rr2)
  rw [hE1] at k1
  rw [hE2] at k2
  clear hB hR hu hub hr hb bA bZ hu1 hx1 n1 bA1 bZ1 m2 hs1 n2 hx2 hr1 bA2 bZ2 bA3 bZ3 o1 o2 m3 x2 x1 m1 OO1 OO2 one hsz s1 s2 hus hE2 hE1
  go_enter Tryz.func122, Tryz.ntmps122
  go_upto_region 3 with (at_builtin; refine Lib.wpList_append_run _ rfl _ _ _ _ rfl _ _ rfl rfl _ _ k1 ?_)
  go_wp2_with (at_builtin; refine Lib.wpList_append_run _ rfl _ _ _ _ rfl _ _ rfl rfl _ _ k2 ?_)
  go_region
  all_goals
    rename_i hret
    refine hret _ _ (wp_ret ?_)
    obtain ⟨Z, D, N⟩ := HW.out _ rfl
    unfold st4 at Z D N
    obtain ⟨r0, r1, r2, r3⟩ := Z.four
    exact bodyPost_ret (v := .tuple #[.agg #[.int .i64 d.many, .int .i64 (d.taken + 1), .slice pv1 (d.by_.length + 1) kv1, .slice pv2 (d.rf.length + 1) kv2], .int .i64 (d.rf.length : Int)]) (by simp [results, Tryz.results122, go_sem, r0, r1, r2, r3]) rfl ⟨_, rfl, D, N⟩
end
end Go.Proofs.YtgedimlhldfkaaaGreatDoor
namespace Go.Proofs.YtgedimlhldfkaaaGreatDoor
open Go.RowKit
set_option linter.unusedVariables false
set_option maxRecDepth 100000
section
variable {w w' : World} {X : Nat → Prop} {b : Nat} {v V : Value}
theorem cell_but {a : Addr} {u : Value} (k : But X w w') (hX : ∀ g, X g → g < b) (ha : b ≤ a.block) (h : w.cell? a = some u) : w'.cell? a = some u := by
  rw [k.cell (cell_lt h) (fun x => by have := hX _ x; omega)]; exact h
theorem int_aside {n : Nat} {cs : Array Value} {T : TypeId} {K : IntKind} {x : Int} {a : Addr} (hB : Box w n cs T) (hcs : ∀ u ∈ cs.toList, ∀ K x, u ≠ .int K x) (k : But (fun g => g = n) w w') (h : w.cell? a = some (.int K x)) : w'.cell? a = some (.int K x) := by
  rw [k.cell (cell_lt h) (fun e => ?_)]
  · exact h
  · have e : a.block = n := e
    unfold World.cell? at h
    rw [e, hB] at h
    have : (Value.int K x) ∈ cs.toList := by
      simp only at h
      split at h
      · cases h
      · exact Array.mem_toList_iff.2 (Array.mem_of_getElem? h)
    exact hcs _ this _ _ rfl
theorem add_block (a : Addr) (i : Nat) : (a.add i).block = a.block := by unfold Addr.add; split <;> rfl
theorem Rgs.but {l : List Rg} (h : Rgs w v l) (hv : VB b v) (k : But X w w') (hX : ∀ g, X g → g < b) : Rgs w' v l := by
  obtain ⟨p, cap, rfl, h1, h2, h3⟩ := h
  refine ⟨p, cap, rfl, h1, h2, fun i hi => ?_⟩
  obtain ⟨x, rfl, r1, r2, r3⟩ := h3 i hi
  have hx := hv x _ _ rfl
  have e := add_block x (i * 3)
  exact ⟨x, rfl, cell_but k hX (by omega) r1, cell_but k hX (by simp only; omega) r2, cell_but k hX (by simp only; omega) r3⟩
theorem Itp.but {l : List (Int × Int)} (h : Itp w v l) (hv : VB b v) (k : But X w w') (hX : ∀ g, X g → g < b) : Itp w' v l := by
  rcases h with h | ⟨g, cap, rfl, h1, h2, h3, h4⟩
  · exact .inl h
  · have hg := hv _ _ _ rfl
    exact .inr ⟨g, cap, rfl, h1, h2, Nat.lt_of_lt_of_le h3 k.size, fun i hi => ⟨cell_but k hX hg (h4 i hi).1, cell_but k hX hg (h4 i hi).2⟩⟩
theorem Ints.but {l : List Int} (h : Ints w v l) (hv : VB b v) (k : But X w w') (hX : ∀ g, X g → g < b) : Ints w' v l := by
  rcases h with h | ⟨g, cap, rfl, h1, h2, h3, h4⟩
  · exact .inl h
  · have hg := hv _ _ _ rfl
    exact .inr ⟨g, cap, rfl, h1, h2, Nat.lt_of_lt_of_le h3 k.size, fun i hi => cell_but k hX hg (h4 i hi)⟩
theorem DSv.but {s : DS} (h : DSv w V s) (hv : VS b V) (k : But X w w') (hX : ∀ g, X g → g < b) : DSv w' V s := by
  obtain ⟨vR, vL, vU, rfl, h1, h2, h3⟩ := h
  obtain ⟨v1, v2, v3⟩ := hv.parts
  exact ⟨vR, vL, vU, rfl, h1.but v1 k hX, h2.but v2 k hX, h3.but v3 k hX⟩
theorem Rgs.aside {n : Nat} {cs : Array Value} {T : TypeId} {l : List Rg} (h : Rgs w v l) (hB : Box w n cs T) (hcs : ∀ u ∈ cs.toList, ∀ K x, u ≠ .int K x) (k : But (fun g => g = n) w w') : Rgs w' v l := by
  obtain ⟨p, cap, rfl, h1, h2, h3⟩ := h
  refine ⟨p, cap, rfl, h1, h2, fun i hi => ?_⟩
  obtain ⟨x, rfl, r1, r2, r3⟩ := h3 i hi
  exact ⟨x, rfl, int_aside hB hcs k r1, int_aside hB hcs k r2, int_aside hB hcs k r3⟩
theorem Itp.aside {n : Nat} {cs : Array Value} {T : TypeId} {l : List (Int × Int)} (h : Itp w v l) (hB : Box w n cs T) (hcs : ∀ u ∈ cs.toList, ∀ K x, u ≠ .int K x) (k : But (fun g => g = n) w w') : Itp w' v l := by
  rcases h with h | ⟨g, cap, rfl, h1, h2, h3, h4⟩
  · exact .inl h
  · exact .inr ⟨g, cap, rfl, h1, h2, Nat.lt_of_lt_of_le h3 k.size, fun i hi => ⟨int_aside hB hcs k (h4 i hi).1, int_aside hB hcs k (h4 i hi).2⟩⟩
theorem Ints.aside {n : Nat} {cs : Array Value} {T : TypeId} {l : List Int} (h : Ints w v l) (hB : Box w n cs T) (hcs : ∀ u ∈ cs.toList, ∀ K x, u ≠ .int K x) (k : But (fun g => g = n) w w') : Ints w' v l := by
  rcases h with h | ⟨g, cap, rfl, h1, h2, h3, h4⟩
  · exact .inl h
  · exact .inr ⟨g, cap, rfl, h1, h2, Nat.lt_of_lt_of_le h3 k.size, fun i hi => int_aside hB hcs k (h4 i hi)⟩
theorem DSv.aside {n : Nat} {cs : Array Value} {T : TypeId} {s : DS} (h : DSv w V s) (hB : Box w n cs T) (hcs : ∀ u ∈ cs.toList, ∀ K x, u ≠ .int K x) (k : But (fun g => g = n) w w') : DSv w' V s := by
  obtain ⟨vR, vL, vU, rfl, h1, h2, h3⟩ := h
  exact ⟨vR, vL, vU, rfl, h1.aside hB hcs k, h2.aside hB hcs k, h3.aside hB hcs k⟩
theorem but_st4 (w : World) (n : Nat) (x y z t : Value) : But (fun g => g = n) w ((((w.setCell ⟨n, 0, none⟩ x).setCell ⟨n, 1, none⟩ y).setCell ⟨n, 2, none⟩ z).setCell ⟨n, 3, none⟩ t) :=
  have k : ∀ (W : World) (i : Nat) (v : Value), But (fun g => g = n) W (W.setCell ⟨n, i, none⟩ v) := fun W i v => But.set (S := fun g => g = n) W (p := ⟨n, i, none⟩) rfl v
  (((k _ _ _).trans (k _ _ _)).trans (k _ _ _)).trans (k _ _ _)
/-- a space's block that holds nothing yet -/
theorem nils_noint (u : Value) (h : u ∈ (#[.slice none 0 0, .slice none 0 0, .slice none 0 0, .bool false] : Array Value).toList) (K : IntKind) (x : Int) : u ≠ .int K x := by
  simp at h
  rcases h with rfl | rfl <;> simp
theorem slc_noint {x y z : Value} {g : Bool} (h1 : Slc x) (h2 : Slc y) (h3 : Slc z) (u : Value) (h : u ∈ (#[x, y, z, .bool g] : Array Value).toList) (K : IntKind) (n : Int) : u ≠ .int K n := by
  obtain ⟨_, _, _, rfl⟩ := h1
  obtain ⟨_, _, _, rfl⟩ := h2
  obtain ⟨_, _, _, rfl⟩ := h3
  simp at h
  rcases h with rfl | rfl | rfl | rfl <;> simp
theorem DSv.slcs {s : DS} {x y z g : Value} (h : DSv w (.agg #[x, y, z, g]) s) : Slc x ∧ Slc y ∧ Slc z := by
  obtain ⟨_, _, _, e, h1, h2, h3⟩ := h
  cases e
  exact ⟨h1.slc, h2.slc, h3.slc⟩
end
end Go.Proofs.YtgedimlhldfkaaaGreatDoor
