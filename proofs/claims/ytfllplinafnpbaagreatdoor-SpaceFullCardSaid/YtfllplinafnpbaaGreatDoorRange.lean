/- A range over a function that is a method value, where the loop's body always goes on: one law for the statement, from a contract of the iterator and one walk of the body. -/
import Derived.Test.YtfllplinafnpbaaGreatDoorBase
import Derived.Test.YtfllplinafnpbaaGreatDoorFar
import Derived.Test.YtfllplinafnpbaaGreatDoorTbC
import Derived.RangeFuncNested
import Derived.RangeFuncBound
import Derived.RangeFuncCalls
import Derived.RangeFuncLeaves
import Derived.Shelf.Abstract
import Derived.Shelf.RegionOpen
import Derived.OwnWalkIn
import Derived.TacticsInMore
import Derived.LoopNIn
import Derived.LoopIn
namespace Go.Proofs.YtfllplinafnpbaaGreatDoor
open Go.RowKit Go.Shelf
set_option linter.unusedVariables false
/-- below B nothing has changed, and no cells from B on -/
def Cel (B : Nat) (W W' : World) : Prop := W'.os = W.os ∧ W'.tape = W.tape ∧ W'.output = W.output ∧ W.heap.size ≤ W'.heap.size ∧ ∀ k, k < W.heap.size → (k < B ∨ ∃ o, W.heap[k]? = some o ∧ o.isCells = true) → W'.heap[k]? = W.heap[k]?
theorem Cel.of_new {W W' : World} (B : Nat) (h : New W W') : Cel B W W' := ⟨h.os, h.tape, h.output, h.size, fun k hk _ => h.block hk⟩
theorem Cel.put {W : World} {B l : Nat} {o : Obj} (o' : Obj) (hB : B ≤ l) (hl : W.heap[l]? = some o) (ho : o.isCells = false) : Cel B W (W.putObj l o') :=
  ⟨rfl, rfl, rfl, by simp, fun k hk hs => World.putObj_heap_other (by
    rintro rfl
    rcases hs with hs | ⟨q, hq, hc⟩
    · omega
    · rw [hl] at hq; cases hq; rw [ho] at hc; cases hc)⟩
theorem But.cel {S : Nat → Prop} {B : Nat} {w W W' : World} (h : But S w W) (k : Cel B W W') (hB : w.heap.size ≤ B) : But S w W' :=
  ⟨k.1.trans h.1, k.2.1.trans h.2.1, k.2.2.1.trans h.2.2.1, Nat.le_trans h.2.2.2.1 k.2.2.2.1, fun i hi hn => (k.2.2.2.2 i (Nat.lt_of_lt_of_le hi h.2.2.2.1) (.inl (by omega))).trans (h.2.2.2.2 i hi hn)⟩
theorem New.cel {B : Nat} {w W W' : World} (h : New w W) (k : Cel B W W') (hB : w.heap.size ≤ B) : New w W' :=
  ⟨k.1.trans h.os, k.2.1.trans h.tape, k.2.2.1.trans h.output, Nat.le_trans h.size k.2.2.2.1, fun i hi => (k.2.2.2.2 i (Nat.lt_of_lt_of_le hi h.size) (.inl (by omega))).trans (h.block hi)⟩
theorem Box.cel {B n : Nat} {W W' : World} {cs : Array Value} {t : TypeId} (h : Box W n cs t) (k : Cel B W W') : Box W' n cs t := by
  unfold Box; rw [k.2.2.2.2 n h.lt (.inr ⟨_, h, rfl⟩)]; exact h
theorem keeps_new {W W' : World} (h : New W W') : KeepsOthers W W' := ⟨h.size, fun k o hk _ => by rw [h.block (Array.getElem?_eq_some_iff.1 hk).1]; exact hk⟩
theorem keeps_far {W W' : World} {rb : Nat} (h : Far rb W W') (hr : ∃ o, W.heap[rb]? = some o ∧ o.isCells = true) : KeepsOthers W W' := ⟨h.size, fun k o hk ho => by
  obtain ⟨q, hq, hc⟩ := hr
  rw [h.block (Array.getElem?_eq_some_iff.1 hk).1 (by rintro rfl; rw [hk] at hq; cases hq; rw [ho] at hc; cases hc)]; exact hk⟩
/-- what a round may change as far as the iterator goes: block rb, and whatever lies from n0 on -/
def Kept (rb n0 : Nat) (W W' : World) : Prop := But (fun k => k = rb ∨ n0 ≤ k) W W'
/-- how the body of a round is left -/
def onPost {α : Type} (rb n0 : Nat) (I : List α → World → Prop) (xs : List α) (W : World) : Exit → Act → World → Prop
  | .normal, _, W' => KeepsOthers W W' ∧ Kept rb n0 W W' ∧ I xs W'
  | _, _, _ => False
/-- an iterator that is a method value: all of xs come, one by one, whatever the rounds do that leave rb and what lies from n0 on -/
def Iter {α : Type} (P : Program) (gf : Nat) (fs : Array Value) (encs : α → Array Value) (rb n0 : Nat) (xs : List α) (w : World) : Prop :=
  ∀ (l : Nat) (J : List α → World → Prop) (W : World), New w W → (∀ pre W1 W2, J pre W1 → New W1 W2 → J pre W2) →
    (∀ pre x W1, J pre W1 → pre ++ [x] <+: xs → YieldAt Fence.wide 1 P l (encs x) W1 fun e W' => e = .returned (.bool true) ∧ J (pre ++ [x]) W' ∧ Kept rb n0 W1 W') →
    J [] W → CallsIn Fence.wide 2 P gf (fs ++ #[.func (.yield l) #[] #[]]) W fun e W' => (∃ v, e = .returned v) ∧ J xs W'
theorem range_all {α : Type} {P : Program} {g : Operand} {ps : Array Tmp} {assign body : Code} {Q : Exit → Act → World → Prop} {a : Act} {w : World} {gf : Nat} {fs : Array Value} (hg : a.eval g = .func (.func gf) fs #[])
    (eg : ∀ args w, (callFunc gf args).run P w = .ok (.enter gf args) w) {encs : α → Array Value} {rb n0 : Nat} {xs : List α} (hseq : Iter P gf fs encs rb n0 xs w) (hn : n0 ≤ w.heap.size) (hps : ∀ x, (encs x).size = ps.size)
    (I : List α → World → Prop) (hI : ∀ pre W W', I pre W → Cel w.heap.size W W' → I pre W') (h0 : I [] w) (a₁ : α → Act)
    (hassign : ∀ (l : Nat) (x : α) (W : World) (K : Act → World → Prop), K (a₁ x) W →
      assign.wpIn (Fence.wide.inRound l) 1 P (Exit.then K (fun _ _ _ => False)) { tmps := (ps.zip (encs x)).foldl (fun t (p, v) => t.setIfInBounds p v) a.tmps, defers := [] } W)
    (hbody : ∀ (l : Nat) (pre : List α) (x : α) (W : World), I pre W → pre ++ [x] <+: xs → w.heap.size ≤ W.heap.size → body.wpIn (Fence.wide.inRound l) 1 P (onPost rb n0 I (pre ++ [x]) W) (a₁ x) W)
    (hdone : ∀ (D : Nat) (W : World), w.heap.size ≤ D → I xs W → W.heap[D]? = some (.deferred (some [])) → Q .normal { a with defers := { target := .collected D, args := #[] } :: a.defers } W) :
    (Code.rangeFunc g ps assign body).wpIn Fence.wide 3 P Q a w := by
  refine wpIn_rangeFunc fun fn hfn => ?_
  obtain ⟨B, hB⟩ : ∃ B, B = w.heap.size := ⟨_, rfl⟩
  obtain ⟨R, hR⟩ : ∃ R : LoopState → Loop, R = fun st => { state := st, pending := none, fn, tmps := a.tmps, params := ps, assign, body, defers := B } := ⟨_, rfl⟩
  obtain ⟨W1, e1⟩ : ∃ W1, W1 = (w.alloc (.deferred (some []))).alloc (.loop (R .ready)) := ⟨_, rfl⟩
  have n1 : New w W1 := by rw [e1]; exact ((New.refl w).allocO _).allocO _
  have r1 : W1.heap[B + 1]? = some (.loop (R .ready)) := by
    have := World.alloc_heap_new (w.alloc (.deferred (some []))) (.loop (R .ready)); rw [e1]; rwa [World.size_alloc, ← hB] at this
  have d1 : W1.heap[B]? = some (.deferred (some [])) := by
    rw [e1, hB]; exact (Below.heap_alloc _ _ _ (by simp)).trans (World.alloc_heap_new w _)
  refine ⟨B + 1, [{ target := .collected B, args := #[] }], W1, { target := .fn (.func gf) #[], args := fs ++ #[.func (.yield (B + 1)) #[] #[]] }, W1, gf,
    fs ++ #[.func (.yield (B + 1)) #[] #[]], W1, ?_, ?_, fun _ _ => trivial, ?_, fun _ => by omega, ?_⟩
  · rw [e1, hR, hB]; exact run_enterLoop_outer _ _ _ _ _
  · simp only [resolve, hg]
    simp [go_sem]
  · simp [invoke, go_sem, eg]
  have hI' : ∀ pre W1 W2, I pre W1 → New W1 W2 → I pre W2 := fun pre W1 W2 h k => hI pre W1 W2 h (Cel.of_new _ k)
  have put : ∀ pre W o, I pre W → W.heap[B + 1]? = some (.loop (R o)) → ∀ q, I pre (W.putObj (B + 1) (.loop (R q))) := fun pre W o h k q => hI pre W _ h (Cel.put _ (by omega) k rfl)
  refine (hseq (B + 1) (fun pre W => I pre W ∧ W.heap[B + 1]? = some (.loop (R .ready)) ∧ W.heap[B]? = some (.deferred (some []))) _ n1 ?_ ?_ ⟨hI' _ _ _ h0 n1, r1, d1⟩).mono ?_
  · rintro pre W1 W2 ⟨i1, i2, i3⟩ k
    exact ⟨hI' _ _ _ i1 k, by rw [k.block (Array.getElem?_eq_some_iff.1 i2).1]; exact i2, by rw [k.block (Array.getElem?_eq_some_iff.1 i3).1]; exact i3⟩
  · rintro pre x W ⟨i1, i2, i3⟩ hx
    have lt := (Array.getElem?_eq_some_iff.1 i2).1
    have hy := run_yield (P := P) (args := encs x) i2 (by rw [hR]; exact hps x)
    rw [hR] at hy
    refine ⟨fn, _, assign, body, hy, roundIn_of_wpIn hfn (hassign _ x W _ ⟨_, run_beginRound i2 (by rw [hR]), ?_⟩)⟩
    have e2 : ({ R .ready with state := .busy } : Loop) = R .busy := by rw [hR]
    rw [e2]
    have j2 : (W.putObj (B + 1) (.loop (R .busy))).heap[B + 1]? = some (.loop (R .busy)) := World.putObj_heap_same lt
    have j3 : (W.putObj (B + 1) (.loop (R .busy))).heap[B]? = some (.deferred (some [])) := (World.putObj_heap_other (by omega)).trans i3
    refine wpIn_mono (hbody _ pre x _ (put _ _ _ i1 i2 _) hx (by simp; omega)) ?_
    rintro e a3 W3 hp
    cases e with
    | normal =>
      obtain ⟨k1, k2, k3⟩ := hp
      have l2 := k1.same _ _ j2 rfl
      have l3 := k1.same _ _ j3 rfl
      have lt3 := (Array.getElem?_eq_some_iff.1 l2).1
      have hr := run_endRound (P := P) none l2
      have e3 : ({ R .busy with state := .ready, pending := none } : Loop) = R .ready := by rw [hR]
      simp only [Option.isNone_none, if_true, e3] at hr
      refine ⟨_, _, hr, rfl, ⟨put _ _ _ k3 l2 _, World.putObj_heap_same lt3, (World.putObj_heap_other (by omega)).trans l3⟩, ?_⟩
      have p1 : Kept rb n0 W (W.putObj (B + 1) (.loop (R .busy))) := ⟨rfl, rfl, rfl, by simp, fun k hk hs => World.putObj_heap_other (by rintro rfl; exact hs (.inr (by omega)))⟩
      have p3 : Kept rb n0 W3 (W3.putObj (B + 1) (.loop (R .ready))) := ⟨rfl, rfl, rfl, by simp, fun k hk hs => World.putObj_heap_other (by rintro rfl; exact hs (.inr (by omega)))⟩
      exact (p1.trans k2).trans p3
    | ret => exact hp.elim
    | exit id => exact hp.elim
    | goto t => exact hp.elim
    | panic ch => exact hp.elim
    | outgrown => exact hp.elim
  · rintro e W2 ⟨⟨v, rfl⟩, i1, i2, i3⟩
    have hr := run_endLoop (P := P) i2 (by rw [hR]; simp)
    have e4 : (R .ready).pending = none := by rw [hR]
    rw [e4] at hr
    refine ⟨none, _, hr, hdone B _ (by omega) (hI _ _ _ i1 (Cel.put _ (by omega) i2 rfl)) ((World.putObj_heap_other (by omega)).trans i3)⟩
end Go.Proofs.YtfllplinafnpbaaGreatDoor
