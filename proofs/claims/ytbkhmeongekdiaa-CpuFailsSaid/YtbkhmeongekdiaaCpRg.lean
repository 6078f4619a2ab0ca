/- A region that lays a board of one word, does a step on it, and keeps registers and event in variables of their own, in whatever order that comes up: what holds on the way. -/
import Derived.Test.YtbkhmeongekdiaaCpSt
import Derived.Test.YtbkhmeongekdiaaCpA
import Derived.Test.YtbkhmeongekdiaaRegO
import Derived.RegionTactic
namespace Go.Proofs.Ytbkhmeongekdiaa
open Go.RowKit Go.Joins
set_option linter.unusedVariables false
set_option maxRecDepth 100000
abbrev ptr (b : Nat) : Value := .pointer (some ⟨b, 0, none⟩)
abbrev R0 : List Value := rc (fun _ => 0) fun _ => 0
abbrev E0 : List Value := [.int .i64 0, .int .i64 0, .int .u32 0]
theorem w32_one (w : World) (C : Int) (h : 0 ≤ C ∧ C ≤ 4294967295) : W32 (w.alloc (.cells #[.int .u32 C] 23)) (some ⟨w.heap.size, 0, none⟩) [C] := by
  refine ⟨fun j hj => ?_, fun v hv => ?_, by show 1 ≤ maxLen; unfold maxLen; omega⟩
  · obtain rfl : j = 0 := by simp at hj; omega
    exact ⟨_, rfl, by rw [Addr.add_mid]; exact (Box.here w w.heap.size #[.int .u32 C] 23 rfl).one⟩
  · rw [List.mem_singleton.1 hv]; exact h
/-- 0 the word, 1 a slice of it, 2 the board, 3 as a bus, 4 the registers, 5 6 what came of the step, 7 8 its parts, 9 10 the variables, 11 12 that they are stored -/
structure StepI (W : World) (C : Int) (X R E : List Value) (l : Nat → Bool) (g : Nat → Value) (w : World) : Prop where
  n : New W w
  c0 : l 0 = true → g 0 = .int .u32 C
  c1 : l 1 = true → ∃ sb, g 1 = .slice (some ⟨sb, 0, none⟩) 1 1 ∧ (l 2 = false → W32 w (some ⟨sb, 0, none⟩) [C])
  c2 : l 2 = true → ∃ db, g 2 = ptr db ∧ W.heap.size ≤ db ∧ (l 3 = true → g 3 = bus db) ∧ (l 5 = false → ∃ v, Bd w db v (wds [C]) 0 0)
  c4 : l 4 = true → g 4 = .agg X.toArray
  c5 : l 5 = true → g 5 = .tuple #[.agg R.toArray, .agg E.toArray]
  c6 : l 6 = true → g 6 = .tuple #[.agg R.toArray, .agg E.toArray]
  c7 : l 7 = true → g 7 = .agg R.toArray
  c8 : l 8 = true → g 8 = .agg E.toArray
  c9 : l 9 = true → ∃ b, g 9 = ptr b ∧ W.heap.size ≤ b ∧ (l 11 = false → Box w b R0.toArray 34) ∧ (l 11 = true → Box w b R.toArray 34)
  c10 : l 10 = true → ∃ b, g 10 = ptr b ∧ W.heap.size ≤ b ∧ (l 12 = false → Box w b E0.toArray 36) ∧ (l 12 = true → Box w b E.toArray 36)
namespace StepI
section
variable {W w w' : World} {C : Int} {X R E : List Value} {l : Nat → Bool} {g : Nat → Value}
theorem new (h : StepI W C X R E l g w) (k : New w w') : StepI W C X R E l g w' where
  n := New.trans h.n k
  c0 := h.c0
  c1 := fun e => let ⟨sb, e1, e2⟩ := h.c1 e; ⟨sb, e1, fun e3 => (e2 e3).new k⟩
  c2 := fun e => let ⟨db, e1, e2, e3, e4⟩ := h.c2 e; ⟨db, e1, e2, e3, fun e5 => let ⟨v, e6⟩ := e4 e5; ⟨v, e6.new k⟩⟩
  c4 := h.c4
  c5 := h.c5
  c6 := h.c6
  c7 := h.c7
  c8 := h.c8
  c9 := fun e => let ⟨b, e1, e2, e3, e4⟩ := h.c9 e; ⟨b, e1, e2, fun e5 => (e3 e5).new k, fun e5 => (e4 e5).new k⟩
  c10 := fun e => let ⟨b, e1, e2, e3, e4⟩ := h.c10 e; ⟨b, e1, e2, fun e5 => (e3 e5).new k, fun e5 => (e4 e5).new k⟩
theorem start (W : World) (C : Int) (X R E : List Value) (g : Nat → Value) : StepI W C X R E (fun j => decide (13 ≤ j)) g W.drew where
  n := (New.refl W).drew
  c0 := fun e => by simp at e
  c1 := fun e => by simp at e
  c2 := fun e => by simp at e
  c4 := fun e => by simp at e
  c5 := fun e => by simp at e
  c6 := fun e => by simp at e
  c7 := fun e => by simp at e
  c8 := fun e => by simp at e
  c9 := fun e => by simp at e
  c10 := fun e => by simp at e
theorem s0 (h : StepI W C X R E l g w) : StepI W C X R E (upB l 0) (upV g 0 (.int .u32 C)) w where
  n := h.n
  c0 := fun _ => rfl
  c1 := h.c1
  c2 := h.c2
  c4 := h.c4
  c5 := h.c5
  c6 := h.c6
  c7 := h.c7
  c8 := h.c8
  c9 := h.c9
  c10 := h.c10
theorem s1 (h : StepI W C X R E l g w) (sb : Nat) (hw : W32 w (some ⟨sb, 0, none⟩) [C]) : StepI W C X R E (upB l 1) (upV g 1 (.slice (some ⟨sb, 0, none⟩) 1 1)) w where
  n := h.n
  c0 := h.c0
  c1 := fun _ => ⟨sb, rfl, fun _ => hw⟩
  c2 := h.c2
  c4 := h.c4
  c5 := h.c5
  c6 := h.c6
  c7 := h.c7
  c8 := h.c8
  c9 := h.c9
  c10 := h.c10
theorem s2 (h : StepI W C X R E l g w) (db : Nat) (hb : W.heap.size ≤ db) (v : Value) (hB : Bd w db v (wds [C]) 0 0) (h3 : l 3 = false) : StepI W C X R E (upB l 2) (upV g 2 (ptr db)) w where
  n := h.n
  c0 := h.c0
  c1 := fun e => let ⟨sb, e1, _⟩ := h.c1 e; ⟨sb, e1, fun e2 => (by cases e2)⟩
  c2 := fun _ => ⟨db, rfl, hb, fun e => (by change l 3 = true at e; rw [h3] at e; cases e), fun _ => ⟨v, hB⟩⟩
  c4 := h.c4
  c5 := h.c5
  c6 := h.c6
  c7 := h.c7
  c8 := h.c8
  c9 := h.c9
  c10 := h.c10
theorem s3 (h : StepI W C X R E l g w) (db : Nat) (e : g 2 = ptr db) : StepI W C X R E (upB l 3) (upV g 3 (bus db)) w where
  n := h.n
  c0 := h.c0
  c1 := h.c1
  c2 := fun e2 => let ⟨db', e3, e4, _, e6⟩ := h.c2 e2; ⟨db', e3, e4, fun _ => by
    have : db = db' := by rw [e] at e3; simpa [ptr] using e3
    subst this; rfl, e6⟩
  c4 := h.c4
  c5 := h.c5
  c6 := h.c6
  c7 := h.c7
  c8 := h.c8
  c9 := h.c9
  c10 := h.c10
theorem s4 (h : StepI W C X R E l g w) : StepI W C X R E (upB l 4) (upV g 4 (.agg X.toArray)) w where
  n := h.n
  c0 := h.c0
  c1 := h.c1
  c2 := h.c2
  c4 := fun _ => rfl
  c5 := h.c5
  c6 := h.c6
  c7 := h.c7
  c8 := h.c8
  c9 := h.c9
  c10 := h.c10
theorem s5 (h : StepI W C X R E l g w) (db : Nat) (hb : W.heap.size ≤ db) (v : Value) (hB : Bd w db v (wds [C]) 0 0) (k : But (SB db v) w w') (h2 : l 2 = true) (h11 : l 11 = false) (h12 : l 12 = false) :
    StepI W C X R E (upB l 5) (upV g 5 (.tuple #[.agg R.toArray, .agg E.toArray])) w' where
  n := ⟨k.1.trans h.n.os, k.2.1.trans h.n.tape, k.2.2.1.trans h.n.output, Nat.le_trans h.n.size k.size, fun i hi => (k.block (Nat.lt_of_lt_of_le hi h.n.size) (fun e => by
    rcases e with e | e
    · omega
    · have := (World.ownsRow.lt hB.2.1 i e).1; omega)).trans (h.n.block hi)⟩
  c0 := h.c0
  c1 := fun e => let ⟨sb, e1, _⟩ := h.c1 e; ⟨sb, e1, fun e2 => (by change l 2 = false at e2; rw [h2] at e2; cases e2)⟩
  c2 := fun e => let ⟨db', e1, e2, e3, _⟩ := h.c2 e; ⟨db', e1, e2, e3, fun e5 => (by cases e5)⟩
  c4 := h.c4
  c5 := fun _ => rfl
  c6 := h.c6
  c7 := h.c7
  c8 := h.c8
  c9 := fun e => let ⟨b, e1, e2, e3, e4⟩ := h.c9 e; ⟨b, e1, e2, fun e5 => (e3 e5).but k (hB.not (e3 e5) (by decide) (by decide)), fun e5 => (by change l 11 = true at e5; rw [h11] at e5; cases e5)⟩
  c10 := fun e => let ⟨b, e1, e2, e3, e4⟩ := h.c10 e; ⟨b, e1, e2, fun e5 => (e3 e5).but k (hB.not (e3 e5) (by decide) (by decide)), fun e5 => (by change l 12 = true at e5; rw [h12] at e5; cases e5)⟩
theorem s6 (h : StepI W C X R E l g w) : StepI W C X R E (upB l 6) (upV g 6 (.tuple #[.agg R.toArray, .agg E.toArray])) w where
  n := h.n
  c0 := h.c0
  c1 := h.c1
  c2 := h.c2
  c4 := h.c4
  c5 := h.c5
  c6 := fun _ => rfl
  c7 := h.c7
  c8 := h.c8
  c9 := h.c9
  c10 := h.c10
theorem s7 (h : StepI W C X R E l g w) : StepI W C X R E (upB l 7) (upV g 7 (.agg R.toArray)) w where
  n := h.n
  c0 := h.c0
  c1 := h.c1
  c2 := h.c2
  c4 := h.c4
  c5 := h.c5
  c6 := h.c6
  c7 := fun _ => rfl
  c8 := h.c8
  c9 := h.c9
  c10 := h.c10
theorem s8 (h : StepI W C X R E l g w) : StepI W C X R E (upB l 8) (upV g 8 (.agg E.toArray)) w where
  n := h.n
  c0 := h.c0
  c1 := h.c1
  c2 := h.c2
  c4 := h.c4
  c5 := h.c5
  c6 := h.c6
  c7 := h.c7
  c8 := fun _ => rfl
  c9 := h.c9
  c10 := h.c10
theorem s9 (h : StepI W C X R E l g w) (h11 : l 11 = false) : StepI W C X R E (upB l 9) (upV g 9 (ptr w.heap.size)) (w.alloc (.cells R0.toArray 34)) :=
  have k := h.new ((New.refl w).alloc R0.toArray 34)
  { n := k.n, c0 := k.c0, c1 := k.c1, c2 := k.c2, c4 := k.c4, c5 := k.c5, c6 := k.c6, c7 := k.c7, c8 := k.c8, c10 := k.c10
    c9 := fun _ => ⟨_, rfl, h.n.size, fun _ => Box.here w _ _ _ rfl, fun e => (by change l 11 = true at e; rw [h11] at e; cases e)⟩ }
theorem s10 (h : StepI W C X R E l g w) (h12 : l 12 = false) : StepI W C X R E (upB l 10) (upV g 10 (ptr w.heap.size)) (w.alloc (.cells E0.toArray 36)) :=
  have k := h.new ((New.refl w).alloc E0.toArray 36)
  { n := k.n, c0 := k.c0, c1 := k.c1, c2 := k.c2, c4 := k.c4, c5 := k.c5, c6 := k.c6, c7 := k.c7, c8 := k.c8, c9 := k.c9
    c10 := fun _ => ⟨_, rfl, h.n.size, fun _ => Box.here w _ _ _ rfl, fun e => (by change l 12 = true at e; rw [h12] at e; cases e)⟩ }
theorem s11 (h : StepI W C X R E l g w) (b : Nat) (e9 : g 9 = ptr b) (hb : W.heap.size ≤ b) (hB : Box w' b R.toArray 34) (hB0 : Box w b R0.toArray 34) (k : Far b w w') (h2 : l 2 = true) (h5 : l 5 = true) :
    StepI W C X R E (upB l 11) (upV g 11 undef) w' where
  n := k.new h.n hb
  c0 := h.c0
  c1 := fun e => let ⟨sb, e1, _⟩ := h.c1 e; ⟨sb, e1, fun e2 => (by change l 2 = false at e2; rw [h2] at e2; cases e2)⟩
  c2 := fun e => let ⟨db', e1, e2, e3, _⟩ := h.c2 e; ⟨db', e1, e2, e3, fun e5 => (by change l 5 = false at e5; rw [h5] at e5; cases e5)⟩
  c4 := h.c4
  c5 := h.c5
  c6 := h.c6
  c7 := h.c7
  c8 := h.c8
  c9 := fun _ => ⟨b, e9, hb, fun e => (by cases e), fun _ => hB⟩
  c10 := fun e => let ⟨b', e1, e2, e3, e4⟩ := h.c10 e; ⟨b', e1, e2, fun e5 => (e3 e5).far k (Box.ne (e3 e5) hB0 (by decide)), fun e5 => (e4 e5).far k (Box.ne (e4 e5) hB0 (by decide))⟩
theorem s12 (h : StepI W C X R E l g w) (b : Nat) (e10 : g 10 = ptr b) (hb : W.heap.size ≤ b) (hB : Box w' b E.toArray 36) (hB0 : Box w b E0.toArray 36) (k : Far b w w') (h2 : l 2 = true) (h5 : l 5 = true) :
    StepI W C X R E (upB l 12) (upV g 12 undef) w' where
  n := k.new h.n hb
  c0 := h.c0
  c1 := fun e => let ⟨sb, e1, _⟩ := h.c1 e; ⟨sb, e1, fun e2 => (by change l 2 = false at e2; rw [h2] at e2; cases e2)⟩
  c2 := fun e => let ⟨db', e1, e2, e3, _⟩ := h.c2 e; ⟨db', e1, e2, e3, fun e5 => (by change l 5 = false at e5; rw [h5] at e5; cases e5)⟩
  c4 := h.c4
  c5 := h.c5
  c6 := h.c6
  c7 := h.c7
  c8 := h.c8
  c9 := fun e => let ⟨b', e1, e2, e3, e4⟩ := h.c9 e; ⟨b', e1, e2, fun e5 => (e3 e5).far k (Box.ne (e3 e5) hB0 (by decide)), fun e5 => (e4 e5).far k (Box.ne (e4 e5) hB0 (by decide))⟩
  c10 := fun _ => ⟨b, e10, hb, fun e => (by cases e), fun _ => hB⟩
end
end StepI
end Go.Proofs.Ytbkhmeongekdiaa
namespace Go.Proofs.Ytbkhmeongekdiaa
open Go.RowKit Go.Joins
set_option linter.unusedVariables false
set_option linter.unusedSimpArgs false
set_option maxRecDepth 100000
theorem fdx_of {ds : List (Option Tmp)} (hu : unq ds = true) {k p : Nat} (h : ds[p]? = some (some k)) : fdx ds k = some p := by
  obtain ⟨q, hq⟩ := fdx_some ds k p h
  have := unq_spec ds k p q hu h (fdx_spec ds k q hq)
  rw [hq, this]
theorem frL_at {ds : List (Option Tmp)} (hu : unq ds = true) {k p : Nat} (h : ds[p]? = some (some k)) (g : Nat → Value) {a : Act} (hb : (ds.all fun d => match d with | some k => decide (k < a.tmps.size) | none => true) = true) : (frL ds 0 g a).eval (.tmp k) = g p := by
  refine frL_eval (fdx_of hu h) g ?_
  have := List.all_eq_true.1 hb (some k) (List.mem_of_getElem? h)
  simpa using this
set_option maxHeartbeats 2000000 in
/-- THE REGION -/
theorem step_region {Q : Exit → Act → World → Prop} {id : Nat} {a : Act} {W : World} {s0 s1 s2 s3 s4 s5 s6 s7 s8 s9 s10 sc sx : Nat} {t0 t1 t2 t3 t4 t5 t6 t7 t8 t9 t10 t11 t12 : TypeId} {p0 p1 p2 p3 p4 p5 p6 p7 p8 p9 p10 p11 p12 : String} {af0 af1 af2 af3 af4 af5 af6 af7 af8 af9 af10 af11 af12 : Array Edge} {y2 y5 : Array TypeId}
    (C : Int) (hC : 0 ≤ C ∧ C ≤ 4294967295) (xb : Nat) (x f : Nat → Int) (rx rf : Nat → Int) (k s1' a1 : Int) (hB : Box W xb (rc x f).toArray 34)
    (hm : Try.prog.follows .mixedOrders = true)
    (hwa : (List.range 13).map (waitsE (List.toArray [⟨some s0, .move (.tmp sc), t0, p0, af0, none⟩, ⟨some s1, .buildSlice 22 1 #[(0, .tmp s0)], t1, p1, af1, none⟩, ⟨some s2, .call { callee := .value (.func 6), args := #[.tmp s1], argTypes := y2 }, t2, p2, af2, none⟩, ⟨some s3, .makeInterface 29 (.tmp s2), t3, p3, af3, none⟩, ⟨some s4, .load 34 (.tmp sx), t4, p4, af4, none⟩, ⟨some s5, .call { callee := .value (.func 7), args := #[.tmp s3, .tmp s4], argTypes := y5 }, t5, p5, af5, none⟩, ⟨some s6, .move (.tmp s5), t6, p6, af6, none⟩, ⟨some s7, .extract (.tmp s6) 0, t7, p7, af7, none⟩, ⟨some s8, .extract (.tmp s6) 1, t8, p8, af8, none⟩, ⟨some s9, .alloc 34, t9, p9, af9, none⟩, ⟨some s10, .alloc 36, t10, p10, af10, none⟩, ⟨none, .store 34 (.tmp s9) (.tmp s7), t11, p11, af11, none⟩, ⟨none, .store 36 (.tmp s10) (.tmp s8), t12, p12, af12, none⟩])) = [[], [0], [1], [2], [], [3, 4, 2], [5], [6], [6], [], [], [9, 7, 5, 0, 1, 2, 3, 4, 5, 6, 7, 9, 10], [10, 8, 11, 0, 1, 2, 3, 4, 5, 6, 7, 8, 9, 10, 11]]) (hac : backE (List.toArray [⟨some s0, .move (.tmp sc), t0, p0, af0, none⟩, ⟨some s1, .buildSlice 22 1 #[(0, .tmp s0)], t1, p1, af1, none⟩, ⟨some s2, .call { callee := .value (.func 6), args := #[.tmp s1], argTypes := y2 }, t2, p2, af2, none⟩, ⟨some s3, .makeInterface 29 (.tmp s2), t3, p3, af3, none⟩, ⟨some s4, .load 34 (.tmp sx), t4, p4, af4, none⟩, ⟨some s5, .call { callee := .value (.func 7), args := #[.tmp s3, .tmp s4], argTypes := y5 }, t5, p5, af5, none⟩, ⟨some s6, .move (.tmp s5), t6, p6, af6, none⟩, ⟨some s7, .extract (.tmp s6) 0, t7, p7, af7, none⟩, ⟨some s8, .extract (.tmp s6) 1, t8, p8, af8, none⟩, ⟨some s9, .alloc 34, t9, p9, af9, none⟩, ⟨some s10, .alloc 36, t10, p10, af10, none⟩, ⟨none, .store 34 (.tmp s9) (.tmp s7), t11, p11, af11, none⟩, ⟨none, .store 36 (.tmp s10) (.tmp s8), t12, p12, af12, none⟩]) = true)
    (hu : unq [some s0, some s1, some s2, some s3, some s4, some s5, some s6, some s7, some s8, some s9, some s10, none, none] = true) (hb : (List.all [some s0, some s1, some s2, some s3, some s4, some s5, some s6, some s7, some s8, some s9, some s10, none, none] fun d => match d with | some k => decide (k < a.tmps.size) | none => true) = true)
    (hc1 : fdx [some s0, some s1, some s2, some s3, some s4, some s5, some s6, some s7, some s8, some s9, some s10, none, none] sc = none) (hx1 : fdx [some s0, some s1, some s2, some s3, some s4, some s5, some s6, some s7, some s8, some s9, some s10, none, none] sx = none) (hc2 : a.eval (.tmp sc) = .int .u32 C) (hx2 : a.eval (.tmp sx) = ptr xb)
    (hq : ∀ db v w, Bd w db v (wds [C]) 0 0 → Calls Try.prog 7 #[bus db, .agg (rc x f).toArray] w fun e w' => e = .returned (.tuple #[.agg (rc rx rf).toArray, .agg #[.int .i64 k, .int .i64 s1', .int .u32 a1]]) ∧ But (SB db v) w w')
    (fin : ∀ (g : Nat → Value) (w : World) (b9 b10 : Nat), New W w → g 9 = ptr b9 → g 10 = ptr b10 → W.heap.size ≤ b9 → W.heap.size ≤ b10 → Box w b9 (rc rx rf).toArray 34 → Box w b10 #[.int .i64 k, .int .i64 s1', .int .u32 a1] 36 → Q .normal (frL [some s0, some s1, some s2, some s3, some s4, some s5, some s6, some s7, some s8, some s9, some s10, none, none] 0 g a) w) :
    (Code.region id (List.toArray [⟨some s0, .move (.tmp sc), t0, p0, af0, none⟩, ⟨some s1, .buildSlice 22 1 #[(0, .tmp s0)], t1, p1, af1, none⟩, ⟨some s2, .call { callee := .value (.func 6), args := #[.tmp s1], argTypes := y2 }, t2, p2, af2, none⟩, ⟨some s3, .makeInterface 29 (.tmp s2), t3, p3, af3, none⟩, ⟨some s4, .load 34 (.tmp sx), t4, p4, af4, none⟩, ⟨some s5, .call { callee := .value (.func 7), args := #[.tmp s3, .tmp s4], argTypes := y5 }, t5, p5, af5, none⟩, ⟨some s6, .move (.tmp s5), t6, p6, af6, none⟩, ⟨some s7, .extract (.tmp s6) 0, t7, p7, af7, none⟩, ⟨some s8, .extract (.tmp s6) 1, t8, p8, af8, none⟩, ⟨some s9, .alloc 34, t9, p9, af9, none⟩, ⟨some s10, .alloc 36, t10, p10, af10, none⟩, ⟨none, .store 34 (.tmp s9) (.tmp s7), t11, p11, af11, none⟩, ⟨none, .store 36 (.tmp s10) (.tmp s8), t12, p12, af12, none⟩]) true).wp Try.prog Q a W := by
  have v0 : ∀ g, (frL [some s0, some s1, some s2, some s3, some s4, some s5, some s6, some s7, some s8, some s9, some s10, none, none] 0 g a).eval (.tmp s0) = g 0 := fun g => frL_at hu rfl g hb
  have v1 : ∀ g, (frL [some s0, some s1, some s2, some s3, some s4, some s5, some s6, some s7, some s8, some s9, some s10, none, none] 0 g a).eval (.tmp s1) = g 1 := fun g => frL_at hu rfl g hb
  have v2 : ∀ g, (frL [some s0, some s1, some s2, some s3, some s4, some s5, some s6, some s7, some s8, some s9, some s10, none, none] 0 g a).eval (.tmp s2) = g 2 := fun g => frL_at hu rfl g hb
  have v3 : ∀ g, (frL [some s0, some s1, some s2, some s3, some s4, some s5, some s6, some s7, some s8, some s9, some s10, none, none] 0 g a).eval (.tmp s3) = g 3 := fun g => frL_at hu rfl g hb
  have v4 : ∀ g, (frL [some s0, some s1, some s2, some s3, some s4, some s5, some s6, some s7, some s8, some s9, some s10, none, none] 0 g a).eval (.tmp s4) = g 4 := fun g => frL_at hu rfl g hb
  have v5 : ∀ g, (frL [some s0, some s1, some s2, some s3, some s4, some s5, some s6, some s7, some s8, some s9, some s10, none, none] 0 g a).eval (.tmp s5) = g 5 := fun g => frL_at hu rfl g hb
  have v6 : ∀ g, (frL [some s0, some s1, some s2, some s3, some s4, some s5, some s6, some s7, some s8, some s9, some s10, none, none] 0 g a).eval (.tmp s6) = g 6 := fun g => frL_at hu rfl g hb
  have v7 : ∀ g, (frL [some s0, some s1, some s2, some s3, some s4, some s5, some s6, some s7, some s8, some s9, some s10, none, none] 0 g a).eval (.tmp s7) = g 7 := fun g => frL_at hu rfl g hb
  have v8 : ∀ g, (frL [some s0, some s1, some s2, some s3, some s4, some s5, some s6, some s7, some s8, some s9, some s10, none, none] 0 g a).eval (.tmp s8) = g 8 := fun g => frL_at hu rfl g hb
  have v9 : ∀ g, (frL [some s0, some s1, some s2, some s3, some s4, some s5, some s6, some s7, some s8, some s9, some s10, none, none] 0 g a).eval (.tmp s9) = g 9 := fun g => frL_at hu rfl g hb
  have v10 : ∀ g, (frL [some s0, some s1, some s2, some s3, some s4, some s5, some s6, some s7, some s8, some s9, some s10, none, none] 0 g a).eval (.tmp s10) = g 10 := fun g => frL_at hu rfl g hb
  have vc : ∀ g, (frL [some s0, some s1, some s2, some s3, some s4, some s5, some s6, some s7, some s8, some s9, some s10, none, none] 0 g a).eval (.tmp sc) = .int .u32 C := fun g => (frL_eval_old hc1 g a).trans hc2
  have vx : ∀ g, (frL [some s0, some s1, some s2, some s3, some s4, some s5, some s6, some s7, some s8, some s9, some s10, none, none] 0 g a).eval (.tmp sx) = ptr xb := fun g => (frL_eval_old hx1 g a).trans hx2
  refine wp_region_steps rfl [some s0, some s1, some s2, some s3, some s4, some s5, some s6, some s7, some s8, some s9, some s10, none, none] [[], [0], [1], [2], [], [3, 4, 2], [5], [6], [6], [], [], [9, 7, 5, 0, 1, 2, 3, 4, 5, 6, 7, 9, 10], [10, 8, 11, 0, 1, 2, 3, 4, 5, 6, 7, 8, 9, 10, 11]] (StepI W C (rc x f) (rc rx rf) [.int .i64 k, .int .i64 s1', .int .u32 a1]) hm rfl hwa rfl hu hb hac (fun g => StepI.start W C (rc x f) (rc rx rf) [.int .i64 k, .int .i64 s1', .int .u32 a1] g) ?steps ?fin
  case fin =>
    intro l g w hl hI
    obtain ⟨b9, g9, le9, _, k9⟩ := hI.c9 (hl 9 (by show _ < 13; omega))
    obtain ⟨b10, g10, le10, _, k10⟩ := hI.c10 (hl 10 (by show _ < 13; omega))
    exact fin g w b9 b10 hI.n g9 g10 le9 le10 (k9 (hl 11 (by show _ < 13; omega))) (k10 (hl 12 (by show _ < 13; omega)))
  case steps =>
    refine stepsI_cons ?o0 (stepsI_cons ?o1 (stepsI_cons ?o2 (stepsI_cons ?o3 (stepsI_cons ?o4 (stepsI_cons ?o5 (stepsI_cons ?o6 (stepsI_cons ?o7 (stepsI_cons ?o8 (stepsI_cons ?o9 (stepsI_cons ?o10 (stepsI_cons ?o11 (stepsI_cons ?o12 trivial))))))))))))
    case o0 =>
      intro l g w hl hd hc hI K hK
      exact op_move _ rfl _ (vc g) (hK _ _ hI.s0)
    case o1 =>
      intro l g w hl hd hc hI K hK
      have e50 := (v0 g).trans (hI.c0 (hd 0 (by rfl)))
      refine op_slice _ _ _ rfl #[(0, .int .u32 C)] (by simp only [List.map_toArray, List.map_cons, List.map_nil, e50]) (.slice (some ⟨w.heap.size, 0, none⟩) 1 1) (w.alloc (.cells #[.int .u32 C] 23)) (by kernel_rfl) (hK _ _ ((hI.new ((New.refl w).alloc #[.int .u32 C] 23)).s1 w.heap.size (w32_one w C hC)))
    case o2 =>
      intro l g w hl hd hc hI K hK
      obtain ⟨sb, e1, e2⟩ := hI.c1 (hd 1 (by rfl))
      have e51 := (v1 g).trans e1
      refine op_call _ _ _ rfl #[.slice (some ⟨sb, 0, none⟩) 1 1] (by simp only [List.map_toArray, List.map_cons, List.map_nil, e51]) (by kernel_rfl) ((laid_any [C] (some ⟨sb, 0, none⟩) 1 w (e2 hl)).mono ?_)
      rintro e w5 ⟨rfl, n5, v5, b5⟩
      exact ⟨_, rfl, hK _ _ ((hI.new n5).s2 w.heap.size hI.n.size v5 b5 (hc 3 (by rfl)))⟩
    case o3 =>
      intro l g w hl hd hc hI K hK
      obtain ⟨db, e1, _⟩ := hI.c2 (hd 2 (by rfl))
      refine op_iface _ _ rfl (ptr db) ((v2 g).trans e1) (bus db) (by kernel_rfl) (hK _ _ (hI.s3 db e1))
    case o4 =>
      intro l g w hl hd hc hI K hK
      refine op_load_mid _ _ rfl xb 0 (vx g) (rc x f) _ (hB.new hI.n).range Try.underlying34 rfl (by rw [rc_len]; exact ar_info) (hK _ _ hI.s4)
    case o5 =>
      intro l g w hl hd hc hI K hK
      obtain ⟨db, e1, e2, e3, e4⟩ := hI.c2 (hd 2 (by rfl))
      obtain ⟨v, hv⟩ := e4 hl
      have e53 := (v3 g).trans (e3 (hd 3 (by rfl)))
      have e54 := (v4 g).trans (hI.c4 (hd 4 (by rfl)))
      refine op_call _ _ _ rfl #[bus db, .agg (rc x f).toArray] (by simp only [List.map_toArray, List.map_cons, List.map_nil, e53, e54]) (by kernel_rfl) ((hq db v w hv).mono ?_)
      rintro e w5 ⟨rfl, k5⟩
      exact ⟨_, rfl, hK _ _ (hI.s5 db e2 v hv k5 (hd 2 (by rfl)) (hc 11 (by rfl)) (hc 12 (by rfl)))⟩
    case o6 =>
      intro l g w hl hd hc hI K hK
      exact op_move _ rfl _ ((v5 g).trans (hI.c5 (hd 5 (by rfl)))) (hK _ _ hI.s6)
    case o7 =>
      intro l g w hl hd hc hI K hK
      exact op_extract _ _ rfl _ ((v6 g).trans (hI.c6 (hd 6 (by rfl)))) _ rfl (hK _ _ hI.s7)
    case o8 =>
      intro l g w hl hd hc hI K hK
      exact op_extract _ _ rfl _ ((v6 g).trans (hI.c6 (hd 6 (by rfl)))) _ rfl (hK _ _ hI.s8)
    case o9 =>
      intro l g w hl hd hc hI K hK
      exact op_alloc _ rfl (ptr w.heap.size) (w.alloc (.cells R0.toArray 34)) (by kernel_rfl) (hK _ _ (hI.s9 (hc 11 (by rfl))))
    case o10 =>
      intro l g w hl hd hc hI K hK
      exact op_alloc _ rfl (ptr w.heap.size) (w.alloc (.cells E0.toArray 36)) (by kernel_rfl) (hK _ _ (hI.s10 (hc 12 (by rfl))))
    case o11 =>
      intro l g w hl hd hc hI K hK
      obtain ⟨b, e1, e2, e3, _⟩ := hI.c9 (hd 9 (by rfl))
      refine op_store_bx _ _ _ rfl b (rc rx rf) R0 34 ((v9 g).trans e1) ((v7 g).trans (hI.c7 (hd 7 (by rfl)))) (e3 hl) (by rw [rc_len, rc_len]) (by rw [rc_len]; exact ar_info) (rc_one _ _) ?_
      intro w5 B5 F5
      exact hK _ _ (hI.s11 b e1 e2 B5 (e3 hl) F5 (hd 2 (by rfl)) (hd 5 (by rfl)))
    case o12 =>
      intro l g w hl hd hc hI K hK
      obtain ⟨b, e1, e2, e3, _⟩ := hI.c10 (hd 10 (by rfl))
      refine op_store_bx _ _ _ rfl b [.int .i64 k, .int .i64 s1', .int .u32 a1] E0 36 ((v10 g).trans e1) ((v8 g).trans (hI.c8 (hd 8 (by rfl)))) (e3 hl) rfl ev_size (by intro u hu; simp at hu; rcases hu with rfl | rfl | rfl <;> rfl) ?_
      intro w5 B5 F5
      exact hK _ _ (hI.s12 b e1 e2 B5 (e3 hl) F5 (hd 2 (by rfl)) (hd 5 (by rfl)))
end Go.Proofs.Ytbkhmeongekdiaa
