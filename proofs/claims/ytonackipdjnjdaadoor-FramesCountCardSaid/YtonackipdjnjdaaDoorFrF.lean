/- What the package of frames does, the world behind a call as an unknown one of which this is known: the row of the frames, and that nothing else has changed. And what the statements of this layer ask at their ends: sure. -/
import Derived.Test.YtonackipdjnjdaaDoorFrB
import Derived.Test.YtonackipdjnjdaaDoorNum
namespace Go.Proofs.YtonackipdjnjdaaDoor
open Go.RowKit
set_option linter.unusedVariables false
/-- all but one block is as it was -/
def Far (rb : Nat) (w w' : World) : Prop := w'.os = w.os ∧ w'.tape = w.tape ∧ w'.output = w.output ∧ w.heap.size ≤ w'.heap.size ∧ ∀ k, k < w.heap.size → k ≠ rb → w'.heap[k]? = w.heap[k]?
theorem Far.refl (rb : Nat) (w : World) : Far rb w w := ⟨rfl, rfl, rfl, Nat.le_refl _, fun _ _ _ => rfl⟩
theorem Far.trans {rb : Nat} {a b c : World} (h : Far rb a b) (k : Far rb b c) : Far rb a c :=
  ⟨k.1.trans h.1, k.2.1.trans h.2.1, k.2.2.1.trans h.2.2.1, Nat.le_trans h.2.2.2.1 k.2.2.2.1, fun i hi hr => (k.2.2.2.2 i (Nat.lt_of_lt_of_le hi h.2.2.2.1) hr).trans (h.2.2.2.2 i hi hr)⟩
theorem Far.of_new (rb : Nat) {w w' : World} (h : New w w') : Far rb w w' := ⟨h.os, h.tape, h.output, h.size, fun k hk _ => h.block hk⟩
theorem Far.set (w : World) (rb i : Nat) (v : Value) : Far rb w (w.setCell ⟨rb, i, none⟩ v) :=
  ⟨rfl, rfl, rfl, by simp [World.setCell], fun k _ hr => Below.heap_setCell w _ _ k hr⟩
theorem Far.new {rb : Nat} {a w w' : World} (h : Far rb w w') (k : New a w) (hr : a.heap.size ≤ rb) : New a w' :=
  ⟨h.1.trans k.os, h.2.1.trans k.tape, h.2.2.1.trans k.output, Nat.le_trans k.size h.2.2.2.1, fun i hi => (h.2.2.2.2 i (Nat.lt_of_lt_of_le hi k.size) (by omega)).trans (k.block hi)⟩
theorem Far.size {rb : Nat} {w w' : World} (h : Far rb w w') : w.heap.size ≤ w'.heap.size := h.2.2.2.1
theorem Far.cell {rb : Nat} {w w' : World} (h : Far rb w w') {p : Addr} (hp : p.block < w.heap.size) (hr : p.block ≠ rb) : w'.cell? p = w.cell? p := World.cell?_of_block (h.2.2.2.2 _ hp hr)
theorem Far.frozen {rb : Nat} {w w' : World} (h : Far rb w w') {p : Addr} (hp : p.block < w.heap.size) (hr : p.block ≠ rb) : w'.frozen? p = w.frozen? p := World.frozen?_of_block (h.2.2.2.2 _ hp hr)
theorem Laid.far {w w' : World} {rb : Nat} (h : Laid w) (k : Far rb w w') (hr : rb ≠ 0) : Laid w' := by
  have hl := h.lt
  unfold Laid at h ⊢
  rw [k.cell (p := ⟨0, 0, none⟩) hl (fun e => hr e.symm)]; exact h
theorem Own.keep {base rb : Nat} {w w' : World} {v : Value} {l : List Int} (h : Own base w v l) (k : Far rb w w') (hr : rb < base) : Own base w' v l := by
  refine ⟨h.1, ?_⟩
  rcases h.2 with hn | ⟨g, cap, cur, rfl, hb, hg, rest⟩
  · exact .inl hn
  · exact .inr ⟨g, cap, cur, rfl, hb, by rw [k.2.2.2.2 g (Array.getElem?_eq_some_iff.1 hg).1 (by omega)]; exact hg, rest⟩
/-- an answer, the row then, and nothing else has changed -/
def Did (fb rb : Nat) (rs : List Int) (v : Value) (w : World) (e : Ending) (w' : World) : Prop := e = .returned v ∧ Fr w' fb rb rs ∧ Far rb w w'
section
variable {w : World} {fb rb : Nat} {rs : List Int}
theorem did_alloc (i : Nat) (h : Fr w fb rb rs) (hi : i < rs.length) (hn : NoFree rs i) (hz : rs.getD i 0 = 0) :
    Calls Tryd.prog 6 #[.pointer (some ⟨fb, 0, none⟩)] w (Did fb rb (rs.set i 1) (.tuple #[.int .i64 i, .nilIface]) w) :=
  (alloc_hit i w h hi hn hz).mono fun e w' ⟨h1, h2⟩ => ⟨h1, by rw [h2]; exact h.set i 1 (by omega) (by omega), by rw [h2]; exact Far.set _ _ _ _⟩
theorem did_alloc_no (h : Fr w fb rb rs) (hn : NoFree rs rs.length) :
    Calls Tryd.prog 6 #[.pointer (some ⟨fb, 0, none⟩)] w (Did fb rb rs (.tuple #[.int .i64 0, .iface 55 (.int .i64 12)]) w) :=
  (alloc_none w h hn).mono fun e w' ⟨h1, h2⟩ => ⟨h1, by rw [← h2]; exact h, by rw [← h2]; exact Far.refl _ _⟩
theorem did_ref (j : Nat) (h : Fr w fb rb rs) (hj : j < rs.length) (h1 : 0 < rs.getD j 0) (h2 : rs.getD j 0 < 1073741824) :
    Calls Tryd.prog 9 #[.pointer (some ⟨fb, 0, none⟩), .int .i64 j] w (Did fb rb (rs.set j (rs.getD j 0 + 1)) .nilIface w) :=
  (ref_yes j w h hj h1 h2).mono fun e w' ⟨k1, k2⟩ => ⟨k1, by rw [k2]; exact h.set j _ (by omega) (by omega), by rw [k2]; exact Far.set _ _ _ _⟩
theorem did_ref_no (m : Int) (h : Fr w fb rb rs) (h1 : rfs rs m = 0 ∨ rfs rs m = 1073741824) :
    Calls Tryd.prog 9 #[.pointer (some ⟨fb, 0, none⟩), .int .i64 m] w (Did fb rb rs (.iface 55 (.int .i64 22)) w) :=
  (ref_no m w h h1).mono fun e w' ⟨k1, k2⟩ => ⟨k1, by rw [← k2]; exact h, by rw [← k2]; exact Far.refl _ _⟩
theorem did_unref (j : Nat) (h : Fr w fb rb rs) (hj : j < rs.length) (h1 : 0 < rs.getD j 0) :
    Calls Tryd.prog 7 #[.pointer (some ⟨fb, 0, none⟩), .int .i64 j] w (Did fb rb (rs.set j (rs.getD j 0 - 1)) (.tuple #[.bool (rs.getD j 0 == 1), .nilIface]) w) :=
  (unref_yes j w h hj h1).mono fun e w' ⟨k1, k2⟩ => ⟨k1, by rw [k2]; have := h.1.2.2 j; exact h.set j _ (by omega) (by omega), by rw [k2]; exact Far.set _ _ _ _⟩
theorem did_unref_no (m : Int) (h : Fr w fb rb rs) (h1 : rfs rs m = 0) :
    Calls Tryd.prog 7 #[.pointer (some ⟨fb, 0, none⟩), .int .i64 m] w (Did fb rb rs (.tuple #[.bool false, .iface 55 (.int .i64 22)]) w) :=
  (unref_no m w h h1).mono fun e w' ⟨k1, k2⟩ => ⟨k1, by rw [← k2]; exact h, by rw [← k2]; exact Far.refl _ _⟩
theorem did_free (h : Fr w fb rb rs) :
    Calls Tryd.prog 11 #[.pointer (some ⟨fb, 0, none⟩)] w (Did fb rb rs (.int .i64 (rs.length - (tk rs rs.length).length)) w) :=
  (free_any w h).mono fun e w' ⟨k1, k2⟩ => ⟨k1, h.new k2, Far.of_new rb k2⟩
end
theorem made_two (w : World) : Calls Tryd.prog 13 #[.int .i64 2] w (Made 2 w) := made_any 2 w (by omega) (by omega)
theorem sure_1 {w : World} {fb rb : Nat} (h : Fr w fb rb [0, 0]) : Calls Tryd.prog 6 #[.pointer (some ⟨fb, 0, none⟩)] w (Did fb rb [1, 0] (.tuple #[.int .i64 0, .nilIface]) w) := did_alloc 0 h (by simp) (NoFree.zero _) rfl
theorem nofree_of {rs : List Int} {k : Nat} (h : (List.range k).all (fun j => rs.getD j 0 != 0) = true) : NoFree rs k := by
  intro j hj e
  have := List.all_eq_true.1 h j (List.mem_range.2 hj)
  rw [e] at this
  exact absurd this (by decide)
theorem sure_2 {w : World} {fb rb : Nat} (h : Fr w fb rb [1, 0]) : Calls Tryd.prog 6 #[.pointer (some ⟨fb, 0, none⟩)] w (Did fb rb [1, 1] (.tuple #[.int .i64 1, .nilIface]) w) := did_alloc 1 h (by simp) (nofree_of rfl) rfl
theorem sure_3 {w : World} {fb rb : Nat} (h : Fr w fb rb [1, 1]) : Calls Tryd.prog 6 #[.pointer (some ⟨fb, 0, none⟩)] w (Did fb rb [1, 1] (.tuple #[.int .i64 0, .iface 55 (.int .i64 12)]) w) := did_alloc_no h (nofree_of rfl)
theorem sure_4 {w : World} {fb rb : Nat} (h : Fr w fb rb [1, 1]) : Calls Tryd.prog 9 #[.pointer (some ⟨fb, 0, none⟩), .int .i64 1] w (Did fb rb [1, 2] .nilIface w) := did_ref 1 h (by simp) (by simp) (by simp)
theorem sure_5 {w : World} {fb rb : Nat} (h : Fr w fb rb [1, 2]) : Calls Tryd.prog 10 #[.pointer (some ⟨fb, 0, none⟩), .int .i64 1] w fun e w' => e = .returned (.int .i64 2) ∧ w = w' := refs_any 1 w h
theorem sure_6 {w : World} {fb rb : Nat} (h : Fr w fb rb [1, 2]) : Calls Tryd.prog 11 #[.pointer (some ⟨fb, 0, none⟩)] w (IntN 0 w) := free_any w h
theorem sure_7 {w : World} {fb rb : Nat} (h : Fr w fb rb [1, 2]) : Calls Tryd.prog 12 #[.pointer (some ⟨fb, 0, none⟩)] w (LenN 2 w) := taken_len w h
set_option maxHeartbeats 1000000 in
theorem sure_any (w : World) (hl : Laid w) : Calls Tryd.prog 14 #[] w fun e w' => e = .returned (.bool true) ∧ New w w' := by
  have hlt := hl.lt
  go_enter Tryd.func14, Tryd.ntmps14
  go_wp2_with fail
  refine (made_two _).mono ?_
  rintro e w1 ⟨rfl, h1, n1⟩
  have hne : w.heap.size ≠ 0 := by omega
  have l1 := hl.new n1
  go_wp2_with fail
  refine (sure_1 h1).mono ?_
  rintro e w2 ⟨rfl, h2, f2⟩
  go_wp2_with fail
  refine (sure_2 h2).mono ?_
  rintro e w3 ⟨rfl, h3, f3⟩
  go_wp2_with fail
  refine (sure_3 h3).mono ?_
  rintro e w4 ⟨rfl, h4, f4⟩
  go_wp2_with fail
  refine (sure_4 h4).mono ?_
  rintro e w5 ⟨rfl, h5, f5⟩
  have n5 := (((f2.trans f3).trans f4).trans f5).new n1 (Nat.le_refl _)
  have l5 := hl.new n5
  go_wp2_with fail
  refine (num_err 12 _ l5).mono ?_
  rintro e w6 ⟨rfl, n6⟩
  have h6 := h5.new n6
  go_wp2_with fail
  refine (sure_5 h6).mono ?_
  rintro e w7 ⟨rfl, rfl⟩
  go_wp2_with fail
  refine (sure_6 h6).mono ?_
  rintro e w8 ⟨rfl, n8⟩
  have h8 := h6.new n8
  go_wp2_with fail
  refine (sure_7 h8).mono ?_
  rintro e w9 ⟨p, cap, rfl, n9⟩
  go_wp2_with fail
  go_ret
  exact ⟨rfl, ((n5.trans n6).trans n8).trans n9⟩
end Go.Proofs.YtonackipdjnjdaaDoor
