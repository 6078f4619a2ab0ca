/- What the document's own answers on tables of two levels make of a list of pages and entries, further: the list without a page. Contracts, for any list, in any world, behind which there are only new blocks. -/
import Derived.Test.YtajhlmiobibhjaaDoorTdB
namespace Go.Proofs.YtajhlmiobibhjaaDoor
open Go.RowKit
set_option linter.unusedVariables false
set_option maxRecDepth 100000
theorem icell_new (w : World) (x : Int × Int) (t : TypeId) : ∀ j u, (icell x)[j]? = some u → (w.alloc (.cells #[.int .i64 x.1, .int .i64 (dcf x.2), .int .u8 (dcp x.2), .bool (dcc x.2)] t)).cell? ((⟨w.heap.size, 0, none⟩ : Addr).add j) = some u := by
  intro j u hu
  have hx : Box (w.alloc (.cells #[.int .i64 x.1, .int .i64 (dcf x.2), .int .u8 (dcp x.2), .bool (dcc x.2)] t)) w.heap.size _ _ := Box.here w _ _ _ rfl
  rw [Addr.add_mid, Nat.zero_add, hx.cell]
  rw [← hu]
  show ([Value.int .i64 x.1, .int .i64 (dcf x.2), .int .u8 (dcp x.2), .bool (dcc x.2)].toArray)[j]? = _
  rw [List.getElem?_toArray]; rfl
theorem icell_one (x : Int × Int) : ∀ u ∈ icell x, u.oneCell' = true := by
  intro u hu
  simp only [icell, List.mem_cons, List.not_mem_nil, or_false] at hu
  rcases hu with rfl | rfl | rfl | rfl <;> rfl
section
variable {w w' w1 : World} {base : Nat} {v : Value} {l : List (Int × Int)}
theorem OwnI.boxes {n m : Nat} {cs ds : Array Value} {ty : TypeId} {o : Obj} (h : OwnI base w v l) (hg : (w.alloc o).grownBy w1 v.ownBlock) (b : Box w n cs ty) (c : Box w m ds ty) (ht : ty ≠ 69) : Box w1 n cs ty ∧ Box w1 m ds ty := by
  have key : ∀ {n : Nat} {cs : Array Value}, Box w n cs ty → Box w1 n cs ty := by
    intro n cs b
    have b' := b.alloc o
    unfold Box
    rw [hg.block n b'.lt (fun e => ?_)]
    · exact b'
    · rcases h.2 with ⟨rfl, _⟩ | ⟨g, cap, cur, rfl, hb, hg, rest⟩
      · cases e
      · cases e
        unfold Box at b
        rw [hg] at b; cases b; exact ht rfl
  exact ⟨key b, key c⟩
theorem OwnI.off {n : Nat} {cs : Array Value} {ty : TypeId} (h : OwnI base w v l) (b : Box w n cs ty) (ht : ty ≠ 69) (i : Nat) (x : Value) : OwnI base (w.setCell ⟨n, i, none⟩ x) v l := by
  refine ⟨h.1, ?_⟩
  rcases h.2 with hn | ⟨g, cap, cur, rfl, hb, hg, rest⟩
  · exact .inl hn
  · refine .inr ⟨g, cap, cur, rfl, hb, ?_, rest⟩
    rw [Below.heap_setCell _ _ _ _ (fun (e : g = n) => by subst e; unfold Box at b; rw [hg] at b; cases b; exact ht rfl)]; exact hg
end
section
variable {w w0 : World} {base n m : Nat} {v : Value} {L : List (Int × Int)} {l : List Int} {x0 x1 x2 x3 : Value} {ty : TypeId}
/-- a struct of four cells, of two cells, stored -/
def set4 (w : World) (n : Nat) (a b c d : Value) : World := (((w.setCell ⟨n, 0, none⟩ a).setCell ⟨n, 1, none⟩ b).setCell ⟨n, 2, none⟩ c).setCell ⟨n, 3, none⟩ d
def set2 (w : World) (n : Nat) (a b : Value) : World := (w.setCell ⟨n, 0, none⟩ a).setCell ⟨n, 1, none⟩ b
theorem Box.set4 (h : Box w n #[x0, x1, x2, x3] ty) (a b c d : Value) : Box (set4 w n a b c d) n #[a, b, c, d] ty := (((h.set 0 a).set 1 b).set 2 c).set 3 d
theorem Box.set2 (h : Box w n #[x0, x1] ty) (a b : Value) : Box (set2 w n a b) n #[a, b] ty := (h.set 0 a).set 1 b
theorem Box.other4 {cs : Array Value} (h : Box w m cs ty) (hn : n ≠ m) (a b c d : Value) : Box (Proofs.YtajhlmiobibhjaaDoor.set4 w n a b c d) m cs ty := (((h.other (p := ⟨n, 0, none⟩) hn a).other (p := ⟨n, 1, none⟩) hn b).other (p := ⟨n, 2, none⟩) hn c).other (p := ⟨n, 3, none⟩) hn d
theorem Box.other2 {cs : Array Value} (h : Box w m cs ty) (hn : n ≠ m) (a b : Value) : Box (Proofs.YtajhlmiobibhjaaDoor.set2 w n a b) m cs ty := (h.other (p := ⟨n, 0, none⟩) hn a).other (p := ⟨n, 1, none⟩) hn b
theorem New.set4 (h : New w0 w) (hn : w0.heap.size ≤ n) (a b c d : Value) : New w0 (Proofs.YtajhlmiobibhjaaDoor.set4 w n a b c d) := (((h.setAt n 0 hn a).setAt n 1 hn b).setAt n 2 hn c).setAt n 3 hn d
theorem New.set2 (h : New w0 w) (hn : w0.heap.size ≤ n) (a b : Value) : New w0 (Proofs.YtajhlmiobibhjaaDoor.set2 w n a b) := (h.setAt n 0 hn a).setAt n 1 hn b
theorem Own.off4 (h : Own base w v l) (b : Box w n #[x0, x1, x2, x3] ty) (ht : ty ≠ 3) (a c d e : Value) : Own base (Proofs.YtajhlmiobibhjaaDoor.set4 w n a c d e) v l := (((h.off b ht 0 a).off (b.set 0 a) ht 1 c).off ((b.set 0 a).set 1 c) ht 2 d).off (((b.set 0 a).set 1 c).set 2 d) ht 3 e
theorem Own.off2 (h : Own base w v l) (b : Box w n #[x0, x1] ty) (ht : ty ≠ 3) (a c : Value) : Own base (Proofs.YtajhlmiobibhjaaDoor.set2 w n a c) v l := (h.off b ht 0 a).off (b.set 0 a) ht 1 c
theorem OwnI.off4 (h : OwnI base w v L) (b : Box w n #[x0, x1, x2, x3] ty) (ht : ty ≠ 69) (a c d e : Value) : OwnI base (Proofs.YtajhlmiobibhjaaDoor.set4 w n a c d e) v L := (((h.off b ht 0 a).off (b.set 0 a) ht 1 c).off ((b.set 0 a).set 1 c) ht 2 d).off (((b.set 0 a).set 1 c).set 2 d) ht 3 e
theorem OwnI.off2 (h : OwnI base w v L) (b : Box w n #[x0, x1] ty) (ht : ty ≠ 69) (a c : Value) : OwnI base (Proofs.YtajhlmiobibhjaaDoor.set2 w n a c) v L := (h.off b ht 0 a).off (b.set 0 a) ht 1 c
theorem own_lit (w : World) (n : Int) (hb : base ≤ w.heap.size) : Own base (w.alloc (.cells #[.int .i64 n] 3)) (.slice (some ⟨w.heap.size, 0, none⟩) 1 1) [n] :=
  ⟨by simp, .inr ⟨w.heap.size, 1, _, rfl, hb, heap_alloc_new w _, Nat.le_refl _, by unfold maxLen; omega, by simp, by simp⟩⟩
end
/-- a table with a list of the call's own, and a number -/
def RtDone (base : Nat) (l : List (Int × Int)) (vU vO : Value) (er : Int) (w : World) (e : Ending) (w' : World) : Prop :=
  ∃ v, e = .returned (.tuple #[.agg #[v, vU, vO, .bool false], .int .i64 er]) ∧ OwnI base w' v l ∧ New w w'
section
variable {w : World} {vL vU vO : Value} {L : List (Int × Int)}
theorem rclear_gone (m : Int) (h1 : Sl vL) (h2 : Sl vU) (h3 : Sl vO) : Calls Tryd.prog 16 #[.agg #[vL, vU, vO, .bool true], .int .i64 m] w (Said (.tuple #[.agg #[vL, vU, vO, .bool true], .int .i64 22]) w) := by
  obtain ⟨p1, k1, c1, rfl⟩ := h1
  obtain ⟨p2, k2, c2, rfl⟩ := h2
  obtain ⟨p3, k3, c3, rfl⟩ := h3
  have n0 := ((New.refl w).alloc #[.slice p1 k1 c1, .slice p2 k2 c2, .slice p3 k3 c3, .bool true] 47).alloc #[.slice none 0 0, .slice none 0 0, .slice none 0 0, .bool false] 47
  go_enter Tryd.func16, Tryd.ntmps16
  go_wp2
  exact bodyPost_ret (v := .tuple #[.agg #[.slice p1 k1 c1, .slice p2 k2 c2, .slice p3 k3 c3, .bool true], .int .i64 22]) (by simp [results, Tryd.results16, go_sem]) rfl ⟨rfl, by repeat (first | exact New.refl _ | refine New.alloc ?_ _ _ | refine New.setCell ?_ (by simp) _)⟩
theorem rclear_bad (m : Int) (h1 : Sl vL) (h2 : Sl vU) (h3 : Sl vO) (hp : ¬ (0 ≤ m ∧ m < 4096)) : Calls Tryd.prog 16 #[.agg #[vL, vU, vO, .bool false], .int .i64 m] w (Said (.tuple #[.agg #[vL, vU, vO, .bool false], .int .i64 22]) w) := by
  obtain ⟨p1, k1, c1, rfl⟩ := h1
  obtain ⟨p2, k2, c2, rfl⟩ := h2
  obtain ⟨p3, k3, c3, rfl⟩ := h3
  have X := fun W => rpage_no m W hp
  have n0 := ((New.refl w).alloc #[.slice p1 k1 c1, .slice p2 k2 c2, .slice p3 k3 c3, .bool false] 47).alloc #[.slice none 0 0, .slice none 0 0, .slice none 0 0, .bool false] 47
  clear hp
  go_enter Tryd.func16, Tryd.ntmps16
  go_wp2_with (go_at_call 39; (with_reducible refine (X _).mono ?_); rintro e w' ⟨rfl, rfl⟩)
  exact bodyPost_ret (v := .tuple #[.agg #[.slice p1 k1 c1, .slice p2 k2 c2, .slice p3 k3 c3, .bool false], .int .i64 22]) (by simp [results, Tryd.results16, go_sem]) rfl ⟨rfl, by repeat (first | exact New.refl _ | refine New.alloc ?_ _ _ | refine New.setCell ?_ (by simp) _)⟩
set_option maxHeartbeats 2000000 in
theorem rclear_any (p : Nat) (h1 : Its w vL L) (h2 : Sl vU) (h3 : Sl vO) (hp : p < 4096) (hlen : L.length ≤ 5000) : Calls Tryd.prog 16 #[.agg #[vL, vU, vO, .bool false], .int .i64 p] w (RtDone w.heap.size (less p L) vU vO 0 w) := by
  obtain ⟨i0, hi, hz0, hz1, hz2⟩ := info_parts item_info
  obtain ⟨p2, k2, c2, rfl⟩ := h2
  obtain ⟨p3, k3, c3, rfl⟩ := h3
  obtain ⟨p1, c1, rfl⟩ := h1.len
  have X := fun W => rpage_yes p W hp
  have n0 := ((New.refl w).alloc #[.slice p1 L.length c1, .slice p2 k2 c2, .slice p3 k3 c3, .bool false] 47).alloc #[.slice none 0 0, .slice none 0 0, .slice none 0 0, .bool false] 47
  have HI := Lib.hid h1
  clear h1 hp
  go_enter Tryd.func16, Tryd.ntmps16
  go_wp2_with (go_at_call 39; (with_reducible refine (X _).mono ?_); rintro e w' ⟨rfl, rfl⟩)
  go_loopg [6, 7] L.length (fun k l i wr => ∃ j : Nat, j + k = L.length ∧ i = .int .i64 (j : Int) ∧ OwnI w.heap.size wr l (less p (L.take j)) ∧ Box wr w.heap.size #[.slice p1 L.length c1, .slice p2 k2 c2, .slice p3 k3 c3, .bool false] 47 ∧ Box wr (w.heap.size + 1) #[.slice none 0 0, .slice none 0 0, .slice none 0 0, .bool false] 47 ∧ New w wr)
  case atStart => exact ⟨0, by omega, rfl, OwnI.nil _ _, (Box.here w _ _ _ rfl).alloc _, Box.here _ _ _ _ (by simp), n0⟩
  case round =>
    clear n0 X
    obtain ⟨j, hj, rfl, hown, b0, b1, hN⟩ := hrel
    obtain ⟨a0, a1, a2, a3⟩ := b0.four
    by_cases c : j < L.length
    · obtain ⟨b, cap, e, _, _, _, hc⟩ := (HI.out.new hN).some (by omega)
      cases e
      obtain ⟨c0, e1, e2, e3⟩ := hc j c
      have ht : L.take (j + 1) = L.take j ++ [L[j]] := by rw [List.take_succ_eq_append_getElem c]
      have hll := less_len p (L.take j)
      have hl2 : (less p (L.take j)).length ≤ 5000 := by rw [List.length_take] at hll; omega
      have J := Lib.hid hj
      have E := Lib.hid (show less p (L.take (j + 1)) = if (L[j]).1 = (p : Int) then less p (L.take j) else less p (L.take j) ++ [L[j]] from by rw [ht]; exact less_push p (L.take j) L[j])
      generalize L[j] = x at *
      clear hj hc ht hll
      by_cases d : x.1 = p
      · have f : (x.1 != (p : Int)) = false := by simpa using d
        have E2 := Lib.hid (E.out.trans (if_pos d))
        clear d E
        go_wp2
        go_roundg (L.length - (j + 1))
        case measure => have := J.out; omega
        case rel => exact ⟨j + 1, by have := J.out; omega, by go_num, by rw [E2.out]; exact hown, b0, b1, hN⟩
      · have f : (x.1 != (p : Int)) = true := by simpa using d
        have E2 := Lib.hid (E.out.trans (if_neg d))
        clear d E
        generalize less p (L.take j) = K at *
        go_wp2_with (at_builtin; refine wpList_append_own _ rfl _ _ 45 rfl w.heap.size 69 i0 (.agg #[.int .i64 0, .int .i64 0, .int .u8 0, .bool false]) 4 24 Tryd.underlying45 hi hz0 hz1 hz2 rfl (by decide) _ _ _ rfl (World.ownsRow.alloc hown _) ⟨wr.heap.size, 0, none⟩ 1 1 (icell x) rfl rfl ?c1 ?c2 ?c3 ?c4 ?c5 ?_)
        case c1 => exact icell_new wr x _
        case c2 => exact icell_one x
        case c3 => unfold maxLen; omega
        case c4 => omega
        case c5 => have := hN.size; simp; omega
        intro v' w1 hown' hgrow _
        obtain ⟨o1, n1⟩ := OwnI.push hN rfl hown hown' hgrow
        obtain ⟨b2, b3⟩ := OwnI.boxes hown hgrow b0 b1 (by decide)
        clear hown hown' hgrow b0 b1 hN a0 a1 a2 a3 c0 e1 e2 e3
        rw [← E2.out] at o1
        obtain ⟨p4, c4, rfl⟩ := o1.its.len
        go_wp2
        go_roundg (L.length - (j + 1))
        case measure => have := J.out; omega
        case rel => exact ⟨j + 1, by have := J.out; omega, by go_num, o1, b2, b3, n1⟩
    · obtain rfl : j = L.length := by omega
      rw [List.take_length] at hown
      clear hj c a0 a1 a2 a3
      obtain ⟨p4, c4, rfl⟩ := hown.its.len
      have O2 := Lib.hid (hown.off b0 (by decide) 0 (.slice p4 (less (p : Int) L).length c4))
      have O3 := Lib.hid (fun x0 x1 x2 x3 => (((O2.out.off ((b1.other (p := ⟨w.heap.size, 0, none⟩) (by simp) _)) (by decide) 0 x0).off (((b1.other (p := ⟨w.heap.size, 0, none⟩) (by simp) _)).set 0 x0) (by decide) 1 x1).off ((((b1.other (p := ⟨w.heap.size, 0, none⟩) (by simp) _)).set 0 x0).set 1 x1) (by decide) 2 x2).off (((((b1.other (p := ⟨w.heap.size, 0, none⟩) (by simp) _)).set 0 x0).set 1 x1).set 2 x2) (by decide) 3 x3)
      obtain ⟨s0, ⟨a0, a1, a2, a3⟩, f0, f1, f2, f3⟩ := b0.four'
      obtain ⟨s1, ⟨d0, d1, d2, d3⟩, g0, g1, g2, g3⟩ := b1.four'
      go_wp2
      refine bodyPost_ret (v := .tuple #[.agg #[.slice p4 (less (p : Int) L).length c4, .slice p2 k2 c2, .slice p3 k3 c3, .bool false], .int .i64 0]) (by simp [results, Tryd.results16, go_sem, d0, d1, d2, d3]) rfl ⟨_, rfl, O3.out _ _ _ _, ?_⟩
      repeat (first | exact hN | refine New.setCell ?_ (by simp) _)
end
end Go.Proofs.YtajhlmiobibhjaaDoor
