/- What the document's own answers on tables of two levels do, further: all the frames of a table given back. Contracts, for any list, in any world, behind which there are only new blocks. -/
import Derived.Test.YtajhlmiobibhjaaDoorTdI
import Derived.Deep.RegionWith
namespace Go.Proofs.YtajhlmiobibhjaaDoor
open Go.RowKit
set_option linter.unusedVariables false
set_option maxRecDepth 100000
section
variable {w : World} {vL vU vO vF : Value} {L : List (Int × Int)} {U O l : List Int} {base : Nat} {many : Int}
set_option maxHeartbeats 4000000 in
theorem rfree_any (gone : Bool) (h1 : Sl vL) (h2 : Sl vU) (h3 : Own base w vO O) (h4 : Own base w vF l) (hbs : base ≤ w.heap.size) (hO : O.length ≤ 5000) (hl : l.length ≤ 1000000) :
    Calls Tryd.prog 19 #[.agg #[vL, vU, vO, .bool gone], .agg #[.int .i64 many, vF]] w fun e w' => ∃ vF', e = .returned (.tuple #[.agg #[.slice none 0 0, .slice none 0 0, .slice none 0 0, .bool true], .agg #[.int .i64 many, vF']]) ∧ Own base w' vF' (unr l O) ∧ New w w' := by
  obtain ⟨p1, k1, c1, rfl⟩ := h1
  obtain ⟨p2, k2, c2, rfl⟩ := h2
  obtain ⟨p3, c3, rfl⟩ := h3.ints.len
  obtain ⟨p4, k4, c4, rfl⟩ := h4.ints.sl
  have H3 := Lib.hid h3
  have H4 := Lib.hid h4
  clear h3 h4
  go_enter Tryd.func19, Tryd.ntmps19
  obtain ⟨W0, hW0⟩ : ∃ W0, W0 = (((w.alloc (.cells #[.slice p1 k1 c1, .slice p2 k2 c2, .slice p3 O.length c3, .bool gone] 47)).alloc (.cells #[.int .i64 many, .slice p4 k4 c4] 49)).alloc (.cells #[.slice none 0 0, .slice none 0 0, .slice none 0 0, .bool false] 47)).alloc (.cells #[.int .i64 0, .slice none 0 0] 49) := ⟨_, rfl⟩
  have n0 : New w W0 := by rw [hW0]; exact ((((New.refl w).alloc _ _).alloc _ _).alloc _ _).alloc _ _
  have B2 : Box W0 w.heap.size #[.slice p1 k1 c1, .slice p2 k2 c2, .slice p3 O.length c3, .bool gone] 47 := by rw [hW0]; exact (((Box.here w _ _ _ rfl).alloc _).alloc _).alloc _
  have B3 : Box W0 (w.heap.size + 1) #[.int .i64 many, .slice p4 k4 c4] 49 := by rw [hW0]; exact ((Box.here _ _ _ _ (by simp)).alloc _).alloc _
  have B4 : Box W0 (w.heap.size + 1 + 1) #[.slice none 0 0, .slice none 0 0, .slice none 0 0, .bool false] 47 := by rw [hW0]; exact (Box.here _ _ _ _ (by simp)).alloc _
  have B5 : Box W0 (w.heap.size + 1 + 1 + 1) #[.int .i64 0, .slice none 0 0] 49 := by rw [hW0]; exact Box.here _ _ _ _ (by simp)
  go_wp2
  rw [← hW0]
  clear hW0
  go_loopg [6] O.length (fun k i wr => ∃ (j : Nat) (pv : Option Addr) (kv cv : Nat), j + k = O.length ∧ i = .int .i64 (j : Int) ∧ Box wr w.heap.size #[.slice p1 k1 c1, .slice p2 k2 c2, .slice p3 O.length c3, .bool gone] 47 ∧ Box wr (w.heap.size + 1) #[.int .i64 many, .slice pv kv cv] 49 ∧ Box wr (w.heap.size + 1 + 1) #[.slice none 0 0, .slice none 0 0, .slice none 0 0, .bool false] 47 ∧ Box wr (w.heap.size + 1 + 1 + 1) #[.int .i64 0, .slice none 0 0] 49 ∧ Own base wr (.slice pv kv cv) (unr l (O.take j)) ∧ New w wr)
  case atStart => exact ⟨0, _, _, _, by omega, rfl, B2, B3, B4, B5, H4.out.new n0, n0⟩
  case round =>
    clear n0 B2 B3 B4 B5
    obtain ⟨j, pv, kv, cv, hj, rfl, b2, b3, b4, b5, hown, hN⟩ := hrel
    obtain ⟨a0, a1, a2, a3⟩ := b2.four
    by_cases c : j < O.length
    · obtain ⟨b, cap, e, _, _, hb, hc⟩ := (H3.out.new hN).ints.resolve_left (fun h => by have := h.2; subst this; simp at c)
      cases e
      have k0 := hc j c
      obtain ⟨a4, a5⟩ := b3.two
      have f4 := b3.unfrozen 0
      have f5 := b3.unfrozen 1
      have ht : unr l (O.take (j + 1)) = (unr l (O.take j)).erase (O.getD j 0) := by rw [List.take_succ_eq_append_getElem c, unr_push, List.getD_eq_getElem?_getD, List.getElem?_eq_getElem c]; rfl
      have hl2 : (unr l (O.take j)).length ≤ 1000000 := by have := unr_len l (O.take j); omega
      have X := fun W (k : New wr W) => runref_any many (O.getD j 0) (.slice pv kv cv) (unr l (O.take j)) base W (hown.new k) (by have := k.size; have := hN.size; omega) hl2
      have J := Lib.hid hj
      clear hj hc hl2 hown
      have E := Lib.hid ht
      clear ht
      generalize O.getD j 0 = m at *
      have nd : New wr wr.drew := (New.refl _).drew
      go_wp2_with fail
      go_region_with (go_at_call 44; (with_reducible refine (X _ nd).mono ?_); rintro e w1 ⟨v', bb, cc, rfl, o, n1⟩; obtain ⟨pv', kv', cv', rfl⟩ := o.shape; obtain ⟨m0, m1⟩ := (b3.new (nd.trans n1)).two; have m2 := (b3.new (nd.trans n1)).unfrozen 0; have m3 := (b3.new (nd.trans n1)).unfrozen 1)
      all_goals
        go_wp2
        have NN := nd.trans n1
        have C3 := b3.new NN
        have Z2 := (b2.new NN).other2 (n := w.heap.size + 1) (by omega) (.int .i64 many) (.slice pv' kv' cv')
        have Z3 := C3.set2 (.int .i64 many) (.slice pv' kv' cv')
        have Z4 := (b4.new NN).other2 (n := w.heap.size + 1) (by omega) (.int .i64 many) (.slice pv' kv' cv')
        have Z5 := (b5.new NN).other2 (n := w.heap.size + 1) (by omega) (.int .i64 many) (.slice pv' kv' cv')
        have ZO := o.off2 C3 (by decide) (.int .i64 many) (.slice pv' kv' cv')
        have ZN := (hN.trans NN).set2 (n := w.heap.size + 1) (by omega) (.int .i64 many) (.slice pv' kv' cv')
        rw [← E.out] at ZO
        go_roundg (O.length - (j + 1))
        case measure => have := J.out; omega
        case rel => exact ⟨j + 1, _, _, _, by have := J.out; omega, by go_num, Z2, Z3, Z4, Z5, ZO, ZN⟩
    · obtain rfl : j = O.length := by omega
      rw [List.take_length] at hown
      go_wp2
      obtain ⟨s2, ⟨y0, y1, y2, y3⟩, g0, g1, g2, g3⟩ := b4.four'
      have s5 := b5.lt
      obtain ⟨a4, a5⟩ := b3.two
      obtain ⟨z0, z1⟩ := b5.two
      have g4 := b5.unfrozen 0
      have g5 := b5.unfrozen 1
      have HW := Lib.hid (rs_cells (.slice none 0 0) (.slice none 0 0) (.slice none 0 0) (.slice pv kv cv) true many hN b4 b5 (by omega) (by omega) (by omega))
      have HO := Lib.hid (((hown.off4 b4 (by decide) (.slice none 0 0) (.slice none 0 0) (.slice none 0 0) (.bool true)).off2 (b5.other4 (n := w.heap.size + 1 + 1) (by omega) (.slice none 0 0) (.slice none 0 0) (.slice none 0 0) (.bool true)) (by decide) (.int .i64 many) (.slice pv kv cv)).new ((New.refl _).drew))
      clear hN b2 b3 b4 b5 hown
      go_region
      all_goals
        clear a0 a1 a2 a3 y0 y1 y2 y3 g0 g1 g2 g3 g4 g5 a4 a5 z0 z1
        rename_i hret
        refine hret _ _ (wp_ret ?_)
        obtain ⟨r0, r1, r2, r3, r4, r5, QN⟩ := HW.out
        exact bodyPost_ret (v := .tuple #[.agg #[.slice none 0 0, .slice none 0 0, .slice none 0 0, .bool true], .agg #[.int .i64 many, .slice pv kv cv]]) (by simp [results, Tryd.results19, go_sem, r0, r1, r2, r3, r4, r5]) rfl ⟨_, rfl, HO.out, QN⟩
end
end Go.Proofs.YtajhlmiobibhjaaDoor
