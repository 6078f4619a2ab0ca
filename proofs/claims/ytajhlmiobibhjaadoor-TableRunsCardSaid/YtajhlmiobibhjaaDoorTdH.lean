/- What the document's own answers on tables of two levels do, further: a page's entry laid down (no upper part yet) where a frame must be taken for its upper part. Contracts, for any list, in any world, behind which there are only new blocks. -/
import Derived.Test.YtajhlmiobibhjaaDoorTdG
namespace Go.Proofs.YtajhlmiobibhjaaDoor
open Go.RowKit
set_option linter.unusedVariables false
set_option maxRecDepth 100000
section
variable {w : World} {vL vU vO vF : Value} {L : List (Int × Int)} {U O l : List Int} {base : Nat} {many : Int}
set_option maxHeartbeats 8000000 in
theorem rset_nil (p i : Nat) (g q : Int) (c : Bool) (h1 : OwnI base w vL L) (h2 : Own base w vU U) (h3 : Own base w vO O) (h4 : Own base w vF l) (hbs : base ≤ w.heap.size) (hp : p < 4096) (hlen : L.length ≤ 4096) (hU : U.length ≤ 5000)
    (hO : O.length ≤ 5000) (hl : l.length ≤ 1000000) (hO1 : O ≠ []) (hU1 : (vU = .slice none 0 0 ∧ U = [])) (hi1 : (i : Int) < many) (hm2 : many ≤ 1024) (hn : ∀ j : Nat, j < i → cn l (j : Int) ≠ 0) (hz : cn l (i : Int) = 0)
    (g0 : 0 ≤ g) (g1 : g < 1024) (q0 : 0 ≤ q) (q1 : q ≤ 7) (hm : ¬ ((p / 64 : Nat) : Int) ∈ U) :
    Calls Tryd.prog 15 #[.agg #[vL, vU, vO, .bool false], .agg #[.int .i64 many, vF], .int .i64 p, .agg #[.int .i64 g, .int .u8 q, .bool c]] w (RsDone base (lay p (ennum g q c) (less p L)) (U ++ [((p / 64 : Nat) : Int)]) (O ++ [(i : Int)]) (l ++ [(i : Int)]) many 0 w) := by
  obtain ⟨i0, hi, hz0, hz1, hz2⟩ := info_parts item_info
  obtain ⟨pL, cL, rfl⟩ := h1.its.len
  obtain ⟨rfl, rfl⟩ := hU1
  obtain ⟨bO, cO, rfl, hcO, hmO, hbO, hkO⟩ := h3.ints.resolve_left (fun h => hO1 h.2)
  obtain ⟨pF, kF, cF, rfl⟩ := h4.ints.sl
  obtain ⟨W0, hW0⟩ : ∃ W0, W0 = ((((w.alloc (.cells #[.slice pL L.length cL, .slice none 0 0, .slice (some ⟨bO, 0, none⟩) O.length cO, .bool false] 47)).alloc (.cells #[.int .i64 many, .slice pF kF cF] 49)).alloc (.cells #[.int .i64 g, .int .u8 q, .bool c] 52)).alloc (.cells #[.slice none 0 0, .slice none 0 0, .slice none 0 0, .bool false] 47)).alloc (.cells #[.int .i64 0, .slice none 0 0] 49) := ⟨_, rfl⟩
  have n0 : New w W0 := by rw [hW0]; exact (((((New.refl w).alloc _ _).alloc _ _).alloc _ _).alloc _ _).alloc _ _
  have X := rpage_yes p W0 hp
  have Y := fun W => rmay_ok g q c W g0 g1 q0 q1
  have Z := fun W (k : New w W) => rneeds_any (vL := .slice pL L.length cL) (vO := .slice (some ⟨bO, 0, none⟩) O.length cO) p ⟨_, _, _, rfl⟩ (h2.new k).ints ⟨_, _, _, rfl⟩ hp hU
  have HA := fun W (k : New w W) => ralloc_h many (.slice pF kF cF) l i base W (h4.new k) (by have := k.size; omega) hl hi1 hm2 hn hz
  rw [show decide (¬ ((p / 64 : Nat) : Int) ∈ ([] : List Int)) = true from decide_eq_true hm] at Z
  have B4 : Box W0 w.heap.size #[.slice pL L.length cL, .slice none 0 0, .slice (some ⟨bO, 0, none⟩) O.length cO, .bool false] 47 := by rw [hW0]; exact ((((Box.here w _ _ _ rfl).alloc _).alloc _).alloc _).alloc _
  have B5 : Box W0 (w.heap.size + 1) #[.int .i64 many, .slice pF kF cF] 49 := by rw [hW0]; exact (((Box.here _ _ _ _ (by simp)).alloc _).alloc _).alloc _
  have B7 : Box W0 (w.heap.size + 1 + 1) #[.int .i64 g, .int .u8 q, .bool c] 52 := by rw [hW0]; exact ((Box.here _ _ _ _ (by simp)).alloc _).alloc _
  have B8 : Box W0 (w.heap.size + 1 + 1 + 1) #[.slice none 0 0, .slice none 0 0, .slice none 0 0, .bool false] 47 := by rw [hW0]; exact (Box.here _ _ _ _ (by simp)).alloc _
  have B9 : Box W0 (w.heap.size + 1 + 1 + 1 + 1) #[.int .i64 0, .slice none 0 0] 49 := by rw [hW0]; exact Box.here _ _ _ _ (by simp)
  have H1 := Lib.hid h1
  have H2 := Lib.hid h2
  have H3 := Lib.hid h3
  have H4 := Lib.hid h4
  clear h1 h2 h3 h4 hm hn hz
  unfold maxLen at hmO
  go_enter Tryd.func15, Tryd.ntmps15
  go_wp2_with fail
  rw [← hW0]
  clear hW0
  refine X.mono ?_
  rintro e w' ⟨rfl, rfl⟩
  clear X
  obtain ⟨a4, a5⟩ := B7.three
  go_wp2_with fail
  refine (Y _).mono ?_
  rintro e w1 ⟨rfl, n1⟩
  have N1 := n0.trans n1
  have D4 := B4.new n1
  have D5 := B5.new n1
  have D7 := B7.new n1
  have D8 := B8.new n1
  have D9 := B9.new n1
  clear B4 B5 B7 B8 B9 n0 n1 a4 a5 Y
  obtain ⟨x0, x1, x2, x3⟩ := D4.four
  go_wp2_with fail
  refine (Z _ N1).mono ?_
  rintro e w2 ⟨rfl, n2⟩
  have N2 := N1.trans n2
  have E4 := D4.new n2
  have E5 := D5.new n2
  have E7 := D7.new n2
  have E8 := D8.new n2
  have E9 := D9.new n2
  clear D4 D5 D7 D8 D9 N1 n2 x0 x1 x2 x3 Z
  obtain ⟨_, ⟨x0, x1, x2, x3⟩, f0, f1, f2, f3⟩ := E4.four'
  obtain ⟨x4, x5⟩ := E5.two
  go_wp2_with fail
  refine (HA _ N2).mono ?_
  rintro e u3 ⟨vF2, rfl, o2, n3⟩
  obtain ⟨pF2, kF2, cF2, rfl⟩ := o2.shape
  have N3 := N2.trans n3
  have D4 := E4.new n3
  have D5 := E5.new n3
  have D7 := E7.new n3
  have D8 := E8.new n3
  have D9 := E9.new n3
  clear E4 E5 E7 E8 E9 N2 n3 HA x0 x1 x2 x3 x4 x5 f0 f1 f2 f3
  obtain ⟨_, ⟨x0, x1, x2, x3⟩, f0, f1, f2, f3⟩ := D4.four'
  obtain ⟨x4, x5⟩ := D5.two
  have f4 := D5.unfrozen 0
  have f5 := D5.unfrozen 1
  have HB3 := Lib.hid hkO
  have O2 := Lib.hid o2
  clear hkO o2
  have s4 := D4.lt
  have s5 := D5.lt
  have NA := ((N3.set2 (n := w.heap.size + 1) (by omega) (.int .i64 many) (.slice pF2 kF2 cF2)).alloc #[.int .i64 many, .slice pF2 kF2 cF2] 49)
  go_wp2_with (at_builtin; refine wpList_append_clip rfl (.tmp 56) (.tmp 59) rfl rfl (w.heap.size) [] none (.inl ⟨rfl, rfl⟩) rfl ⟨_, 0, none⟩ ((p / 64 : Nat) : Int) rfl ?c1 (by first | omega | simp) ?c2 ?_)
  case c1 => rw [show ((p / 64 : Nat) : Int) = (p : Int) / 64 from by omega]; refine World.cell?_alloc_at _ _ _ _ ?_; simp
  case c2 => exact (NA.alloc #[.int .i64 ((p : Int) / 64)] 3).size
  intro v1 u4 hown1 hgrow
  obtain ⟨pU2, kU2, cU2, rfl⟩ := hown1.shape
  have mA : New (set2 u3 (w.heap.size + 1) (.int .i64 many) (.slice pF2 kF2 cF2)) u4 := (((New.refl _).alloc #[.int .i64 many, .slice pF2 kF2 cF2] 49).allocO (.cells #[.int .i64 ((p : Int) / 64)] 3)).grownNone hgrow
  have n4 : New w u4 := (NA.allocO (.cells #[.int .i64 ((p : Int) / 64)] 3)).grownNone hgrow
  have hne : w.heap.size + 1 ≠ w.heap.size := by omega
  have A4 := (D4.other2 hne (.int .i64 many) (.slice pF2 kF2 cF2)).new mA
  have A5 := (D5.set2 (.int .i64 many) (.slice pF2 kF2 cF2)).new mA
  have A7 := (D7.other2 (n := w.heap.size + 1) (by omega) (.int .i64 many) (.slice pF2 kF2 cF2)).new mA
  have A8 := (D8.other2 (n := w.heap.size + 1) (by omega) (.int .i64 many) (.slice pF2 kF2 cF2)).new mA
  have A9 := (D9.other2 (n := w.heap.size + 1) (by omega) (.int .i64 many) (.slice pF2 kF2 cF2)).new mA
  have OF := Lib.hid ((O2.out.off2 D5 (by decide) (.int .i64 many) (.slice pF2 kF2 cF2)).new mA)
  have OU := Lib.hid hown1
  clear hgrow mA hne D4 D5 D7 D8 D9 O2 N3 NA hown1 x0 x1 x2 x3 x4 x5 f0 f1 f2 f3 f4 f5 s4 s5
  obtain ⟨s4, ⟨x0, x1, x2, x3⟩, f0, f1, f2, f3⟩ := A4.four'
  have N4 := n4.setAt w.heap.size 1 (by omega) (.slice pU2 kU2 cU2)
  go_wp2_with (at_builtin; refine wpList_append_clip rfl (.tmp 70) (.tmp 72) rfl rfl (w.heap.size) O (some ⟨bO, 0, none⟩) (.inr ⟨bO, rfl, ?d0⟩) rfl ⟨_, 0, none⟩ (i : Int) rfl ?d1 (by omega) ?d2 ?_)
  case d0 => intro j hj; exact ((N4.alloc #[.int .i64 (i : Int)] 3).cell (p := ⟨bO, j, none⟩) hbO).trans (HB3.out j hj)
  case d1 => refine World.cell?_alloc_at _ _ _ _ ?_; simp
  case d2 => exact (N4.alloc #[.int .i64 (i : Int)] 3).size
  intro v2 u5 hown2 hgrow
  obtain ⟨pO2, kO2, cO2, rfl⟩ := hown2.shape
  have mA : New (u4.setCell ⟨w.heap.size, 1, none⟩ (.slice pU2 kU2 cU2)) u5 := ((New.refl _).allocO (.cells #[.int .i64 (i : Int)] 3)).grownNone hgrow
  have n5 : New w u5 := (N4.allocO (.cells #[.int .i64 (i : Int)] 3)).grownNone hgrow
  have D4 := (A4.set 1 (.slice pU2 kU2 cU2)).new mA
  have D5 := (A5.other (p := ⟨w.heap.size, 1, none⟩) (by show w.heap.size ≠ _; omega) (.slice pU2 kU2 cU2)).new mA
  have D7 := (A7.other (p := ⟨w.heap.size, 1, none⟩) (by show w.heap.size ≠ _; omega) (.slice pU2 kU2 cU2)).new mA
  have D8 := (A8.other (p := ⟨w.heap.size, 1, none⟩) (by show w.heap.size ≠ _; omega) (.slice pU2 kU2 cU2)).new mA
  have D9 := (A9.other (p := ⟨w.heap.size, 1, none⟩) (by show w.heap.size ≠ _; omega) (.slice pU2 kU2 cU2)).new mA
  have PF := Lib.hid ((OF.out.off A4 (by decide) 1 (.slice pU2 kU2 cU2)).new mA)
  have PU := Lib.hid ((OU.out.off A4 (by decide) 1 (.slice pU2 kU2 cU2)).new mA)
  have PO := Lib.hid hown2
  clear hgrow mA A4 A5 A7 A8 A9 OF OU N4 n4 hown2 x0 x1 x2 x3 f0 f1 f2 f3 s4
  have N2 := n5.setAt w.heap.size 2 (by omega) (.slice pO2 kO2 cO2)
  have E4 := D4.set 2 (.slice pO2 kO2 cO2)
  have E5 := D5.other (p := ⟨w.heap.size, 2, none⟩) (by show w.heap.size ≠ _; omega) (.slice pO2 kO2 cO2)
  have E7 := D7.other (p := ⟨w.heap.size, 2, none⟩) (by show w.heap.size ≠ _; omega) (.slice pO2 kO2 cO2)
  have E8 := D8.other (p := ⟨w.heap.size, 2, none⟩) (by show w.heap.size ≠ _; omega) (.slice pO2 kO2 cO2)
  have E9 := D9.other (p := ⟨w.heap.size, 2, none⟩) (by show w.heap.size ≠ _; omega) (.slice pO2 kO2 cO2)
  have QF := Lib.hid (PF.out.off D4 (by decide) 2 (.slice pO2 kO2 cO2))
  have QU := Lib.hid ((PU.out.off D4 (by decide) 2 (.slice pO2 kO2 cO2)).more (base' := base) hbs)
  have QO := Lib.hid ((PO.out.off D4 (by decide) 2 (.slice pO2 kO2 cO2)).more (base' := base) hbs)
  obtain ⟨s4, ⟨x0, x1, x2, x3⟩, f0, f1, f2, f3⟩ := D4.four'
  have e4 : Box (u5.setCell ⟨w.heap.size, 2, none⟩ (.slice pO2 kO2 cO2)) w.heap.size #[.slice pL L.length cL, .slice pU2 kU2 cU2, .slice pO2 kO2 cO2, .bool false] 47 := E4
  obtain ⟨_, ⟨y0, y1, y2, y3⟩, _⟩ := e4.four'
  clear D4 D5 D7 D8 D9 PF PU PO n5 E4
  go_wp2_with fail
  clear s4 x0 x1 x2 x3 f0 f1 f2 f3 y0 y1 y2 y3
  generalize u5.setCell ⟨w.heap.size, 2, none⟩ (.slice pO2 kO2 cO2) = wT at *
  refine (rclear_any (vU := .slice pU2 kU2 cU2) (vO := .slice pO2 kO2 cO2) p (H1.out.new N2).its ⟨_, _, _, rfl⟩ ⟨_, _, _, rfl⟩ hp (by omega)).mono ?_
  rintro e w3 ⟨vK, rfl, oK, n3⟩
  have hs2 := N2.size
  obtain ⟨pK, cK, rfl⟩ := oK.its.len
  have hKl := less_len p L
  have N3 := (N2.trans n3).alloc #[.slice pK (less (p : Int) L).length cK, .slice pU2 kU2 cU2, .slice pO2 kO2 cO2, .bool false] 47
  have m3 := n3.alloc #[.slice pK (less (p : Int) L).length cK, .slice pU2 kU2 cU2, .slice pO2 kO2 cO2, .bool false] 47
  have F4 := e4.new m3
  have F5 := E5.new m3
  have F7 := E7.new m3
  have F8 := E8.new m3
  have F9 := E9.new m3
  have FC := Box.here w3 w3.heap.size #[.slice pK (less (p : Int) L).length cK, .slice pU2 kU2 cU2, .slice pO2 kO2 cO2, .bool false] 47 rfl
  have HK := Lib.hid (oK.its.new ((New.refl w3).alloc #[.slice pK (less (p : Int) L).length cK, .slice pU2 kU2 cU2, .slice pO2 kO2 cO2, .bool false] 47))
  clear e4 E5 E7 E8 E9 N2 n3 oK
  generalize less (p : Int) L = K at *
  go_wp2_with fail
  generalize hW4 : w3.alloc (.cells #[.slice pK K.length cK, .slice pU2 kU2 cU2, .slice pO2 kO2 cO2, .bool false] 47) = w4 at *
  have hs4 : w3.heap.size < w4.heap.size := FC.lt
  clear hW4
  go_outline
  go_loopg [16, 17, 18] K.length (fun k v d i wr => ∃ j : Nat, j + k = K.length ∧ i = .int .i64 (j : Int) ∧ OwnI w4.heap.size wr v (ins p (ennum g q c) (K.take j)).1 ∧ d = .bool (ins p (ennum g q c) (K.take j)).2 ∧ New w4 wr)
  case atStart => exact ⟨0, by omega, rfl, OwnI.nil _ _, rfl, New.refl _⟩
  case round =>
    obtain ⟨j, hj, rfl, hown, rfl, hN⟩ := hrel
    by_cases hc : j < K.length
    · obtain ⟨b, cap, e, _, _, _, hcs⟩ := (HK.out.new hN).some (by omega)
      cases e
      obtain ⟨k0, k1, k2, k3⟩ := hcs j hc
      obtain ⟨x0, x1, x2, x3⟩ := (FC.new hN).four
      obtain ⟨y0, y1, y2⟩ := (F7.new hN).three
      have ht : K.take (j + 1) = K.take j ++ [K[j]] := by rw [List.take_succ_eq_append_getElem hc]
      have hll := ins_len p (ennum g q c) (K.take j)
      have hl2 : (ins p (ennum g q c) (K.take j)).1.length ≤ 4500 := by rw [List.length_take] at hll; omega
      have J := Lib.hid hj
      have E := Lib.hid (show ins p (ennum g q c) (K.take (j + 1)) = (if (p : Int) < (K[j]).1 ∧ (ins p (ennum g q c) (K.take j)).2 = false then ((ins p (ennum g q c) (K.take j)).1 ++ [((p : Int), ennum g q c)] ++ [K[j]], true) else ((ins p (ennum g q c) (K.take j)).1 ++ [K[j]], (ins p (ennum g q c) (K.take j)).2)) from by rw [ht, ins_push]; rfl)
      obtain ⟨x, hx⟩ : ∃ x, x = K[j] := ⟨_, rfl⟩
      rw [← hx] at k0 k1 k2 k3 E
      have HX := Lib.hid (show ∀ h : j < K.length, K[j]'h = x from fun _ => hx.symm)
      clear hx
      generalize ins p (ennum g q c) (K.take j) = S at *
      obtain ⟨S1, S2⟩ := S
      dsimp only at *
      clear hj ht hll hcs
      by_cases d : (p : Int) < x.1
      · have dd : decide ((p : Int) < x.1) = true := by simpa using d
        cases S2
        · have E2 := Lib.hid (E.out.trans (if_pos ⟨d, rfl⟩))
          have hs5 := hN.size
          clear E
          go_wp2_with ((with_reducible refine at_slot 105 ?_); refine wpList_append_own _ rfl _ _ 45 rfl w4.heap.size 69 i0 (.agg #[.int .i64 0, .int .i64 0, .int .u8 0, .bool false]) 4 24 Tryd.underlying45 hi hz0 hz1 hz2 rfl (by decide) _ _ _ rfl (World.ownsRow.alloc hown _) ⟨wr.heap.size, 0, none⟩ 1 1 (icell ((p : Int), ennum g q c)) rfl rfl ?c1 ?c2 ?c3 ?c4 ?c5 ?_)
          case c1 => exact ecell_new wr p g q c _ g0 g1 q0 q1
          case c2 => exact icell_one _
          case c3 => unfold maxLen; omega
          case c4 => omega
          case c5 => simp; omega
          intro v' w5 hown' hgrow _
          obtain ⟨o5, n5⟩ := OwnI.push hN rfl hown hown' hgrow
          obtain ⟨p5, c5, rfl⟩ := o5.its.len
          have hs6 := n5.size
          have hl6 : (S1 ++ [((p : Int), ennum g q c)]).length ≤ 4600 := by simp; omega
          have hjK := J.out
          obtain ⟨b', cap', e', _, _, _, hcs'⟩ := (HK.out.new n5).some (by omega)
          cases e'
          obtain ⟨k0', k1', k2', k3'⟩ := hcs' j (by omega)
          rw [HX.out (by omega)] at k0' k1' k2' k3'
          obtain ⟨x0', x1', x2', x3'⟩ := (FC.new n5).four
          clear hown hown' hgrow x0 x1 x2 x3 k0 k1 k2 k3 y0 y1 y2 hcs' hjK
          generalize S1 ++ [((p : Int), ennum g q c)] = S3 at *
          go_wp2_with ((with_reducible refine at_slot 113 ?_); refine wpList_append_own _ rfl _ _ 45 rfl w4.heap.size 69 i0 (.agg #[.int .i64 0, .int .i64 0, .int .u8 0, .bool false]) 4 24 Tryd.underlying45 hi hz0 hz1 hz2 rfl (by decide) _ _ _ rfl (World.ownsRow.alloc o5 _) ⟨w5.heap.size, 0, none⟩ 1 1 (icell x) rfl rfl ?d1 ?d2 ?d3 ?d4 ?d5 ?_)
          case d1 => exact icell_new w5 x _
          case d2 => exact icell_one _
          case d3 => unfold maxLen; omega
          case d4 => omega
          case d5 => simp; omega
          intro v' w6 hown' hgrow _
          obtain ⟨o6, n6⟩ := OwnI.push n5 rfl o5 hown' hgrow
          obtain ⟨p6, c6, rfl⟩ := o6.its.len
          clear hown' hgrow o5 x0' x1' x2' x3' k0' k1' k2' k3'
          go_wp2
          go_roundg (K.length - (j + 1))
          case measure => have := J.out; omega
          case rel => exact ⟨j + 1, by have := J.out; omega, by go_num, by rw [E2.out]; exact o6, by rw [E2.out], n6⟩
        · have E2 := Lib.hid (E.out.trans (if_neg (by simp)))
          have hs5 := hN.size
          clear E
          go_wp2_with ((with_reducible refine at_slot 113 ?_); refine wpList_append_own _ rfl _ _ 45 rfl w4.heap.size 69 i0 (.agg #[.int .i64 0, .int .i64 0, .int .u8 0, .bool false]) 4 24 Tryd.underlying45 hi hz0 hz1 hz2 rfl (by decide) _ _ _ rfl (World.ownsRow.alloc hown _) ⟨wr.heap.size, 0, none⟩ 1 1 (icell x) rfl rfl ?e1 ?e2 ?e3 ?e4 ?e5 ?_)
          case e1 => exact icell_new wr x _
          case e2 => exact icell_one _
          case e3 => unfold maxLen; omega
          case e4 => omega
          case e5 => simp; omega
          intro v' w5 hown' hgrow _
          obtain ⟨o5, n5⟩ := OwnI.push hN rfl hown hown' hgrow
          obtain ⟨p5, c5, rfl⟩ := o5.its.len
          clear hown hown' hgrow x0 x1 x2 x3 k0 k1 k2 k3 y0 y1 y2
          go_wp2
          go_roundg (K.length - (j + 1))
          case measure => have := J.out; omega
          case rel => exact ⟨j + 1, by have := J.out; omega, by go_num, by rw [E2.out]; exact o5, by rw [E2.out], n5⟩
      · have dd : decide ((p : Int) < x.1) = false := by simpa using d
        have E2 := Lib.hid (E.out.trans (if_neg (fun h => d h.1)))
        have hs5 := hN.size
        clear E
        go_wp2_with ((with_reducible refine at_slot 113 ?_); refine wpList_append_own _ rfl _ _ 45 rfl w4.heap.size 69 i0 (.agg #[.int .i64 0, .int .i64 0, .int .u8 0, .bool false]) 4 24 Tryd.underlying45 hi hz0 hz1 hz2 rfl (by decide) _ _ _ rfl (World.ownsRow.alloc hown _) ⟨wr.heap.size, 0, none⟩ 1 1 (icell x) rfl rfl ?f1 ?f2 ?f3 ?f4 ?f5 ?_)
        case f1 => first | exact icell_new wr x _ | (intro j u hu; exact hu)
        case f2 => exact icell_one _
        case f3 => unfold maxLen; omega
        case f4 => omega
        case f5 => first | (simp; omega) | omega
        intro v' w5 hown' hgrow _
        obtain ⟨o5, n5⟩ := OwnI.push hN rfl hown hown' hgrow
        obtain ⟨p5, c5, rfl⟩ := o5.its.len
        clear hown hown' hgrow x0 x1 x2 x3 k0 k1 k2 k3 y0 y1 y2
        go_wp2
        go_roundg (K.length - (j + 1))
        case measure => have := J.out; omega
        case rel => exact ⟨j + 1, by have := J.out; omega, by go_num, by rw [E2.out]; exact o5, by rw [E2.out], n5⟩
    · obtain rfl : j = K.length := by omega
      rw [List.take_length] at hown
      have hll := ins_len p (ennum g q c) K
      have RL := Lib.hid (show lay p (ennum g q c) K = if (ins p (ennum g q c) K).2 then (ins p (ennum g q c) K).1 else (ins p (ennum g q c) K).1 ++ [((p : Int), ennum g q c)] from rfl)
      rw [List.take_length]
      generalize ins p (ennum g q c) K = S at *
      obtain ⟨S1, S2⟩ := S
      dsimp only at *
      have hs5 := hN.size
      clear hj hc
      cases S2
      · have E2 := Lib.hid (RL.out.trans (if_neg (by simp)))
        clear RL
        obtain ⟨y0, y1, y2⟩ := (F7.new hN).three
        obtain ⟨x0, x1, x2, x3⟩ := (FC.new hN).four
        go_wp2_with ((with_reducible refine at_slot 121 ?_); refine wpList_append_own _ rfl _ _ 45 rfl w4.heap.size 69 i0 (.agg #[.int .i64 0, .int .i64 0, .int .u8 0, .bool false]) 4 24 Tryd.underlying45 hi hz0 hz1 hz2 rfl (by decide) _ _ _ rfl (World.ownsRow.alloc hown _) ⟨wr.heap.size, 0, none⟩ 1 1 (icell ((p : Int), ennum g q c)) rfl rfl ?k1 ?k2 ?k3 ?k4 ?k5 ?_)
        case k1 => exact ecell_new wr p g q c _ g0 g1 q0 q1
        case k2 => exact icell_one _
        case k3 => unfold maxLen; omega
        case k4 => omega
        case k5 => simp; omega
        intro v' w5 hown' hgrow _
        obtain ⟨o5, n5⟩ := OwnI.push hN rfl hown hown' hgrow
        rw [← E2.out] at o5
        obtain ⟨p5, c5, rfl⟩ := o5.its.len
        clear hown hown' hgrow y0 y1 y2
        obtain ⟨_, ⟨w0, w1, w2, w3⟩, wf0, _, _, _⟩ := (F4.new n5).four'
        go_wp2
        clear w0 w1 w2 w3 wf0
        have hb4 := F4.new n5
        have G4 := hb4.set 0 (.slice p5 (lay p (ennum g q c) K).length c5)
        have oth : ∀ {m : Nat} {cs : Array Value} {t : TypeId}, Box w4 m cs t → w.heap.size ≠ m → Box (w5.setCell ⟨w.heap.size, 0, none⟩ (.slice p5 (lay p (ennum g q c) K).length c5)) m cs t := fun b hn => (b.new n5).other (p := ⟨w.heap.size, 0, none⟩) hn _
        have G5 := oth F5 (by omega)
        have G8 := oth F8 (by omega)
        have G9 := oth F9 (by omega)
        have N5 := (N3.trans n5).setCell (p := ⟨w.heap.size, 0, none⟩) (Nat.le_refl _) (.slice p5 (lay p (ennum g q c) K).length c5)
        have oL := (o5.more (base' := base) (by have := N3.size; omega)).off hb4 (by decide) 0 (.slice p5 (lay p (ennum g q c) K).length c5)
        have oU := (QU.out.new (m3.trans n5)).off hb4 (by decide) 0 (.slice p5 (lay p (ennum g q c) K).length c5)
        have oO := (QO.out.new (m3.trans n5)).off hb4 (by decide) 0 (.slice p5 (lay p (ennum g q c) K).length c5)
        have oF := (QF.out.new (m3.trans n5)).off hb4 (by decide) 0 (.slice p5 (lay p (ennum g q c) K).length c5)
        clear FC F4 F5 F7 F8 F9 oth hb4 HK x0 x1 x2 x3
        generalize w5.setCell ⟨w.heap.size, 0, none⟩ (.slice p5 (lay p (ennum g q c) K).length c5) = w6 at *
        have G4' : Box w6 w.heap.size #[.slice p5 (lay p (ennum g q c) K).length c5, .slice pU2 kU2 cU2, .slice pO2 kO2 cO2, .bool false] 47 := G4
        obtain ⟨s4, ⟨a0, a1, a2, a3⟩, u0, u1, u2, u3⟩ := G4'.four'
        obtain ⟨a4, a5⟩ := G5.two
        obtain ⟨s8, ⟨a6, a7, a8, a9⟩, f0, f1, f2, f3⟩ := G8.four'
        obtain ⟨b0, b1⟩ := G9.two
        have f4 := G9.unfrozen 0
        have f5 := G9.unfrozen 1
        have HW := Lib.hid (rs_world (many := many) N5 G8 G9 (by omega) (by omega) (by omega) oL oU oO oF)
        clear G4 G4' G5 G8 G9 oL oU oO oF N5
        go_region
        all_goals
          clear a0 a1 a2 a3 a4 a5 a6 a7 a8 a9 b0 b1 f0 f1 f2 f3 f4 f5
          rename_i hret
          refine hret _ _ (wp_ret ?_)
          obtain ⟨r0, r1, r2, r3, r4, r5, ZL, ZU, ZO, ZF, ZN⟩ := HW.out
          exact bodyPost_ret (v := .tuple #[.agg #[.slice p5 (lay p (ennum g q c) K).length c5, .slice pU2 kU2 cU2, .slice pO2 kO2 cO2, .bool false], .agg #[.int .i64 many, .slice pF2 kF2 cF2], .int .i64 0]) (by simp [results, Tryd.results15, go_sem, r0, r1, r2, r3, r4, r5]) rfl ⟨_, _, _, _, rfl, ZL, ZU, ZO, ZF, ZN⟩
      · have E2 := Lib.hid (RL.out.trans (if_pos rfl))
        clear RL
        rw [← E2.out] at hown
        obtain ⟨p5, c5, e5⟩ := hown.its.len
        rw [← E2.out] at *
        subst e5
        obtain ⟨x0, x1, x2, x3⟩ := (FC.new hN).four
        obtain ⟨_, ⟨w0, w1, w2, w3⟩, wf0, _, _, _⟩ := (F4.new hN).four'
        go_wp2
        clear w0 w1 w2 w3 wf0
        have hb4 := F4.new hN
        have G4 := hb4.set 0 (.slice p5 (lay p (ennum g q c) K).length c5)
        have oth : ∀ {m : Nat} {cs : Array Value} {t : TypeId}, Box w4 m cs t → w.heap.size ≠ m → Box (wr.setCell ⟨w.heap.size, 0, none⟩ (.slice p5 (lay p (ennum g q c) K).length c5)) m cs t := fun b hn => (b.new hN).other (p := ⟨w.heap.size, 0, none⟩) hn _
        have G5 := oth F5 (by omega)
        have G8 := oth F8 (by omega)
        have G9 := oth F9 (by omega)
        have N5 := (N3.trans hN).setCell (p := ⟨w.heap.size, 0, none⟩) (Nat.le_refl _) (.slice p5 (lay p (ennum g q c) K).length c5)
        have oL := (hown.more (base' := base) (by have := N3.size; omega)).off hb4 (by decide) 0 (.slice p5 (lay p (ennum g q c) K).length c5)
        have oU := (QU.out.new (m3.trans hN)).off hb4 (by decide) 0 (.slice p5 (lay p (ennum g q c) K).length c5)
        have oO := (QO.out.new (m3.trans hN)).off hb4 (by decide) 0 (.slice p5 (lay p (ennum g q c) K).length c5)
        have oF := (QF.out.new (m3.trans hN)).off hb4 (by decide) 0 (.slice p5 (lay p (ennum g q c) K).length c5)
        clear FC F4 F5 F7 F8 F9 oth hb4 HK x0 x1 x2 x3
        generalize wr.setCell ⟨w.heap.size, 0, none⟩ (.slice p5 (lay p (ennum g q c) K).length c5) = w6 at *
        have G4' : Box w6 w.heap.size #[.slice p5 (lay p (ennum g q c) K).length c5, .slice pU2 kU2 cU2, .slice pO2 kO2 cO2, .bool false] 47 := G4
        obtain ⟨s4, ⟨a0, a1, a2, a3⟩, u0, u1, u2, u3⟩ := G4'.four'
        obtain ⟨a4, a5⟩ := G5.two
        obtain ⟨s8, ⟨a6, a7, a8, a9⟩, f0, f1, f2, f3⟩ := G8.four'
        obtain ⟨b0, b1⟩ := G9.two
        have f4 := G9.unfrozen 0
        have f5 := G9.unfrozen 1
        have HW := Lib.hid (rs_world (many := many) N5 G8 G9 (by omega) (by omega) (by omega) oL oU oO oF)
        clear G4 G4' G5 G8 G9 oL oU oO oF N5
        go_region
        all_goals
          clear a0 a1 a2 a3 a4 a5 a6 a7 a8 a9 b0 b1 f0 f1 f2 f3 f4 f5
          rename_i hret
          refine hret _ _ (wp_ret ?_)
          obtain ⟨r0, r1, r2, r3, r4, r5, ZL, ZU, ZO, ZF, ZN⟩ := HW.out
          exact bodyPost_ret (v := .tuple #[.agg #[.slice p5 (lay p (ennum g q c) K).length c5, .slice pU2 kU2 cU2, .slice pO2 kO2 cO2, .bool false], .agg #[.int .i64 many, .slice pF2 kF2 cF2], .int .i64 0]) (by simp [results, Tryd.results15, go_sem, r0, r1, r2, r3, r4, r5]) rfl ⟨_, _, _, _, rfl, ZL, ZU, ZO, ZF, ZN⟩
end
end Go.Proofs.YtajhlmiobibhjaaDoor
