/- What the document's own answers on tables of two levels do, further: a page's entry laid down. Contracts, for any list, in any world, behind which there are only new blocks. -/
import Derived.Test.YtajhlmiobibhjaaDoorTdE
namespace Go.Proofs.YtajhlmiobibhjaaDoor
open Go.RowKit
set_option linter.unusedVariables false
set_option maxRecDepth 100000
theorem icell_en (p g q : Int) (c : Bool) (g0 : 0 ≤ g) (g1 : g < 1024) (q0 : 0 ≤ q) (q1 : q ≤ 7) : icell (p, ennum g q c) = [.int .i64 p, .int .i64 g, .int .u8 q, .bool c] := by
  obtain ⟨h1, h2, h3, h4, h5, h6⟩ := ennum_is g q c g0 g1 q0 q1
  obtain ⟨_, e0, _⟩ := ennum_pn g q c g0 g1 q0 q1
  obtain ⟨d1, d2, d3, d4⟩ := dc_is e0 h1
  show [Value.int .i64 p, .int .i64 (dcf (ennum g q c)), .int .u8 (dcp (ennum g q c)), .bool (dcc (ennum g q c))] = _
  rw [d1, d2, d3, h4, h5, h6]
theorem ecell_new (w : World) (p g q : Int) (c : Bool) (t : TypeId) (g0 : 0 ≤ g) (g1 : g < 1024) (q0 : 0 ≤ q) (q1 : q ≤ 7) : ∀ j u, (icell (p, ennum g q c))[j]? = some u → (w.alloc (.cells #[.int .i64 p, .int .i64 g, .int .u8 q, .bool c] t)).cell? ((⟨w.heap.size, 0, none⟩ : Addr).add j) = some u := by
  have := icell_new w (p, ennum g q c) t
  obtain ⟨h1, h2, h3, h4, h5, h6⟩ := ennum_is g q c g0 g1 q0 q1
  obtain ⟨_, e0, _⟩ := ennum_pn g q c g0 g1 q0 q1
  obtain ⟨d1, d2, d3, d4⟩ := dc_is e0 h1
  dsimp only at this
  rw [d1, d2, d3, h4, h5, h6] at this
  exact this
/-- a table with its list, and frames, and a number -/
def RsDone (base : Nat) (L : List (Int × Int)) (U O l : List Int) (many er : Int) (w : World) (e : Ending) (w' : World) : Prop :=
  ∃ vL vU vO vF, e = .returned (.tuple #[.agg #[vL, vU, vO, .bool false], .agg #[.int .i64 many, vF], .int .i64 er]) ∧ OwnI base w' vL L ∧ Own base w' vU U ∧ Own base w' vO O ∧ Own base w' vF l ∧ New w w'
section
variable {w : World} {vL vU vO vF : Value} {L : List (Int × Int)} {U O l : List Int} {base : Nat} {many : Int}
theorem rs_world {w6 : World} {n8 n9 : Nat} {x0 x1 x2 x3 y0 y1 : Value} (N : New w w6) (b8 : Box w6 n8 #[x0, x1, x2, x3] 47) (b9 : Box w6 n9 #[y0, y1] 49) (hne : n8 ≠ n9) (h8 : w.heap.size ≤ n8) (h9 : w.heap.size ≤ n9)
    (oL : OwnI base w6 vL L) (oU : Own base w6 vU U) (oO : Own base w6 vO O) (oF : Own base w6 vF l) :
    let W := ((((((w6.setCell ⟨n8, 0, none⟩ vL).setCell ⟨n8, 1, none⟩ vU).setCell ⟨n8, 2, none⟩ vO).setCell ⟨n8, 3, none⟩ (.bool false)).setCell ⟨n9, 0, none⟩ (.int .i64 many)).setCell ⟨n9, 1, none⟩ vF).drew
    W.cell? ⟨n8, 0, none⟩ = some vL ∧ W.cell? ⟨n8, 1, none⟩ = some vU ∧ W.cell? ⟨n8, 2, none⟩ = some vO ∧ W.cell? ⟨n8, 3, none⟩ = some (.bool false) ∧ W.cell? ⟨n9, 0, none⟩ = some (.int .i64 many) ∧ W.cell? ⟨n9, 1, none⟩ = some vF ∧
      OwnI base W vL L ∧ Own base W vU U ∧ Own base W vO O ∧ Own base W vF l ∧ New w W := by
  intro W
  have c9 := b9.other4 (n := n8) hne vL vU vO (.bool false)
  have d8 := (b8.set4 vL vU vO (.bool false)).other2 (n := n9) (Ne.symm hne) (.int .i64 many) vF
  have d9 := c9.set2 (.int .i64 many) vF
  have pL := (oL.off4 b8 (by decide) vL vU vO (.bool false)).off2 c9 (by decide) (.int .i64 many) vF
  have pU := (oU.off4 b8 (by decide) vL vU vO (.bool false)).off2 c9 (by decide) (.int .i64 many) vF
  have pO := (oO.off4 b8 (by decide) vL vU vO (.bool false)).off2 c9 (by decide) (.int .i64 many) vF
  have pF := (oF.off4 b8 (by decide) vL vU vO (.bool false)).off2 c9 (by decide) (.int .i64 many) vF
  have pN := (N.set4 h8 vL vU vO (.bool false)).set2 h9 (.int .i64 many) vF
  have nD : New (set2 (set4 w6 n8 vL vU vO (.bool false)) n9 (.int .i64 many) vF) W := (New.refl _).drew
  obtain ⟨_, ⟨r0, r1, r2, r3⟩, _⟩ := (d8.new nD).four'
  obtain ⟨r4, r5⟩ := (d9.new nD).two
  exact ⟨r0, r1, r2, r3, r4, r5, pL.new nD, pU.new nD, pO.new nD, pF.new nD, pN.trans nD⟩
set_option maxHeartbeats 4000000 in
theorem rset_old (p : Nat) (g q : Int) (c : Bool) (h1 : OwnI base w vL L) (h2 : Own base w vU U) (h3 : Own base w vO O) (h4 : Own base w vF l) (hbs : base ≤ w.heap.size) (hp : p < 4096) (hlen : L.length ≤ 4096) (hU : U.length ≤ 5000)
    (g0 : 0 ≤ g) (g1 : g < 1024) (q0 : 0 ≤ q) (q1 : q ≤ 7) (hm : ((p / 64 : Nat) : Int) ∈ U) :
    Calls Tryd.prog 15 #[.agg #[vL, vU, vO, .bool false], .agg #[.int .i64 many, vF], .int .i64 p, .agg #[.int .i64 g, .int .u8 q, .bool c]] w (RsDone base (lay p (ennum g q c) (less p L)) U O l many 0 w) := by
  obtain ⟨i0, hi, hz0, hz1, hz2⟩ := info_parts item_info
  obtain ⟨pL, cL, rfl⟩ := h1.its.len
  obtain ⟨pU, kU, cU, rfl⟩ := h2.ints.sl
  obtain ⟨pO, kO, cO, rfl⟩ := h3.ints.sl
  obtain ⟨pF, kF, cF, rfl⟩ := h4.ints.sl
  obtain ⟨W0, hW0⟩ : ∃ W0, W0 = ((((w.alloc (.cells #[.slice pL L.length cL, .slice pU kU cU, .slice pO kO cO, .bool false] 47)).alloc (.cells #[.int .i64 many, .slice pF kF cF] 49)).alloc (.cells #[.int .i64 g, .int .u8 q, .bool c] 52)).alloc (.cells #[.slice none 0 0, .slice none 0 0, .slice none 0 0, .bool false] 47)).alloc (.cells #[.int .i64 0, .slice none 0 0] 49) := ⟨_, rfl⟩
  have n0 : New w W0 := by rw [hW0]; exact (((((New.refl w).alloc _ _).alloc _ _).alloc _ _).alloc _ _).alloc _ _
  have X := rpage_yes p W0 hp
  have Y := fun W => rmay_ok g q c W g0 g1 q0 q1
  have Z := fun W (k : New w W) => rneeds_any (vL := .slice pL L.length cL) (vO := .slice pO kO cO) p ⟨_, _, _, rfl⟩ (h2.new k).ints ⟨_, _, _, rfl⟩ hp hU
  have V := fun W (k : New w W) => rclear_any (vU := .slice pU kU cU) (vO := .slice pO kO cO) p (h1.new k).its ⟨_, _, _, rfl⟩ ⟨_, _, _, rfl⟩ hp (by omega)
  rw [show decide (¬ ((p / 64 : Nat) : Int) ∈ U) = false from decide_eq_false (fun h => h hm)] at Z
  have B4 : Box W0 w.heap.size #[.slice pL L.length cL, .slice pU kU cU, .slice pO kO cO, .bool false] 47 := by rw [hW0]; exact ((((Box.here w _ _ _ rfl).alloc _).alloc _).alloc _).alloc _
  have B5 : Box W0 (w.heap.size + 1) #[.int .i64 many, .slice pF kF cF] 49 := by rw [hW0]; exact (((Box.here _ _ _ _ (by simp)).alloc _).alloc _).alloc _
  have B7 : Box W0 (w.heap.size + 1 + 1) #[.int .i64 g, .int .u8 q, .bool c] 52 := by rw [hW0]; exact ((Box.here _ _ _ _ (by simp)).alloc _).alloc _
  have B8 : Box W0 (w.heap.size + 1 + 1 + 1) #[.slice none 0 0, .slice none 0 0, .slice none 0 0, .bool false] 47 := by rw [hW0]; exact (Box.here _ _ _ _ (by simp)).alloc _
  have B9 : Box W0 (w.heap.size + 1 + 1 + 1 + 1) #[.int .i64 0, .slice none 0 0] 49 := by rw [hW0]; exact Box.here _ _ _ _ (by simp)
  have H1 := Lib.hid h1
  have H2 := Lib.hid h2
  have H3 := Lib.hid h3
  have H4 := Lib.hid h4
  clear h1 h2 h3 h4 hm
  go_enter Tryd.func15, Tryd.ntmps15
  go_wp2_with fail
  rw [← hW0]
  clear hW0
  refine X.mono ?_
  rintro e w' ⟨rfl, rfl⟩
  clear X
  obtain ⟨a4, a5⟩ := B7.three
  go_wp2_with fail
  refine (Y _).mono ?_
  rintro e w1 ⟨rfl, n1⟩
  have N1 := n0.trans n1
  have D4 := B4.new n1
  have D5 := B5.new n1
  have D7 := B7.new n1
  have D8 := B8.new n1
  have D9 := B9.new n1
  clear B4 B5 B7 B8 B9 n0 n1 a4 a5 Y
  obtain ⟨x0, x1, x2, x3⟩ := D4.four
  go_wp2_with fail
  refine (Z _ N1).mono ?_
  rintro e w2 ⟨rfl, n2⟩
  have N2 := N1.trans n2
  have E4 := D4.new n2
  have E5 := D5.new n2
  have E7 := D7.new n2
  have E8 := D8.new n2
  have E9 := D9.new n2
  clear D4 D5 D7 D8 D9 N1 n2 x0 x1 x2 x3 Z
  obtain ⟨x0, x1, x2, x3⟩ := E4.four
  go_wp2_with fail
  refine (V _ N2).mono ?_
  rintro e w3 ⟨vK, rfl, oK, n3⟩
  have hs2 := N2.size
  obtain ⟨pK, cK, rfl⟩ := oK.its.len
  have hKl := less_len p L
  have N3 := (N2.trans n3).alloc #[.slice pK (less (p : Int) L).length cK, .slice pU kU cU, .slice pO kO cO, .bool false] 47
  have m3 := n3.alloc #[.slice pK (less (p : Int) L).length cK, .slice pU kU cU, .slice pO kO cO, .bool false] 47
  have F4 := E4.new m3
  have F5 := E5.new m3
  have F7 := E7.new m3
  have F8 := E8.new m3
  have F9 := E9.new m3
  have FC := Box.here w3 w3.heap.size #[.slice pK (less (p : Int) L).length cK, .slice pU kU cU, .slice pO kO cO, .bool false] 47 rfl
  have HK := Lib.hid (oK.its.new ((New.refl w3).alloc #[.slice pK (less (p : Int) L).length cK, .slice pU kU cU, .slice pO kO cO, .bool false] 47))
  clear E4 E5 E7 E8 E9 N2 n3 m3 oK V x0 x1 x2 x3
  generalize less (p : Int) L = K at *
  go_wp2_with fail
  generalize hW4 : w3.alloc (.cells #[.slice pK K.length cK, .slice pU kU cU, .slice pO kO cO, .bool false] 47) = w4 at *
  have hs4 : w3.heap.size < w4.heap.size := FC.lt
  clear hW4
  go_outline
  go_loopg [16, 17, 18] K.length (fun k v d i wr => ∃ j : Nat, j + k = K.length ∧ i = .int .i64 (j : Int) ∧ OwnI w4.heap.size wr v (ins p (ennum g q c) (K.take j)).1 ∧ d = .bool (ins p (ennum g q c) (K.take j)).2 ∧ New w4 wr)
  case atStart => exact ⟨0, by omega, rfl, OwnI.nil _ _, rfl, New.refl _⟩
  case round =>
    obtain ⟨j, hj, rfl, hown, rfl, hN⟩ := hrel
    by_cases hc : j < K.length
    · obtain ⟨b, cap, e, _, _, _, hcs⟩ := (HK.out.new hN).some (by omega)
      cases e
      obtain ⟨k0, k1, k2, k3⟩ := hcs j hc
      obtain ⟨x0, x1, x2, x3⟩ := (FC.new hN).four
      obtain ⟨y0, y1, y2⟩ := (F7.new hN).three
      have ht : K.take (j + 1) = K.take j ++ [K[j]] := by rw [List.take_succ_eq_append_getElem hc]
      have hll := ins_len p (ennum g q c) (K.take j)
      have hl2 : (ins p (ennum g q c) (K.take j)).1.length ≤ 4500 := by rw [List.length_take] at hll; omega
      have J := Lib.hid hj
      have E := Lib.hid (show ins p (ennum g q c) (K.take (j + 1)) = (if (p : Int) < (K[j]).1 ∧ (ins p (ennum g q c) (K.take j)).2 = false then ((ins p (ennum g q c) (K.take j)).1 ++ [((p : Int), ennum g q c)] ++ [K[j]], true) else ((ins p (ennum g q c) (K.take j)).1 ++ [K[j]], (ins p (ennum g q c) (K.take j)).2)) from by rw [ht, ins_push]; rfl)
      obtain ⟨x, hx⟩ : ∃ x, x = K[j] := ⟨_, rfl⟩
      rw [← hx] at k0 k1 k2 k3 E
      have HX := Lib.hid (show ∀ h : j < K.length, K[j]'h = x from fun _ => hx.symm)
      clear hx
      generalize ins p (ennum g q c) (K.take j) = S at *
      obtain ⟨S1, S2⟩ := S
      dsimp only at *
      clear hj ht hll hcs
      by_cases d : (p : Int) < x.1
      · have dd : decide ((p : Int) < x.1) = true := by simpa using d
        cases S2
        · have E2 := Lib.hid (E.out.trans (if_pos ⟨d, rfl⟩))
          have hs5 := hN.size
          clear E
          go_wp2_with ((with_reducible refine at_slot 105 ?_); refine wpList_append_own _ rfl _ _ 45 rfl w4.heap.size 69 i0 (.agg #[.int .i64 0, .int .i64 0, .int .u8 0, .bool false]) 4 24 Tryd.underlying45 hi hz0 hz1 hz2 rfl (by decide) _ _ _ rfl (World.ownsRow.alloc hown _) ⟨wr.heap.size, 0, none⟩ 1 1 (icell ((p : Int), ennum g q c)) rfl rfl ?c1 ?c2 ?c3 ?c4 ?c5 ?_)
          case c1 => exact ecell_new wr p g q c _ g0 g1 q0 q1
          case c2 => exact icell_one _
          case c3 => unfold maxLen; omega
          case c4 => omega
          case c5 => simp; omega
          intro v' w5 hown' hgrow _
          obtain ⟨o5, n5⟩ := OwnI.push hN rfl hown hown' hgrow
          obtain ⟨p5, c5, rfl⟩ := o5.its.len
          have hs6 := n5.size
          have hl6 : (S1 ++ [((p : Int), ennum g q c)]).length ≤ 4600 := by simp; omega
          have hjK := J.out
          obtain ⟨b', cap', e', _, _, _, hcs'⟩ := (HK.out.new n5).some (by omega)
          cases e'
          obtain ⟨k0', k1', k2', k3'⟩ := hcs' j (by omega)
          rw [HX.out (by omega)] at k0' k1' k2' k3'
          obtain ⟨x0', x1', x2', x3'⟩ := (FC.new n5).four
          clear hown hown' hgrow x0 x1 x2 x3 k0 k1 k2 k3 y0 y1 y2 hcs' hjK
          generalize S1 ++ [((p : Int), ennum g q c)] = S3 at *
          go_wp2_with ((with_reducible refine at_slot 113 ?_); refine wpList_append_own _ rfl _ _ 45 rfl w4.heap.size 69 i0 (.agg #[.int .i64 0, .int .i64 0, .int .u8 0, .bool false]) 4 24 Tryd.underlying45 hi hz0 hz1 hz2 rfl (by decide) _ _ _ rfl (World.ownsRow.alloc o5 _) ⟨w5.heap.size, 0, none⟩ 1 1 (icell x) rfl rfl ?d1 ?d2 ?d3 ?d4 ?d5 ?_)
          case d1 => exact icell_new w5 x _
          case d2 => exact icell_one _
          case d3 => unfold maxLen; omega
          case d4 => omega
          case d5 => simp; omega
          intro v' w6 hown' hgrow _
          obtain ⟨o6, n6⟩ := OwnI.push n5 rfl o5 hown' hgrow
          obtain ⟨p6, c6, rfl⟩ := o6.its.len
          clear hown' hgrow o5 x0' x1' x2' x3' k0' k1' k2' k3'
          go_wp2
          go_roundg (K.length - (j + 1))
          case measure => have := J.out; omega
          case rel => exact ⟨j + 1, by have := J.out; omega, by go_num, by rw [E2.out]; exact o6, by rw [E2.out], n6⟩
        · have E2 := Lib.hid (E.out.trans (if_neg (by simp)))
          have hs5 := hN.size
          clear E
          go_wp2_with ((with_reducible refine at_slot 113 ?_); refine wpList_append_own _ rfl _ _ 45 rfl w4.heap.size 69 i0 (.agg #[.int .i64 0, .int .i64 0, .int .u8 0, .bool false]) 4 24 Tryd.underlying45 hi hz0 hz1 hz2 rfl (by decide) _ _ _ rfl (World.ownsRow.alloc hown _) ⟨wr.heap.size, 0, none⟩ 1 1 (icell x) rfl rfl ?e1 ?e2 ?e3 ?e4 ?e5 ?_)
          case e1 => exact icell_new wr x _
          case e2 => exact icell_one _
          case e3 => unfold maxLen; omega
          case e4 => omega
          case e5 => simp; omega
          intro v' w5 hown' hgrow _
          obtain ⟨o5, n5⟩ := OwnI.push hN rfl hown hown' hgrow
          obtain ⟨p5, c5, rfl⟩ := o5.its.len
          clear hown hown' hgrow x0 x1 x2 x3 k0 k1 k2 k3 y0 y1 y2
          go_wp2
          go_roundg (K.length - (j + 1))
          case measure => have := J.out; omega
          case rel => exact ⟨j + 1, by have := J.out; omega, by go_num, by rw [E2.out]; exact o5, by rw [E2.out], n5⟩
      · have dd : decide ((p : Int) < x.1) = false := by simpa using d
        have E2 := Lib.hid (E.out.trans (if_neg (fun h => d h.1)))
        have hs5 := hN.size
        clear E
        go_wp2_with ((with_reducible refine at_slot 113 ?_); refine wpList_append_own _ rfl _ _ 45 rfl w4.heap.size 69 i0 (.agg #[.int .i64 0, .int .i64 0, .int .u8 0, .bool false]) 4 24 Tryd.underlying45 hi hz0 hz1 hz2 rfl (by decide) _ _ _ rfl (World.ownsRow.alloc hown _) ⟨wr.heap.size, 0, none⟩ 1 1 (icell x) rfl rfl ?f1 ?f2 ?f3 ?f4 ?f5 ?_)
        case f1 => first | exact icell_new wr x _ | (intro j u hu; exact hu)
        case f2 => exact icell_one _
        case f3 => unfold maxLen; omega
        case f4 => omega
        case f5 => first | (simp; omega) | omega
        intro v' w5 hown' hgrow _
        obtain ⟨o5, n5⟩ := OwnI.push hN rfl hown hown' hgrow
        obtain ⟨p5, c5, rfl⟩ := o5.its.len
        clear hown hown' hgrow x0 x1 x2 x3 k0 k1 k2 k3 y0 y1 y2
        go_wp2
        go_roundg (K.length - (j + 1))
        case measure => have := J.out; omega
        case rel => exact ⟨j + 1, by have := J.out; omega, by go_num, by rw [E2.out]; exact o5, by rw [E2.out], n5⟩
    · obtain rfl : j = K.length := by omega
      rw [List.take_length] at hown
      have hll := ins_len p (ennum g q c) K
      have RL := Lib.hid (show lay p (ennum g q c) K = if (ins p (ennum g q c) K).2 then (ins p (ennum g q c) K).1 else (ins p (ennum g q c) K).1 ++ [((p : Int), ennum g q c)] from rfl)
      rw [List.take_length]
      generalize ins p (ennum g q c) K = S at *
      obtain ⟨S1, S2⟩ := S
      dsimp only at *
      have hs5 := hN.size
      clear hj hc
      cases S2
      · have E2 := Lib.hid (RL.out.trans (if_neg (by simp)))
        clear RL
        obtain ⟨y0, y1, y2⟩ := (F7.new hN).three
        obtain ⟨x0, x1, x2, x3⟩ := (FC.new hN).four
        go_wp2_with ((with_reducible refine at_slot 121 ?_); refine wpList_append_own _ rfl _ _ 45 rfl w4.heap.size 69 i0 (.agg #[.int .i64 0, .int .i64 0, .int .u8 0, .bool false]) 4 24 Tryd.underlying45 hi hz0 hz1 hz2 rfl (by decide) _ _ _ rfl (World.ownsRow.alloc hown _) ⟨wr.heap.size, 0, none⟩ 1 1 (icell ((p : Int), ennum g q c)) rfl rfl ?k1 ?k2 ?k3 ?k4 ?k5 ?_)
        case k1 => exact ecell_new wr p g q c _ g0 g1 q0 q1
        case k2 => exact icell_one _
        case k3 => unfold maxLen; omega
        case k4 => omega
        case k5 => simp; omega
        intro v' w5 hown' hgrow _
        obtain ⟨o5, n5⟩ := OwnI.push hN rfl hown hown' hgrow
        rw [← E2.out] at o5
        obtain ⟨p5, c5, rfl⟩ := o5.its.len
        clear hown hown' hgrow y0 y1 y2
        obtain ⟨_, ⟨w0, w1, w2, w3⟩, wf0, _, _, _⟩ := (F4.new n5).four'
        go_wp2
        clear w0 w1 w2 w3 wf0
        have hb4 := F4.new n5
        have G4 := hb4.set 0 (.slice p5 (lay p (ennum g q c) K).length c5)
        have oth : ∀ {m : Nat} {cs : Array Value} {t : TypeId}, Box w4 m cs t → w.heap.size ≠ m → Box (w5.setCell ⟨w.heap.size, 0, none⟩ (.slice p5 (lay p (ennum g q c) K).length c5)) m cs t := fun b hn => (b.new n5).other (p := ⟨w.heap.size, 0, none⟩) hn _
        have G5 := oth F5 (by omega)
        have G8 := oth F8 (by omega)
        have G9 := oth F9 (by omega)
        have N5 := (N3.trans n5).setCell (p := ⟨w.heap.size, 0, none⟩) (Nat.le_refl _) (.slice p5 (lay p (ennum g q c) K).length c5)
        have oL := (o5.more (base' := base) (by have := N3.size; omega)).off hb4 (by decide) 0 (.slice p5 (lay p (ennum g q c) K).length c5)
        have oU := (H2.out.new (N3.trans n5)).off hb4 (by decide) 0 (.slice p5 (lay p (ennum g q c) K).length c5)
        have oO := (H3.out.new (N3.trans n5)).off hb4 (by decide) 0 (.slice p5 (lay p (ennum g q c) K).length c5)
        have oF := (H4.out.new (N3.trans n5)).off hb4 (by decide) 0 (.slice p5 (lay p (ennum g q c) K).length c5)
        clear FC F4 F5 F7 F8 F9 oth hb4 HK x0 x1 x2 x3
        generalize w5.setCell ⟨w.heap.size, 0, none⟩ (.slice p5 (lay p (ennum g q c) K).length c5) = w6 at *
        have G4' : Box w6 w.heap.size #[.slice p5 (lay p (ennum g q c) K).length c5, .slice pU kU cU, .slice pO kO cO, .bool false] 47 := G4
        obtain ⟨s4, ⟨a0, a1, a2, a3⟩, u0, u1, u2, u3⟩ := G4'.four'
        obtain ⟨a4, a5⟩ := G5.two
        obtain ⟨s8, ⟨a6, a7, a8, a9⟩, f0, f1, f2, f3⟩ := G8.four'
        obtain ⟨b0, b1⟩ := G9.two
        have f4 := G9.unfrozen 0
        have f5 := G9.unfrozen 1
        have HW := Lib.hid (rs_world (many := many) N5 G8 G9 (by omega) (by omega) (by omega) oL oU oO oF)
        clear G4 G4' G5 G8 G9 oL oU oO oF N5
        go_region
        all_goals
          clear a0 a1 a2 a3 a4 a5 a6 a7 a8 a9 b0 b1 f0 f1 f2 f3 f4 f5
          rename_i hret
          refine hret _ _ (wp_ret ?_)
          obtain ⟨r0, r1, r2, r3, r4, r5, QL, QU, QO, QF, QN⟩ := HW.out
          exact bodyPost_ret (v := .tuple #[.agg #[.slice p5 (lay p (ennum g q c) K).length c5, .slice pU kU cU, .slice pO kO cO, .bool false], .agg #[.int .i64 many, .slice pF kF cF], .int .i64 0]) (by simp [results, Tryd.results15, go_sem, r0, r1, r2, r3, r4, r5]) rfl ⟨_, _, _, _, rfl, QL, QU, QO, QF, QN⟩
      · have E2 := Lib.hid (RL.out.trans (if_pos rfl))
        clear RL
        rw [← E2.out] at hown
        obtain ⟨p5, c5, e5⟩ := hown.its.len
        rw [← E2.out] at *
        subst e5
        obtain ⟨x0, x1, x2, x3⟩ := (FC.new hN).four
        obtain ⟨_, ⟨w0, w1, w2, w3⟩, wf0, _, _, _⟩ := (F4.new hN).four'
        go_wp2
        clear w0 w1 w2 w3 wf0
        have hb4 := F4.new hN
        have G4 := hb4.set 0 (.slice p5 (lay p (ennum g q c) K).length c5)
        have oth : ∀ {m : Nat} {cs : Array Value} {t : TypeId}, Box w4 m cs t → w.heap.size ≠ m → Box (wr.setCell ⟨w.heap.size, 0, none⟩ (.slice p5 (lay p (ennum g q c) K).length c5)) m cs t := fun b hn => (b.new hN).other (p := ⟨w.heap.size, 0, none⟩) hn _
        have G5 := oth F5 (by omega)
        have G8 := oth F8 (by omega)
        have G9 := oth F9 (by omega)
        have N5 := (N3.trans hN).setCell (p := ⟨w.heap.size, 0, none⟩) (Nat.le_refl _) (.slice p5 (lay p (ennum g q c) K).length c5)
        have oL := (hown.more (base' := base) (by have := N3.size; omega)).off hb4 (by decide) 0 (.slice p5 (lay p (ennum g q c) K).length c5)
        have oU := (H2.out.new (N3.trans hN)).off hb4 (by decide) 0 (.slice p5 (lay p (ennum g q c) K).length c5)
        have oO := (H3.out.new (N3.trans hN)).off hb4 (by decide) 0 (.slice p5 (lay p (ennum g q c) K).length c5)
        have oF := (H4.out.new (N3.trans hN)).off hb4 (by decide) 0 (.slice p5 (lay p (ennum g q c) K).length c5)
        clear FC F4 F5 F7 F8 F9 oth hb4 HK x0 x1 x2 x3
        generalize wr.setCell ⟨w.heap.size, 0, none⟩ (.slice p5 (lay p (ennum g q c) K).length c5) = w6 at *
        have G4' : Box w6 w.heap.size #[.slice p5 (lay p (ennum g q c) K).length c5, .slice pU kU cU, .slice pO kO cO, .bool false] 47 := G4
        obtain ⟨s4, ⟨a0, a1, a2, a3⟩, u0, u1, u2, u3⟩ := G4'.four'
        obtain ⟨a4, a5⟩ := G5.two
        obtain ⟨s8, ⟨a6, a7, a8, a9⟩, f0, f1, f2, f3⟩ := G8.four'
        obtain ⟨b0, b1⟩ := G9.two
        have f4 := G9.unfrozen 0
        have f5 := G9.unfrozen 1
        have HW := Lib.hid (rs_world (many := many) N5 G8 G9 (by omega) (by omega) (by omega) oL oU oO oF)
        clear G4 G4' G5 G8 G9 oL oU oO oF N5
        go_region
        all_goals
          clear a0 a1 a2 a3 a4 a5 a6 a7 a8 a9 b0 b1 f0 f1 f2 f3 f4 f5
          rename_i hret
          refine hret _ _ (wp_ret ?_)
          obtain ⟨r0, r1, r2, r3, r4, r5, QL, QU, QO, QF, QN⟩ := HW.out
          exact bodyPost_ret (v := .tuple #[.agg #[.slice p5 (lay p (ennum g q c) K).length c5, .slice pU kU cU, .slice pO kO cO, .bool false], .agg #[.int .i64 many, .slice pF kF cF], .int .i64 0]) (by simp [results, Tryd.results15, go_sem, r0, r1, r2, r3, r4, r5]) rfl ⟨_, _, _, _, rfl, QL, QU, QO, QF, QN⟩
end
end Go.Proofs.YtajhlmiobibhjaaDoor
