/- What the statements on bytes over pages begin with: one space with some regions, and the document's. -/
import Derived.Test.YtgedimlhldfkaaaGreatDoorCiF
import Derived.Test.YtgedimlhldfkaaaGreatDoorSpQ
import Derived.Test.YtgedimlhldfkaaaGreatDoorSdH
import Derived.Test.YtgedimlhldfkaaaGreatDoorSdI
import Derived.Deep.RegionHeld3
import Derived.Deep.CutRange
import Derived.Lib.SlBytesConst
import Derived.Laws.OwnMore
namespace Go.Proofs.YtgedimlhldfkaaaGreatDoor
open Go.RowKit Go.Joins
set_option linter.unusedVariables false
set_option maxRecDepth 100000
/-- the regions of a space, laid down one by one -/
noncomputable def mapsL : List Rg → List Rg := List.foldl (fun L r => if adE L r = 0 then adL L r else L) []
theorem mapsL_push (l : List Rg) (r : Rg) : mapsL (l ++ [r]) = if adE (mapsL l) r = 0 then adL (mapsL l) r else mapsL l := by
  unfold mapsL; rw [List.foldl_append]; rfl
section
variable {w w' : World} {k fb rb mb qb : Nat} {rs bs qs cs : List Int} {S : List Sq} {i : Nat} {d : DW} {s : DS}
theorem rmap_any {L : List Rg} {it : List (Int × Int)} {up : List Int} (V : Value) (hS : DSv w V ⟨L, it, up, false⟩) (r : Rg) : Calls Tryz.prog 63 #[V, .agg #[.int .i64 r.f, .int .i64 r.t, .int .u8 (r.p : Int)]] w (MapD V ⟨if adE L r = 0 then adL L r else L, it, up, false⟩ (adE L r) w) := by
  by_cases c : adE L r = 0
  · rw [if_pos c, c]; exact rmap_yes V hS r c
  · rw [if_neg c]; exact rmap_no V hS r _ rfl c
/-- a space in memory, of the document, all of it behind a place -/
def XBox (b : Nat) (w : World) (xb : Nat) (s : DS) : Prop := ∃ vR vL vU, Box w xb #[vR, vL, vU, .bool s.gone] 84 ∧ DSv w (.agg #[vR, vL, vU, .bool s.gone]) s ∧ VS b (.agg #[vR, vL, vU, .bool s.gone]) ∧ b ≤ xb
theorem XBox.new {b xb : Nat} (h : XBox b w xb s) (n : New w w') : XBox b w' xb s := by
  obtain ⟨a, c, d, h1, h2, h3, h4⟩ := h; exact ⟨a, c, d, h1.new n, h2.new n, h3, h4⟩
theorem XBox.but {b xb : Nat} {X : Nat → Prop} (h : XBox b w xb s) (k : But X w w') (hX : ∀ g, X g → g < b) : XBox b w' xb s := by
  obtain ⟨a, c, d, h1, h2, h3, h4⟩ := h; exact ⟨a, c, d, h1.but k (fun x => by have := hX _ x; omega), h2.but h3 k hX, h3, h4⟩
/-- the scene -/
def Scene (b : Nat) (w : World) (cb fb sb : Nat) (m t : Int) (vb vr : Value) (s : DS) : Prop :=
  ∃ vR vL vU, Box w cb #[.pointer (some ⟨fb, 0, none⟩), .pointer (some ⟨sb, 0, none⟩), .int .i64 m, .int .i64 t, vb, vr, vR, vL, vU, .bool s.gone] 88 ∧ DSv w (.agg #[vR, vL, vU, .bool s.gone]) s ∧ VS b (.agg #[vR, vL, vU, .bool s.gone])
def LaidC (m : Nat) (Ls : List Rg) (w : World) (e : Ending) (w' : World) : Prop :=
  ∃ b cb fb rb mb qb sb tb bs, e = .returned (.pointer (some ⟨cb, 0, none⟩)) ∧ New w w' ∧ (fb < b ∧ rb < b ∧ mb < b ∧ qb < b ∧ sb < b ∧ tb < b ∧ b ≤ cb) ∧ (w.heap.size ≤ cb ∧ w.heap.size ≤ fb ∧ w.heap.size ≤ rb ∧ w.heap.size ≤ mb ∧ w.heap.size ≤ qb ∧ w.heap.size ≤ sb ∧ w.heap.size ≤ tb) ∧
    Scene b w' cb fb sb m 1 (.slice none 0 0) (.slice none 0 0) ⟨mapsL (Ls.take 8), [], [], false⟩ ∧
    GM w' m fb rb mb qb ((List.replicate m 0).set 0 1) bs [⟨sb, tb, 0, mapsL (Ls.take 8), true⟩] ∧ Pst m ((List.replicate m 0).set 0 1) bs [⟨sb, tb, 0, mapsL (Ls.take 8), true⟩] ∧ (∀ u, u < 64 → nm bs 0 u = 0)
set_option maxHeartbeats 4000000 in
theorem claid_any (w : World) (hl : Laid w) (m : Nat) (h1 : 1 ≤ m) (h2 : m ≤ 1024) (p : Option Addr) (cap : Nat) (Ls : List Rg) (hL : RgsA w (.slice p Ls.length cap) Ls) :
    Calls Tryz.prog 32 #[.int .i64 m, .slice p Ls.length cap] w (LaidC m Ls w) := by
  have X1 := made_any m w h1 h2
  have X2 := fun w => pmade_any m w h1 h2
  have X4 := fun w => rnew_first w m h1
  have HLs := Lib.hid hL
  have HLA := Lib.hid hl
  have hlen := hL.len
  clear hL hl
  go_enter Tryz.func32, Tryz.ntmps32
  go_wp2_with fail
  refine X1.mono ?_
  rintro e w1 ⟨rfl, f1, n1⟩
  go_wp2_with fail
  refine (X2 _).mono ?_
  rintro e w2 ⟨rfl, p2, n2⟩
  have f2 := f1.new n2
  have G0 := GM.zero f2 p2
  have S0 := Pst.zero (k := m) (bs := List.replicate (m * 256) 0) h1 (by simp)
  have X3 := snew_ok G0 0 (by omega) (NoFree.zero _) (zeros_get _ _)
  have n12 := n1.trans n2
  have s1 := n1.size
  have s2 := n2.size
  clear X1 X2 f1 n1 n2 p2 f2
  go_wp2_with fail
  refine X3.mono ?_
  rintro e w3 ⟨sb, tb, rfl, l1, l2, g3, b3⟩
  have hq1 := G0.fr.lt
  have hq := G0.ph.lt
  have n3 : New w w3 := n12.but b3 (by rintro i (rfl | rfl) <;> omega)
  obtain ⟨P3, _, Z3, _⟩ := S0.push (g := 0) (by omega) (zeros_get _ _) (⟨sb, tb, 0, [], true⟩ : Sq) rfl rfl (show ROk [] from trivial)
  generalize w1.heap.size = qb at *
  generalize hf : w.heap.size + 1 = fb at *
  clear X3 b3 G0 S0 hq1 hq
  go_wp2_with fail
  refine (X4 _).mono ?_
  rintro e w4 ⟨rfl, n4⟩
  have g4 := g3.new n4
  have n34 := n3.trans n4
  have s4 := n4.size
  clear X4 g3 n3 n4
  go_wp2_with fail
  obtain ⟨w5, hw5⟩ : ∃ w5, w5 = (w4.alloc (.cells #[.int .i64 m, .int .i64 1, .slice none 0 0, .slice none 0 0] 63)).alloc (.cells #[.slice none 0 0, .slice none 0 0, .slice none 0 0, .bool false] 84) := ⟨_, rfl⟩
  rw [← hw5]
  have N5 : New w4 w5 := by rw [hw5]; exact ((New.refl w4).alloc _ _).alloc _ _
  have BW : Box w5 w4.heap.size #[.int .i64 m, .int .i64 1, .slice none 0 0, .slice none 0 0] 63 := by rw [hw5]; exact (Box.here w4 _ _ _ rfl).alloc _
  have BX : XBox w4.heap.size w5 (w4.heap.size + 1) ⟨[], [], [], false⟩ := ⟨_, _, _, by rw [hw5]; exact Box.here _ _ _ _ (by rw [World.size_alloc]), ⟨_, _, _, rfl, Rgs.nil, .inl ⟨rfl, rfl⟩, (Own.nil 0 w5).ints⟩, VS.mk (VB.nil _ _ _) (VB.nil _ _ _) (VB.nil _ _ _), by omega⟩
  have HX := Lib.hid BX
  have HW := Lib.hid BW
  have HG := Lib.hid (g4.new N5)
  have HN := Lib.hid (n34.trans N5)
  have HP := Lib.hid P3
  have s6 := N5.size
  have SZ : fb < w4.heap.size ∧ w.heap.size < w4.heap.size ∧ qb + 1 < w4.heap.size ∧ sb < w4.heap.size ∧ tb < w4.heap.size := by
    obtain ⟨_, b1⟩ := (g4.mem 0 (by simp)).sb
    obtain ⟨_, b2⟩ := (g4.mem 0 (by simp)).tb
    exact ⟨g4.fr.lt.1, g4.fr.lt.2, g4.ph.lt.1, b1.lt, b2.lt⟩
  generalize w4.heap.size = wb at *
  clear hw5 N5 BW BX g4 n34 P3
  go_loopg [14] Ls.length (fun kk ii wr => ∃ j : Nat, j ≤ 8 ∧ j ≤ Ls.length ∧ Ls.length ≤ j + kk ∧ ii = .int .i64 (j : Int) ∧ New w wr ∧ Box wr wb #[.int .i64 m, .int .i64 1, .slice none 0 0, .slice none 0 0] 63 ∧ XBox wb wr (wb + 1) ⟨mapsL (Ls.take j), [], [], false⟩ ∧
    GM wr m fb _ (qb + 1) qb ((List.replicate m 0).set 0 1) _ [⟨sb, tb, 0, mapsL (Ls.take j), true⟩] ∧ Pst m ((List.replicate m 0).set 0 1) _ [⟨sb, tb, 0, mapsL (Ls.take j), true⟩])
  case atStart => exact ⟨0, by omega, by omega, by omega, rfl, HN.out, HW.out, HX.out, HG.out, HP.out⟩
  case round =>
    obtain ⟨j, hj8, hjl, hk, rfl, hn, hbw, hbx, hg, hp⟩ := hrel
    by_cases c : j < Ls.length
    · by_cases c8 : j < 8
      · obtain ⟨vR, vL, vU, hb, hv, hvs, _⟩ := hbx
        obtain ⟨ad, rfl, r1, r2, r3⟩ := (HLs.out.new hn).at_ j c
        have Y := fun W (n : New wr W) => rmap_any _ (hv.new n) Ls[j]
        obtain ⟨x0, x1, x2, x3⟩ := hb.four
        have KEEP : ∀ W', New wr W' → New wr W' ∧ W'.cell? ⟨wb + 1, 0, none⟩ = some vR ∧ W'.cell? ⟨wb + 1, 1, none⟩ = some vL ∧ W'.cell? ⟨wb + 1, 2, none⟩ = some vU ∧ W'.cell? ⟨wb + 1, 3, none⟩ = some (.bool false) ∧
            W'.cell? (ad.add (j * 3)) = some (.int .i64 Ls[j].f) ∧ W'.cell? ⟨(ad.add (j * 3)).block, (ad.add (j * 3)).off + 1, none⟩ = some (.int .i64 Ls[j].t) ∧ W'.cell? ⟨(ad.add (j * 3)).block, (ad.add (j * 3)).off + 2, none⟩ = some (.int .u8 (Ls[j].p : Int)) := fun W' n =>
          ⟨n, n.keeps x0, n.keeps x1, n.keeps x2, n.keeps x3, n.keeps r1, n.keeps r2, n.keeps r3⟩
        have hM : mapsL (Ls.take (j + 1)) = if adE (mapsL (Ls.take j)) Ls[j] = 0 then adL (mapsL (Ls.take j)) Ls[j] else mapsL (Ls.take j) := by rw [List.take_add_one, List.getElem?_eq_getElem c]; exact mapsL_push _ _
        have hwb : wb ≤ wr.drew.heap.size ∧ wb ≤ wr.heap.size := by have := (hbw).lt; exact ⟨Nat.le_of_lt this, Nat.le_of_lt this⟩
        have HBb := Lib.hid hb
        have HSL := Lib.hid hv.slcs
        clear hb
        go_upto_region 12 with fail
        go_cut [15, 16] from 52 to 80 (fun yv cv wx => ∃ yb, yv = .pointer (some ⟨yb, 0, none⟩) ∧ cv = .int .i64 (adE (mapsL (Ls.take j)) Ls[j]) ∧ XBox wb wx yb ⟨mapsL (Ls.take (j + 1)), [], [], false⟩ ∧ New wr wx)
        case first =>
          go_region_held3 (fun W' => New wr W' ∧ W'.cell? ⟨wb + 1, 0, none⟩ = some vR ∧ W'.cell? ⟨wb + 1, 1, none⟩ = some vL ∧ W'.cell? ⟨wb + 1, 2, none⟩ = some vU ∧ W'.cell? ⟨wb + 1, 3, none⟩ = some (.bool false) ∧
            W'.cell? (ad.add (j * 3)) = some (.int .i64 Ls[j].f) ∧ W'.cell? ⟨(ad.add (j * 3)).block, (ad.add (j * 3)).off + 1, none⟩ = some (.int .i64 Ls[j].t) ∧ W'.cell? ⟨(ad.add (j * 3)).block, (ad.add (j * 3)).off + 2, none⟩ = some (.int .u8 (Ls[j].p : Int)))
            (first | exact KEEP _ hnx | exact KEEP _ (hnx.alloc _ _) | exact KEEP _ (New.refl wr).drew | exact KEEP _ ((New.refl wr).alloc _ _).drew | exact KEEP _ ((((hnx.setCell (Nat.le_refl _) _).setCell (Nat.le_refl _) _).setCell (Nat.le_refl _) _).setCell (Nat.le_refl _) _))
            (first
              | (go_at_call 63; (with_reducible refine (Y _ (New.refl wr).drew).mono ?_); rintro e wz ⟨V, rfl, ⟨a1, a2, a3, rfl, g1, g2, g3⟩, hny, hVS⟩; have hnx : New wr wz := (New.refl wr).drew.trans hny; obtain ⟨q1, u1, v1, rfl⟩ := g1.slc; obtain ⟨q2, u2, v2, rfl⟩ := g2.slc; obtain ⟨q3, u3, v3, rfl⟩ := g3.slc; dsimp only at g1 g2 g3 ⊢)
              | (go_at_call 63; (with_reducible refine (Y _ ((New.refl wr).alloc _ _).drew).mono ?_); rintro e wz ⟨V, rfl, ⟨a1, a2, a3, rfl, g1, g2, g3⟩, hny, hVS⟩; have hnx : New wr wz := ((New.refl wr).alloc _ _).drew.trans hny; obtain ⟨q1, u1, v1, rfl⟩ := g1.slc; obtain ⟨q2, u2, v2, rfl⟩ := g2.slc; obtain ⟨q3, u3, v3, rfl⟩ := g3.slc; dsimp only at g1 g2 g3 ⊢
                 have hbz : Box wz wr.heap.size #[.slice none 0 0, .slice none 0 0, .slice none 0 0, .bool false] 84 := ((Box.here wr wr.heap.size _ _ rfl).new (New.refl _).drew).new hny
                 obtain ⟨y0, y1, y2, y3⟩ := hbz.four
                 have fy0 := hbz.unfrozen 0
                 have fy1 := hbz.unfrozen 1
                 have fy2 := hbz.unfrozen 2
                 have fy3 := hbz.unfrozen 3))
          · go_wp2_with fail
            go_meet
            case rel =>
              have sz := hnx.size
              refine ⟨wz.heap.size, rfl, rfl, ⟨_, _, _, Box.here _ _ _ _ rfl, ⟨_, _, _, rfl, ?_, g2.new ((New.refl wz).alloc _ _), g3.new ((New.refl wz).alloc _ _)⟩, hVS wb hwb.1 hvs, by omega⟩, hnx.alloc _ _⟩
              rw [hM]; exact g1.new ((New.refl wz).alloc _ _)
          · go_wp2_with fail
            go_meet
            case rel =>
              have hbe := Box.st4 (x' := .slice q1 u1 v1) (y' := .slice q2 u2 v2) (z' := .slice q3 u3 v3) (t' := .bool false) hbz
              have hne := New.st4 (b := wr.heap.size) hnx (Nat.le_refl _) (.slice q1 u1 v1) (.slice q2 u2 v2) (.slice q3 u3 v3) (.bool false)
              have k4 := but_st4 wz wr.heap.size (.slice q1 u1 v1) (.slice q2 u2 v2) (.slice q3 u3 v3) (.bool false)
              unfold st4 at hbe hne
              refine ⟨wr.heap.size, rfl, rfl, ⟨_, _, _, hbe, ⟨_, _, _, rfl, ?_, g2.aside hbz nils_noint k4, g3.aside hbz nils_noint k4⟩, hVS wb (Nat.le_trans hwb.2 (by show wr.heap.size ≤ (wr.alloc _).heap.size; rw [World.size_alloc]; omega)) hvs, hwb.2⟩, hne⟩
              rw [hM]; exact g1.aside hbz nils_noint k4
        case rest =>
          obtain ⟨yb, rfl, rfl, hxb, hnw⟩ := hcut
          obtain ⟨yR, yL, yU, hyb, hyv, hyvs, hyl⟩ := hxb
          have M := Map_st (hg.new hnw) hp (i := 0) (by simp) rfl Ls[j]
          obtain ⟨c1, hc1⟩ : ∃ c1, adE (mapsL (Ls.take j)) Ls[j] = c1 := ⟨_, rfl⟩
          have M2 : Calls Tryz.prog 13 #[.pointer (some ⟨sb, 0, none⟩), .agg #[.int .i64 Ls[j].f, .int .i64 Ls[j].t, .int .u8 (Ls[j].p : Int)]] wc fun e w' => e = .returned (erN c1) ∧ GM w' m fb w.heap.size (qb + 1) qb ((List.replicate m 0).set 0 1) (zr (List.replicate (m * 256) 0) 0) [⟨sb, tb, 0, mapsL (Ls.take (j + 1)), true⟩] ∧ But (fun g => g = sb) wc w' ∧ Pst m ((List.replicate m 0).set 0 1) (zr (List.replicate (m * 256) 0) 0) [⟨sb, tb, 0, mapsL (Ls.take (j + 1)), true⟩] := by
            refine M.mono ?_
            rintro e w6 ⟨T, ⟨l1, l2, l3⟩, p6, hT⟩
            have e1 : T = [⟨sb, tb, 0, mapsL (Ls.take (j + 1)), true⟩] := by
              rw [hT, hM]
              show (if adE (mapsL (Ls.take j)) Ls[j] = 0 then [_] else [_]) = _
              split <;> rfl
            subst e1
            rw [← hc1]
            exact ⟨l1, l2, l3, p6⟩
          have hcc : (c1 != c1) = false := by simp
          have K1 := hnw.keeps r1
          have K2 := hnw.keeps r2
          have K3 := hnw.keeps r3
          have HBX := Lib.hid (HBb.out.new hnw)
          have HN2 := Lib.hid (hn.trans hnw)
          have HYB := Lib.hid hyb
          have HYV := Lib.hid hyv
          have HYS := Lib.hid hyvs
          have HBW := Lib.hid (hbw.new hnw)
          clear M hg hp hn hyb hyv hyvs hnw KEEP Y hv hvs hbw r1 r2 r3 x0 x1 x2 x3
          simp only [hc1]
          go_wp2_with fail
          refine M2.mono ?_
          rintro e w6 ⟨rfl, g6, b6, p6⟩
          have N6 : New w w6 := HN2.out.but b6 (by rintro g rfl; omega)
          go_wp2_with fail
          refine (num_er c1 w6 (HLA.out.new N6)).mono ?_
          rintro e w7 ⟨rfl, n7⟩
          have N7 := N6.trans n7
          have g7 := g6.new n7
          have BX7 := (HBX.out.but b6 (by show ¬ wb + 1 = sb; omega)).new n7
          have BY7 := (HYB.out.but b6 (by show ¬ yb = sb; omega)).new n7
          have BW7 := (HBW.out.but b6 (by show ¬ wb = sb; omega)).new n7
          have DY7 := (HYV.out.but HYS.out b6 (by rintro g rfl; omega)).new n7
          obtain ⟨zR, zL, zU, ez, hz1, hz2, hz3⟩ := id DY7
          obtain ⟨q1, u1, v1, rfl⟩ := hz1.slc
          obtain ⟨q2, u2, v2, rfl⟩ := hz2.slc
          obtain ⟨q3, u3, v3, rfl⟩ := hz3.slc
          cases ez
          clear hz1 hz2 hz3
          obtain ⟨x0, x1, x2, x3⟩ := BX7.four
          obtain ⟨y0, y1, y2, y3⟩ := BY7.four
          have fx0 := BX7.unfrozen 0
          have fx1 := BX7.unfrozen 1
          have fx2 := BX7.unfrozen 2
          have fx3 := BX7.unfrozen 3
          have HB7 := Lib.hid BX7
          have HD7 := Lib.hid DY7
          have HW7 := Lib.hid BW7
          have HG7 := Lib.hid g7
          have HN7 := Lib.hid N7
          have HP7 := Lib.hid p6
          clear BX7 BY7 BW7 DY7 g7 g6 b6 N6 N7 n7 M2 p6
          go_wp2_with fail
          go_roundg (Ls.length - (j + 1))
          case measure => omega
          case rel =>
            have k4 := but_st4 w7 (wb + 1) (.slice q1 u1 v1) (.slice q2 u2 v2) (.slice q3 u3 v3) (.bool false)
            have hni := slc_noint (g := false) HSL.out.1 HSL.out.2.1 HSL.out.2.2
            have b4 := Box.st4 (x' := .slice q1 u1 v1) (y' := .slice q2 u2 v2) (z' := .slice q3 u3 v3) (t' := .bool false) HB7.out
            have n4 := New.st4 (b := wb + 1) HN7.out (by omega) (.slice q1 u1 v1) (.slice q2 u2 v2) (.slice q3 u3 v3) (.bool false)
            unfold st4 at b4 n4
            exact ⟨j + 1, by omega, by omega, by omega, by go_num, n4, HW7.out.but k4 (by show ¬ wb = wb + 1; omega), ⟨_, _, _, b4, HD7.out.aside HB7.out hni k4, HYS.out, by omega⟩,
              HG7.out.aside HB7.out (by decide) (by decide) (by decide) (by decide) (by decide) (by decide) (by decide) k4, HP7.out⟩
      · have e8 : Ls.take j = Ls.take 8 := by rw [show j = 8 by omega]
        obtain ⟨vR, vL, vU, hb, hv, hvs, _⟩ := hbx
        obtain ⟨zR, zL, zU, ez, hz1, hz2, hz3⟩ := id hv
        obtain ⟨q1, u1, v1, rfl⟩ := hz1.slc
        obtain ⟨q2, u2, v2, rfl⟩ := hz2.slc
        obtain ⟨q3, u3, v3, rfl⟩ := hz3.slc
        cases ez
        clear hz1 hz2 hz3
        obtain ⟨x0, x1, x2, x3⟩ := hb.four
        obtain ⟨y0, y1, y2, y3⟩ := hbw.four
        have HD := Lib.hid hv
        have HVS := Lib.hid hvs
        have HGG := Lib.hid hg
        have HNN := Lib.hid hn
        have HPP := Lib.hid hp
        have wl := hbw.lt
        clear hb hv hvs hbw hg hp hn
        go_wp2
        go_ret
        have N9 := (New.refl wr).alloc #[.pointer (some ⟨fb, 0, none⟩), .pointer (some ⟨sb, 0, none⟩), .int .i64 m, .int .i64 1, .slice none 0 0, .slice none 0 0, .slice q1 u1 v1, .slice q2 u2 v2, .slice q3 u3 v3, .bool false] 88
        have sz := HNN.out.size
        rw [e8] at HD HGG HPP
        exact ⟨wb, wr.heap.size, fb, w.heap.size, qb + 1, qb, sb, tb, _, rfl, HNN.out.trans N9, ⟨by omega, by omega, by omega, by omega, by omega, by omega, by omega⟩, ⟨by omega, by omega, by omega, by omega, by omega, by omega, by omega⟩, ⟨_, _, _, Box.here _ _ _ _ rfl, HD.out.new N9, HVS.out⟩, HGG.out.new N9, HPP.out, Z3⟩
    · have e8 : Ls.take j = Ls.take 8 := by rw [List.take_of_length_le (by omega), List.take_of_length_le (by omega)]
      obtain ⟨vR, vL, vU, hb, hv, hvs, _⟩ := hbx
      obtain ⟨zR, zL, zU, ez, hz1, hz2, hz3⟩ := id hv
      obtain ⟨q1, u1, v1, rfl⟩ := hz1.slc
      obtain ⟨q2, u2, v2, rfl⟩ := hz2.slc
      obtain ⟨q3, u3, v3, rfl⟩ := hz3.slc
      cases ez
      clear hz1 hz2 hz3
      obtain ⟨x0, x1, x2, x3⟩ := hb.four
      obtain ⟨y0, y1, y2, y3⟩ := hbw.four
      have HD := Lib.hid hv
      have HVS := Lib.hid hvs
      have HGG := Lib.hid hg
      have HNN := Lib.hid hn
      have HPP := Lib.hid hp
      have wl := hbw.lt
      clear hb hv hvs hbw hg hp hn
      go_wp2
      go_ret
      have N9 := (New.refl wr).alloc #[.pointer (some ⟨fb, 0, none⟩), .pointer (some ⟨sb, 0, none⟩), .int .i64 m, .int .i64 1, .slice none 0 0, .slice none 0 0, .slice q1 u1 v1, .slice q2 u2 v2, .slice q3 u3 v3, .bool false] 88
      have sz := HNN.out.size
      rw [e8] at HD HGG HPP
      exact ⟨wb, wr.heap.size, fb, w.heap.size, qb + 1, qb, sb, tb, _, rfl, HNN.out.trans N9, ⟨by omega, by omega, by omega, by omega, by omega, by omega, by omega⟩, ⟨by omega, by omega, by omega, by omega, by omega, by omega, by omega⟩, ⟨_, _, _, Box.here _ _ _ _ rfl, HD.out.new N9, HVS.out⟩, HGG.out.new N9, HPP.out, Z3⟩
end
end Go.Proofs.YtgedimlhldfkaaaGreatDoor
namespace Go.Proofs.YtgedimlhldfkaaaGreatDoor
open Go.RowKit
set_option linter.unusedVariables false
set_option maxRecDepth 100000
section
variable {w w' : World} {n fb rb mb qb sb tb lo c : Nat} {rs bs qs cs : List Int} {L : List Rg} {M : Nat → Int} {a P : Nat}
theorem Cs.start {m : Nat} (G : GM w m fb rb mb qb ((List.replicate m 0).set 0 1) bs [⟨sb, tb, 0, L, true⟩]) (S : Pst m ((List.replicate m 0).set 0 1) bs [⟨sb, tb, 0, L, true⟩]) (hz : ∀ u, u < 64 → nm bs 0 u = 0) (h1 : lo + c ≤ 64) (h2 : c + 2 ≤ m) : Cs w m fb rb mb qb sb tb lo c L ((List.replicate m 0).set 0 1) bs (fun _ => 0) := by
  have hp : ∀ q, q < 4096 → pf bs 0 q = none := fun q hq => pf_none.2 (pgn_none hz q hq)
  have hh : ∀ k, hole bs 0 lo k ≤ k := fun k => by
    induction k with
    | zero => exact Nat.le_refl _
    | succ k ih => unfold hole; split <;> omega
  refine ⟨G, S, fun a ha => mby_none (hp _ (by omega)), fun q f hq e => ?_, fun q p f hq hpp e => ?_, ?_, h1⟩
  · rw [hp q hq] at e; cases e
  · rw [hp q hq] at e; cases e
  · rw [tk_start m (by omega), if_pos (hz 0 (by omega))]
    have := hh c
    omega
theorem Cs.oct (h : Cs w n fb rb mb qb sb tb lo c L rs bs M) (x : Nat) (hx : x < 1048576) : 0 ≤ M x ∧ M x ≤ 255 := by
  rw [← h.pl.m x hx]
  unfold mby
  split
  · omega
  · exact (fby_oct h.gm.ph.oct _).get _
theorem Cs.mrd_oct (h : Cs w n fb rb mb qb sb tb lo c L rs bs M) {a k : Nat} (hk : a + k ≤ 1048576) : Oct (mrd M a k) := fun x hx => by
  obtain ⟨i, hi, rfl⟩ := List.mem_map.1 hx
  exact h.oct _ (by have := List.mem_range.1 hi; omega)
/-- bytes of a memory read in -/
theorem Cs.in_ (h : Cs w n fb rb mb qb sb tb lo c L rs bs M) (a k : Nat) (h1 : lo * 256 ≤ a) (h2 : a + k ≤ (lo + c) * 256) (hk : k ≤ 4096) (hr : ∀ p, a / 256 ≤ p → p * 256 < a + k → ∃ P, rpg L (p : Int) = some P ∧ usP P 1 = true) :
    Calls Tryz.prog 26 #[.pointer (some ⟨sb, 0, none⟩), .int .u32 (a : Int), .int .i64 (k : Int)] w fun e w' => ∃ v qs cs, e = .returned (.tuple #[v, .nilIface]) ∧ OwnB w.heap.size w' v (mrd M a k) ∧ Cs w' n fb rb mb qb sb tb lo c L qs cs M ∧ But (fun g => g = rb ∨ g = qb) w w' := by
  have hh := h.pl.hi
  refine (In_ok h.gm h.pl.st (i := 0) (by simp) rfl a k (by omega) hk).mono ?_
  rintro e w' ⟨v, l, qs, cs, c0, rfl, o1, g1, b1, s1, hx⟩
  rcases hx with ⟨hn, _⟩ | ⟨_, _, rfl, hp⟩ | ⟨_, _, hc, _, j, Lj, hp, hj, he⟩
  · omega
  · rw [Int.toNat_natCast] at hp
    obtain ⟨C, rfl⟩ := h.pl.inp hp h1 h2
    exact ⟨v, qs, cs, by rw [erN_zero], o1, ⟨g1, C⟩, b1⟩
  · rw [Int.toNat_natCast] at hp hj he
    obtain ⟨C, _⟩ := h.pl.inp hp h1 h2
    have hpc := pc_in (a + j) (k - j)
    obtain ⟨P, r1, r2⟩ := hr ((a + j) / 256) (by omega) (by omega)
    exact absurd (he.symm.trans (C.rd_ok (a := a + j) (by omega) (by omega) (hpc.2.2 (by omega)) hpc.2.1 r1 (.inr r2))) hc
/-- bytes laid down -/
theorem Cs.out (h : Cs w n fb rb mb qb sb tb lo c L rs bs M) (a : Nat) (p : Option Addr) (cap : Nat) (l : List Int) (h1 : lo * 256 ≤ a) (h2 : a + l.length ≤ (lo + c) * 256) (hk : l.length ≤ 4096) (hr : ∀ p, a / 256 ≤ p → p * 256 < a + l.length → ∃ P, rpg L (p : Int) = some P ∧ usP P 2 = true)
    (hc : Oct l) (hv : BytsK (fun g => g = rb ∨ g = qb) w (.slice p l.length cap) l) (hcap : l.length ≤ cap) (hcm : cap ≤ maxLen) :
    Calls Tryz.prog 27 #[.pointer (some ⟨sb, 0, none⟩), .int .u32 (a : Int), .slice p l.length cap] w fun e w' => ∃ qs cs, e = .returned (.tuple #[.int .i64 (l.length : Int), .nilIface]) ∧ Cs w' n fb rb mb qb sb tb lo c L qs cs (mwr M a l) ∧ But (fun g => g = rb ∨ g = qb) w w' := by
  have hh := h.pl.hi
  refine (Out_ok h.gm h.pl.st (i := 0) (by simp) rfl a p cap l (by omega) hk hc hv hcap hcm).mono ?_
  rintro e w' ⟨d, qs, cs, c0, rfl, g1, b1, s1, hx⟩
  rcases hx with ⟨hn, _⟩ | ⟨_, hp, ⟨rfl, rfl⟩ | ⟨hc0, hd, he⟩⟩
  · omega
  · have C := h.pl.outp hp h1 h2
    rw [cut_all] at C
    exact ⟨qs, cs, by rw [erN_zero], ⟨g1, C⟩, b1⟩
  · have C := h.pl.outp hp h1 h2
    have hpc := pc_in (a + d) (l.length - d)
    obtain ⟨P, r1, r2⟩ := hr ((a + d) / 256) (by omega) (by omega)
    exact absurd (he.symm.trans (C.wr_ok (a := a + d) (by omega) (by omega) (hpc.2.2 (by omega)) hpc.2.1 r1 (.inr r2))) hc0
/-- not where it may not be -/
theorem Cs.out_no (h : Cs w n fb rb mb qb sb tb lo c L rs bs M) (a : Nat) (p : Option Addr) (cap : Nat) (l : List Int) (h2 : a + l.length ≤ 1048576) (hk : 0 < l.length) (hl : l.length ≤ 4096) (hr : rpg L ((a / 256 : Nat) : Int) = some P) (hu : usP P 2 = false)
    (hc : Oct l) (hv : BytsK (fun g => g = rb ∨ g = qb) w (.slice p l.length cap) l) (hcap : l.length ≤ cap) (hcm : cap ≤ maxLen) :
    Calls Tryz.prog 27 #[.pointer (some ⟨sb, 0, none⟩), .int .u32 (a : Int), .slice p l.length cap] w fun e w' => e = .returned (.tuple #[.int .i64 0, .iface 98 (.int .i64 14)]) ∧ Cs w' n fb rb mb qb sb tb lo c L rs bs M ∧ But (fun g => g = rb ∨ g = qb) w w' := by
  refine (Out_ok h.gm h.pl.st (i := 0) (by simp) rfl a p cap l (by omega) hl hc hv hcap hcm).mono ?_
  have hpc := pc_in a l.length
  have e0 : wrE n rs bs ⟨sb, tb, 0, L, true⟩ a (pc a l.length) false = 14 := by
    unfold wrE
    rw [if_pos (plc_iff.2 ⟨by omega, by omega, by omega⟩)]
    exact rchE_may hr hu
  have one : ∀ d qs cs, OutP n [⟨sb, tb, 0, L, true⟩] 0 (by simp) a l rs bs d qs cs → d = 0 ∧ qs = rs ∧ cs = bs := by
    intro d qs cs hp
    induction hp with
    | nil => exact ⟨rfl, rfl, rfl⟩
    | snoc g1 g2 g3 g4 g5 g6 g7 g8 g9 ih =>
      obtain ⟨rfl, rfl, rfl⟩ := ih
      rw [Nat.add_zero, Nat.sub_zero] at g3
      exact absurd (g3.symm.trans e0) (by decide)
  rintro e w' ⟨d, qs, cs, c0, rfl, g1, b1, s1, hx⟩
  rcases hx with ⟨hn, _⟩ | ⟨_, hp, hx⟩
  · omega
  · obtain ⟨rfl, rfl, rfl⟩ := one _ _ _ hp
    rcases hx with ⟨_, hz⟩ | ⟨hc0, hd, he⟩
    · omega
    · rw [Nat.add_zero, Nat.sub_zero] at he
      have : c0 = 14 := he.symm.trans e0
      subst this
      exact ⟨by rw [erN_pos (by decide)]; rfl, ⟨g1, h.pl⟩, b1⟩
/-- a text of a memory read: the 0 behind it is among the bytes that may be -/
theorem Cs.text (h : Cs w n fb rb mb qb sb tb lo c L rs bs M) (a k j : Nat) (h1 : lo * 256 ≤ a) (h2 : a + j < (lo + c) * 256) (hk : k ≤ 4096) (hj : j ≤ k) (hr : ∀ p, a / 256 ≤ p → p * 256 ≤ a + j → ∃ P, rpg L (p : Int) = some P ∧ usP P 1 = true) (hz : M (a + j) = 0) (hnz : ∀ x, x < j → M (a + x) ≠ 0) :
    Calls Tryz.prog 28 #[.pointer (some ⟨sb, 0, none⟩), .int .u32 (a : Int), .int .i64 (k : Int)] w fun e w' => ∃ qs cs, e = .returned (.tuple #[.string (strOfNums (mrd M a j)), .nilIface]) ∧ Cs w' n fb rb mb qb sb tb lo c L qs cs M ∧ But (fun g => g = rb ∨ g = qb) w w' := by
  have hh := h.pl.hi
  have upto : ∀ T qs cs, TxP n [⟨sb, tb, 0, L, true⟩] 0 (by simp) a rs bs T qs cs → T.length ≤ j := by
    intro T qs cs hp
    rcases Nat.lt_or_ge j T.length with c1 | c1
    · exfalso
      induction hp with
      | nil => simp at c1
      | @snoc q1 c2 qt ct L0 f g1 g2 g3 g4 g5 g6 ih =>
        rw [List.length_append, List.length_singleton] at c1
        rcases Nat.lt_or_ge j L0.length with c3 | c3
        · exact ih c3
        · have e : L0.length = j := by omega
          obtain ⟨C, _, _⟩ := h.pl.txp g1 h1 (by omega)
          have C2 := C.eff g4 (by omega) (by omega) _ g3
          have hpf : pf ct 0 ((a + L0.length) / 256) = some f := g3.at_ rfl (by omega)
          have : (fby ct f).getD ((a + L0.length) % 256) 0 = M (a + L0.length) := by rw [← C2.m (a + L0.length) (by omega), mby_some hpf]
          rw [this, e] at g6
          exact g6 hz
    · exact c1
  refine (Text_ok h.gm h.pl.st (i := 0) (by simp) rfl a k (by omega) hk).mono ?_
  rintro e w' ⟨T, qs, cs, c0, rfl, g1, b1, s1, hx⟩
  rcases hx with ⟨hn, _⟩ | ⟨_, _, T0, hp, hl, hc, rfl, he⟩ | ⟨_, _, rfl, q1, c1, f, hp, hl, he, hs, hf, hv⟩ | ⟨_, _, _, _, T0, hp, hl⟩
  · omega
  · have u := upto _ _ _ hp
    obtain ⟨C, _, _⟩ := h.pl.txp hp h1 (by omega)
    obtain ⟨P, r1, r2⟩ := hr ((a + T0.length) / 256) (by omega) (by omega)
    exact absurd (he.symm.trans (C.rd_ok (a := a + T0.length) (m := 1) (by omega) (by omega) (by omega) (by omega) r1 (.inr r2))) hc
  · have u := upto _ _ _ hp
    obtain ⟨C, e1, e2⟩ := h.pl.txp hp h1 (by omega)
    have C2 := C.eff s1 (by omega) (by omega) _ hs
    have hpf : pf cs 0 ((a + T.length) / 256) = some f := hs.at_ rfl (by omega)
    have e3 : (fby cs f).getD ((a + T.length) % 256) 0 = M (a + T.length) := by rw [← C2.m (a + T.length) (by omega), mby_some hpf]
    have e4 : T.length = j := by
      rcases Nat.lt_or_ge T.length j with c3 | c3
      · exact absurd (e3.symm.trans hv) (hnz _ c3)
      · omega
    rw [e4] at e1
    subst e1
    exact ⟨qs, cs, by rw [erN_zero], ⟨g1, C2⟩, b1⟩
  · have u := upto _ _ _ hp
    rw [Int.toNat_natCast] at hl
    omega
/-- a text that is too long -/
theorem Cs.text_long (h : Cs w n fb rb mb qb sb tb lo c L rs bs M) (a k : Nat) (h1 : lo * 256 ≤ a) (h2 : a + k < (lo + c) * 256) (hk : k ≤ 4096) (hr : ∀ p, a / 256 ≤ p → p * 256 ≤ a + k → ∃ P, rpg L (p : Int) = some P ∧ usP P 1 = true) (hnz : ∀ x, x ≤ k → M (a + x) ≠ 0) :
    Calls Tryz.prog 28 #[.pointer (some ⟨sb, 0, none⟩), .int .u32 (a : Int), .int .i64 (k : Int)] w fun e w' => ∃ qs cs, e = .returned (.tuple #[.string (strOfNums []), .iface 98 (.int .i64 36)]) ∧ Cs w' n fb rb mb qb sb tb lo c L qs cs M ∧ But (fun g => g = rb ∨ g = qb) w w' := by
  have hh := h.pl.hi
  refine (Text_ok h.gm h.pl.st (i := 0) (by simp) rfl a k (by omega) hk).mono ?_
  rintro e w' ⟨T, qs, cs, c0, rfl, g1, b1, s1, hx⟩
  rcases hx with ⟨hn, _⟩ | ⟨_, _, T0, hp, hl, hc, rfl, he⟩ | ⟨_, _, rfl, q1, c1, f, hp, hl, he, hs, hf, hv⟩ | ⟨_, _, rfl, rfl, T0, hp, hl⟩
  · omega
  · rw [Int.toNat_natCast] at hl
    obtain ⟨C, _, _⟩ := h.pl.txp hp h1 (by omega)
    obtain ⟨P, r1, r2⟩ := hr ((a + T0.length) / 256) (by omega) (by omega)
    exact absurd (he.symm.trans (C.rd_ok (a := a + T0.length) (m := 1) (by omega) (by omega) (by omega) (by omega) r1 (.inr r2))) hc
  · rw [Int.toNat_natCast] at hl
    obtain ⟨C, e1, e2⟩ := h.pl.txp hp h1 (by omega)
    have C2 := C.eff s1 (by omega) (by omega) _ hs
    have hpf : pf cs 0 ((a + T.length) / 256) = some f := hs.at_ rfl (by omega)
    have e3 : (fby cs f).getD ((a + T.length) % 256) 0 = M (a + T.length) := by rw [← C2.m (a + T.length) (by omega), mby_some hpf]
    exact absurd (e3.symm.trans hv) (hnz _ hl)
  · rw [Int.toNat_natCast] at hl
    obtain ⟨C, _, _⟩ := h.pl.txp hp h1 (by omega)
    exact ⟨qs, cs, by rw [erN_pos (by decide)], ⟨g1, C⟩, b1⟩
/-- a number read by force -/
theorem Cs.peek (h : Cs w n fb rb mb qb sb tb lo c L rs bs M) (a : Nat) (h1 : lo * 256 ≤ a) (h2 : a + 4 ≤ (lo + c) * 256) (h4 : a % 4 = 0) (hr : rpg L ((a / 256 : Nat) : Int) = some P) :
    Calls Tryz.prog 29 #[.pointer (some ⟨sb, 0, none⟩), .int .u32 (a : Int)] w fun e w' => ∃ qs cs, e = .returned (.tuple #[.int .u32 (le4 (mrd M a 4)), .nilIface]) ∧ Cs w' n fb rb mb qb sb tb lo c L qs cs M ∧ But (fun g => g = rb ∨ g = qb) w w' := by
  have hh := h.pl.hi
  have e0 : rdE n rs bs ⟨sb, tb, 0, L, true⟩ a 4 0 = 0 := h.pl.rd_ok (m := 4) h1 h2 (by omega) (by omega) hr (.inl rfl)
  refine (Peek_ok h.gm h.pl.st (i := 0) (by simp) rfl a (by omega)).mono ?_
  rintro e w' ⟨v, c0, qs, cs, rfl, g1, b1, s1, hx⟩
  rcases hx with ⟨hn, _⟩ | ⟨_, hn, _⟩ | ⟨_, _, rfl, f, hs, hf, rfl⟩
  · omega
  · exact absurd e0 hn
  · have C2 := h.pl.eff s1 (by omega) (by omega) _ hs
    have hpf : pf cs 0 (a / 256) = some f := hs.at_ rfl (by omega)
    refine ⟨qs, cs, ?_, ⟨g1, C2⟩, b1⟩
    rw [erN_zero]
    have : cut (fby cs f) (a % 256) 4 = mrd M a 4 := by
      have hfy := fby_len s1.pur.hl hf
      refine ext_getD (by rw [cut_len _ _ _ (by omega), mrd_len]) fun x hx => ?_
      rw [cut_len _ _ _ (by omega)] at hx
      rw [cut_get _ _ _ _ (by omega) hx, mrd_get _ _ _ _ hx, ← C2.m (a + x) (by omega)]
      have e1 : (a + x) / 256 = a / 256 := by omega
      rw [mby_some (by rw [e1]; exact hpf)]
      congr 1; omega
    rw [this]
/-- a number stored by force -/
theorem Cs.poke (h : Cs w n fb rb mb qb sb tb lo c L rs bs M) (a : Nat) (v : Int) (v0 : 0 ≤ v) (v1 : v ≤ 4294967295) (h1 : lo * 256 ≤ a) (h2 : a + 4 ≤ (lo + c) * 256) (h4 : a % 4 = 0) (hr : rpg L ((a / 256 : Nat) : Int) = some P) :
    Calls Tryz.prog 31 #[.pointer (some ⟨sb, 0, none⟩), .int .u32 (a : Int), .int .u32 v] w fun e w' => ∃ qs cs, e = .returned .nilIface ∧ Cs w' n fb rb mb qb sb tb lo c L qs cs (mwr M a (bf4 v)) ∧ But (fun g => g = rb ∨ g = qb) w w' := by
  have hh := h.pl.hi
  have e0 : wrE n rs bs ⟨sb, tb, 0, L, true⟩ a 4 true = 0 := h.pl.wr_ok (m := 4) h1 h2 (by omega) (by omega) hr (.inl rfl)
  refine (Poke_ok h.gm h.pl.st (i := 0) (by simp) rfl a (by omega) v v0 v1).mono ?_
  rintro e w' ⟨c0, qs, cs, rfl, g1, b1, s1, hx⟩
  rcases hx with ⟨hn, _⟩ | ⟨_, hn, _⟩ | ⟨_, _, rfl, f, c1, hs, s2, hf, hpf, hD⟩
  · omega
  · exact absurd e0 hn
  · have Z := (h.pl.eff s2 (by omega) (by omega) _ hs).data (o := a % 256) (l := bf4 v) s1 (by omega) (by omega) (by show a % 256 + 4 ≤ 256; omega) hpf hD
    rw [show a / 256 * 256 + a % 256 = a by omega] at Z
    exact ⟨qs, cs, by rw [erN_zero], ⟨g1, Z⟩, b1⟩
end
end Go.Proofs.YtgedimlhldfkaaaGreatDoor
namespace Go.Proofs.YtgedimlhldfkaaaGreatDoor
open Go.RowKit
set_option linter.unusedVariables false
set_option maxRecDepth 100000
theorem maps_one (r : Rg) (h : okR r = true) : mapsL [r] = [r] := by
  obtain ⟨a1, a2⟩ := adE_first h
  show (if adE [] r = 0 then adL [] r else []) = _
  rw [if_pos a1, a2]
section
variable {w w' : World} {cb n fb rb mb qb sb tb lo c b : Nat} {rs bs qs cs : List Int} {L : List Rg} {M N : Nat → Int} {P : Nat}
theorem rgat_box {g : Nat} {cs : Array Value} {T : TypeId} (h : Box w g cs T) (i : Nat) (r : Rg) (h0 : cs[i * 3]? = some (.int .i64 r.f)) (h1 : cs[i * 3 + 1]? = some (.int .i64 r.t)) (h2 : cs[i * 3 + 2]? = some (.int .u8 (r.p : Int))) : RgAt w ((⟨g, 0, none⟩ : Addr).add (i * 3)) r := by
  rw [Addr.add_mid, Nat.zero_add]
  exact ⟨(h.cell _).trans h0, (h.cell _).trans h1, (h.cell _).trans h2⟩
theorem rgs_lit1 (w : World) (r : Rg) : RgsA (w.alloc (.cells #[.int .i64 r.f, .int .i64 r.t, .int .u8 (r.p : Int)] 50)) (.slice (some ⟨w.heap.size, 0, none⟩) 1 1) [r] := by
  refine ⟨_, _, rfl, by unfold maxLen; simp, fun i hi => ⟨_, rfl, ?_⟩⟩
  obtain rfl : i = 0 := by simpa using hi
  exact rgat_box (Box.here w _ _ _ rfl) 0 r rfl rfl rfl
theorem rgs_lit2 (w : World) (r s : Rg) : RgsA (w.alloc (.cells #[.int .i64 r.f, .int .i64 r.t, .int .u8 (r.p : Int), .int .i64 s.f, .int .i64 s.t, .int .u8 (s.p : Int)] 50)) (.slice (some ⟨w.heap.size, 0, none⟩) 2 2) [r, s] := by
  refine ⟨_, _, rfl, by unfold maxLen; simp, fun i hi => ⟨_, rfl, ?_⟩⟩
  have hi2 : i = 0 ∨ i = 1 := by simp at hi; omega
  rcases hi2 with rfl | rfl
  · exact rgat_box (Box.here w _ _ _ rfl) 0 r rfl rfl rfl
  · exact rgat_box (Box.here w _ _ _ rfl) 1 s rfl rfl rfl
structure Sc (w : World) (cb n fb rb mb qb sb tb lo c : Nat) (L : List Rg) (rs bs : List Int) (M : Nat → Int) : Prop where
  cs : Cs w n fb rb mb qb sb tb lo c L rs bs M
  at_ : w.cell? ⟨cb, 1, none⟩ = some (.pointer (some ⟨sb, 0, none⟩))
  ne : cb ≠ rb ∧ cb ≠ qb
theorem Sc.step (h : Sc w cb n fb rb mb qb sb tb lo c L rs bs M) (C : Cs w' n fb rb mb qb sb tb lo c L qs cs N) (k : But (fun g => g = rb ∨ g = qb) w w') : Sc w' cb n fb rb mb qb sb tb lo c L qs cs N :=
  ⟨C, by rw [k.cell (cell_lt h.at_) (by rintro (x | x); exact h.ne.1 x; exact h.ne.2 x)]; exact h.at_, h.ne⟩
theorem Sc.new (h : Sc w cb n fb rb mb qb sb tb lo c L rs bs M) (k : New w w') : Sc w' cb n fb rb mb qb sb tb lo c L rs bs M := ⟨h.cs.new k, k.keeps h.at_, h.ne⟩
/-- bytes in a block that the call has made -/
theorem byts_block (w : World) (l : List Int) (hl : l.length ≤ 4096) (h : rb < w.heap.size ∧ qb < w.heap.size) : BytsK (fun g => g = rb ∨ g = qb) (w.alloc (.cells (l.map (Value.int .u8)).toArray 5)) (.slice (some ⟨w.heap.size, 0, none⟩) l.length l.length) l := fun w' k => by
  have O1 : OwnB w.heap.size (w.alloc (.cells (l.map (Value.int .u8)).toArray 5)) (.slice (some ⟨w.heap.size, 0, none⟩) l.length l.length) l :=
    ⟨by simp [cells8], .inr ⟨_, l.length, _, rfl, Nat.le_refl _, Box.here w _ _ 5 rfl, Nat.le_refl _, by unfold maxLen; omega, by simp, by rw [Nat.mul_one]; exact List.take_of_length_le (by simp)⟩⟩
  exact (O1.but k (by rintro g (rfl | rfl) <;> omega)).byts
theorem byts_mark (w : World) (l : List Int) (fr : Nat × Nat) (hl : l.length ≤ 4096) (h : rb < w.heap.size ∧ qb < w.heap.size) : BytsK (fun g => g = rb ∨ g = qb) (w.alloc (.cells (l.map (Value.int .u8)).toArray 5 fr)) (.slice (some ⟨w.heap.size, 0, none⟩) l.length l.length) l := fun w' k => by
  refine ⟨_, _, rfl, by unfold maxLen; omega, fun i hi => ⟨_, rfl, ?_⟩⟩
  rw [Addr.add_mid, Nat.zero_add, k.cell (by show w.heap.size < (w.alloc _).heap.size; rw [World.size_alloc]; omega) (by show ¬ (w.heap.size = rb ∨ w.heap.size = qb); omega)]
  have : (w.alloc (.cells (l.map (Value.int .u8)).toArray 5 fr)).heap[w.heap.size]? = some (.cells (l.map (Value.int .u8)).toArray 5 fr) := by
    show (w.heap.push _)[w.heap.size]? = _
    simp
  unfold World.cell?
  simp only [this]
  simp [hi]
set_option maxHeartbeats 4000000 in
theorem csure_any (w : World) (hl : Laid w) : Calls Tryz.prog 39 #[] w fun e w' => e = .returned (.bool true) ∧ New w w' := by
  have X1 := claid_any (w.alloc (.cells #[.int .i64 0, .int .i64 2, .int .u8 3] 50)) (hl.new ((New.refl w).alloc _ _)) 8 (by omega) (by omega) _ _ [⟨0, 2, 3⟩] (rgs_lit1 w ⟨0, 2, 3⟩)
  have n1 := (New.refl w).alloc #[.int .i64 0, .int .i64 2, .int .u8 3] 50
  go_enter Tryz.func39, Tryz.ntmps39
  go_wp2_with fail
  refine X1.mono ?_
  rintro e w1 ⟨b, cb, fb, rb, mb, qb, sb, tb, bs, rfl, n2, LT, LE, SCN, G1, P1, Z1⟩
  have N1 := n1.trans n2
  have e1 : mapsL (List.take 8 [⟨0, 2, 3⟩]) = [⟨0, 2, 3⟩] := maps_one ⟨0, 2, 3⟩ rfl
  rw [e1] at G1 P1
  have sw : w.heap.size ≤ (w.alloc (.cells #[.int .i64 0, .int .i64 2, .int .u8 3] 50)).heap.size := n1.size
  have LER : w.heap.size ≤ rb ∧ w.heap.size ≤ qb := ⟨by omega, by omega⟩
  have S1 : Sc w1 cb 8 fb rb mb qb sb tb 0 2 [⟨0, 2, 3⟩] _ bs (fun _ => 0) := ⟨Cs.start G1 P1 Z1 (by omega) (by omega), by obtain ⟨_, _, _, h, _⟩ := SCN; exact h.cell 1, by omega, by omega⟩
  have NEW : ∀ a b : World, New w a → But (fun g => g = rb ∨ g = qb) a b → New w b := fun a b m c => m.but c (by rintro i (rfl | rfl) <;> omega)
  have RP : ∀ p : Nat, p < 2 → rpg [⟨0, 2, 3⟩] (p : Int) = some 3 := fun p hp => by rw [rpg_one, if_pos]; rw [inR_iff]; dsimp only; omega
  have BD : rb < w1.heap.size ∧ qb < w1.heap.size := ⟨S1.cs.gm.fr.lt.2, S1.cs.gm.ph.lt.2⟩
  clear X1 n1 n2 LE LT SCN G1 P1 Z1
  have a1 := S1.at_
  have n2 : New w1 (w1.alloc (.cells #[.int .u8 97, .int .u8 98, .int .u8 99, .int .u8 0] 5 (4, 5))) := (New.refl w1).allocO _
  have Y := (S1.new n2).cs.out 254 (some ⟨w1.heap.size, 0, none⟩) 4 [97, 98, 99, 0] (by omega) (by simp) (by simp) (fun p h1 h2 => ⟨3, RP p (by simp at h2; omega), rfl⟩) (fun x hx => by simp at hx; omega) (byts_mark w1 [97, 98, 99, 0] (4, 5) (by simp) BD) (Nat.le_refl 4) (by unfold maxLen; omega)
  have CV : (convert 28 28 (.slice (some ⟨w1.heap.size, 0, none⟩) 4 4)).run Tryz.prog (w1.alloc (.cells #[.int .u8 97, .int .u8 98, .int .u8 99, .int .u8 0] 5)) = .ok (.slice (some ⟨w1.heap.size, 0, none⟩) 4 4) (w1.alloc (.cells #[.int .u8 97, .int .u8 98, .int .u8 99, .int .u8 0] 5 (4, 5))) := Go.Lib.run_convert_bytes_const w1 28 5 #[.int .u8 97, .int .u8 98, .int .u8 99, .int .u8 0] 4 4 Tryz.underlying28 Tryz.underlying5
  go_wp2_with fail
  refine Y.mono ?_
  rintro e w2 ⟨q2, c2, rfl, C2, b2⟩
  have S2 := (S1.new n2).step C2 b2
  have N2 := NEW _ _ (N1.trans n2) b2
  have a2 := S2.at_
  have Y := S2.cs.in_ 253 5 (by omega) (by omega) (by omega) (fun p h1 h2 => ⟨3, RP p (by omega), rfl⟩)
  clear CV BD a1 S1 C2 b2 n2 N1
  go_wp2_with fail
  refine Y.mono ?_
  rintro e w3 ⟨v3, q3, c3, rfl, o3, C3, b3⟩
  have S3 := S2.step C3 b3
  have N3 := NEW _ _ N2 b3
  have a3 := S3.at_
  have Y := S3.cs.text 255 9 2 (by omega) (by omega) (by omega) (by omega) (fun p h1 h2 => ⟨3, RP p (by omega), rfl⟩) rfl (fun x hx => by
    have : x = 0 ∨ x = 1 := by omega
    rcases this with rfl | rfl <;> decide)
  have BD2 : rb < w2.heap.size ∧ qb < w2.heap.size := ⟨S2.cs.gm.fr.lt.2, S2.cs.gm.ph.lt.2⟩
  have ox : ∀ g, (g = rb ∨ g = qb) → g < w2.heap.size := by rintro g (rfl | rfl) <;> omega
  rw [show mrd (mwr (fun x => 0) 254 [97, 98, 99, 0]) 253 5 = [0, 97, 98, 99, 0] from by decide] at o3
  rw [show mrd (mwr (fun x => 0) 254 [97, 98, 99, 0]) 255 2 = [98, 99] from by decide, show strOfNums [98, 99] = ⟨#[98, 99]⟩ from rfl] at Y
  clear a2 S2 C3 b3 N2
  go_wp2_with fail
  refine Y.mono ?_
  rintro e w4 ⟨q4, c4, rfl, C4, b4⟩
  have S4 := S3.step C4 b4
  have N4 := NEW _ _ N3 b4
  have o4 := o3.but b4 ox
  have a4 := S4.at_
  have Y := S4.cs.peek 256 (by omega) (by omega) (by omega) (RP 1 (by omega))
  rw [show le4 (mrd (mwr (fun x => 0) 254 [97, 98, 99, 0]) 256 4) = 99 from by decide] at Y
  clear a3 S3 C4 b4 N3 o3
  go_wp2_with fail
  refine Y.mono ?_
  rintro e w5 ⟨q5, c5, rfl, C5, b5⟩
  have S5 := S4.step C5 b5
  have N5 := NEW _ _ N4 b5
  have o5 := o4.but b5 ox
  have a5 := S5.at_
  have Y := fun v => Peek_no (w := w5) 2 v (by omega)
  clear a4 S4 C5 b5 N4 o4
  go_wp2_with fail
  refine (Y _).mono ?_
  rintro e w6 ⟨rfl, rfl⟩
  have l5 := hl.new N5
  have CV : (convert 28 9 v3).run Tryz.prog w5 = .ok (.string ⟨#[0, 97, 98, 99, 0]⟩) w5 := str_of o5.byts
  clear Y BD2 ox a5 S5
  go_wp2_with fail
  refine (num_err 5 _ l5).mono ?_
  rintro e w6 ⟨rfl, n6⟩
  go_wp2
  go_ret
  exact ⟨rfl, N5.trans n6⟩
end
end Go.Proofs.YtgedimlhldfkaaaGreatDoor
namespace Go.Proofs.YtgedimlhldfkaaaGreatDoor
open Go.RowKit
set_option linter.unusedVariables false
set_option maxRecDepth 100000
theorem run_append_keeps (w : World) (base : Nat) (v : Value) (xs : List Int) (hown : OwnB base w v xs) (u : Value) (l : List Int) (hu : Byts w u l) (hp : 0 < l.length) (hlen : xs.length + l.length ≤ 1000000) (hbase : base ≤ w.heap.size) :
    ∃ v' w', (Builtin.append_ #[28, 28] 28 #[v, u]).run Tryz.prog w = .ok v' w' ∧ OwnB base w' v' (xs ++ l) ∧ w.grownBy w' v.ownBlock ∧ Byts w' v xs := by
  obtain ⟨v', w', hr, h2, h3⟩ := run_append_bytes w base v xs hown u l hu hlen hbase
  refine ⟨v', w', hr, h2, h3, ?_⟩
  obtain ⟨i0, hi, hz0, hz1, hz2⟩ := info_parts byte_info
  obtain ⟨p, cap', rfl, hlm, hc⟩ := hu
  obtain ⟨ad, rfl, _⟩ := hc 0 hp
  have hnews : ∀ j x, (cells8 l)[j]? = some x → w.cell? (ad.add j) = some x := fun j x hx => by
    obtain ⟨hj, rfl⟩ := cells8_get hx
    obtain ⟨a', e, hcc⟩ := hc j hj
    cases e; exact hcc
  have hb := hown.byts
  rcases hown.2 with ⟨rfl, hn⟩ | ⟨g, cap, cur, rfl, hbg, hg, hnc, hcm, hsz, htk⟩
  · have : xs = [] := List.eq_nil_of_length_eq_zero hn
    subst this; exact Byts.nil _
  · have hxl : (cells8 xs).length = xs.length := cells8_len _
    by_cases room : xs.length + l.length ≤ cap
    · obtain ⟨w'', e1, e2, _⟩ := run_append_fits (P := Tryz.prog) w base 28 28 5 i0 1 Tryz.underlying28 hi hz1 g xs.length cap (cells8 xs) hown ad l.length cap' (cells8 l) (by rw [cells8_len]; omega) hnews cells8_one room
      have e := hr.symm.trans e1
      cases e
      have k := h2.byts
      obtain ⟨q, c, e, _, _⟩ := id k
      rw [List.length_append] at e
      cases e
      have s := k.sub 0 xs.length cap (by rw [List.length_append]; omega)
      have e3 : cut (xs ++ l) 0 xs.length = xs := by simp [cut]
      rw [e3] at s
      simpa [Addr.add] using s
    · have e1 := run_append_grow (P := Tryz.prog) w 28 28 5 i0 _ Tryz.underlying28 hi hz0 ⟨g, 0, none⟩ xs.length cap (cells8 xs) (by rw [cells8_len, hz1]; omega) (fun j x hx => by
        obtain ⟨hj, rfl⟩ := cells8_get hx
        obtain ⟨_, _, e, _, hcc⟩ := hb
        cases e
        obtain ⟨a', e, hh⟩ := hcc j hj
        cases e; exact hh) ad l.length cap' (cells8 l) (by rw [cells8_len, hz1]; omega) hnews (by omega) (by omega) (by rw [hz2]; exact growslice_fits (by omega) (by omega))
      have e := hr.symm.trans e1
      cases e
      exact hb.new ((New.refl w).drew.alloc _ _)
/-- such an append, an operation of a region that draws its order -/
theorem opwp_append {w : World} {o : Oper} {a : Act} {K : Act → World → Prop} {Q : Exit → Act → World → Prop} (s x : Operand)
    (ho : o.op = .call { callee := .builtin .append, args := #[s, x], argTypes := #[28, 28] }) (hty : o.type = 28)
    (base : Nat) (v : Value) (xs : List Int) (hs : a.eval s = v) (hown : OwnB base w v xs) (u : Value) (l : List Int) (hx : a.eval x = u) (hu : Byts w u l) (hp : 0 < l.length) (hlen : xs.length + l.length ≤ 1000000) (hbase : base ≤ w.heap.size)
    (h : ∀ v' w', OwnB base w' v' (xs ++ l) → Byts w' v xs → (∀ w0 : World, w0.heap.size ≤ base → New w0 w → New w0 w') → K (a.put o.dst v') w') : Oper.wp Tryz.prog o a w K Q := by
  obtain ⟨v', w', hr, h2, h3, h4⟩ := run_append_keeps w base v xs hown u l hu hp hlen hbase
  unfold Oper.wp execOp
  rw [← hty] at hr
  simp only [ho, resolve, invoke, builtin, Sem.run_bind, Sem.run_pure, Result.andThen_ok, List.map_toArray, List.map_cons, List.map_nil, hs, hx]
  rw [hty] at hr ⊢
  simp only [hr]
  exact h v' w' h2 h4 fun w0 h0 hn => hn.grown h3 fun k hk => Nat.le_trans h0 (World.ownsRow.lt hown k hk).1
end Go.Proofs.YtgedimlhldfkaaaGreatDoor
