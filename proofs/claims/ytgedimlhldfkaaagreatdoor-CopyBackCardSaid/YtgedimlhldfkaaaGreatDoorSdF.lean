/- The document's own answers on spaces of pages: a page's number laid down. Contracts, in any world; behind each there are only new blocks. -/
import Derived.Test.YtgedimlhldfkaaaGreatDoorSdI
import Derived.StillTailTactics
namespace Go.Proofs.YtgedimlhldfkaaaGreatDoor
open Go.RowKit Go.Joins
set_option linter.unusedVariables false
set_option maxRecDepth 100000
section
variable {E w wr w' : World} {v vR vL vU : Value} {L l : List (Int × Int)} {g : Bool}
theorem pcell_new (w : World) (x : Int × Int) (t : TypeId) : ∀ j u, (pcell x)[j]? = some u → (w.alloc (.cells #[.int .i64 x.1, .int .i64 x.2] t)).cell? ((⟨w.heap.size, 0, none⟩ : Addr).add j) = some u := by
  intro j u hu
  have hx : Box (w.alloc (.cells #[.int .i64 x.1, .int .i64 x.2] t)) w.heap.size _ _ := Box.here w _ _ _ rfl
  rw [Addr.add_mid, Nat.zero_add, hx.cell]
  rw [← hu]
  show ([Value.int .i64 x.1, .int .i64 x.2].toArray)[j]? = _
  rw [List.getElem?_toArray]; rfl
theorem pcell_one (x : Int × Int) : ∀ u ∈ pcell x, u.oneCell' = true := by
  intro u hu
  simp only [pcell, List.mem_cons, List.not_mem_nil, or_false] at hu
  rcases hu with rfl | rfl <;> rfl
/-- one page and its number behind a row that the call made -/
theorem add_pair (hn : New E wr) (h : OwnP E.heap.size wr v l) (x : Int × Int) (hl : l.length ≤ 1000000) :
    ∃ v' w1, (Builtin.append_ #[82, 82] 82 #[v, .slice (some ⟨wr.heap.size, 0, none⟩) 1 1]).run Tryz.prog (wr.alloc (.cells #[.int .i64 x.1, .int .i64 x.2] 203)) = .ok v' w1 ∧ OwnP E.heap.size w1 v' (l ++ [x]) ∧ New E w1 := by
  obtain ⟨i0, hi, hz0, hz1, hz2⟩ := info_parts3 spitem_info
  have hn2 := hn.alloc #[.int .i64 x.1, .int .i64 x.2] 203
  obtain ⟨v', w1, k1, k2, k3, _⟩ := run_append_own (P := Tryz.prog) (wr.alloc (.cells #[.int .i64 x.1, .int .i64 x.2] 203)) E.heap.size 82 82 203 i0 (.agg #[.int .i64 0, .int .i64 0]) 2 16 Tryz.underlying82 hi hz0 hz1 hz2 rfl (by decide) v l.length (pcells l) (World.ownsRow.alloc h _) ⟨wr.heap.size, 0, none⟩ 1 1 (pcell x) rfl (pcell_new wr x _) (pcell_one x) (by unfold maxLen; omega) (by omega) hn2.size
  obtain ⟨o1, n1⟩ := OwnP.push hn rfl h k2 k3
  exact ⟨v', w1, k1, o1, n1⟩
set_option maxHeartbeats 4000000 in
theorem rput_any (p d : Int) (h1 : Slc vR) (h2 : Itp w vL L) (h3 : Slc vU) (hl : L.length ≤ 10000) : Calls Tryz.prog 123 #[.agg #[vR, vL, vU, .bool g], .int .i64 p, .int .i64 d] w fun e w' => ∃ v', e = .returned (.agg #[vR, v', vU, .bool g]) ∧ Itp w' v' (dput L p d) ∧ New w w' := by
  obtain ⟨p1, k1, c1, rfl⟩ := h1
  obtain ⟨p3, k3, c3, rfl⟩ := h3
  obtain ⟨p2, c2, rfl⟩ := h2.len
  obtain ⟨E, hE⟩ : ∃ E, E = (w.alloc (.cells #[.slice p1 k1 c1, .slice p2 L.length c2, .slice p3 k3 c3, .bool g] 84)).alloc (.cells #[.slice none 0 0, .slice none 0 0, .slice none 0 0, .bool false] 84) := ⟨_, rfl⟩
  have n0 : New w E := by rw [hE]; exact ((New.refl w).alloc _ _).alloc _ _
  have HI := Lib.hid (h2.new n0)
  have bA : Box E w.heap.size #[.slice p1 k1 c1, .slice p2 L.length c2, .slice p3 k3 c3, .bool g] 84 := by rw [hE]; exact (Box.here w _ _ _ rfl).alloc _
  have bZ : Box E (w.heap.size + 1) #[.slice none 0 0, .slice none 0 0, .slice none 0 0, .bool false] 84 := by rw [hE]; exact Box.here _ _ _ _ (by rw [World.size_alloc])
  have hlen := dputN_len L p d
  clear h2
  go_enter Tryz.func123, Tryz.ntmps123
  go_wp2
  rw [← hE]
  clear hE
  go_loopg [7, 8, 9] L.length (fun k l b i wr => ∃ j : Nat, j + k = L.length ∧ i = .int .i64 (j : Int) ∧ b = .bool (dputN L p d j).2 ∧ OwnP E.heap.size wr l (dputN L p d j).1 ∧ New E wr)
  case atStart => exact ⟨0, by omega, rfl, rfl, OwnP.nil _ _, New.refl _⟩
  case round =>
    obtain ⟨j, hj, rfl, rfl, ho, hn⟩ := hrel
    obtain ⟨a0, a1, a2, a3⟩ := (bA.new hn).four
    by_cases c : j < L.length
    · obtain ⟨b, cap, e, _, _, _, hc⟩ := (HI.out.new hn).some (by omega)
      cases e
      obtain ⟨e0, e1⟩ := hc j c
      have hx : L.getD j (0, 0) = L[j] := by rw [List.getD_eq_getElem?_getD, List.getElem?_eq_getElem c]; rfl
      have hd : dputN L p d (j + 1) = if (L.getD j (0, 0)).1 = p then ((dputN L p d j).1 ++ [(p, d)], true) else if p < (L.getD j (0, 0)).1 ∧ (dputN L p d j).2 = false then ((dputN L p d j).1 ++ [(p, d)] ++ [L.getD j (0, 0)], true) else ((dputN L p d j).1 ++ [L.getD j (0, 0)], (dputN L p d j).2) := rfl
      rw [hx] at hd
      have hll := hlen j
      have J := Lib.hid hj
      generalize dputN L p d j = K at *
      obtain ⟨K1, K2⟩ := K
      simp only at *
      generalize hX : L[j] = x at *
      obtain ⟨x1, x2⟩ := x
      simp only at hd e0 e1
      obtain ⟨pq, kq, cq, rfl⟩ := ho.shape
      have HN := Lib.hid hn
      by_cases d1 : x1 = p
      · rw [if_pos d1] at hd
        obtain ⟨v1, w1, r1, o1, n1⟩ := add_pair hn ho (p, d) (by omega)
        dsimp only at r1 o1
        obtain ⟨p4, k4, c4, rfl⟩ := o1.shape
        have f : (x1 == p) = true := by simpa using d1
        have HD := Lib.hid hd
        have O1 := Lib.hid o1
        have N1 := Lib.hid n1
        clear hd o1 n1 ho hn hj hc hX hx d1 hll hlen
        go_wp2_with (at_builtin; refine Lib.wpList_append_run _ rfl _ _ _ _ rfl _ _ rfl rfl _ _ r1 ?_)
        go_roundg (L.length - (j + 1))
        case measure => have := J.out; omega
        case rel => exact ⟨j + 1, by have := J.out; omega, by go_num, by rw [HD.out], by rw [HD.out]; exact O1.out, N1.out⟩
      · rw [if_neg d1] at hd
        have f : (x1 == p) = false := by simpa using d1
        by_cases d2 : p < x1 ∧ K2 = false
        · rw [if_pos d2] at hd
          obtain ⟨d3, rfl⟩ := d2
          have f2 : decide (p < x1) = true := by simpa using d3
          obtain ⟨v1, w1, r1, o1, n1⟩ := add_pair hn ho (p, d) (by omega)
          dsimp only at r1 o1
          obtain ⟨p4, k4, c4, rfl⟩ := o1.shape
          obtain ⟨v2, w2, r2, o2, n2⟩ := add_pair n1 o1 (x1, x2) (by simp; omega)
          dsimp only at r2 o2
          obtain ⟨p5, k5, c5, rfl⟩ := o2.shape
          have A1 := (bA.new n1).cell 1
          obtain ⟨b', cap', eb, _, _, _, hc1⟩ := (HI.out.new n1).some (by omega)
          cases eb
          obtain ⟨e2, e3⟩ := hc1 j c
          rw [hX] at e2 e3
          simp only at e2 e3
          have A2 : w1.cell? ⟨w.heap.size, 1, none⟩ = some (.slice (some ⟨b, 0, none⟩) L.length c2) := A1
          have HD := Lib.hid hd
          have O1 := Lib.hid o2
          have N1 := Lib.hid n2
          clear hd o1 n1 o2 n2 ho hn hj hc hX hx d1 d3 hll hc1 A1 hlen
          go_wp2_with (at_builtin; first | refine Lib.wpList_append_run _ rfl _ _ _ _ rfl _ _ rfl rfl _ _ r1 ?_ | refine Lib.wpList_append_run _ rfl _ _ _ _ rfl _ _ rfl rfl _ _ r2 ?_)
          go_roundg (L.length - (j + 1))
          case measure => have := J.out; omega
          case rel => exact ⟨j + 1, by have := J.out; omega, by go_num, by rw [HD.out], by rw [HD.out]; exact O1.out, N1.out⟩
        · rw [if_neg d2] at hd
          obtain ⟨v1, w1, r1, o1, n1⟩ := add_pair hn ho (x1, x2) (by omega)
          dsimp only at r1 o1
          obtain ⟨p4, k4, c4, rfl⟩ := o1.shape
          have HD := Lib.hid hd
          have O1 := Lib.hid o1
          have N1 := Lib.hid n1
          by_cases d3 : p < x1
          · have f2 : decide (p < x1) = true := by simpa using d3
            obtain rfl : K2 = true := by cases K2 <;> simp_all
            clear hd o1 n1 ho hn hj hc hX hx d1 d2 hll hlen
            go_wp2_with (at_builtin; refine Lib.wpList_append_run _ rfl _ _ _ _ rfl _ _ rfl rfl _ _ r1 ?_)
            go_roundg (L.length - (j + 1))
            case measure => have := J.out; omega
            case rel => exact ⟨j + 1, by have := J.out; omega, by go_num, by rw [HD.out], by rw [HD.out]; exact O1.out, N1.out⟩
          · have f2 : decide (p < x1) = false := by simpa using d3
            clear hd o1 n1 ho hn hj hc hX hx d1 d2 hll hlen
            go_wp2_with (at_builtin; refine Lib.wpList_append_run _ rfl _ _ _ _ rfl _ _ rfl rfl _ _ r1 ?_)
            go_roundg (L.length - (j + 1))
            case measure => have := J.out; omega
            case rel => exact ⟨j + 1, by have := J.out; omega, by go_num, by rw [HD.out], by rw [HD.out]; exact O1.out, N1.out⟩
    · obtain rfl : j = L.length := by omega
      have hdd : dput L p d = if (dputN L p d L.length).2 = true then (dputN L p d L.length).1 else (dputN L p d L.length).1 ++ [(p, d)] := rfl
      have hll := hlen L.length
      generalize dputN L p d L.length = K at *
      obtain ⟨K1, K2⟩ := K
      simp only at *
      have bA' := bA.new hn
      have bZ' := bZ.new hn
      have hs := hn.size
      have lA := bA.lt
      have lZ := bZ.lt
      -- what is there at the end, whatever was laid behind the loop's list
      have END := fun (W : World) (K3 : List (Int × Int)) (p4 : Option Addr) (k4 c4 : Nat) (nW : New E W) (oW : OwnP E.heap.size W (.slice p4 k4 c4) K3) => show
          Box (st4 (W.setCell ⟨w.heap.size, 1, none⟩ (.slice p4 k4 c4)) (w.heap.size + 1) (.slice p1 k1 c1) (.slice p4 k4 c4) (.slice p3 k3 c3) (.bool g)) (w.heap.size + 1) #[.slice p1 k1 c1, .slice p4 k4 c4, .slice p3 k3 c3, .bool g] 84 ∧
          Itp (st4 (W.setCell ⟨w.heap.size, 1, none⟩ (.slice p4 k4 c4)) (w.heap.size + 1) (.slice p1 k1 c1) (.slice p4 k4 c4) (.slice p3 k3 c3) (.bool g)) (.slice p4 k4 c4) K3 ∧
          New w (st4 (W.setCell ⟨w.heap.size, 1, none⟩ (.slice p4 k4 c4)) (w.heap.size + 1) (.slice p1 k1 c1) (.slice p4 k4 c4) (.slice p3 k3 c3) (.bool g)) from by
        refine ⟨Box.st4 ((bZ.new nW).other (p := ⟨w.heap.size, 1, none⟩) (by simp) _), OwnP.itp (base := E.heap.size) (row_st4 (row_far oW (p := ⟨w.heap.size, 1, none⟩) lA _) lZ _ _ _ _), ?_⟩
        exact New.st4 ((n0.trans nW).setCell (p := ⟨w.heap.size, 1, none⟩) (Nat.le_refl _) _) (Nat.le_succ _) _ _ _ _
      have HE := Lib.hid END
      clear END
      by_cases d1 : K2 = true
      · subst d1
        rw [if_pos rfl] at hdd
        obtain ⟨pq, kq, cq, rfl⟩ := ho.shape
        have T := HE.out wr K1 pq kq cq hn ho
        rw [← hdd] at T
        have HT := Lib.hid T
        obtain ⟨a0, a1, a2, a3⟩ := bA'.four
        have f1 := bA'.unfrozen 1
        obtain ⟨z0, z1, z2, z3⟩ := bZ'.four
        have y0 := bZ'.unfrozen 0
        have y1 := bZ'.unfrozen 1
        have y2 := bZ'.unfrozen 2
        have y3 := bZ'.unfrozen 3
        clear T HE hdd hll hlen ho hn hj c bA' bZ' bA bZ n0 HI
        go_wp2
        obtain ⟨Z, D, N⟩ := HT.out
        unfold st4 at Z D N
        obtain ⟨r0, r1, r2, r3⟩ := Z.four
        exact bodyPost_ret (v := .agg #[.slice p1 k1 c1, .slice pq kq cq, .slice p3 k3 c3, .bool g]) (by simp [results, Tryz.results123, go_sem, r0, r1, r2, r3]) rfl ⟨_, rfl, D, N⟩
      · obtain rfl : K2 = false := by cases K2 <;> simp_all
        rw [if_neg (by simp)] at hdd
        obtain ⟨pq, kq, cq, rfl⟩ := ho.shape
        obtain ⟨v1, w1, r1, o1, n1⟩ := add_pair hn ho (p, d) (by omega)
        dsimp only at r1 o1
        obtain ⟨p4, k4, c4, rfl⟩ := o1.shape
        have T := HE.out w1 _ p4 k4 c4 n1 o1
        rw [← hdd] at T
        have HT := Lib.hid T
        have bA' := bA.new n1
        have bZ' := bZ.new n1
        obtain ⟨a0, a1, a2, a3⟩ := bA'.four
        have f1 := bA'.unfrozen 1
        obtain ⟨z0, z1, z2, z3⟩ := bZ'.four
        have y0 := bZ'.unfrozen 0
        have y1 := bZ'.unfrozen 1
        have y2 := bZ'.unfrozen 2
        have y3 := bZ'.unfrozen 3
        obtain ⟨b0, b1, b2, b3⟩ := (bA.new hn).four
        clear T HE hdd hll hlen ho hn hj c bA' bZ' bA bZ n0 HI o1 n1
        go_wp2_with (at_builtin; refine Lib.wpList_append_run _ rfl _ _ _ _ rfl _ _ rfl rfl _ _ r1 ?_)
        obtain ⟨Z, D, N⟩ := HT.out
        unfold st4 at Z D N
        obtain ⟨r0, r1, r2, r3⟩ := Z.four
        exact bodyPost_ret (v := .agg #[.slice p1 k1 c1, .slice p4 k4 c4, .slice p3 k3 c3, .bool g]) (by simp [results, Tryz.results123, go_sem, r0, r1, r2, r3]) rfl ⟨_, rfl, D, N⟩
end
end Go.Proofs.YtgedimlhldfkaaaGreatDoor
namespace Go.Proofs.YtgedimlhldfkaaaGreatDoor
open Go.RowKit Go.Joins
set_option linter.unusedVariables false
set_option maxRecDepth 100000
section
variable {E w wr w' : World} {d : DW} {s : DS}
/-- a world and a space, told -/
def DrpD (d : DW) (s : DS) (w : World) (e : Ending) (w' : World) : Prop := ∃ U U', e = .returned (.tuple #[U, U']) ∧ DWv w' U d ∧ DSv w' U' s ∧ New w w'
set_option maxHeartbeats 4000000 in
theorem rdrop_no (V V' : Value) (hD : DWv w V d) (hS : DSv w V' s) (p : Int) (hn : dID s.it p < 0) : Calls Tryz.prog 116 #[V, V', .int .i64 p] w (DrpD d s w) := by
  obtain ⟨vb, vr, rfl, hB, hR⟩ := hD
  obtain ⟨vR, vL, vU, rfl, hG, hI, hU⟩ := hS
  obtain ⟨p1, k1, c1, rfl⟩ := hB.slc
  obtain ⟨p2, k2, c2, rfl⟩ := hR.slc
  obtain ⟨p3, k3, c3, rfl⟩ := hG.slc
  obtain ⟨p4, k4, c4, rfl⟩ := hI.slc
  obtain ⟨p5, k5, c5, rfl⟩ := hU.slc
  obtain ⟨E, hE⟩ : ∃ E, E = (((w.alloc (.cells #[.int .i64 d.many, .int .i64 d.taken, .slice p1 k1 c1, .slice p2 k2 c2] 63)).alloc (.cells #[.slice p3 k3 c3, .slice p4 k4 c4, .slice p5 k5 c5, .bool s.gone] 84)).alloc (.cells #[.int .i64 0, .int .i64 0, .slice none 0 0, .slice none 0 0] 63)).alloc (.cells #[.slice none 0 0, .slice none 0 0, .slice none 0 0, .bool false] 84) := ⟨_, rfl⟩
  have n0 : New w E := by rw [hE]; exact ((((New.refl w).alloc _ _).alloc _ _).alloc _ _).alloc _ _
  have bA : Box E w.heap.size #[.int .i64 d.many, .int .i64 d.taken, .slice p1 k1 c1, .slice p2 k2 c2] 63 := by rw [hE]; exact (((Box.here w _ _ _ rfl).alloc _).alloc _).alloc _
  have bB : Box E (w.heap.size + 1) #[.slice p3 k3 c3, .slice p4 k4 c4, .slice p5 k5 c5, .bool s.gone] 84 := by rw [hE]; exact ((Box.here _ _ _ _ (by rw [World.size_alloc])).alloc _).alloc _
  have bY : Box E (w.heap.size + 1 + 1) #[.int .i64 0, .int .i64 0, .slice none 0 0, .slice none 0 0] 63 := by rw [hE]; exact (Box.here _ _ _ _ (by rw [World.size_alloc, World.size_alloc])).alloc _
  have bZ : Box E (w.heap.size + 1 + 1 + 1) #[.slice none 0 0, .slice none 0 0, .slice none 0 0, .bool false] 84 := by rw [hE]; exact Box.here _ _ _ _ (by rw [World.size_alloc, World.size_alloc, World.size_alloc])
  have X := rid_any (w := E) (L := s.it) (g := s.gone) p (hG.new n0).slc (hI.new n0) (hU.new n0).slc
  have g1 : decide (dID s.it p < 0) = true := by simpa using hn
  go_enter Tryz.func116, Tryz.ntmps116
  go_wp2_with fail
  rw [← hE]
  refine X.mono ?_
  rintro e w1 ⟨rfl, n1⟩
  have n2 := n0.trans n1
  have bA1 := bA.new n1
  have bB1 := bB.new n1
  have bY1 := bY.new n1
  have bZ1 := bZ.new n1
  have END := show
      Box (st4 (st4 w1 (w.heap.size + 1 + 1) (.int .i64 d.many) (.int .i64 d.taken) (.slice p1 k1 c1) (.slice p2 k2 c2)) (w.heap.size + 1 + 1 + 1) (.slice p3 k3 c3) (.slice p4 k4 c4) (.slice p5 k5 c5) (.bool s.gone)) (w.heap.size + 1 + 1) #[.int .i64 d.many, .int .i64 d.taken, .slice p1 k1 c1, .slice p2 k2 c2] 63 ∧
      Box (st4 (st4 w1 (w.heap.size + 1 + 1) (.int .i64 d.many) (.int .i64 d.taken) (.slice p1 k1 c1) (.slice p2 k2 c2)) (w.heap.size + 1 + 1 + 1) (.slice p3 k3 c3) (.slice p4 k4 c4) (.slice p5 k5 c5) (.bool s.gone)) (w.heap.size + 1 + 1 + 1) #[.slice p3 k3 c3, .slice p4 k4 c4, .slice p5 k5 c5, .bool s.gone] 84 ∧
      New w (st4 (st4 w1 (w.heap.size + 1 + 1) (.int .i64 d.many) (.int .i64 d.taken) (.slice p1 k1 c1) (.slice p2 k2 c2)) (w.heap.size + 1 + 1 + 1) (.slice p3 k3 c3) (.slice p4 k4 c4) (.slice p5 k5 c5) (.bool s.gone)) from by
    have o4 : ∀ {W : World} {cs : Array Value} {T : TypeId} {m b : Nat} (x y z t : Value), Box W m cs T → b ≠ m → Box (st4 W b x y z t) m cs T := fun x y z t h hn =>
      (((h.other (p := ⟨_, 0, none⟩) hn x).other (p := ⟨_, 1, none⟩) hn y).other (p := ⟨_, 2, none⟩) hn z).other (p := ⟨_, 3, none⟩) hn t
    exact ⟨o4 _ _ _ _ (Box.st4 bY1) (by omega), Box.st4 (o4 _ _ _ _ bZ1 (by omega)), New.st4 (New.st4 n2 (by omega) _ _ _ _) (by omega) _ _ _ _⟩
  have HT := Lib.hid END
  have HB := Lib.hid hB
  have HR := Lib.hid hR
  have HG := Lib.hid hG
  have HI := Lib.hid hI
  have HU := Lib.hid hU
  obtain ⟨a0, a1, a2, a3⟩ := bA1.four
  obtain ⟨b0, b1, b2, b3⟩ := bB1.four
  obtain ⟨y0, y1, y2, y3⟩ := bY1.four
  obtain ⟨z0, z1, z2, z3⟩ := bZ1.four
  have fy0 := bY1.unfrozen 0
  have fy1 := bY1.unfrozen 1
  have fy2 := bY1.unfrozen 2
  have fy3 := bY1.unfrozen 3
  have fz0 := bZ1.unfrozen 0
  have fz1 := bZ1.unfrozen 1
  have fz2 := bZ1.unfrozen 2
  have fz3 := bZ1.unfrozen 3
  clear X END n1 n0 n2 bA bB bY bZ bA1 bB1 bY1 bZ1 hE hB hR hG hI hU
  go_wp2
  go_region
  all_goals
    rename_i hret
    refine hret _ _ (wp_ret ?_)
    obtain ⟨Y, Z, N⟩ := HT.out
    have Y := Y.new (New.refl _).drew
    have Z := Z.new (New.refl _).drew
    have N := N.drew
    unfold st4 at Y Z N
    obtain ⟨q0, q1, q2, q3⟩ := Y.four
    obtain ⟨r0, r1, r2, r3⟩ := Z.four
    exact bodyPost_ret (v := .tuple #[.agg #[.int .i64 d.many, .int .i64 d.taken, .slice p1 k1 c1, .slice p2 k2 c2], .agg #[.slice p3 k3 c3, .slice p4 k4 c4, .slice p5 k5 c5, .bool s.gone]]) (by simp [results, Tryz.results116, go_sem, q0, q1, q2, q3, r0, r1, r2, r3]) rfl ⟨_, _, rfl, ⟨_, _, rfl, HB.out.new N, HR.out.new N⟩, ⟨_, _, _, rfl, HG.out.new N, HI.out.new N, HU.out.new N⟩, N⟩
-- GEN
set_option maxHeartbeats 8000000 in
theorem rdrop_yes (V V' : Value) (hD : DWv w V d) (hS : DSv w V' s) (p : Int) (id : Nat) (hid : dID s.it p = (id : Int)) (hlt : id < d.rf.length) (hrl : d.rf.length ≤ 1000000) (hrv : -1000000 ≤ d.rf.getD id 0 ∧ d.rf.getD id 0 ≤ 1000000) (ht : -1000000 ≤ d.taken ∧ d.taken ≤ 1000000) (hil : s.it.length ≤ 10000) :
    Calls Tryz.prog 116 #[V, V', .int .i64 p] w (DrpD (ddrop d s p).1 (ddrop d s p).2 w) := by
  have hdd : ddrop d s p = (⟨d.many, if (d.rf.set id (d.rf.getD id 0 - 1)).getD id 0 = 0 then d.taken - 1 else d.taken, d.by_, d.rf.set id (d.rf.getD id 0 - 1)⟩, ⟨s.L, dcutL s.it p, s.up, s.gone⟩) := by
    unfold ddrop; rw [hid, if_neg (by omega)]; rfl
  have hset : (d.rf.set id (d.rf.getD id 0 - 1)).getD id 0 = d.rf.getD id 0 - 1 := by
    rw [List.getD_eq_getElem?_getD, List.getElem?_set_self hlt]; rfl
  rw [hset] at hdd
  obtain ⟨D', hD'⟩ : ∃ D' : DW, D' = ⟨d.many, if d.rf.getD id 0 - 1 = 0 then d.taken - 1 else d.taken, d.by_, d.rf.set id (d.rf.getD id 0 - 1)⟩ := ⟨_, rfl⟩
  obtain ⟨S', hS'⟩ : ∃ S' : DS, S' = ⟨s.L, dcutL s.it p, s.up, s.gone⟩ := ⟨_, rfl⟩
  rw [← hD', ← hS'] at hdd
  rw [hdd]
  show Calls Tryz.prog 116 #[V, V', .int .i64 p] w (DrpD D' S' w)
  clear hdd
  obtain ⟨vb, vr, rfl, hB, hR⟩ := hD
  obtain ⟨vR, vL, vU, rfl, hG, hI, hU⟩ := hS
  obtain ⟨p1, k1, c1, rfl⟩ := hB.slc
  obtain ⟨p3, k3, c3, rfl⟩ := hG.slc
  obtain ⟨p4, c4, rfl⟩ := hI.len
  obtain ⟨p5, k5, c5, rfl⟩ := hU.slc
  obtain ⟨br, c2, rfl, hrow⟩ : ∃ br c2, vr = .slice (some ⟨br, 0, none⟩) d.rf.length c2 ∧ br < w.heap.size ∧ w.cell? ⟨br, id, none⟩ = some (.int .i64 (d.rf.getD id 0)) := by
    rcases hR with ⟨_, h⟩ | ⟨b, cap, rfl, _, _, h3, h4⟩
    · rw [h] at hlt; simp at hlt
    · exact ⟨b, cap, rfl, h3, h4 id hlt⟩
  obtain ⟨E, hE⟩ : ∃ E, E = (((w.alloc (.cells #[.int .i64 d.many, .int .i64 d.taken, .slice p1 k1 c1, .slice (some ⟨br, 0, none⟩) d.rf.length c2] 63)).alloc (.cells #[.slice p3 k3 c3, .slice p4 s.it.length c4, .slice p5 k5 c5, .bool s.gone] 84)).alloc (.cells #[.int .i64 0, .int .i64 0, .slice none 0 0, .slice none 0 0] 63)).alloc (.cells #[.slice none 0 0, .slice none 0 0, .slice none 0 0, .bool false] 84) := ⟨_, rfl⟩
  have n0 : New w E := by rw [hE]; exact ((((New.refl w).alloc _ _).alloc _ _).alloc _ _).alloc _ _
  have bA : Box E w.heap.size #[.int .i64 d.many, .int .i64 d.taken, .slice p1 k1 c1, .slice (some ⟨br, 0, none⟩) d.rf.length c2] 63 := by rw [hE]; exact (((Box.here w _ _ _ rfl).alloc _).alloc _).alloc _
  have bB : Box E (w.heap.size + 1) #[.slice p3 k3 c3, .slice p4 s.it.length c4, .slice p5 k5 c5, .bool s.gone] 84 := by rw [hE]; exact ((Box.here _ _ _ _ (by rw [World.size_alloc])).alloc _).alloc _
  have bY : Box E (w.heap.size + 1 + 1) #[.int .i64 0, .int .i64 0, .slice none 0 0, .slice none 0 0] 63 := by rw [hE]; exact (Box.here _ _ _ _ (by rw [World.size_alloc, World.size_alloc])).alloc _
  have bZ : Box E (w.heap.size + 1 + 1 + 1) #[.slice none 0 0, .slice none 0 0, .slice none 0 0, .bool false] 84 := by rw [hE]; exact Box.here _ _ _ _ (by rw [World.size_alloc, World.size_alloc, World.size_alloc])
  have X := rid_any (w := E) (L := s.it) (g := s.gone) p (hG.new n0).slc (hI.new n0) (hU.new n0).slc
  rw [hid] at X
  have YW := fun W (n : New w W) (m : Int) => rwith_any (hR.new n) hrl id hlt m
  have HB := Lib.hid hB
  have HG := Lib.hid hG
  have HI := Lib.hid hI
  have HU := Lib.hid hU
  clear hB hG hI hU hR
  generalize d.rf.getD id 0 = y at *
  have HD' := Lib.hid hD'
  have HS' := Lib.hid hS'
  clear hD' hS' hset
  have g1 : decide ((id : Int) < 0) = false := by simp
  have g2 : decide (id < d.rf.length) = true := by simpa using hlt
  go_enter Tryz.func116, Tryz.ntmps116
  go_wp2_with fail
  rw [← hE]
  clear hE
  refine X.mono ?_
  rintro e w1 ⟨rfl, n1⟩
  have n2 := n0.trans n1
  have bA1 := bA.new n1
  have bB1 := bB.new n1
  have bY1 := bY.new n1
  have bZ1 := bZ.new n1
  have gy : IntKind.i64.wrap (y - 1) = y - 1 := IntWalk.i64_in _ (by omega)
  have YW1 := YW w1.drew n2.drew (y - 1)
  have sE := n1.size
  have lA := bZ.lt
  clear X YW n0 n1 bA bB bY bZ
  obtain ⟨a0, a1, a2, a3⟩ := bA1.four
  have d0 := n2.keeps hrow.2
  have fa := bA1.unfrozen 3
  have KEEP : ∀ W', New w1.drew W' → W'.cell? ⟨w.heap.size, 3, none⟩ = some (.slice (some ⟨br, 0, none⟩) d.rf.length c2) ∧ W'.cell? ⟨br, id, none⟩ = some (.int .i64 y) ∧ W'.frozen? ⟨w.heap.size, 3, none⟩ = false := fun W' n =>
    ⟨(Box.four (Box.new bA1 ((New.refl w1).drew.trans n))).2.2.2, (n2.trans ((New.refl w1).drew.trans n)).keeps hrow.2, Box.unfrozen (Box.new bA1 ((New.refl w1).drew.trans n)) 3⟩
  go_wp2
  obtain ⟨ja, jb, jf⟩ := KEEP _ (New.refl _)
  go_still_tail 9, (by kernel_rfl)
  go_wp2_with fail
  refine YW1.mono ?_
  rintro e w2 ⟨v2, rfl, o2, nw⟩
  obtain ⟨ka, kb, kf⟩ := KEEP _ nw
  obtain ⟨p6, k6, c6, rfl⟩ := Own.shape o2
  have n3 := n2.drew.trans nw
  have bA2 := (bA1.new (New.refl _).drew).new nw
  have bB2 := (bB1.new (New.refl _).drew).new nw
  have bY2 := (bY1.new (New.refl _).drew).new nw
  have bZ2 := (bZ1.new (New.refl _).drew).new nw
  clear bA1 bB1 bY1 bZ1 YW1 KEEP a0 a1 a2 a3 d0 fa n2
  obtain ⟨gu, cu, e6, c0⟩ : ∃ gu cu, Value.slice p6 k6 c6 = .slice (some ⟨gu, 0, none⟩) d.rf.length cu ∧ w2.cell? ⟨gu, id, none⟩ = some (.int .i64 (y - 1)) := by
    rcases o2.ints with ⟨_, h⟩ | ⟨b, cap, e, _, _, h3, h4⟩
    · have := congrArg List.length h; rw [List.length_set, List.length_nil] at this; omega
    · refine ⟨b, cap, by rw [e, List.length_set], ?_⟩
      rw [h4 id (by rw [List.length_set]; exact hlt), List.getD_eq_getElem?_getD, List.getElem?_set_self hlt]; rfl
  cases e6
  have hgu : w.heap.size < gu := by
    rcases o2.2 with ⟨hn, _⟩ | ⟨g', c', cur, e, hb, _⟩
    · cases hn
    · simp only [Value.slice.injEq, Option.some.injEq, Addr.mk.injEq] at e
      have : w1.drew.heap.size = w1.heap.size := rfl
      omega
  have bA3 : Box (w2.setCell ⟨w.heap.size, 3, none⟩ (.slice (some ⟨gu, 0, none⟩) d.rf.length c6)) w.heap.size #[.int .i64 d.many, .int .i64 d.taken, .slice p1 k1 c1, .slice (some ⟨gu, 0, none⟩) d.rf.length c6] 63 := bA2.set 3 _
  have bB3 := bB2.other (p := ⟨w.heap.size, 3, none⟩) (by simp) (.slice (some ⟨gu, 0, none⟩) d.rf.length c6)
  have bY3 := bY2.other (p := ⟨w.heap.size, 3, none⟩) (by simp; omega) (.slice (some ⟨gu, 0, none⟩) d.rf.length c6)
  have bZ3 := bZ2.other (p := ⟨w.heap.size, 3, none⟩) (by simp; omega) (.slice (some ⟨gu, 0, none⟩) d.rf.length c6)
  have n4 := n3.setCell (p := ⟨w.heap.size, 3, none⟩) (Nat.le_refl _) (.slice (some ⟨gu, 0, none⟩) d.rf.length c6)
  have o4 := row_far o2 (p := ⟨w.heap.size, 3, none⟩) (by have : w1.drew.heap.size = w1.heap.size := rfl; simp only; omega) (.slice (some ⟨gu, 0, none⟩) d.rf.length c6)
  have e0 : (w2.setCell ⟨w.heap.size, 3, none⟩ (.slice (some ⟨gu, 0, none⟩) d.rf.length c6)).cell? ⟨gu, id, none⟩ = some (.int .i64 (y - 1)) := (World.cell?_setCell_other _ _ _ _ (fun e => by have := congrArg Addr.block e; simp only at this; omega)).trans c0
  obtain ⟨m0, m1, m2, m3⟩ := bA3.four
  have f1 := bA3.unfrozen 1
  clear bA2 bB2 bY2 bZ2 o2 n3 nw c0 kb ja jb jf
  by_cases z : y - 1 = 0
  · have gz : (y - 1 == 0) = true := by simpa using z
    have gt : IntKind.i64.wrap (d.taken - 1) = d.taken - 1 := IntWalk.i64_in _ (by omega)
    have bA4 : Box ((w2.setCell ⟨w.heap.size, 3, none⟩ (.slice (some ⟨gu, 0, none⟩) d.rf.length c6)).setCell ⟨w.heap.size, 1, none⟩ (.int .i64 (d.taken - 1))) w.heap.size #[.int .i64 d.many, .int .i64 (d.taken - 1), .slice p1 k1 c1, .slice (some ⟨gu, 0, none⟩) d.rf.length c6] 63 := bA3.set 1 _
    have bB4 := bB3.other (p := ⟨w.heap.size, 1, none⟩) (by simp) (.int .i64 (d.taken - 1))
    have bY4 := bY3.other (p := ⟨w.heap.size, 1, none⟩) (by simp; omega) (.int .i64 (d.taken - 1))
    have bZ4 := bZ3.other (p := ⟨w.heap.size, 1, none⟩) (by simp; omega) (.int .i64 (d.taken - 1))
    have n5 := n4.setCell (p := ⟨w.heap.size, 1, none⟩) (Nat.le_refl _) (.int .i64 (d.taken - 1))
    have o5 := row_far o4 (p := ⟨w.heap.size, 1, none⟩) (by have : w1.drew.heap.size = w1.heap.size := rfl; simp only; omega) (.int .i64 (d.taken - 1))
    clear bA3 bB3 bY3 bZ3 n4 o4
    go_wp2_with fail
    obtain ⟨F, hF⟩ : ∃ F, F = (w2.setCell ⟨w.heap.size, 3, none⟩ (.slice (some ⟨gu, 0, none⟩) d.rf.length c6)).setCell ⟨w.heap.size, 1, none⟩ (.int .i64 (d.taken - 1)) := ⟨_, rfl⟩
    rw [← hF]
    rw [← hF] at bA4 bB4 bY4 bZ4 n5 o5
    clear hF
    have l1 := bZ4.lt
    have s1 : w1.drew.heap.size = w1.heap.size := rfl
    go_loopg [9, 10] s.it.length (fun k l i wr => ∃ j : Nat, j + k = s.it.length ∧ i = .int .i64 (j : Int) ∧ OwnP F.heap.size wr l (dcutL (s.it.take j) p) ∧ New F wr)
    case atStart => exact ⟨0, by omega, rfl, OwnP.nil _ _, New.refl _⟩
    case round =>
      obtain ⟨j, hj, rfl, ho, hn⟩ := hrel
      obtain ⟨b0, b1, b2, b3⟩ := (bB4.new hn).four
      by_cases c : j < s.it.length
      · obtain ⟨b, cap, e, _, _, _, hc⟩ := (HI.out.new (n5.trans hn)).some (by omega)
        cases e
        obtain ⟨e0, e1⟩ := hc j c
        have hpush := dcutL_push (s.it.take j) p s.it[j]
        rw [← List.take_succ_eq_append_getElem c] at hpush
        have hll : (dcutL (s.it.take j) p).length ≤ 10000 := Nat.le_trans (List.length_filter_le _ _) (by rw [List.length_take]; omega)
        have J := Lib.hid hj
        generalize s.it[j] = x at *
        obtain ⟨x1, x2⟩ := x
        simp only at e0 e1 hpush
        obtain ⟨pq, kq, cq, rfl⟩ := ho.shape
        have HN := Lib.hid hn
        by_cases d1 : x1 = p
        · rw [if_neg (fun h => h d1)] at hpush
          have f : (x1 != p) = false := by simpa using d1
          have HD := Lib.hid hpush
          have HO := Lib.hid ho
          clear hpush ho hn hj hc d1 hll
          go_wp2
          go_roundg (s.it.length - (j + 1))
          case measure => have := J.out; omega
          case rel => exact ⟨j + 1, by have := J.out; omega, by go_num, by rw [HD.out]; exact HO.out, HN.out⟩
        · rw [if_pos d1] at hpush
          have f : (x1 != p) = true := by simpa using d1
          obtain ⟨v1, w5, r1, o1, n1⟩ := add_pair hn ho (x1, x2) (by omega)
          dsimp only at r1 o1
          obtain ⟨p7, k7, c7, rfl⟩ := o1.shape
          have HD := Lib.hid hpush
          have O1 := Lib.hid o1
          have N1 := Lib.hid n1
          clear hpush ho hn hj hc d1 hll o1 n1
          go_wp2_with (at_builtin; refine Lib.wpList_append_run _ rfl _ _ _ _ rfl _ _ rfl rfl _ _ r1 ?_)
          go_roundg (s.it.length - (j + 1))
          case measure => have := J.out; omega
          case rel => exact ⟨j + 1, by have := J.out; omega, by go_num, by rw [HD.out]; exact O1.out, N1.out⟩
      · obtain rfl : j = s.it.length := by omega
        rw [List.take_length] at ho
        obtain ⟨pq, kq, cq, rfl⟩ := ho.shape
        have bA9 := bA4.new hn
        have bB9 : Box (wr.setCell ⟨w.heap.size + 1, 1, none⟩ (.slice pq kq cq)) (w.heap.size + 1) #[.slice p3 k3 c3, .slice pq kq cq, .slice p5 k5 c5, .bool s.gone] 84 := (bB4.new hn).set 1 _
        have bAA := bA9.other (p := ⟨w.heap.size + 1, 1, none⟩) (by simp) (.slice pq kq cq)
        have bY9 := (bY4.new hn).other (p := ⟨w.heap.size + 1, 1, none⟩) (by simp) (.slice pq kq cq)
        have bZ9 := (bZ4.new hn).other (p := ⟨w.heap.size + 1, 1, none⟩) (by simp) (.slice pq kq cq)
        have END := show
            Box (st4 (st4 (wr.setCell ⟨w.heap.size + 1, 1, none⟩ (.slice pq kq cq)) (w.heap.size + 1 + 1) (.int .i64 d.many) (.int .i64 (d.taken - 1)) (.slice p1 k1 c1) (.slice (some ⟨gu, 0, none⟩) d.rf.length c6)) (w.heap.size + 1 + 1 + 1) (.slice p3 k3 c3) (.slice pq kq cq) (.slice p5 k5 c5) (.bool s.gone)) (w.heap.size + 1 + 1) #[.int .i64 d.many, .int .i64 (d.taken - 1), .slice p1 k1 c1, .slice (some ⟨gu, 0, none⟩) d.rf.length c6] 63 ∧
            Box (st4 (st4 (wr.setCell ⟨w.heap.size + 1, 1, none⟩ (.slice pq kq cq)) (w.heap.size + 1 + 1) (.int .i64 d.many) (.int .i64 (d.taken - 1)) (.slice p1 k1 c1) (.slice (some ⟨gu, 0, none⟩) d.rf.length c6)) (w.heap.size + 1 + 1 + 1) (.slice p3 k3 c3) (.slice pq kq cq) (.slice p5 k5 c5) (.bool s.gone)) (w.heap.size + 1 + 1 + 1) #[.slice p3 k3 c3, .slice pq kq cq, .slice p5 k5 c5, .bool s.gone] 84 ∧
            New w (st4 (st4 (wr.setCell ⟨w.heap.size + 1, 1, none⟩ (.slice pq kq cq)) (w.heap.size + 1 + 1) (.int .i64 d.many) (.int .i64 (d.taken - 1)) (.slice p1 k1 c1) (.slice (some ⟨gu, 0, none⟩) d.rf.length c6)) (w.heap.size + 1 + 1 + 1) (.slice p3 k3 c3) (.slice pq kq cq) (.slice p5 k5 c5) (.bool s.gone)) ∧
            Itp (st4 (st4 (wr.setCell ⟨w.heap.size + 1, 1, none⟩ (.slice pq kq cq)) (w.heap.size + 1 + 1) (.int .i64 d.many) (.int .i64 (d.taken - 1)) (.slice p1 k1 c1) (.slice (some ⟨gu, 0, none⟩) d.rf.length c6)) (w.heap.size + 1 + 1 + 1) (.slice p3 k3 c3) (.slice pq kq cq) (.slice p5 k5 c5) (.bool s.gone)) (.slice pq kq cq) (dcutL s.it p) ∧
            Ints (st4 (st4 (wr.setCell ⟨w.heap.size + 1, 1, none⟩ (.slice pq kq cq)) (w.heap.size + 1 + 1) (.int .i64 d.many) (.int .i64 (d.taken - 1)) (.slice p1 k1 c1) (.slice (some ⟨gu, 0, none⟩) d.rf.length c6)) (w.heap.size + 1 + 1 + 1) (.slice p3 k3 c3) (.slice pq kq cq) (.slice p5 k5 c5) (.bool s.gone)) (.slice (some ⟨gu, 0, none⟩) d.rf.length c6) (d.rf.set id (y - 1)) from by
          have oth : ∀ {W : World} {cs : Array Value} {T : TypeId} {m b : Nat} (x y z t : Value), Box W m cs T → b ≠ m → Box (st4 W b x y z t) m cs T := fun x y z t h hn =>
            (((h.other (p := ⟨_, 0, none⟩) hn x).other (p := ⟨_, 1, none⟩) hn y).other (p := ⟨_, 2, none⟩) hn z).other (p := ⟨_, 3, none⟩) hn t
          refine ⟨oth _ _ _ _ (Box.st4 bY9) (by omega), Box.st4 (oth _ _ _ _ bZ9 (by omega)), New.st4 (New.st4 ((n5.trans hn).setCell (p := ⟨w.heap.size + 1, 1, none⟩) (Nat.le_succ _) _) (by omega) _ _ _ _) (by omega) _ _ _ _, ?_, ?_⟩
          · exact OwnP.itp (base := F.heap.size) (row_st4 (row_st4 (row_far ho (p := ⟨w.heap.size + 1, 1, none⟩) (by simp only; omega) _) (by omega) _ _ _ _) (by omega) _ _ _ _)
          · exact Own.ints (base := w1.drew.heap.size) (row_st4 (row_st4 (row_far (row_new o5 hn) (p := ⟨w.heap.size + 1, 1, none⟩) (by simp only; omega) _) (by omega) _ _ _ _) (by omega) _ _ _ _)
        have HT := Lib.hid END
        obtain ⟨a0, a1, a2, a3⟩ := bAA.four
        obtain ⟨h0, h1, h2, h3⟩ := bB9.four
        obtain ⟨y0, y1, y2, y3⟩ := bY9.four
        obtain ⟨z0, z1, z2, z3⟩ := bZ9.four
        have fb := (bB4.new hn).unfrozen 1
        have fy0 := bY9.unfrozen 0
        have fy1 := bY9.unfrozen 1
        have fy2 := bY9.unfrozen 2
        have fy3 := bY9.unfrozen 3
        have fz0 := bZ9.unfrozen 0
        have fz1 := bZ9.unfrozen 1
        have fz2 := bZ9.unfrozen 2
        have fz3 := bZ9.unfrozen 3
        clear END bA9 bB9 bAA bY9 bZ9 ho hn hj c bA4 bB4 bY4 bZ4 n5 o5
        go_wp2
        go_region
        all_goals
          rename_i hret
          refine hret _ _ (wp_ret ?_)
          obtain ⟨Y, Z, N, I, U⟩ := HT.out
          have Y := Y.new (New.refl _).drew
          have Z := Z.new (New.refl _).drew
          have N := N.drew
          have I := I.new (New.refl _).drew
          have U := U.new (New.refl _).drew
          unfold st4 at Y Z N I U
          obtain ⟨q0, q1, q2, q3⟩ := Y.four
          obtain ⟨r0, r1, r2, r3⟩ := Z.four
          rw [show D' = ⟨d.many, (d.taken - 1), d.by_, d.rf.set id (y - 1)⟩ from HD'.out.trans (by simp [z]), HS'.out]
          exact bodyPost_ret (v := .tuple #[.agg #[.int .i64 d.many, .int .i64 (d.taken - 1), .slice p1 k1 c1, .slice (some ⟨gu, 0, none⟩) d.rf.length c6], .agg #[.slice p3 k3 c3, .slice pq kq cq, .slice p5 k5 c5, .bool s.gone]]) (by simp [results, Tryz.results116, go_sem, q0, q1, q2, q3, r0, r1, r2, r3]) rfl ⟨_, _, rfl, ⟨_, _, rfl, HB.out.new N, U⟩, ⟨_, _, _, rfl, HG.out.new N, I, HU.out.new N⟩, N⟩
  · have gz : (y - 1 == 0) = false := by simpa using z
    go_wp2_with fail
    obtain ⟨F, hF⟩ : ∃ F, F = w2.setCell ⟨w.heap.size, 3, none⟩ (.slice (some ⟨gu, 0, none⟩) d.rf.length c6) := ⟨_, rfl⟩
    rw [← hF]
    rw [← hF] at bA3 bB3 bY3 bZ3 n4 o4
    clear hF
    have l1 := bZ3.lt
    have s1 : w1.drew.heap.size = w1.heap.size := rfl
    go_loopg [9, 10] s.it.length (fun k l i wr => ∃ j : Nat, j + k = s.it.length ∧ i = .int .i64 (j : Int) ∧ OwnP F.heap.size wr l (dcutL (s.it.take j) p) ∧ New F wr)
    case atStart => exact ⟨0, by omega, rfl, OwnP.nil _ _, New.refl _⟩
    case round =>
      obtain ⟨j, hj, rfl, ho, hn⟩ := hrel
      obtain ⟨b0, b1, b2, b3⟩ := (bB3.new hn).four
      by_cases c : j < s.it.length
      · obtain ⟨b, cap, e, _, _, _, hc⟩ := (HI.out.new (n4.trans hn)).some (by omega)
        cases e
        obtain ⟨e0, e1⟩ := hc j c
        have hpush := dcutL_push (s.it.take j) p s.it[j]
        rw [← List.take_succ_eq_append_getElem c] at hpush
        have hll : (dcutL (s.it.take j) p).length ≤ 10000 := Nat.le_trans (List.length_filter_le _ _) (by rw [List.length_take]; omega)
        have J := Lib.hid hj
        generalize s.it[j] = x at *
        obtain ⟨x1, x2⟩ := x
        simp only at e0 e1 hpush
        obtain ⟨pq, kq, cq, rfl⟩ := ho.shape
        have HN := Lib.hid hn
        by_cases d1 : x1 = p
        · rw [if_neg (fun h => h d1)] at hpush
          have f : (x1 != p) = false := by simpa using d1
          have HD := Lib.hid hpush
          have HO := Lib.hid ho
          clear hpush ho hn hj hc d1 hll
          go_wp2
          go_roundg (s.it.length - (j + 1))
          case measure => have := J.out; omega
          case rel => exact ⟨j + 1, by have := J.out; omega, by go_num, by rw [HD.out]; exact HO.out, HN.out⟩
        · rw [if_pos d1] at hpush
          have f : (x1 != p) = true := by simpa using d1
          obtain ⟨v1, w5, r1, o1, n1⟩ := add_pair hn ho (x1, x2) (by omega)
          dsimp only at r1 o1
          obtain ⟨p7, k7, c7, rfl⟩ := o1.shape
          have HD := Lib.hid hpush
          have O1 := Lib.hid o1
          have N1 := Lib.hid n1
          clear hpush ho hn hj hc d1 hll o1 n1
          go_wp2_with (at_builtin; refine Lib.wpList_append_run _ rfl _ _ _ _ rfl _ _ rfl rfl _ _ r1 ?_)
          go_roundg (s.it.length - (j + 1))
          case measure => have := J.out; omega
          case rel => exact ⟨j + 1, by have := J.out; omega, by go_num, by rw [HD.out]; exact O1.out, N1.out⟩
      · obtain rfl : j = s.it.length := by omega
        rw [List.take_length] at ho
        obtain ⟨pq, kq, cq, rfl⟩ := ho.shape
        have bA9 := bA3.new hn
        have bB9 : Box (wr.setCell ⟨w.heap.size + 1, 1, none⟩ (.slice pq kq cq)) (w.heap.size + 1) #[.slice p3 k3 c3, .slice pq kq cq, .slice p5 k5 c5, .bool s.gone] 84 := (bB3.new hn).set 1 _
        have bAA := bA9.other (p := ⟨w.heap.size + 1, 1, none⟩) (by simp) (.slice pq kq cq)
        have bY9 := (bY3.new hn).other (p := ⟨w.heap.size + 1, 1, none⟩) (by simp) (.slice pq kq cq)
        have bZ9 := (bZ3.new hn).other (p := ⟨w.heap.size + 1, 1, none⟩) (by simp) (.slice pq kq cq)
        have END := show
            Box (st4 (st4 (wr.setCell ⟨w.heap.size + 1, 1, none⟩ (.slice pq kq cq)) (w.heap.size + 1 + 1) (.int .i64 d.many) (.int .i64 d.taken) (.slice p1 k1 c1) (.slice (some ⟨gu, 0, none⟩) d.rf.length c6)) (w.heap.size + 1 + 1 + 1) (.slice p3 k3 c3) (.slice pq kq cq) (.slice p5 k5 c5) (.bool s.gone)) (w.heap.size + 1 + 1) #[.int .i64 d.many, .int .i64 d.taken, .slice p1 k1 c1, .slice (some ⟨gu, 0, none⟩) d.rf.length c6] 63 ∧
            Box (st4 (st4 (wr.setCell ⟨w.heap.size + 1, 1, none⟩ (.slice pq kq cq)) (w.heap.size + 1 + 1) (.int .i64 d.many) (.int .i64 d.taken) (.slice p1 k1 c1) (.slice (some ⟨gu, 0, none⟩) d.rf.length c6)) (w.heap.size + 1 + 1 + 1) (.slice p3 k3 c3) (.slice pq kq cq) (.slice p5 k5 c5) (.bool s.gone)) (w.heap.size + 1 + 1 + 1) #[.slice p3 k3 c3, .slice pq kq cq, .slice p5 k5 c5, .bool s.gone] 84 ∧
            New w (st4 (st4 (wr.setCell ⟨w.heap.size + 1, 1, none⟩ (.slice pq kq cq)) (w.heap.size + 1 + 1) (.int .i64 d.many) (.int .i64 d.taken) (.slice p1 k1 c1) (.slice (some ⟨gu, 0, none⟩) d.rf.length c6)) (w.heap.size + 1 + 1 + 1) (.slice p3 k3 c3) (.slice pq kq cq) (.slice p5 k5 c5) (.bool s.gone)) ∧
            Itp (st4 (st4 (wr.setCell ⟨w.heap.size + 1, 1, none⟩ (.slice pq kq cq)) (w.heap.size + 1 + 1) (.int .i64 d.many) (.int .i64 d.taken) (.slice p1 k1 c1) (.slice (some ⟨gu, 0, none⟩) d.rf.length c6)) (w.heap.size + 1 + 1 + 1) (.slice p3 k3 c3) (.slice pq kq cq) (.slice p5 k5 c5) (.bool s.gone)) (.slice pq kq cq) (dcutL s.it p) ∧
            Ints (st4 (st4 (wr.setCell ⟨w.heap.size + 1, 1, none⟩ (.slice pq kq cq)) (w.heap.size + 1 + 1) (.int .i64 d.many) (.int .i64 d.taken) (.slice p1 k1 c1) (.slice (some ⟨gu, 0, none⟩) d.rf.length c6)) (w.heap.size + 1 + 1 + 1) (.slice p3 k3 c3) (.slice pq kq cq) (.slice p5 k5 c5) (.bool s.gone)) (.slice (some ⟨gu, 0, none⟩) d.rf.length c6) (d.rf.set id (y - 1)) from by
          have oth : ∀ {W : World} {cs : Array Value} {T : TypeId} {m b : Nat} (x y z t : Value), Box W m cs T → b ≠ m → Box (st4 W b x y z t) m cs T := fun x y z t h hn =>
            (((h.other (p := ⟨_, 0, none⟩) hn x).other (p := ⟨_, 1, none⟩) hn y).other (p := ⟨_, 2, none⟩) hn z).other (p := ⟨_, 3, none⟩) hn t
          refine ⟨oth _ _ _ _ (Box.st4 bY9) (by omega), Box.st4 (oth _ _ _ _ bZ9 (by omega)), New.st4 (New.st4 ((n4.trans hn).setCell (p := ⟨w.heap.size + 1, 1, none⟩) (Nat.le_succ _) _) (by omega) _ _ _ _) (by omega) _ _ _ _, ?_, ?_⟩
          · exact OwnP.itp (base := F.heap.size) (row_st4 (row_st4 (row_far ho (p := ⟨w.heap.size + 1, 1, none⟩) (by simp only; omega) _) (by omega) _ _ _ _) (by omega) _ _ _ _)
          · exact Own.ints (base := w1.drew.heap.size) (row_st4 (row_st4 (row_far (row_new o4 hn) (p := ⟨w.heap.size + 1, 1, none⟩) (by simp only; omega) _) (by omega) _ _ _ _) (by omega) _ _ _ _)
        have HT := Lib.hid END
        obtain ⟨a0, a1, a2, a3⟩ := bAA.four
        obtain ⟨h0, h1, h2, h3⟩ := bB9.four
        obtain ⟨y0, y1, y2, y3⟩ := bY9.four
        obtain ⟨z0, z1, z2, z3⟩ := bZ9.four
        have fb := (bB3.new hn).unfrozen 1
        have fy0 := bY9.unfrozen 0
        have fy1 := bY9.unfrozen 1
        have fy2 := bY9.unfrozen 2
        have fy3 := bY9.unfrozen 3
        have fz0 := bZ9.unfrozen 0
        have fz1 := bZ9.unfrozen 1
        have fz2 := bZ9.unfrozen 2
        have fz3 := bZ9.unfrozen 3
        clear END bA9 bB9 bAA bY9 bZ9 ho hn hj c bA3 bB3 bY3 bZ3 n4 o4
        go_wp2
        go_region
        all_goals
          rename_i hret
          refine hret _ _ (wp_ret ?_)
          obtain ⟨Y, Z, N, I, U⟩ := HT.out
          have Y := Y.new (New.refl _).drew
          have Z := Z.new (New.refl _).drew
          have N := N.drew
          have I := I.new (New.refl _).drew
          have U := U.new (New.refl _).drew
          unfold st4 at Y Z N I U
          obtain ⟨q0, q1, q2, q3⟩ := Y.four
          obtain ⟨r0, r1, r2, r3⟩ := Z.four
          rw [show D' = ⟨d.many, d.taken, d.by_, d.rf.set id (y - 1)⟩ from HD'.out.trans (by simp [z]), HS'.out]
          exact bodyPost_ret (v := .tuple #[.agg #[.int .i64 d.many, .int .i64 d.taken, .slice p1 k1 c1, .slice (some ⟨gu, 0, none⟩) d.rf.length c6], .agg #[.slice p3 k3 c3, .slice pq kq cq, .slice p5 k5 c5, .bool s.gone]]) (by simp [results, Tryz.results116, go_sem, q0, q1, q2, q3, r0, r1, r2, r3]) rfl ⟨_, _, rfl, ⟨_, _, rfl, HB.out.new N, U⟩, ⟨_, _, _, rfl, HG.out.new N, I, HU.out.new N⟩, N⟩
end
end Go.Proofs.YtgedimlhldfkaaaGreatDoor
