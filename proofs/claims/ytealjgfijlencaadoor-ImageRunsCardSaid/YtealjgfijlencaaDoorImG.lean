/- Programs as bytes: the law's isImage, of the same program on both sides. -/
import Derived.Test.YtealjgfijlencaaDoorImF
namespace Go.Proofs.YtealjgfijlencaaDoor
open Go.RowKit Go.Joins
set_option linter.unusedVariables false
set_option maxRecDepth 100000
theorem Box.four8 {w : World} {g : Nat} {t : TypeId} {y0 y1 y2 y3 : Value} (h : Box w g #[y0, y1, y2, y3] t) : w.cell? ⟨g, 0, none⟩ = some y0 ∧ w.cell? ⟨g, 1, none⟩ = some y1 ∧ w.cell? ⟨g, 2, none⟩ = some y2 ∧ w.cell? ⟨g, 3, none⟩ = some y3 :=
  ⟨h.cell 0, h.cell 1, h.cell 2, h.cell 3⟩
set_option maxHeartbeats 8000000 in
theorem risim_any {w : World} {va vb : Value} {L : List Sg} (ha : Sgs RSp w va L) (hb : Sgs RSd w vb L) (hL : L.length ≤ 10000) (e : Int) : Calls Tryd.prog 13 #[.agg #[.int .u32 e, va], .agg #[.int .u32 e, vb]] w fun en w' => en = .returned (.bool true) ∧ New w w' := by
  obtain ⟨p, cap, rfl, -, -⟩ := ha.shape
  obtain ⟨q, cbp, rfl, -, -⟩ := hb.shape
  obtain ⟨D, hD⟩ : ∃ D, D = (w.alloc (.cells #[.int .u32 e, .slice p L.length cap] 36)).alloc (.cells #[.int .u32 e, .slice q L.length cbp] 25) := ⟨_, rfl⟩
  have nD : New w D := by rw [hD]; exact ((New.refl w).alloc _ _).alloc _ _
  have bA : Box D w.heap.size #[.int .u32 e, .slice p L.length cap] 36 := by rw [hD]; exact (Box.here w _ _ _ rfl).alloc _
  have bB : Box D (w.heap.size + 1) #[.int .u32 e, .slice q L.length cbp] 25 := by rw [hD]; exact Box.here _ _ _ _ (by rw [World.size_alloc])
  have HA := Lib.hid (ha.new nD)
  have HB := Lib.hid (hb.new nD)
  have ND := Lib.hid nD
  have BA := Lib.hid bA
  have BB := Lib.hid bB
  generalize hln : L.length = ln at *
  have HLN := Lib.hid hln
  obtain ⟨i0, i1⟩ := bA.two
  obtain ⟨j0, j1⟩ := bB.two
  clear ha hb nD bA bB hln
  go_enter Tryd.func13, Tryd.ntmps13
  go_upto_region 1 with fail
  rw [← hD]
  clear hD
  go_wp2_with fail
  go_loopg [5] ln (fun k kv wr => ∃ j : Nat, j + k = ln ∧ kv = .int .i64 (j : Int) ∧ New D wr)
  case atStart => exact ⟨0, by omega, rfl, New.refl _⟩
  case round =>
    obtain ⟨j, hj, rfl, hn⟩ := hrel
    have HN := Lib.hid hn
    have i0 := hn.keeps i0
    have i1 := hn.keeps i1
    have j0 := hn.keeps j0
    have j1 := hn.keeps j1
    by_cases c : j < ln
    · have hjL : j < L.length := by rw [HLN.out]; exact c
      obtain ⟨a, dp, dc, rfl, d0, d1, d2, d3, db⟩ := (HA.out.new hn).cells rfl j hjL
      obtain ⟨a2, dp2, dc2, rfl, f0, f1, f2, f3, db2⟩ := (HB.out.new hn).cells rfl j hjL
      rw [fad a (j * 4) 1 (by omega)] at d1
      rw [fad a (j * 4) 2 (by omega)] at d2
      rw [fad a (j * 4) 3 (by omega)] at d3
      rw [fad a2 (j * 4) 1 (by omega)] at f1
      rw [fad a2 (j * 4) 2 (by omega)] at f2
      rw [fad a2 (j * 4) 3 (by omega)] at f3
      obtain ⟨sg, hsg⟩ : ∃ sg, sg = L[j] := ⟨_, rfl⟩
      rw [← hsg] at d0 d1 d2 d3 f0 f1 f2 f3 db db2
      obtain ⟨F0, T0, P0, dd⟩ := sg
      dsimp only at d0 d1 d2 d3 f0 f1 f2 f3 db db2
      obtain ⟨dn, hdn⟩ : ∃ dn, dn = dd.length := ⟨_, rfl⟩
      rw [← hdn] at d3 db f3 db2
      have DB := Lib.hid db
      have DB2 := Lib.hid db2
      have J := Lib.hid (show j + gk = ln ∧ j < ln ∧ ln ≤ 10000 from ⟨hj, c, hL⟩)
      clear hj hn hsg hdn hjL db db2
      have la : (a.add (j * 4)).block < wr.heap.size := cell_lt d0
      have lb : (a2.add (j * 4)).block < wr.heap.size := cell_lt f0
      have l0 : w.heap.size < wr.heap.size := cell_lt i1
      have l1 : w.heap.size + 1 < wr.heap.size := cell_lt j1
      have la' : (a.add (j * 4)).block < wr.heap.size + 1 := by omega
      have lb' : (a2.add (j * 4)).block < wr.heap.size + 1 := by omega
      have l0' : w.heap.size < wr.heap.size + 1 := by omega
      go_upto_region 6 with fail
      go_cut [6, 7] from 29 to 66 (fun xv yv wc => ∃ bx by_ : Nat, xv = .pointer (some ⟨bx, 0, none⟩) ∧ yv = .pointer (some ⟨by_, 0, none⟩) ∧ Box wc bx #[.int .i64 F0, .int .i64 T0, .int .u8 P0, .slice dp dn dc] 50 ∧ Box wc by_ #[.int .i64 F0, .int .i64 T0, .int .u8 P0, .slice dp2 dn dc2] 29 ∧ New wr wc)
      case first =>
        go_region
        · go_wp2_with fail
          go_meet
          case rel => exact ⟨wr.heap.size, wr.heap.size + 1, rfl, rfl, ((Box.here wr _ _ _ rfl).alloc _).new (New.refl _).drew, (Box.here _ _ _ _ (by rw [World.size_alloc])).new (New.refl _).drew, (((New.refl wr).alloc _ _).alloc _ _).drew⟩
        · go_wp2_with fail
          go_meet
          case rel => exact ⟨wr.heap.size + 1, wr.heap.size, rfl, rfl, (Box.here _ _ _ _ (by rw [World.size_alloc])).new (New.refl _).drew, ((Box.here wr _ _ _ rfl).alloc _).new (New.refl _).drew, (((New.refl wr).alloc _ _).alloc _ _).drew⟩
      case rest =>
        obtain ⟨bx, by_, rfl, rfl, hx, hy, nc⟩ := hcut
        obtain ⟨x0, x1, x2, x3⟩ := hx.four8
        obtain ⟨y0, y1, y2, y3⟩ := hy.four8
        have q1 := str_of (DB.out.new nc)
        have q2 := str_of (DB2.out.new nc)
        have NC := Lib.hid (HN.out.trans nc)
        clear la lb l0 l1 la' lb' l0' hx hy nc i0 i1 j0 j1 d0 d1 d2 d3 f0 f1 f2 f3
        generalize strOfNums dd = sd at *
        go_wp2
        go_roundg (ln - (j + 1))
        case measure => have := J.out; omega
        case rel => exact ⟨j + 1, by have := J.out; omega, by go_num, NC.out⟩
    · obtain rfl : j = ln := by omega
      clear hj hn
      go_wp2
      go_ret
      exact ⟨rfl, ND.out.trans HN.out⟩
end Go.Proofs.YtealjgfijlencaaDoor
