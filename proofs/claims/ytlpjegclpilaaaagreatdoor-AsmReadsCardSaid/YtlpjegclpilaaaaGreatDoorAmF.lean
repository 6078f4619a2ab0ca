/- What the statements on instructions as texts ask at their ends: sure. -/
import Derived.Test.YtlpjegclpilaaaaGreatDoorAmE
namespace Go.Proofs.YtlpjegclpilaaaaGreatDoor
open Go.RowKit
set_option linter.unusedVariables false
def liT : List UInt8 := [108, 105, 32, 114, 49, 32, 45, 53]
theorem itoa_1 : Lib.itoa 1 = [49] := by
  have := Lib.itoa_nonneg 1
  rw [show ((1 : Nat) : Int) = 1 from rfl, Lib.decDigits_one (by decide)] at this
  exact this
theorem itoa_m5 : Lib.itoa (-5) = [45, 53] := by
  have := Lib.itoa_neg 5 (by decide)
  rw [show (-((5 : Nat) : Int)) = -5 from rfl, Lib.decDigits_one (by decide)] at this
  exact this
theorem li_txt : txt 1 1 0 (-5) = liT := by
  have e1 : nm 1 = [108, 105] := by decide
  have e2 : nd 1 = [97, 105] := by decide
  unfold txt wds
  rw [e1, e2]
  show ([32] : List UInt8).intercalate [[108, 105], 114 :: Lib.itoa 1, Lib.itoa (-5)] = _
  rw [itoa_1, itoa_m5]; rfl
theorem li_tx : Tx 1 1 0 (-5) := ⟨by unfold InOk; omega, fun h => absurd (by decide) h, fun _ => rfl, fun h => absurd (by decide) h⟩
theorem li_prs : prs liT = some (1, 1, 0, -5) := by
  rw [← li_txt]
  exact (prs_txt 1 1 0 (-5) (by omega) (by omega) (by omega)).2 li_tx
theorem nop_prs : prs [110, 111, 112] = some (0, 0, 0, 0) := by
  have h : txt 0 0 0 0 = [110, 111, 112] := by
    have e1 : nm 0 = [110, 111, 112] := by decide
    have e2 : nd 0 = [] := by decide
    unfold txt wds
    rw [e1, e2]; rfl
  rw [← h]
  exact (prs_txt 0 0 0 0 (by omega) (by omega) (by omega)).2 ⟨by unfold InOk; omega, fun _ => rfl, fun _ => rfl, fun _ => rfl⟩
def noteT : List UInt8 := [37, 32, 97, 32, 110, 111, 116, 101, 10, 110, 111, 112, 10, 108, 105, 32, 114, 49, 32, 45, 53, 10]
theorem note_prg : prg 1 (lns noteT) [] = ([0, 17891323], 0, 0) := by
  have e : lns noteT = [[37, 32, 97, 32, 110, 111, 116, 101], [110, 111, 112], liT, []] := by decide
  rw [e, prg_skip (by decide), prg_some (x := (0, 0, 0, 0)) (by rw [show ctl [110, 111, 112] = [110, 111, 112] by decide]; exact nop_prs),
    prg_some (x := (1, 1, 0, -5)) (by rw [show ctl liT = liT by decide]; exact li_prs), prg_skip (by decide), prg]
  simp [innum]
set_option maxHeartbeats 4000000 in
set_option maxRecDepth 100000 in
theorem asure_any (w : World) (h : Env w) : Calls Tryz.prog 12 #[] w fun e w' => e = .returned (.bool true) ∧ New w w' := by
  have c1 := parse_any liT w (by decide) h
  rw [li_prs] at c1
  dsimp only [pv] at c1
  have c2 := fun W (k : Env W) => text_any 1 1 0 (-5) W k (by omega) (by omega) (by omega)
  have eT : tv 1 1 0 (-5) = okv 1 1 0 (-5) := by unfold tv; exact if_pos ⟨1, rfl, by rw [show (1 : Int) = ((1 : Nat) : Int) from rfl, txtI_nat]; show prs (txt 1 1 0 (-5)) = _; rw [li_txt]; exact li_prs⟩
  have eX : txtI 1 1 0 (-5) = liT := by rw [show txtI 1 1 0 (-5) = txt 1 1 0 (-5) from txtI_nat 1 1 0 (-5), li_txt]
  rw [eT] at c2
  unfold okv at c2
  rw [eX] at c2
  have c3 := fun W (k : Env W) => program_any noteT W (by decide) k
  rw [note_prg] at c3
  have c4 := fun W (k : Env W) => name_any 16 W k
  have c5 := fun W (k : Env W) => needs_any 18 W k
  rw [show nmI 16 = [99, 109, 112] by decide] at c4
  rw [show ndI 18 = [97, 98, 105] by decide] at c5
  clear eT eX
  go_enter Tryz.func12, Tryz.ntmps12
  go_wp2_with fail
  refine c1.mono ?_
  rintro e w1 ⟨rfl, n1⟩
  go_wp2_with fail
  have n1' := n1.alloc #[.int .i64 1, .int .i64 1, .int .i64 0, .int .i64 (-5)] 28
  have b1 := Box.here w1 _ #[.int .i64 1, .int .i64 1, .int .i64 0, .int .i64 (-5)] 28 rfl
  refine (c2 _ (h.new n1')).mono ?_
  rintro e w2 ⟨rfl, n2⟩
  have b2 := b1.new n2
  have N2 := n1'.trans n2
  clear b1 n1 n1' n2 c1 c2
  go_wp2_with fail
  refine (c3 _ (h.new N2)).mono ?_
  rintro e w3 ⟨v, rfl, hv, n3⟩
  simp only [erN_zero]
  have b3 := b2.new n3
  have N3 := N2.trans n3
  clear b2 N2 n3 c3
  obtain ⟨g, cap, rfl, hcap, hg, hc⟩ : ∃ g cap, v = .slice (some ⟨g, 0, none⟩) 2 cap ∧ 2 ≤ cap ∧ g < w3.heap.size ∧ w3.cell? ⟨g, 1, none⟩ = some (.int .u32 17891323) := by
    rcases hv.2 with ⟨-, hn⟩ | ⟨g, cap, cur, rfl, hb, hg, h1, h2, h3, h4⟩
    · simp at hn
    · exact ⟨g, cap, rfl, h1, (Array.getElem?_eq_some_iff.1 hg).1, (World.ownsRow.cellAt hv 1 (by decide)).trans rfl⟩
  clear hv
  obtain ⟨x0, x1, x2, x3⟩ := b3.four
  have hz := b3.lt
  have hE := h.new N3
  have c4 := c4 w3 hE
  have c5 := c5 w3 hE
  clear hE h b3
  have e4 : ((ba [99, 109, 112]).toList == [99, 109, 112]) = true := by rw [ba_list]; rfl
  have e5 : ((ba [97, 98, 105]).toList == [97, 98, 105]) = true := by rw [ba_list]; rfl
  have e6 : ((ba liT).toList == [108, 105, 32, 114, 49, 32, 45, 53]) = true := by rw [ba_list]; rfl
  go_wp2_with fail
  refine c4.mono ?_
  rintro e w4 ⟨rfl, hw4⟩
  rw [← hw4] at c5 N3
  clear hw4 c4
  go_wp2_with fail
  refine c5.mono ?_
  rintro e w5 ⟨rfl, hw5⟩
  rw [← hw5] at N3
  clear hw5 c5
  go_wp2
  go_ret
  exact ⟨by first | rfl | (simp [ba_list]; done), N3⟩
end Go.Proofs.YtlpjegclpilaaaaGreatDoor
