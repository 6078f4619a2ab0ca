/- What the statements on paths ask at their ends: sure; what they ask of the world. -/
import Derived.Test.YtmaocaddoohfmaaDoorPaH
import Derived.Test.YtmaocaddoohfmaaDoorNum
namespace Go.Proofs.YtmaocaddoohfmaaDoor
open Go.RowKit
set_option linter.unusedVariables false
set_option maxRecDepth 100000
theorem TxR.lit2 (w : World) (x y : List UInt8) : TxR (w.alloc (.cells #[.string (ba x), .string (ba y)] 9)) (.slice (some ⟨w.heap.size, 0, none⟩) 2 2) [x, y] := by
  have b := Box.here w w.heap.size #[.string (ba x), .string (ba y)] 9 rfl
  refine ⟨_, 2, rfl, Nat.le_refl _, by unfold maxLen; omega, fun j z hz => ⟨_, rfl, ?_⟩⟩
  have e : (⟨w.heap.size, 0, none⟩ : Addr).add j = ⟨w.heap.size, j, none⟩ := by unfold Addr.add; split <;> simp_all
  rw [e, b.cell j]
  match j, hz with
  | 0, hz => simp at hz; subst hz; rfl
  | 1, hz => simp at hz; subst hz; rfl
  | j + 2, hz => simp at hz
def suT : List UInt8 := [47, 97, 47, 47, 98, 47]
theorem su_seg : segs suT = [[97], [98]] := by decide
theorem su_spE : spE suT = 0 := by decide
theorem su_la : laN suT = ([98], [47, 97, 47, 47], 0) := by decide
set_option maxHeartbeats 4000000 in
theorem psure_any (w : World) (hl : Laid w) (hm : Mx w) : Calls Tryd.prog 6 #[] w fun e w' => e = .returned (.bool true) ∧ New w w' := by
  have c1 := psplit_any suT w (by decide) hm
  unfold SpA at c1
  have e1 : spB suT = true := by decide
  have e2 : spL suT = [[97], [98]] := by decide
  rw [e1, e2, su_spE] at c1
  have c2 := fun W (k : Mx W) => plast_any suT W (by decide) k
  unfold LaA at c2
  rw [su_la] at c2
  have c3 := fun v W (k : TxR W v [[97], [98]]) => pjoin_any [[97], [98]] v W k (by intro x hx; simp at hx; unfold maxLen; rcases hx with rfl | rfl <;> simp)
  have e3 : jnV [[97], [98]] = [47, 97, 47, 98] := by decide
  have e4 : ckA [[97], [98]] = 0 := by decide
  rw [e3, e4] at c3
  have c4 := fun va vb W (ka : TxR W va [[97], [98]]) (kb : TxR W vb [[97], [98]]) => texts_any [[97], [98]] [[97], [98]] va vb W ka kb
  have c5 := fun W => pcheck_any [65] W (by unfold maxLen; simp)
  have e5 : ckN [65] = 22 := by decide
  rw [e5] at c5
  have c6 := fun W (k : Laid W) => num_er 22 W k
  have q1 : ((ba [98]).toList == [98]) = true := by rw [ba_list]; rfl
  have q2 : ((ba [47, 97, 47, 47]).toList == [47, 97, 47, 47]) = true := by rw [ba_list]; rfl
  have q3 : ((ba [47, 97, 47, 98]).toList == [47, 97, 47, 98]) = true := by rw [ba_list]; rfl
  simp only [erV_int, er0, decide_true] at c1 c2 c3 c4 c5 c6
  clear e1 e2 e3 e4 e5
  go_enter Tryd.func6, Tryd.ntmps6
  go_wp2_with fail
  refine c1.mono ?_
  rintro e w1 ⟨v, rfl, o1, n1⟩
  have t1 := o1.txr
  obtain ⟨p, cap, rfl, -⟩ := o1.txr
  clear c1 o1
  go_wp2_with fail
  refine (c2 _ (hm.new n1)).mono ?_
  rintro e w2 ⟨rfl, n2⟩
  have n3 := n1.trans n2
  have t2 := t1.new n2
  clear c2 t1 n1 n2
  go_wp2_with fail
  refine (c3 _ _ t2).mono ?_
  rintro e w3 ⟨rfl, n4⟩
  have n5 := n3.trans n4
  have t3 := t2.new n4
  clear c3 t2 n3 n4
  go_wp2_with fail
  have na := (New.refl w3).alloc #[.string (ba [97]), .string (ba [98])] 9
  refine (c4 _ _ _ (t3.new na) (TxR.lit2 w3 [97] [98])).mono ?_
  rintro e w4 ⟨rfl, n6⟩
  have n7 := (n5.trans na).trans n6
  clear c4 n5 na n6 t3
  go_wp2_with fail
  refine (c5 _).mono ?_
  rintro e w5 ⟨rfl, n8⟩
  have n9 := n7.trans n8
  clear c5 n7 n8
  go_wp2_with fail
  refine (c6 _ (hl.new n9)).mono ?_
  rintro e w6 ⟨rfl, n10⟩
  have n11 := n9.trans n10
  clear c6 n9 n10
  go_wp2
  go_ret
  exact ⟨by first | rfl | (simp [ba_list]; done), n11⟩
end Go.Proofs.YtmaocaddoohfmaaDoor
