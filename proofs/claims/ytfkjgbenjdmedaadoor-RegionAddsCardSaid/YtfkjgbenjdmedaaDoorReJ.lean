/- What the statements on regions do whatever the input is: it comes out right, in any world; behind it there are only new blocks. -/
import Derived.Test.YtfkjgbenjdmedaaDoorReI
namespace Go.Proofs.YtfkjgbenjdmedaaDoor
open Go.RowKit
set_option linter.unusedVariables false
set_option maxRecDepth 100000
theorem rok_of (l : List Rg) (h : ∀ i (hi : i < l.length), okR l[i] = true ∧ ∀ j, j + 1 = i → ∀ (hj : j < l.length), folR l[j] l[i] = true) : ROk l := (rch_iff l).2 h
theorem ok1 : ROk [(⟨2, 6, 3⟩ : Rg)] := ⟨rfl, fun s hs => by simp at hs, trivial⟩
theorem ok2 : ROk [(⟨2, 3, 3⟩ : Rg), ⟨4, 6, 3⟩] := ⟨rfl, fun s hs => by simp at hs; subst hs; exact folR_iff.2 (by simp), rfl, fun s hs => by simp at hs, trivial⟩
theorem sad_E : adE [] ⟨2, 6, 3⟩ = 0 := by
  unfold adE; rw [rokb_iff.2 (show ROk [] from trivial), if_pos ⟨rfl, rfl⟩]; rfl
theorem sad_L : adL [] ⟨2, 6, 3⟩ = [⟨2, 6, 3⟩] := by unfold adL; rw [sad_E, if_pos rfl]; rfl
theorem sct_E : ctE [⟨2, 6, 3⟩] 3 4 = 0 := by unfold ctE; rw [rokb_iff.2 ok1, if_pos ⟨rfl, rfl⟩]
theorem sct_L : ctL [⟨2, 6, 3⟩] 3 4 = [⟨2, 3, 3⟩, ⟨4, 6, 3⟩] := by unfold ctL; rw [sct_E, if_pos rfl]; rfl
theorem spr_Z : szv (rpart [⟨2, 6, 3⟩] 2 3) = 1 := by
  rw [szv_ok (ROk.part ok1 2 3)]; rfl
theorem spr_E : prE [⟨2, 6, 3⟩] ⟨2, 3, 1⟩ = 0 := by
  unfold prE; rw [rokb_iff.2 ok1, if_pos ⟨rfl, rfl⟩, spr_Z, if_neg (by simp)]
theorem spr_L : prL [⟨2, 6, 3⟩] ⟨2, 3, 1⟩ = [⟨2, 3, 1⟩, ⟨3, 6, 3⟩] := by unfold prL; rw [spr_E, if_pos rfl]; rfl
theorem sho : HoleR [⟨2, 3, 3⟩, ⟨4, 6, 3⟩] 1 2 9 3 0 := by
  refine .inl ⟨⟨ok2, rfl, by omega, by omega⟩, .inl ⟨rfl, ⟨by omega, by omega, fun q h1 h2 => ?_⟩, fun p hp hh => ?_⟩⟩
  · obtain rfl : q = 3 := by omega
    rfl
  · have h0 := hh.1
    obtain rfl : p = 2 := by omega
    have := hh.2.2 2 (by omega) (by omega)
    cases this
theorem ssz : szv [⟨2, 3, 3⟩, ⟨4, 6, 3⟩] = 3 := by rw [szv_ok ok2]; rfl
set_option maxHeartbeats 2000000 in
theorem rsure_any (w : World) : Calls Tryd.prog 6 #[] w (BoolN true w) := by
  have q1 := fun W => radd_any W _ [] ⟨2, 6, 3⟩ Rgs.nil
  rw [sad_E, sad_L] at q1
  have q2 := fun W v (k : Rgs W v [⟨2, 6, 3⟩]) => rcut_any W v [⟨2, 6, 3⟩] 3 4 k
  rw [sct_E, sct_L] at q2
  have q3 := fun W v (k : Rgs W v [⟨2, 6, 3⟩]) => rprot_any W v [⟨2, 6, 3⟩] ⟨2, 3, 1⟩ k
  rw [spr_E, spr_L] at q3
  have q4 := fun W v (k : Rgs W v [⟨2, 3, 3⟩, ⟨4, 6, 3⟩]) => rhole_any W v [⟨2, 3, 3⟩, ⟨4, 6, 3⟩] 1 2 9 k
  have q5 := fun W v (k : Rgs W v [⟨2, 3, 3⟩, ⟨4, 6, 3⟩]) => size_any W v [⟨2, 3, 3⟩, ⟨4, 6, 3⟩] k
  rw [ssz] at q5
  go_enter Tryd.func6, Tryd.ntmps6
  go_wp2_with fail
  refine (q1 _).mono ?_
  rintro e w1 ⟨_, rfl, o1, n1⟩
  have r1 := o1.rgs
  obtain ⟨p1, c1, rfl⟩ := o1.shape
  go_wp2_with fail
  refine (q2 _ _ r1).mono ?_
  rintro e w2 ⟨_, rfl, o2, n2⟩
  obtain ⟨p2, c2, rfl⟩ := o2.shape
  have N2 := n1.trans n2
  go_wp2_with fail
  refine (q3 _ _ (r1.new n2)).mono ?_
  rintro e w3 ⟨_, rfl, o3, n3⟩
  obtain ⟨p3, c3, rfl⟩ := o3.shape
  have N3 := N2.trans n3
  go_wp2_with fail
  refine (q4 _ _ (o2.rgs.new n3)).mono ?_
  rintro e w4 ⟨u, c, rfl, hh, n4⟩
  obtain ⟨rfl, rfl⟩ := hh.uniq sho
  have N4 := N3.trans n4
  obtain ⟨_, x2, rfl, a0, a1, a2⟩ := (o2.rgs.new (n3.trans n4)).at_ 0 (by simp)
  obtain ⟨_, x3, rfl, b0, b1, b2⟩ := (o3.rgs.new n4).at_ 1 (by simp)
  have r2 := o2.rgs.new (n3.trans n4)
  have a1' : w4.cell? ⟨x2.block, x2.off + 1, none⟩ = some (.int .i64 3) := a1
  have b0' : w4.cell? ⟨x3.block, x3.off + 3, none⟩ = some (.int .i64 3) := b0
  have b0'' : w4.cell? (x3.add 3) = some (.int .i64 3) := b0
  clear a0 a1 a2 b0 b1 b2
  have q6 := q5 _ _ r2
  rw [erN_zero]
  go_wp2_with fail
  refine q6.mono ?_
  rintro e w5 ⟨rfl, n5⟩
  go_wp2
  go_ret
  exact ⟨rfl, N4.trans n5⟩
end Go.Proofs.YtfkjgbenjdmedaaDoor
