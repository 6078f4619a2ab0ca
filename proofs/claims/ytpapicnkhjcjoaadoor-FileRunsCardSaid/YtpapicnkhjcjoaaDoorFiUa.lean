/- The package's table of open files: Unref, in whatever case. -/
import Derived.Test.YtpapicnkhjcjoaaDoorFiU
namespace Go.Proofs.YtpapicnkhjcjoaaDoor
open Go.RowKit
set_option linter.unusedVariables false
set_option maxRecDepth 100000
section
variable {S : Nat → Prop} {w w' : World} {tb rb m : Nat} {most : Int} {L : Ft}
theorem funref_any (h : Ftb S w tb most L) (n : Int) : Calls Tryd.prog 8 #[.pointer (some ⟨tb, 0, none⟩), .int .i64 n] w fun e w' => e = .returned (.tuple #[FlV (frO L n (-1)), .bool (decide (frE L n (-1) = 0 ∧ (frO L n (-1)).rf = 0)), erN (frE L n (-1))]) ∧ FtD S w w' tb most (frL L n (-1)) := by
  obtain ⟨m, rb, h1, h2, h3⟩ := id h
  by_cases hn : lget L n = none
  · have e1 : frE L n (-1) = 9 := by unfold frE; rw [fgE_none hn]; rfl
    have e2 : frL L n (-1) = L := by unfold frL; rw [e1]; rfl
    have e3 : frO L n (-1) = Fl.zero := by unfold frO; rw [e1]; rfl
    rw [e1, e2, e3, decide_eq_false (show ¬ ((9 : Int) = 0 ∧ Fl.zero.rf = 0) from fun c => absurd c.1 (by decide))]
    exact (funref_err _ n 9 w (by decide) fun W k => ffile_no (h2.new k) n hn).mono fun e w' ⟨he, hd⟩ => ⟨he, FtD.new h hd⟩
  · obtain ⟨j, rfl⟩ := h2.pos hn
    have hr : 1 ≤ (fgF L (j : Int)).rf ∧ (fgF L (j : Int)).rf ≤ 1048576 := by
      cases hg : lget L (j : Int) with
      | none => exact absurd hg hn
      | some f => rw [fgF_some hg]; exact h2.ok.rf _ (lget_mem hg)
    have e1 : frE L (j : Int) (-1) = 0 := by
      unfold frE; rw [fgE_some hn, if_neg (by decide), if_neg (by show ¬ (1048576 : Int) < (fgF L (j : Int)).rf + (-1); omega)]
    have e2 : frL L (j : Int) (-1) = lwith L (j : Int) (frB L (j : Int) (-1)) := by unfold frL; rw [e1]; rfl
    have e3 : frO L (j : Int) (-1) = frB L (j : Int) (-1) := by unfold frO; rw [e1]; rfl
    have e4 : (frB L (j : Int) (-1)).rf = (fgF L (j : Int)).rf - 1 := by show (fgF L (j : Int)).rf + (-1) = _; omega
    have eb : frB L (j : Int) (-1) = { fgF L (j : Int) with rf := (fgF L (j : Int)).rf - 1 } := by unfold frB; rw [Int.sub_eq_add_neg]
    rw [e1, e2, e3, fe0]
    have e5 : decide ((0 : Int) = 0 ∧ (frB L (j : Int) (-1)).rf = 0) = decide ((frB L (j : Int) (-1)).rf = 0) := by rw [decide_eq_decide]; exact ⟨fun c => c.2, fun c => ⟨rfl, c⟩⟩
    rw [e5]
    refine (funref_ok h2 j hn (frB L (j : Int) (-1)) eb (by rw [e4]; omega) _ rfl _ rfl).mono ?_
    rintro e w' ⟨he, b1, hR⟩
    refine ⟨he, FtD.same h3 h1 ⟨h2.m1, h2.m32, h2.ne, h2.head.but b1 h2.ne, hR _ fun i => ?_, h2.ok.put _ (by rw [e4]; omega) (h2.ok.name _)⟩ b1⟩
    by_cases c : (frB L (j : Int) (-1)).rf = 0
    · rw [if_pos c]; exact fgF_gone (by omega) i
    · rw [if_neg c]; exact fgF_with (by rw [e4] at c ⊢; omega) hn i
end
end Go.Proofs.YtpapicnkhjcjoaaDoor
