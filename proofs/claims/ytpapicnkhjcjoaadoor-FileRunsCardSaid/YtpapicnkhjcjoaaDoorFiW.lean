/- The package's table of open files: Open. -/
import Derived.Test.YtpapicnkhjcjoaaDoorFiV
import Derived.RegionTactic
import Derived.Deep.LoopGhost
namespace Go.Proofs.YtpapicnkhjcjoaaDoor
open Go.RowKit
set_option linter.unusedVariables false
set_option maxRecDepth 100000
section
variable {S : Nat → Prop} {w w' : World} {tb rb m : Nat} {most : Int} {L : Ft}
/-- the first free place -/
def fixN (m : Nat) (L : Ft) : Int := if (m : Int) ≤ (L.length : Int) then -1 else frZ L
set_option maxHeartbeats 2000000 in
theorem fidx_any (h : Ftq w tb rb m L) : Calls Tryd.prog 23 #[.slice (some ⟨rb, 0, none⟩) m m, .func (.func 24) #[] #[]] w fun e w' => e = .returned (.int .i64 (fixN m L)) ∧ New w w' := by
  have H := Lib.hid h
  have b1 := h.m32
  clear h
  go_enter Tryd.func23, Tryd.ntmps23
  go_wp2
  go_loopg [8] m (fun k i wr => ∃ j : Nat, j + k = m ∧ i = .int .i64 (j : Int) ∧ New w wr ∧ ∀ i : Nat, i < j → lget L (i : Int) ≠ none)
  case atStart => exact ⟨0, by omega, rfl, New.refl _, fun i h => absurd h (Nat.not_lt_zero _)⟩
  case round =>
    obtain ⟨j, hj, rfl, hn, hok⟩ := hrel
    have HO := Lib.hid hok
    have HN := Lib.hid hn
    have J := Lib.hid hj
    by_cases c : j < m
    · obtain ⟨f, hf⟩ : ∃ f, f = fgF L (j : Int) := ⟨_, rfl⟩
      obtain ⟨lr, ⟨c0, c1, c2, c3, c4, c5, c6⟩, -⟩ := (H.out.new hn).row.seven j c f hf
      have q := fun W => fnone_any f W
      by_cases hg : lget L (j : Int) = none
      · rw [decide_eq_true (show f.rf = 0 by rw [hf]; exact (H.out.ok.rf_zero _).2 hg)] at q
        have HG := Lib.hid hg
        unfold FlV at q
        obtain ⟨k, id, off, rd, wt, nm, rf⟩ := f
        dsimp only at *
        clear hok hn hj hf hg
        go_wp2_with fail
        refine (q _).mono ?_
        rintro e w1 ⟨rfl, n1⟩
        have e0 : fixN m L = (j : Int) := by unfold fixN; rw [if_neg (H.out.ok.room j c HG.out), frZ_eq L j HO.out HG.out]
        have E0 := Lib.hid e0
        clear e0
        go_wp2
        go_ret
        exact ⟨Eq.trans rfl (congrArg (fun z => Ending.returned (.int .i64 z)) E0.out.symm), HN.out.trans n1⟩
      · rw [decide_eq_false (show ¬ f.rf = 0 by rw [hf]; exact fun c => hg ((H.out.ok.rf_zero _).1 c))] at q
        have HG := Lib.hid hg
        unfold FlV at q
        obtain ⟨k, id, off, rd, wt, nm, rf⟩ := f
        dsimp only at *
        clear hok hn hj hf hg
        go_wp2_with fail
        refine (q _).mono ?_
        rintro e w1 ⟨rfl, n1⟩
        clear q c0 c1 c2 c3 c4 c5 c6
        go_wp2
        go_roundg (m - (j + 1))
        case measure => have := J.out; omega
        case rel =>
          refine ⟨j + 1, by have := J.out; omega, by go_num, HN.out.trans n1, fun i hi => ?_⟩
          by_cases e : i < j
          · exact HO.out i e
          · obtain rfl : i = j := by omega
            exact HG.out
    · obtain rfl : j = m := by omega
      have e0 : fixN j L = -1 := by unfold fixN; rw [if_pos (H.out.ok.full HO.out)]
      have E0 := Lib.hid e0
      clear hok hn hj e0
      go_wp2
      go_ret
      exact ⟨Eq.trans rfl (congrArg (fun z => Ending.returned (.int .i64 z)) E0.out.symm), HN.out⟩
theorem fopen_nil (f : Fl) (w : World) : Calls Tryd.prog 6 #[.pointer none, FlV f] w fun e w' => e = .returned (.tuple #[.int .i64 0, erN 22]) ∧ New w w' := by
  have nn : New w (w.alloc (.cells #[.int .i64 f.k, .int .i64 f.id, .int .i64 f.off, .bool f.rd, .bool f.wt, .string (ba f.nm), .int .i64 f.rf] 29)) := (New.refl w).alloc _ _
  have e3 : erN 22 = .iface 66 (.int .i64 22) := rfl
  rw [e3]
  unfold FlV
  go_enter Tryd.func6, Tryd.ntmps6
  go_wp2
  go_ret2
  exact ⟨rfl, nn⟩
set_option maxHeartbeats 2000000 in
theorem fopen_bad (h : Ftq w tb rb m L) (f : Fl) (hm : ¬ flOk f) : Calls Tryd.prog 6 #[.pointer (some ⟨tb, 0, none⟩), FlV f] w fun e w' => e = .returned (.tuple #[.int .i64 0, erN 22]) ∧ New w w' := by
  have nn : New w (w.alloc (.cells #[.int .i64 f.k, .int .i64 f.id, .int .i64 f.off, .bool f.rd, .bool f.wt, .string (ba f.nm), .int .i64 f.rf] 29)) := (New.refl w).alloc _ _
  have e3 : erN 22 = .iface 66 (.int .i64 22) := rfl
  have q := fun W => fvalid_any f W
  rw [decide_eq_false hm] at q
  rw [e3]
  unfold FlV at *
  obtain ⟨k, id, off, rd, wt, nm, rf⟩ := f
  dsimp only at *
  clear h hm
  go_enter Tryd.func6, Tryd.ntmps6
  go_wp2_with fail
  refine (q _).mono ?_
  rintro e w1 ⟨rfl, n1⟩
  go_wp2
  go_ret2
  exact ⟨rfl, nn.trans n1⟩
set_option maxHeartbeats 2000000 in
theorem fopen_full (h : Ftq w tb rb m L) (f : Fl) (hm : flOk f) (hf : (m : Int) ≤ (L.length : Int)) : Calls Tryd.prog 6 #[.pointer (some ⟨tb, 0, none⟩), FlV f] w fun e w' => e = .returned (.tuple #[.int .i64 0, erN 23]) ∧ New w w' := by
  have nn : New w (w.alloc (.cells #[.int .i64 f.k, .int .i64 f.id, .int .i64 f.off, .bool f.rd, .bool f.wt, .string (ba f.nm), .int .i64 f.rf] 29)) := (New.refl w).alloc _ _
  have e3 : erN 23 = .iface 66 (.int .i64 23) := rfl
  have q := fun W => fvalid_any f W
  have X := fun W (k : New w W) => fidx_any (h.new k)
  rw [show fixN m L = -1 from if_pos hf] at X
  have HS := Lib.hid h
  rw [decide_eq_true hm] at q
  rw [e3]
  unfold FlV at *
  obtain ⟨k, id, off, rd, wt, nm, rf⟩ := f
  dsimp only at *
  clear h hm hf
  go_enter Tryd.func6, Tryd.ntmps6
  go_wp2_with fail
  refine (q _).mono ?_
  rintro e w1 ⟨rfl, n1⟩
  have n2 := nn.trans n1
  have hc := (HS.out.new n2).head.one
  clear nn n1
  go_wp2_with fail
  refine (X _ n2).mono ?_
  rintro e w2 ⟨rfl, n3⟩
  go_wp2
  go_ret2
  exact ⟨rfl, n2.trans n3⟩
end
end Go.Proofs.YtpapicnkhjcjoaaDoor
