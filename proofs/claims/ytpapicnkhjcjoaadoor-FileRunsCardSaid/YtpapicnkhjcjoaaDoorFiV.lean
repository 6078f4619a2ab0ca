/- The package's table of open files: Get, Ref, Move. -/
import Derived.Test.YtpapicnkhjcjoaaDoorFiT
namespace Go.Proofs.YtpapicnkhjcjoaaDoor
open Go.RowKit
set_option linter.unusedVariables false
set_option maxRecDepth 100000
theorem fe0 : erN 0 = .nilIface := rfl
section
variable {S : Nat → Prop} {w w' : World} {tb rb m : Nat} {most : Int} {L : Ft}
theorem Ftq.in_ (h : Ftq w tb rb m L) {j : Nat} (hn : lget L (j : Int) ≠ none) : j < m := by
  rcases Nat.lt_or_ge j m with c | c
  · exact c
  · exact absurd (h.ok.range (j : Int) (.inr (by omega))) hn
theorem Ftq.pos (h : Ftq w tb rb m L) {n : Int} (hn : lget L n ≠ none) : ∃ j : Nat, n = (j : Int) := by
  cases hg : lget L n with
  | none => exact absurd hg hn
  | some f =>
    have := (h.ok.key _ (lget_mem hg)).1
    dsimp only at this
    exact ⟨n.toNat, by omega⟩
theorem fgE_some {n : Int} (hn : lget L n ≠ none) : fgE L n = 0 := by
  unfold fgE
  cases hg : lget L n with
  | none => exact absurd hg hn
  | some f => rfl
theorem fgE_none {n : Int} (hn : lget L n = none) : fgE L n = 9 := by unfold fgE; rw [hn]
/-! ### Get -/
set_option maxHeartbeats 4000000 in
theorem fget_err (p : Option Addr) (n k : Int) (w : World) (hk : k ≠ 0) (X : ∀ W, New w W → Calls Tryd.prog 26 #[.pointer p, .int .i64 n] W fun e w' => e = .returned (.tuple #[.pointer none, erN k]) ∧ New W w') :
    Calls Tryd.prog 7 #[.pointer p, .int .i64 n] w fun e w' => e = .returned (.tuple #[FlV Fl.zero, erN k]) ∧ New w w' := by
  obtain ⟨E, hE⟩ : ∃ E, E = w.alloc (.cells #[.int .i64 0, .int .i64 0, .int .i64 0, .bool false, .bool false, .string ⟨#[]⟩, .int .i64 0] 29) := ⟨_, rfl⟩
  have n0 : New w E := by rw [hE]; exact (New.refl w).alloc _ _
  have bZ : Box E w.heap.size #[.int .i64 0, .int .i64 0, .int .i64 0, .bool false, .bool false, .string ⟨#[]⟩, .int .i64 0] 29 := by rw [hE]; exact Box.here _ _ _ _ rfl
  have X := X E n0
  have e1 : FlV Fl.zero = .agg #[.int .i64 0, .int .i64 0, .int .i64 0, .bool false, .bool false, .string ⟨#[]⟩, .int .i64 0] := rfl
  rw [erN_pos hk] at X ⊢
  rw [e1]
  clear e1
  go_enter Tryd.func7, Tryd.ntmps7
  go_wp2_with fail
  rw [← hE]
  refine X.mono ?_
  rintro e w1 ⟨rfl, n1⟩
  have n2 := n0.trans n1
  have BZ := Lib.hid (bZ.new n1)
  obtain ⟨lz, ⟨z0, z1, z2, z3, z4, z5, z6⟩, g0, g1, g2, g3, g4, g5, g6⟩ := (bZ.new n1).seven
  clear X hE bZ n1 n0
  go_wp2
  have HR := (BZ.out.set7 (.int .i64 0) (.int .i64 0) (.int .i64 0) (.bool false) (.bool false) (.string ⟨#[]⟩) (.int .i64 0)).pfi
  have HN := n2.set7 (g := w.heap.size) (Nat.le_refl _) (.int .i64 0) (.int .i64 0) (.int .i64 0) (.bool false) (.bool false) (.string ⟨#[]⟩) (.int .i64 0)
  exact bodyPost_ret (v := .tuple #[.agg #[.int .i64 0, .int .i64 0, .int .i64 0, .bool false, .bool false, .string ⟨#[]⟩, .int .i64 0], .iface 66 (.int .i64 k)]) (by simp [results, Tryd.results7, asAddr, HR]) rfl ⟨rfl, HN⟩
theorem fget_nil (n : Int) (w : World) : Calls Tryd.prog 7 #[.pointer none, .int .i64 n] w fun e w' => e = .returned (.tuple #[FlV Fl.zero, erN 22]) ∧ New w w' :=
  fget_err none n 22 w (by decide) fun W _ => ffile_nil n W
set_option maxHeartbeats 4000000 in
theorem fget_ok (h : Ftq w tb rb m L) (j : Nat) (hn : lget L (j : Int) ≠ none) : Calls Tryd.prog 7 #[.pointer (some ⟨tb, 0, none⟩), .int .i64 (j : Int)] w fun e w' => e = .returned (.tuple #[FlV (fgF L (j : Int)), .nilIface]) ∧ New w w' := by
  obtain ⟨E, hE⟩ : ∃ E, E = w.alloc (.cells #[.int .i64 0, .int .i64 0, .int .i64 0, .bool false, .bool false, .string ⟨#[]⟩, .int .i64 0] 29) := ⟨_, rfl⟩
  have n0 : New w E := by rw [hE]; exact (New.refl w).alloc _ _
  have bZ : Box E w.heap.size #[.int .i64 0, .int .i64 0, .int .i64 0, .bool false, .bool false, .string ⟨#[]⟩, .int .i64 0] 29 := by rw [hE]; exact Box.here _ _ _ _ rfl
  have X := ffile_ok (h.new n0) j hn
  obtain ⟨f, hf⟩ : ∃ f, f = fgF L (j : Int) := ⟨_, rfl⟩
  have HS := Lib.hid (fun W (k : New w W) => (h.new k).row.seven j (h.in_ hn) f hf)
  have Y := fun W => fcopied_any f (by rw [hf]; exact h.ok.name _) W
  rw [← hf]
  unfold FlV at *
  obtain ⟨k, id, off, rd, wt, nm, rf⟩ := f
  dsimp only at *
  clear h hn hf
  go_enter Tryd.func7, Tryd.ntmps7
  go_wp2_with fail
  rw [← hE]
  refine X.mono ?_
  rintro e w1 ⟨rfl, n1⟩
  have n2 := n0.trans n1
  obtain ⟨lr, ⟨c0, c1, c2, c3, c4, c5, c6⟩, -⟩ := HS.out w1 n2
  have BZ := Lib.hid (bZ.new n1)
  clear X hE bZ n1 n0
  go_wp2_with fail
  refine (Y _).mono ?_
  rintro e w3 ⟨rfl, n3⟩
  have n4 := n2.trans n3
  have BZ3 := Lib.hid (BZ.out.new n3)
  obtain ⟨lz, ⟨z0, z1, z2, z3, z4, z5, z6⟩, g0, g1, g2, g3, g4, g5, g6⟩ := BZ3.out.seven
  clear Y c0 c1 c2 c3 c4 c5 c6 n2 n3 BZ
  go_wp2
  have HR := (BZ3.out.set7 (.int .i64 k) (.int .i64 id) (.int .i64 off) (.bool rd) (.bool wt) (.string (ba nm)) (.int .i64 rf)).pfi
  have HN := n4.set7 (g := w.heap.size) (Nat.le_refl _) (.int .i64 k) (.int .i64 id) (.int .i64 off) (.bool rd) (.bool wt) (.string (ba nm)) (.int .i64 rf)
  exact bodyPost_ret (v := .tuple #[.agg #[.int .i64 k, .int .i64 id, .int .i64 off, .bool rd, .bool wt, .string (ba nm), .int .i64 rf], .nilIface]) (by simp [results, Tryd.results7, asAddr, HR]) rfl ⟨rfl, HN⟩
theorem fget_any (h : Ftb S w tb most L) (n : Int) : Calls Tryd.prog 7 #[.pointer (some ⟨tb, 0, none⟩), .int .i64 n] w fun e w' => e = .returned (.tuple #[FlV (fgF L n), erN (fgE L n)]) ∧ FtD S w w' tb most L := by
  obtain ⟨m, rb, h1, h2, h3⟩ := id h
  by_cases hn : lget L n = none
  · rw [fgF_zero hn, fgE_none hn]
    exact (fget_err _ n 9 w (by decide) fun W k => ffile_no (h2.new k) n hn).mono fun e w' ⟨he, hd⟩ => ⟨he, FtD.new h hd⟩
  · obtain ⟨j, rfl⟩ := h2.pos hn
    rw [fgE_some hn, fe0]
    exact (fget_ok h2 j hn).mono fun e w' ⟨he, hd⟩ => ⟨he, FtD.new h hd⟩
/-! ### Ref -/
theorem fref_err (p : Option Addr) (n k : Int) (w : World) (hk : k ≠ 0) (X : Calls Tryd.prog 26 #[.pointer p, .int .i64 n] w fun e w' => e = .returned (.tuple #[.pointer none, erN k]) ∧ New w w') :
    Calls Tryd.prog 10 #[.pointer p, .int .i64 n] w fun e w' => e = .returned (erN k) ∧ New w w' := by
  rw [erN_pos hk] at X ⊢
  go_enter Tryd.func10, Tryd.ntmps10
  go_wp2_with fail
  refine X.mono ?_
  rintro e w1 ⟨rfl, n1⟩
  go_wp2
  go_ret
  exact ⟨rfl, n1⟩
theorem fref_nil (n : Int) (w : World) : Calls Tryd.prog 10 #[.pointer none, .int .i64 n] w fun e w' => e = .returned (erN 22) ∧ New w w' :=
  fref_err none n 22 w (by decide) (ffile_nil n w)
theorem flC_rf (f : Fl) (x : Int) : flC { f with rf := x } = (flC f).set 6 (.int .i64 x) := rfl
theorem flC_off (f : Fl) (x : Int) : flC { f with off := x } = (flC f).set 2 (.int .i64 x) := rfl
theorem fref_full (h : Ftq w tb rb m L) (j : Nat) (hn : lget L (j : Int) ≠ none) (hr : (fgF L (j : Int)).rf = 1048576) : Calls Tryd.prog 10 #[.pointer (some ⟨tb, 0, none⟩), .int .i64 (j : Int)] w fun e w' => e = .returned (erN 22) ∧ New w w' := by
  have X := ffile_ok h j hn
  have HS := Lib.hid (fun W (k : New w W) => (h.new k).row.seven j (h.in_ hn) _ rfl)
  have e3 : erN 22 = .iface 66 (.int .i64 22) := rfl
  rw [e3]
  generalize fgF L (j : Int) = f at *
  clear h hn e3
  go_enter Tryd.func10, Tryd.ntmps10
  go_wp2_with fail
  refine X.mono ?_
  rintro e w1 ⟨rfl, n1⟩
  obtain ⟨lr, ⟨-, -, -, -, -, -, c6⟩, -⟩ := HS.out w1 n1
  rw [hr] at c6
  clear X hr
  go_wp2
  go_ret
  exact ⟨rfl, n1⟩
theorem fref_ok (h : Ftq w tb rb m L) (j : Nat) (hn : lget L (j : Int) ≠ none) (hr : (fgF L (j : Int)).rf < 1048576) (h0 : 0 ≤ (fgF L (j : Int)).rf) : Calls Tryd.prog 10 #[.pointer (some ⟨tb, 0, none⟩), .int .i64 (j : Int)] w fun e w' => e = .returned .nilIface ∧ ∃ w1, New w w1 ∧ w' = w1.setCell ⟨rb, j * 7 + 6, none⟩ (.int .i64 ((fgF L (j : Int)).rf + 1)) := by
  have X := ffile_ok h j hn
  have HS := Lib.hid (fun W (k : New w W) => (h.new k).row.seven j (h.in_ hn) _ rfl)
  generalize fgF L (j : Int) = f at *
  clear h hn
  generalize f.rf = rf at *
  have ne : ¬ rf = 1048576 := by omega
  have nb : (rf == (1048576 : Int)) = false := by simpa using ne
  go_enter Tryd.func10, Tryd.ntmps10
  go_wp2_with fail
  refine X.mono ?_
  rintro e w1 ⟨rfl, n1⟩
  obtain ⟨lr, ⟨-, -, -, -, -, -, c6⟩, ⟨-, -, -, -, -, -, g6⟩⟩ := HS.out w1 n1
  clear X
  go_wp2
  go_ret
  exact ⟨rfl, w1, n1, rfl⟩
theorem fref_any (h : Ftb S w tb most L) (n : Int) : Calls Tryd.prog 10 #[.pointer (some ⟨tb, 0, none⟩), .int .i64 n] w fun e w' => e = .returned (erN (frE L n 1)) ∧ FtD S w w' tb most (frL L n 1) := by
  obtain ⟨m, rb, h1, h2, h3⟩ := id h
  by_cases hn : lget L n = none
  · have e1 : frE L n 1 = 9 := by unfold frE; rw [fgE_none hn]; rfl
    have e2 : frL L n 1 = L := by unfold frL; rw [e1]; rfl
    rw [e1, e2]
    exact (fref_err _ n 9 w (by decide) (ffile_no h2 n hn)).mono fun e w' ⟨he, hd⟩ => ⟨he, FtD.new h hd⟩
  · obtain ⟨j, rfl⟩ := h2.pos hn
    have hr : 1 ≤ (fgF L (j : Int)).rf ∧ (fgF L (j : Int)).rf ≤ 1048576 := by
      cases hg : lget L (j : Int) with
      | none => exact absurd hg hn
      | some f => rw [fgF_some hg]; exact h2.ok.rf _ (lget_mem hg)
    by_cases hf : (fgF L (j : Int)).rf = 1048576
    · have e1 : frE L (j : Int) 1 = 22 := by
        unfold frE; rw [fgE_some hn, if_neg (by decide), if_pos (by show (1048576 : Int) < (fgF L (j : Int)).rf + 1; omega)]
      have e2 : frL L (j : Int) 1 = L := by unfold frL; rw [e1]; rfl
      rw [e1, e2]
      exact (fref_full h2 j hn hf).mono fun e w' ⟨he, hd⟩ => ⟨he, FtD.new h hd⟩
    · have e1 : frE L (j : Int) 1 = 0 := by
        unfold frE; rw [fgE_some hn, if_neg (by decide), if_neg (by show ¬ (1048576 : Int) < (fgF L (j : Int)).rf + 1; omega)]
      have e2 : frL L (j : Int) 1 = lwith L (j : Int) (frB L (j : Int) 1) := by unfold frL; rw [e1]; rfl
      rw [e1, e2, fe0]
      refine (fref_ok h2 j hn (by omega) (by omega)).mono ?_
      rintro e w' ⟨he, w1, n1, rfl⟩
      refine ⟨he, FtD.same h3 h1 ?_ ((But.of_new _ n1).trans (But.set (S := fun g => g = rb) w1 (p := ⟨rb, j * 7 + 6, none⟩) rfl _))⟩
      have h4 := h2.new n1
      have hL := fgF_with (f := frB L (j : Int) 1) (show 0 < (fgF L (j : Int)).rf + 1 by omega) hn
      refine ⟨h4.m1, h4.m32, h4.ne, h4.head.other (fun e => h4.ne e.symm) _, h4.row.one (h2.in_ hn) (by decide) (flC_rf _ _) hL, h4.ok.put _ (show (fgF L (j : Int)).rf + 1 ≤ 1048576 by omega) (h2.ok.name _)⟩
/-! ### Move -/
theorem fmove_err (p : Option Addr) (n off k : Int) (w : World) (hk : k ≠ 0) (X : Calls Tryd.prog 26 #[.pointer p, .int .i64 n] w fun e w' => e = .returned (.tuple #[.pointer none, erN k]) ∧ New w w') :
    Calls Tryd.prog 11 #[.pointer p, .int .i64 n, .int .i64 off] w fun e w' => e = .returned (erN k) ∧ New w w' := by
  rw [erN_pos hk] at X ⊢
  go_enter Tryd.func11, Tryd.ntmps11
  go_wp2_with fail
  refine X.mono ?_
  rintro e w1 ⟨rfl, n1⟩
  go_wp2
  go_ret
  exact ⟨rfl, n1⟩
theorem fmove_nil (n off : Int) (w : World) : Calls Tryd.prog 11 #[.pointer none, .int .i64 n, .int .i64 off] w fun e w' => e = .returned (erN 22) ∧ New w w' :=
  fmove_err none n off 22 w (by decide) (ffile_nil n w)
theorem fmove_bad (h : Ftq w tb rb m L) (j : Nat) (off : Int) (hn : lget L (j : Int) ≠ none) (ho : ¬ (0 ≤ off ∧ off ≤ 1073741824)) : Calls Tryd.prog 11 #[.pointer (some ⟨tb, 0, none⟩), .int .i64 (j : Int), .int .i64 off] w fun e w' => e = .returned (erN 22) ∧ New w w' := by
  have X := ffile_ok h j hn
  have Y := fun W => fnum_any off W
  rw [decide_eq_false ho] at Y
  have e3 : erN 22 = .iface 66 (.int .i64 22) := rfl
  rw [e3]
  clear h hn e3 ho
  go_enter Tryd.func11, Tryd.ntmps11
  go_wp2_with fail
  refine X.mono ?_
  rintro e w1 ⟨rfl, n1⟩
  clear X
  go_wp2_with fail
  refine (Y _).mono ?_
  rintro e w2 ⟨rfl, rfl⟩
  go_wp2
  go_ret
  exact ⟨rfl, n1⟩
theorem fmove_ok (h : Ftq w tb rb m L) (j : Nat) (off : Int) (hn : lget L (j : Int) ≠ none) (ho : 0 ≤ off ∧ off ≤ 1073741824) : Calls Tryd.prog 11 #[.pointer (some ⟨tb, 0, none⟩), .int .i64 (j : Int), .int .i64 off] w fun e w' => e = .returned .nilIface ∧ ∃ w1, New w w1 ∧ w' = w1.setCell ⟨rb, j * 7 + 2, none⟩ (.int .i64 off) := by
  have X := ffile_ok h j hn
  have HS := Lib.hid (fun W (k : New w W) => (h.new k).row.seven j (h.in_ hn) _ rfl)
  have Y := fun W => fnum_any off W
  rw [decide_eq_true ho] at Y
  generalize fgF L (j : Int) = f at *
  clear h hn ho
  go_enter Tryd.func11, Tryd.ntmps11
  go_wp2_with fail
  refine X.mono ?_
  rintro e w1 ⟨rfl, n1⟩
  obtain ⟨lr, ⟨-, -, c2, -, -, -, -⟩, ⟨-, -, g2, -, -, -, -⟩⟩ := HS.out w1 n1
  clear X
  go_wp2_with fail
  refine (Y _).mono ?_
  rintro e w2 ⟨rfl, rfl⟩
  go_wp2
  go_ret
  exact ⟨rfl, w1, n1, rfl⟩
theorem fmove_any (h : Ftb S w tb most L) (n off : Int) : Calls Tryd.prog 11 #[.pointer (some ⟨tb, 0, none⟩), .int .i64 n, .int .i64 off] w fun e w' => e = .returned (erN (fmE L n off)) ∧ FtD S w w' tb most (fmL L n off) := by
  obtain ⟨m, rb, h1, h2, h3⟩ := id h
  by_cases hn : lget L n = none
  · have e1 : fmE L n off = 9 := by unfold fmE; rw [fgE_none hn]; rfl
    have e2 : fmL L n off = L := by unfold fmL; rw [e1]; rfl
    rw [e1, e2]
    exact (fmove_err _ n off 9 w (by decide) (ffile_no h2 n hn)).mono fun e w' ⟨he, hd⟩ => ⟨he, FtD.new h hd⟩
  · obtain ⟨j, rfl⟩ := h2.pos hn
    have hr : 1 ≤ (fgF L (j : Int)).rf ∧ (fgF L (j : Int)).rf ≤ 1048576 := by
      cases hg : lget L (j : Int) with
      | none => exact absurd hg hn
      | some f => rw [fgF_some hg]; exact h2.ok.rf _ (lget_mem hg)
    by_cases ho : 0 ≤ off ∧ off ≤ 1073741824
    · have e1 : fmE L (j : Int) off = 0 := by unfold fmE; rw [fgE_some hn, if_neg (by decide), if_neg (by omega)]
      have e2 : fmL L (j : Int) off = lwith L (j : Int) { fgF L (j : Int) with off := off } := by unfold fmL; rw [e1]; rfl
      rw [e1, e2, fe0]
      refine (fmove_ok h2 j off hn ho).mono ?_
      rintro e w' ⟨he, w1, n1, rfl⟩
      refine ⟨he, FtD.same h3 h1 ?_ ((But.of_new _ n1).trans (But.set (S := fun g => g = rb) w1 (p := ⟨rb, j * 7 + 2, none⟩) rfl _))⟩
      have h4 := h2.new n1
      have hL := fgF_with (f := { fgF L (j : Int) with off := off }) (show 0 < (fgF L (j : Int)).rf by omega) hn
      refine ⟨h4.m1, h4.m32, h4.ne, h4.head.other (fun e => h4.ne e.symm) _, h4.row.one (h2.in_ hn) (by decide) (flC_off _ _) hL, h4.ok.put _ (show (fgF L (j : Int)).rf ≤ 1048576 by omega) (h2.ok.name _)⟩
    · have e1 : fmE L (j : Int) off = 22 := by unfold fmE; rw [fgE_some hn, if_neg (by decide), if_pos (by omega)]
      have e2 : fmL L (j : Int) off = L := by unfold fmL; rw [e1]; rfl
      rw [e1, e2]
      exact (fmove_bad h2 j off hn ho).mono fun e w' ⟨he, hd⟩ => ⟨he, FtD.new h hd⟩
end
end Go.Proofs.YtpapicnkhjcjoaaDoor
