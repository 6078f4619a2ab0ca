/- The package of open files: numbers, files that may be, none, copies. -/
import Derived.Test.YtpapicnkhjcjoaaDoorFiI
import Derived.Test.YtpapicnkhjcjoaaDoorFiN
import Derived.Test.YtpapicnkhjcjoaaDoorNum
import Derived.Test.YtpapicnkhjcjoaaDoorShelf
namespace Go.Proofs.YtpapicnkhjcjoaaDoor
open Go.RowKit
set_option linter.unusedVariables false
set_option maxRecDepth 100000
theorem clone_any (l : List UInt8) (w : World) (hl : l.length ≤ 281474976710656) : Calls Tryd.prog 32 #[.string (ba l)] w fun e w' => e = .returned (.string (ba l)) ∧ New w w' := by
  have c := Tryd.stringslite_Clone (ba l) w (by rw [ba_size]; exact hl)
  go_enter Tryd.func32, Tryd.ntmps32
  go_wp2_with fail
  refine c.mono ?_
  rintro e w1 ⟨rfl, n1⟩
  go_wp2
  go_ret
  exact ⟨rfl, n1⟩
theorem fnum_any (n : Int) (w : World) : Calls Tryd.prog 28 #[.int .i64 n] w fun e w' => e = .returned (.bool (decide (0 ≤ n ∧ n ≤ 1073741824))) ∧ w = w' := by
  by_cases h0 : 0 ≤ n
  · by_cases h1 : n ≤ 1073741824
    · rw [decide_eq_true (show 0 ≤ n ∧ n ≤ 1073741824 from ⟨h0, h1⟩)]
      go_enter Tryd.func28, Tryd.ntmps28
      go_wp2
      go_ret
      exact ⟨rfl, rfl⟩
    · rw [decide_eq_false (show ¬ (0 ≤ n ∧ n ≤ 1073741824) from fun c => h1 c.2)]
      go_enter Tryd.func28, Tryd.ntmps28
      go_wp2
      go_ret
      exact ⟨rfl, rfl⟩
  · rw [decide_eq_false (show ¬ (0 ≤ n ∧ n ≤ 1073741824) from fun c => h0 c.1)]
    go_enter Tryd.func28, Tryd.ntmps28
    go_wp2
    go_ret
    exact ⟨rfl, rfl⟩
theorem fnone_any (f : Fl) (w : World) : Calls Tryd.prog 24 #[FlV f] w fun e w' => e = .returned (.bool (decide (f.rf = 0))) ∧ New w w' := by
  have nn : New w (w.alloc (.cells #[.int .i64 f.k, .int .i64 f.id, .int .i64 f.off, .bool f.rd, .bool f.wt, .string (ba f.nm), .int .i64 f.rf] 29)) := (New.refl w).alloc _ _
  unfold FlV
  obtain ⟨k, id, off, rd, wt, nm, rf⟩ := f
  dsimp only at *
  go_enter Tryd.func24, Tryd.ntmps24
  go_wp2
  go_ret
  exact ⟨rfl, nn⟩
set_option maxHeartbeats 2000000 in
theorem fvalid_any (f : Fl) (w : World) : Calls Tryd.prog 22 #[FlV f] w fun e w' => e = .returned (.bool (decide (flOk f))) ∧ New w w' := by
  have nn : New w (w.alloc (.cells #[.int .i64 f.k, .int .i64 f.id, .int .i64 f.off, .bool f.rd, .bool f.wt, .string (ba f.nm), .int .i64 f.rf] 29)) := (New.refl w).alloc _ _
  have hs := ba_size f.nm
  have q1 := fun W => fnum_any f.id W
  have q2 := fun W => fnum_any f.off W
  unfold FlV
  by_cases h0 : 0 ≤ f.k
  · have _k0 := True.intro
    by_cases h1 : f.k ≤ 3
    · have _k1 := True.intro
      by_cases h2 : 0 ≤ f.id ∧ f.id ≤ 1073741824
      · have _k2 := True.intro
        rw [decide_eq_true h2] at q1
        by_cases h4 : 0 ≤ f.off ∧ f.off ≤ 1073741824
        · have _k4 := True.intro
          rw [decide_eq_true h4] at q2
          by_cases h6 : (f.nm.length : Int) ≤ 256
          · rw [decide_eq_true (show flOk f from ⟨⟨h0, h1⟩, h2, h4, by omega⟩)]
            have d6 : decide (((ba f.nm).size : Int) ≤ 256) = true := decide_eq_true (by rw [hs]; exact h6)
            obtain ⟨k, id, off, rd, wt, nm, rf⟩ := f
            dsimp only at *
            clear hs h2 h4
            go_enter Tryd.func22, Tryd.ntmps22
            go_wp2_with (first | (go_at_call 28; (with_reducible refine (q1 _).mono ?_); rintro e w' ⟨rfl, rfl⟩) | (go_at_call 28; (with_reducible refine (q2 _).mono ?_); rintro e w' ⟨rfl, rfl⟩))
            go_ret
            exact ⟨rfl, nn⟩
          · rw [decide_eq_false (show ¬ flOk f from fun c => h6 (by have := c.2.2.2; omega))]
            have d6 : decide (((ba f.nm).size : Int) ≤ 256) = false := decide_eq_false (by rw [hs]; exact h6)
            obtain ⟨k, id, off, rd, wt, nm, rf⟩ := f
            dsimp only at *
            clear hs h2 h4
            go_enter Tryd.func22, Tryd.ntmps22
            go_wp2_with (first | (go_at_call 28; (with_reducible refine (q1 _).mono ?_); rintro e w' ⟨rfl, rfl⟩) | (go_at_call 28; (with_reducible refine (q2 _).mono ?_); rintro e w' ⟨rfl, rfl⟩))
            go_ret
            exact ⟨rfl, nn⟩
        · rw [decide_eq_false (show ¬ flOk f from fun c => h4 c.2.2.1)]
          rw [decide_eq_false h4] at q2
          obtain ⟨k, id, off, rd, wt, nm, rf⟩ := f
          dsimp only at *
          clear hs h2 h4
          go_enter Tryd.func22, Tryd.ntmps22
          go_wp2_with (first | (go_at_call 28; (with_reducible refine (q1 _).mono ?_); rintro e w' ⟨rfl, rfl⟩) | (go_at_call 28; (with_reducible refine (q2 _).mono ?_); rintro e w' ⟨rfl, rfl⟩))
          go_ret
          exact ⟨rfl, nn⟩
      · rw [decide_eq_false (show ¬ flOk f from fun c => h2 c.2.1)]
        rw [decide_eq_false h2] at q1
        obtain ⟨k, id, off, rd, wt, nm, rf⟩ := f
        dsimp only at *
        clear hs h2 q2
        go_enter Tryd.func22, Tryd.ntmps22
        go_wp2_with (go_at_call 28; (with_reducible refine (q1 _).mono ?_); rintro e w' ⟨rfl, rfl⟩)
        go_ret
        exact ⟨rfl, nn⟩
    · rw [decide_eq_false (show ¬ flOk f from fun c => h1 c.1.2)]
      obtain ⟨k, id, off, rd, wt, nm, rf⟩ := f
      dsimp only at *
      clear hs q1 q2
      go_enter Tryd.func22, Tryd.ntmps22
      go_wp2
      go_ret
      exact ⟨rfl, nn⟩
  · rw [decide_eq_false (show ¬ flOk f from fun c => h0 c.1.1)]
    obtain ⟨k, id, off, rd, wt, nm, rf⟩ := f
    dsimp only at *
    clear hs q1 q2
    go_enter Tryd.func22, Tryd.ntmps22
    go_wp2
    go_ret
    exact ⟨rfl, nn⟩
theorem pfi_info : (Tryd.prog.info? 29).map (·.size) = some 7 := by kernel_rfl
theorem Box.pfi {w : World} {g : Nat} {y0 y1 y2 y3 y4 y5 y6 : Value} (h : Box w g #[y0, y1, y2, y3, y4, y5, y6] 29) : (loadVar 29 ⟨g, 0, none⟩).run Tryd.prog w = .ok (.agg #[y0, y1, y2, y3, y4, y5, y6]) w :=
  run_loadVar_mid w _ 0 _ [y0, y1, y2, y3, y4, y5, y6] _ (fun j v hv => by rw [Nat.zero_add, h.cell j]; simpa using hv) Tryd.underlying29 rfl pfi_info
set_option maxHeartbeats 4000000 in
theorem fcopied_any (f : Fl) (hn : f.nm.length ≤ 256) (w : World) : Calls Tryd.prog 25 #[FlV f] w fun e w' => e = .returned (FlV f) ∧ New w w' := by
  obtain ⟨E, hE⟩ : ∃ E, E = (w.alloc (.cells #[.int .i64 f.k, .int .i64 f.id, .int .i64 f.off, .bool f.rd, .bool f.wt, .string (ba f.nm), .int .i64 f.rf] 29)).alloc (.cells #[.int .i64 0, .int .i64 0, .int .i64 0, .bool false, .bool false, .string ⟨#[]⟩, .int .i64 0] 29) := ⟨_, rfl⟩
  have n0 : New w E := by rw [hE]; exact ((New.refl w).alloc _ _).alloc _ _
  have bA : Box E w.heap.size #[.int .i64 f.k, .int .i64 f.id, .int .i64 f.off, .bool f.rd, .bool f.wt, .string (ba f.nm), .int .i64 f.rf] 29 := by rw [hE]; exact (Box.here w _ _ _ rfl).alloc _
  have bZ : Box E (w.heap.size + 1) #[.int .i64 0, .int .i64 0, .int .i64 0, .bool false, .bool false, .string ⟨#[]⟩, .int .i64 0] 29 := by rw [hE]; exact Box.here _ _ _ _ (by rw [World.size_alloc])
  have X := clone_any f.nm E (by omega)
  unfold FlV
  obtain ⟨k, id, off, rd, wt, nm, rf⟩ := f
  dsimp only at *
  go_enter Tryd.func25, Tryd.ntmps25
  go_wp2_with fail
  rw [← hE]
  refine X.mono ?_
  rintro e w1 ⟨rfl, n1⟩
  have n2 := n0.trans n1
  have BA := Lib.hid (bA.new n1)
  have BZ := Lib.hid (bZ.new n1)
  obtain ⟨la, ⟨a0, a1, a2, a3, a4, a5, a6⟩, f0, f1, f2, f3, f4, f5, f6⟩ := (bA.new n1).seven
  obtain ⟨lz, ⟨z0, z1, z2, z3, z4, z5, z6⟩, g0, g1, g2, g3, g4, g5, g6⟩ := (bZ.new n1).seven
  clear X hE bA bZ n1 n0
  go_wp2
  have HR := ((BZ.out.other (p := ⟨w.heap.size, 5, none⟩) (by show w.heap.size ≠ w.heap.size + 1; omega) (.string (ba nm))).set7 (.int .i64 k) (.int .i64 id) (.int .i64 off) (.bool rd) (.bool wt) (.string (ba nm)) (.int .i64 rf)).pfi
  have HN := (n2.setCell (p := ⟨w.heap.size, 5, none⟩) (Nat.le_refl _) (.string (ba nm))).set7 (g := w.heap.size + 1) (by omega) (.int .i64 k) (.int .i64 id) (.int .i64 off) (.bool rd) (.bool wt) (.string (ba nm)) (.int .i64 rf)
  exact bodyPost_ret (v := .agg #[.int .i64 k, .int .i64 id, .int .i64 off, .bool rd, .bool wt, .string (ba nm), .int .i64 rf]) (by simp [results, Tryd.results25, asAddr, HR]) rfl ⟨rfl, HN⟩
end Go.Proofs.YtpapicnkhjcjoaaDoor
