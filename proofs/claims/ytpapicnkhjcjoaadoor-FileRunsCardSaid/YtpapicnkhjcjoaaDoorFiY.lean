/- The package's open files: Seek. -/
import Derived.Test.YtpapicnkhjcjoaaDoorFiP
namespace Go.Proofs.YtpapicnkhjcjoaaDoor
open Go.RowKit
set_option linter.unusedVariables false
set_option maxRecDepth 100000
section
variable {w w' : World}
theorem fseek_no (f : Fl) (off way size : Int) (w : World) (hk : f.k = 1 ∨ f.k = 2) : Calls Tryd.prog 19 #[FlV f, .int .i64 off, .int .i64 way, .int .i64 size] w fun e w' => e = .returned (.tuple #[.int .i64 0, erN 29]) ∧ New w w' := by
  have nn : New w (w.alloc (.cells #[.int .i64 f.k, .int .i64 f.id, .int .i64 f.off, .bool f.rd, .bool f.wt, .string (ba f.nm), .int .i64 f.rf] 29)) := (New.refl w).alloc _ _
  have e3 : erN 29 = .iface 66 (.int .i64 29) := rfl
  rw [e3]
  unfold FlV
  obtain ⟨k, id, fo, rd, wt, nm, rf⟩ := f
  dsimp only at *
  clear e3
  rcases hk with rfl | rfl
  · go_enter Tryd.func19, Tryd.ntmps19
    go_wp2
    go_ret2
    exact ⟨rfl, nn⟩
  · go_enter Tryd.func19, Tryd.ntmps19
    go_wp2
    go_ret2
    exact ⟨rfl, nn⟩
/-- what the walks begin with -/
theorem sk_start (k id fo : Int) (rd wt : Bool) (nm : List UInt8) (rf size : Int) (w : World) (E : World) (hE : E = (w.alloc (.cells #[.int .i64 k, .int .i64 id, .int .i64 fo, .bool rd, .bool wt, .string (ba nm), .int .i64 rf] 29)).alloc (.cells #[.int .i64 0, .int .i64 fo, .int .i64 size] 83)) :
    New w E ∧ Box E w.heap.size #[.int .i64 k, .int .i64 id, .int .i64 fo, .bool rd, .bool wt, .string (ba nm), .int .i64 rf] 29 ∧ Box E (w.heap.size + 1) #[.int .i64 0, .int .i64 fo, .int .i64 size] 83 := by
  subst hE
  exact ⟨((New.refl w).alloc _ _).alloc _ _, (Box.here w _ _ _ rfl).alloc _, Box.here _ _ _ _ (by rw [World.size_alloc])⟩
set_option maxHeartbeats 4000000 in
theorem fseek_bad (f : Fl) (off way size : Int) (w : World) (hk : ¬ (f.k = 1 ∨ f.k = 2)) (hb : ¬ flOk f ∨ ¬ (0 ≤ size ∧ size ≤ 1073741824) ∨ way < 0 ∨ 2 < way) : Calls Tryd.prog 19 #[FlV f, .int .i64 off, .int .i64 way, .int .i64 size] w fun e w' => e = .returned (.tuple #[.int .i64 0, erN 22]) ∧ New w w' := by
  have e3 : erN 22 = .iface 66 (.int .i64 22) := rfl
  rw [e3]
  have q := fun W => fvalid_any f W
  have r := fun W => fnum_any size W
  unfold FlV at *
  have k1 : ¬ f.k = 1 := fun c => hk (.inl c)
  have k2 : ¬ f.k = 2 := fun c => hk (.inr c)
  obtain ⟨E, hE⟩ : ∃ E, E = (w.alloc (.cells #[.int .i64 f.k, .int .i64 f.id, .int .i64 f.off, .bool f.rd, .bool f.wt, .string (ba f.nm), .int .i64 f.rf] 29)).alloc (.cells #[.int .i64 0, .int .i64 f.off, .int .i64 size] 83) := ⟨_, rfl⟩
  obtain ⟨n0, -, -⟩ := sk_start _ _ _ _ _ _ _ _ w E hE
  obtain ⟨k, id, fo, rd, wt, nm, rf⟩ := f
  dsimp only at *
  have kb1 : (k == (1 : Int)) = false := by simpa using k1
  have kb2 : (k == (2 : Int)) = false := by simpa using k2
  clear k1 k2
  by_cases c1 : flOk ⟨k, id, fo, rd, wt, nm, rf⟩
  · rw [decide_eq_true c1] at q
    by_cases c2 : 0 ≤ size ∧ size ≤ 1073741824
    · rw [decide_eq_true c2] at r
      by_cases c3 : way < 0
      · clear hk hb e3 c1 c2
        go_enter Tryd.func19, Tryd.ntmps19
        go_wp2_with fail
        rw [← hE]
        refine (q _).mono ?_
        rintro e w1 ⟨rfl, n1⟩
        have n2 := n0.trans n1
        clear hE n0 n1
        go_wp2_with fail
        refine (r _).mono ?_
        rintro e w2 ⟨rfl, rfl⟩
        go_wp2
        go_ret2
        exact ⟨rfl, n2⟩
      · have c4 : (3 : Int) ≤ way := by
          rcases hb with c | c | c | c
          · exact absurd c1 c
          · exact absurd c2 c
          · exact absurd c c3
          · omega
        clear hk hb e3 c1 c2
        go_enter Tryd.func19, Tryd.ntmps19
        go_wp2_with fail
        rw [← hE]
        refine (q _).mono ?_
        rintro e w1 ⟨rfl, n1⟩
        have n2 := n0.trans n1
        clear hE n0 n1
        go_wp2_with fail
        refine (r _).mono ?_
        rintro e w2 ⟨rfl, rfl⟩
        go_wp2
        go_ret2
        exact ⟨rfl, n2⟩
    · rw [decide_eq_false c2] at r
      clear hk hb e3 c1 c2
      go_enter Tryd.func19, Tryd.ntmps19
      go_wp2_with fail
      rw [← hE]
      refine (q _).mono ?_
      rintro e w1 ⟨rfl, n1⟩
      have n2 := n0.trans n1
      clear hE n0 n1
      go_wp2_with fail
      refine (r _).mono ?_
      rintro e w2 ⟨rfl, rfl⟩
      go_wp2
      go_ret2
      exact ⟨rfl, n2⟩
  · rw [decide_eq_false c1] at q
    clear hk hb e3 c1 r
    go_enter Tryd.func19, Tryd.ntmps19
    go_wp2_with fail
    rw [← hE]
    refine (q _).mono ?_
    rintro e w1 ⟨rfl, n1⟩
    have n2 := n0.trans n1
    clear hE n0 n1
    go_wp2
    go_ret2
    exact ⟨rfl, n2⟩
/-- by a way that may be: from a start -/
def skS (f : Fl) (way size : Int) : Int := if way = 1 then f.off else if way = 2 then size else 0
set_option maxHeartbeats 8000000 in
theorem fseek_good (f : Fl) (off way size : Int) (ho : -9223372036854775808 ≤ off ∧ off ≤ 9223372036854775807) (w : World) (hk : ¬ (f.k = 1 ∨ f.k = 2)) (hb : flOk f ∧ (0 ≤ size ∧ size ≤ 1073741824) ∧ 0 ≤ way ∧ way ≤ 2) : Calls Tryd.prog 19 #[FlV f, .int .i64 off, .int .i64 way, .int .i64 size] w fun e w' => e = .returned (.tuple #[.int .i64 (if off < - skS f way size ∨ 1073741824 - skS f way size < off then 0 else skS f way size + off), erN (if off < - skS f way size ∨ 1073741824 - skS f way size < off then 22 else 0)]) ∧ New w w' := by
  obtain ⟨c1, c2, c3, c4⟩ := hb
  have q := fun W => fvalid_any f W
  have r := fun W => fnum_any size W
  rw [decide_eq_true c1] at q
  rw [decide_eq_true c2] at r
  have fb := c1.2.2.1
  unfold FlV at *
  have k1 : ¬ f.k = 1 := fun c => hk (.inl c)
  have k2 : ¬ f.k = 2 := fun c => hk (.inr c)
  obtain ⟨E, hE⟩ : ∃ E, E = (w.alloc (.cells #[.int .i64 f.k, .int .i64 f.id, .int .i64 f.off, .bool f.rd, .bool f.wt, .string (ba f.nm), .int .i64 f.rf] 29)).alloc (.cells #[.int .i64 0, .int .i64 f.off, .int .i64 size] 83) := ⟨_, rfl⟩
  obtain ⟨n0, -, b3⟩ := sk_start _ _ _ _ _ _ _ _ w E hE
  obtain ⟨st, hst⟩ : ∃ st, st = skS f way size := ⟨_, rfl⟩
  have HST := Lib.hid hst
  have sb : 0 ≤ st ∧ st ≤ 1073741824 := by rw [hst]; unfold skS; split; exact fb; split; exact c2; omega
  rw [← hst]
  have hw : way = 0 ∨ way = 1 ∨ way = 2 := by omega
  have B3 := Lib.hid b3
  have HB := Lib.hid (And.intro ho sb)
  obtain ⟨k, id, fo, rd, wt, nm, rf⟩ := f
  dsimp only at *
  have kb1 : (k == (1 : Int)) = false := by simpa using k1
  have kb2 : (k == (2 : Int)) = false := by simpa using k2
  clear k1 k2
  clear hk c1 c3 c4 hst b3
  have e22 : erN 22 = .iface 66 (.int .i64 22) := rfl
  have WY : ∀ W, New E W → W.cell? ⟨w.heap.size + 1, way.toNat, none⟩ = some (.int .i64 st) := fun W k => by
    rw [(B3.out.new k).cell]
    have := HST.out
    rcases hw with rfl | rfl | rfl
    · rw [this]; rfl
    · rw [this]; rfl
    · rw [this]; rfl
  have WYH := Lib.hid WY
  clear WY
  rcases hw with rfl | rfl | rfl
  all_goals
    by_cases d1 : off < -st
    · rw [if_pos (.inl d1), if_pos (.inl d1), e22]
      clear e22
      go_enter Tryd.func19, Tryd.ntmps19
      go_wp2_with fail
      rw [← hE]
      refine (q _).mono ?_
      rintro e w1 ⟨rfl, n1⟩
      have n2 := n0.trans n1
      have cw := WYH.out w1 n1
      simp only [Int.toNat_zero, Int.toNat_one, show (2 : Int).toNat = 2 from rfl] at cw
      clear hE n0
      go_wp2_with fail
      refine (r _).mono ?_
      rintro e w2 ⟨rfl, rfl⟩
      go_wp2
      go_ret2
      exact ⟨rfl, n2⟩
    · by_cases d2 : 1073741824 - st < off
      · rw [if_pos (.inr d2), if_pos (.inr d2), e22]
        clear e22
        go_enter Tryd.func19, Tryd.ntmps19
        go_wp2_with fail
        rw [← hE]
        refine (q _).mono ?_
        rintro e w1 ⟨rfl, n1⟩
        have n2 := n0.trans n1
        have cw := WYH.out w1 n1
        simp only [Int.toNat_zero, Int.toNat_one, show (2 : Int).toNat = 2 from rfl] at cw
        clear hE n0
        go_wp2_with fail
        refine (r _).mono ?_
        rintro e w2 ⟨rfl, rfl⟩
        go_wp2
        go_ret2
        exact ⟨rfl, n2⟩
      · rw [if_neg (by omega), if_neg (by omega)]
        have e0 : erN 0 = .nilIface := rfl
        rw [e0]
        have d3 : -9223372036854775808 ≤ st + off ∧ st + off ≤ 9223372036854775807 := by omega
        clear e22 e0
        go_enter Tryd.func19, Tryd.ntmps19
        go_wp2_with fail
        rw [← hE]
        refine (q _).mono ?_
        rintro e w1 ⟨rfl, n1⟩
        have n2 := n0.trans n1
        have cw := WYH.out w1 n1
        simp only [Int.toNat_zero, Int.toNat_one, show (2 : Int).toNat = 2 from rfl] at cw
        clear hE n0
        go_wp2_with fail
        refine (r _).mono ?_
        rintro e w2 ⟨rfl, rfl⟩
        go_wp2
        go_ret2
        exact ⟨rfl, n2⟩
theorem fseek_any (f : Fl) (off way size : Int) (ho : -9223372036854775808 ≤ off ∧ off ≤ 9223372036854775807) (w : World) : Calls Tryd.prog 19 #[FlV f, .int .i64 off, .int .i64 way, .int .i64 size] w fun e w' => e = .returned (.tuple #[.int .i64 (skN f off way size), erN (skE f off way size)]) ∧ New w w' := by
  by_cases hk : f.k = 1 ∨ f.k = 2
  · have e1 : skE f off way size = 29 := if_pos hk
    have e2 : skN f off way size = 0 := by unfold skN; rw [e1]; rfl
    rw [e1, e2]; exact fseek_no f off way size w hk
  · by_cases hb : flOk f ∧ (0 ≤ size ∧ size ≤ 1073741824) ∧ 0 ≤ way ∧ way ≤ 2
    · obtain ⟨c1, c2, c3, c4⟩ := id hb
      have sb : 0 ≤ skS f way size ∧ skS f way size ≤ 1073741824 := by unfold skS; split; exact c1.2.2.1; split; exact c2; omega
      have e0 : skB f off way size = skS f way size + off := by unfold skB skS; split; omega; split <;> omega
      have X := fseek_good f off way size ho w hk hb
      have e1 : skE f off way size = if off < - skS f way size ∨ 1073741824 - skS f way size < off then 22 else 0 := by
        unfold skE
        rw [if_neg hk, e0]
        by_cases d : off < - skS f way size ∨ 1073741824 - skS f way size < off
        · rw [if_pos d]
          split
          · rfl
          · rw [if_pos (by omega)]
        · rw [if_neg d, if_neg, if_neg (by omega)]
          rintro (c | c | c | c | c | c | c)
          · exact c c1
          all_goals omega
      have e2 : skN f off way size = if off < - skS f way size ∨ 1073741824 - skS f way size < off then 0 else skS f way size + off := by
        unfold skN
        rw [e1, e0]
        by_cases d : off < - skS f way size ∨ 1073741824 - skS f way size < off
        · rw [if_pos d, if_pos d]; rfl
        · rw [if_neg d, if_neg d]; rfl
      rw [e1, e2]; exact X
    · have hb' : ¬ flOk f ∨ ¬ (0 ≤ size ∧ size ≤ 1073741824) ∨ way < 0 ∨ 2 < way := by
        by_cases c1 : flOk f
        · by_cases c2 : 0 ≤ size ∧ size ≤ 1073741824
          · refine .inr (.inr ?_)
            by_cases c : way < 0
            · exact .inl c
            · exact .inr (by by_cases d : 2 < way; exact d; exact absurd ⟨c1, c2, by omega, by omega⟩ hb)
          · exact .inr (.inl c2)
        · exact .inl c1
      have e1 : skE f off way size = 22 := by
        unfold skE
        rw [if_neg hk]
        split
        · rfl
        · rename_i c
          exact absurd (by
            rcases hb' with d | d | d | d
            · exact .inl d
            · by_cases e : size < 0
              · exact .inr (.inr (.inr (.inl e)))
              · exact .inr (.inr (.inr (.inr (.inl (by omega)))))
            · exact .inr (.inl d)
            · exact .inr (.inr (.inl d))) c
      have e2 : skN f off way size = 0 := by unfold skN; rw [e1]; rfl
      rw [e1, e2]; exact fseek_bad f off way size w hk hb'
end
end Go.Proofs.YtpapicnkhjcjoaaDoor
