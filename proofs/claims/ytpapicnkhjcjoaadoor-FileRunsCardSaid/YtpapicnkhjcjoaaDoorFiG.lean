/- The document's open files: Seek. -/
import Derived.Test.YtpapicnkhjcjoaaDoorFiA
import Derived.Test.YtpapicnkhjcjoaaDoorFiB
namespace Go.Proofs.YtpapicnkhjcjoaaDoor
open Go.RowKit
set_option linter.unusedVariables false
set_option maxRecDepth 100000
set_option maxHeartbeats 8000000 in
theorem rfseek_any (f : Fl) (off way size : Int) (ho : -9223372036854775808 ≤ off ∧ off ≤ 9223372036854775807) (w : World) : Calls Tryd.prog 20 #[FlV f, .int .i64 off, .int .i64 way, .int .i64 size] w fun e w' => e = .returned (.tuple #[.int .i64 (skN f off way size), .int .i64 (skE f off way size)]) ∧ New w w' := by
  obtain ⟨E, hE⟩ : ∃ E, E = w.alloc (.cells #[.int .i64 f.k, .int .i64 f.id, .int .i64 f.off, .bool f.rd, .bool f.wt, .string (ba f.nm), .int .i64 f.rf] 45) := ⟨_, rfl⟩
  have n0 : New w E := by rw [hE]; exact (New.refl w).alloc _ _
  have bA : Box E w.heap.size #[.int .i64 f.k, .int .i64 f.id, .int .i64 f.off, .bool f.rd, .bool f.wt, .string (ba f.nm), .int .i64 f.rf] 45 := by rw [hE]; exact Box.here w _ _ _ rfl
  have X := rfmay_any f E
  unfold FlV at *
  by_cases ka : f.k = 1
  · have he : skE f off way size = 29 := by unfold skE; rw [if_pos (.inl ka)]
    have n0' := n0
    rw [hE] at n0'
    unfold skN
    rw [he, if_neg (by decide)]
    clear he X bA hE n0
    have hk : (f.k == (1 : Int)) = true := by simpa using ka
    obtain ⟨k, id, fo, rd, wt, nm, rf⟩ := f
    dsimp only at *
    subst ka
    go_enter Tryd.func20, Tryd.ntmps20
    go_wp2
    go_ret2
    exact ⟨rfl, n0'⟩
  by_cases kb : f.k = 2
  · have he : skE f off way size = 29 := by unfold skE; rw [if_pos (.inr kb)]
    have n0' := n0
    rw [hE] at n0'
    unfold skN
    rw [he, if_neg (by decide)]
    clear he X bA hE n0
    obtain ⟨k, id, fo, rd, wt, nm, rf⟩ := f
    dsimp only at *
    subst kb
    go_enter Tryd.func20, Tryd.ntmps20
    go_wp2
    go_ret2
    exact ⟨rfl, n0'⟩
  have hka : (f.k == (1 : Int)) = false := by simpa using ka
  have hkb : (f.k == (2 : Int)) = false := by simpa using kb
  have hnk : ¬ (f.k = 1 ∨ f.k = 2) := by rintro (c | c); exact ka c; exact kb c
  by_cases hm : flOk f
  · rw [decide_eq_true hm] at X
    by_cases c1 : way < 0
    · have he : skE f off way size = 22 := by unfold skE; rw [if_neg hnk, if_pos (.inr (.inl c1))]
      unfold skN
      rw [he, if_neg (by decide)]
      clear he hm
      obtain ⟨k, id, fo, rd, wt, nm, rf⟩ := f
      dsimp only at *
      clear ka kb hnk
      go_enter Tryd.func20, Tryd.ntmps20
      go_wp2_with fail
      rw [← hE]
      refine X.mono ?_
      rintro e w1 ⟨rfl, n1⟩
      have n2 := n0.trans n1
      obtain ⟨la, ⟨a0, a1, a2, a3, a4, a5, a6⟩, -⟩ := (bA.new n1).seven
      clear X hE bA n0 n1
      go_wp2
      go_ret2
      exact ⟨rfl, n2⟩
    by_cases c2 : 2 < way
    · have he : skE f off way size = 22 := by unfold skE; rw [if_neg hnk, if_pos (.inr (.inr (.inl c2)))]
      unfold skN
      rw [he, if_neg (by decide)]
      clear he hm
      obtain ⟨k, id, fo, rd, wt, nm, rf⟩ := f
      dsimp only at *
      clear ka kb hnk
      go_enter Tryd.func20, Tryd.ntmps20
      go_wp2_with fail
      rw [← hE]
      refine X.mono ?_
      rintro e w1 ⟨rfl, n1⟩
      have n2 := n0.trans n1
      obtain ⟨la, ⟨a0, a1, a2, a3, a4, a5, a6⟩, -⟩ := (bA.new n1).seven
      clear X hE bA n0 n1
      go_wp2
      go_ret2
      exact ⟨rfl, n2⟩
    by_cases c3 : size < 0
    · have he : skE f off way size = 22 := by unfold skE; rw [if_neg hnk, if_pos (.inr (.inr (.inr (.inl c3))))]
      unfold skN
      rw [he, if_neg (by decide)]
      clear he hm
      obtain ⟨k, id, fo, rd, wt, nm, rf⟩ := f
      dsimp only at *
      clear ka kb hnk
      go_enter Tryd.func20, Tryd.ntmps20
      go_wp2_with fail
      rw [← hE]
      refine X.mono ?_
      rintro e w1 ⟨rfl, n1⟩
      have n2 := n0.trans n1
      obtain ⟨la, ⟨a0, a1, a2, a3, a4, a5, a6⟩, -⟩ := (bA.new n1).seven
      clear X hE bA n0 n1
      go_wp2
      go_ret2
      exact ⟨rfl, n2⟩
    by_cases c4 : 1073741824 < size
    · have he : skE f off way size = 22 := by unfold skE; rw [if_neg hnk, if_pos (.inr (.inr (.inr (.inr (.inl c4)))))]
      unfold skN
      rw [he, if_neg (by decide)]
      clear he hm
      obtain ⟨k, id, fo, rd, wt, nm, rf⟩ := f
      dsimp only at *
      clear ka kb hnk
      go_enter Tryd.func20, Tryd.ntmps20
      go_wp2_with fail
      rw [← hE]
      refine X.mono ?_
      rintro e w1 ⟨rfl, n1⟩
      have n2 := n0.trans n1
      obtain ⟨la, ⟨a0, a1, a2, a3, a4, a5, a6⟩, -⟩ := (bA.new n1).seven
      clear X hE bA n0 n1
      go_wp2
      go_ret2
      exact ⟨rfl, n2⟩
    by_cases c5 : off < -1073741824
    · have he : skE f off way size = 22 := by unfold skE; rw [if_neg hnk, if_pos (.inr (.inr (.inr (.inr (.inr (.inl c5))))))]
      unfold skN
      rw [he, if_neg (by decide)]
      clear he hm
      obtain ⟨k, id, fo, rd, wt, nm, rf⟩ := f
      dsimp only at *
      clear ka kb hnk
      go_enter Tryd.func20, Tryd.ntmps20
      go_wp2_with fail
      rw [← hE]
      refine X.mono ?_
      rintro e w1 ⟨rfl, n1⟩
      have n2 := n0.trans n1
      obtain ⟨la, ⟨a0, a1, a2, a3, a4, a5, a6⟩, -⟩ := (bA.new n1).seven
      clear X hE bA n0 n1
      go_wp2
      go_ret2
      exact ⟨rfl, n2⟩
    by_cases c6 : 1073741824 < off
    · have he : skE f off way size = 22 := by unfold skE; rw [if_neg hnk, if_pos (.inr (.inr (.inr (.inr (.inr (.inr c6))))))]
      unfold skN
      rw [he, if_neg (by decide)]
      clear he hm
      obtain ⟨k, id, fo, rd, wt, nm, rf⟩ := f
      dsimp only at *
      clear ka kb hnk
      go_enter Tryd.func20, Tryd.ntmps20
      go_wp2_with fail
      rw [← hE]
      refine X.mono ?_
      rintro e w1 ⟨rfl, n1⟩
      have n2 := n0.trans n1
      obtain ⟨la, ⟨a0, a1, a2, a3, a4, a5, a6⟩, -⟩ := (bA.new n1).seven
      clear X hE bA n0 n1
      go_wp2
      go_ret2
      exact ⟨rfl, n2⟩
    have hall : ¬ (¬ flOk f ∨ way < 0 ∨ 2 < way ∨ size < 0 ∨ 1073741824 < size ∨ off < -1073741824 ∨ 1073741824 < off) := by
      rintro (c | c | c | c | c | c | c)
      · exact c hm
      · exact c1 c
      · exact c2 c
      · exact c3 c
      · exact c4 c
      · exact c5 c
      · exact c6 c
    have hfo := hm.2.2.1
    have W : way = 0 ∨ way = 1 ∨ way = 2 := by omega
    clear hm c1 c2
    rcases W with rfl | rfl | rfl
    · have hb : skB f off 0 size = off := by unfold skB; simp
      by_cases d1 : off < 0
      · have he : skE f off 0 size = 22 := by unfold skE; rw [if_neg hnk, if_neg hall, hb, if_pos (.inl d1)]
        unfold skN
        rw [he, if_neg (by decide)]
        clear he hb hall
        obtain ⟨k, id, fo, rd, wt, nm, rf⟩ := f
        dsimp only at *
        clear ka kb hnk
        go_enter Tryd.func20, Tryd.ntmps20
        go_wp2_with fail
        rw [← hE]
        refine X.mono ?_
        rintro e w1 ⟨rfl, n1⟩
        have n2 := n0.trans n1
        obtain ⟨la, ⟨a0, a1, a2, a3, a4, a5, a6⟩, -⟩ := (bA.new n1).seven
        clear X hE bA n0 n1
        go_wp2
        go_ret2
        exact ⟨rfl, n2⟩
      · by_cases d2 : 1073741824 < off
        · exact absurd d2 c6
        · have he : skE f off 0 size = 0 := by unfold skE; rw [if_neg hnk, if_neg hall, hb, if_neg (by rintro (c | c); exact d1 c; exact d2 c)]
          unfold skN
          rw [he, if_pos rfl, hb]
          clear he hb hall
          obtain ⟨k, id, fo, rd, wt, nm, rf⟩ := f
          dsimp only at *
          clear ka kb hnk
          go_enter Tryd.func20, Tryd.ntmps20
          go_wp2_with fail
          rw [← hE]
          refine X.mono ?_
          rintro e w1 ⟨rfl, n1⟩
          have n2 := n0.trans n1
          obtain ⟨la, ⟨a0, a1, a2, a3, a4, a5, a6⟩, -⟩ := (bA.new n1).seven
          clear X hE bA n0 n1
          go_wp2
          go_ret2
          exact ⟨rfl, n2⟩
    · have hb : skB f off 1 size = off + f.off := by unfold skB; simp
      by_cases d1 : off + f.off < 0
      · have he : skE f off 1 size = 22 := by unfold skE; rw [if_neg hnk, if_neg hall, hb, if_pos (.inl d1)]
        unfold skN
        rw [he, if_neg (by decide)]
        clear he hb hall
        obtain ⟨k, id, fo, rd, wt, nm, rf⟩ := f
        dsimp only at *
        clear ka kb hnk
        go_enter Tryd.func20, Tryd.ntmps20
        go_wp2_with fail
        rw [← hE]
        refine X.mono ?_
        rintro e w1 ⟨rfl, n1⟩
        have n2 := n0.trans n1
        obtain ⟨la, ⟨a0, a1, a2, a3, a4, a5, a6⟩, -⟩ := (bA.new n1).seven
        clear X hE bA n0 n1
        go_wp2
        go_ret2
        exact ⟨rfl, n2⟩
      · by_cases d2 : 1073741824 < off + f.off
        · have he : skE f off 1 size = 22 := by unfold skE; rw [if_neg hnk, if_neg hall, hb, if_pos (.inr d2)]
          unfold skN
          rw [he, if_neg (by decide)]
          clear he hb hall
          obtain ⟨k, id, fo, rd, wt, nm, rf⟩ := f
          dsimp only at *
          clear ka kb hnk
          go_enter Tryd.func20, Tryd.ntmps20
          go_wp2_with fail
          rw [← hE]
          refine X.mono ?_
          rintro e w1 ⟨rfl, n1⟩
          have n2 := n0.trans n1
          obtain ⟨la, ⟨a0, a1, a2, a3, a4, a5, a6⟩, -⟩ := (bA.new n1).seven
          clear X hE bA n0 n1
          go_wp2
          go_ret2
          exact ⟨rfl, n2⟩
        · have he : skE f off 1 size = 0 := by unfold skE; rw [if_neg hnk, if_neg hall, hb, if_neg (by rintro (c | c); exact d1 c; exact d2 c)]
          unfold skN
          rw [he, if_pos rfl, hb]
          clear he hb hall
          obtain ⟨k, id, fo, rd, wt, nm, rf⟩ := f
          dsimp only at *
          clear ka kb hnk
          go_enter Tryd.func20, Tryd.ntmps20
          go_wp2_with fail
          rw [← hE]
          refine X.mono ?_
          rintro e w1 ⟨rfl, n1⟩
          have n2 := n0.trans n1
          obtain ⟨la, ⟨a0, a1, a2, a3, a4, a5, a6⟩, -⟩ := (bA.new n1).seven
          clear X hE bA n0 n1
          go_wp2
          go_ret2
          exact ⟨rfl, n2⟩
    · have hb : skB f off 2 size = off + size := by unfold skB; simp
      by_cases d1 : off + size < 0
      · have he : skE f off 2 size = 22 := by unfold skE; rw [if_neg hnk, if_neg hall, hb, if_pos (.inl d1)]
        unfold skN
        rw [he, if_neg (by decide)]
        clear he hb hall
        obtain ⟨k, id, fo, rd, wt, nm, rf⟩ := f
        dsimp only at *
        clear ka kb hnk
        go_enter Tryd.func20, Tryd.ntmps20
        go_wp2_with fail
        rw [← hE]
        refine X.mono ?_
        rintro e w1 ⟨rfl, n1⟩
        have n2 := n0.trans n1
        obtain ⟨la, ⟨a0, a1, a2, a3, a4, a5, a6⟩, -⟩ := (bA.new n1).seven
        clear X hE bA n0 n1
        go_wp2
        go_ret2
        exact ⟨rfl, n2⟩
      · by_cases d2 : 1073741824 < off + size
        · have he : skE f off 2 size = 22 := by unfold skE; rw [if_neg hnk, if_neg hall, hb, if_pos (.inr d2)]
          unfold skN
          rw [he, if_neg (by decide)]
          clear he hb hall
          obtain ⟨k, id, fo, rd, wt, nm, rf⟩ := f
          dsimp only at *
          clear ka kb hnk
          go_enter Tryd.func20, Tryd.ntmps20
          go_wp2_with fail
          rw [← hE]
          refine X.mono ?_
          rintro e w1 ⟨rfl, n1⟩
          have n2 := n0.trans n1
          obtain ⟨la, ⟨a0, a1, a2, a3, a4, a5, a6⟩, -⟩ := (bA.new n1).seven
          clear X hE bA n0 n1
          go_wp2
          go_ret2
          exact ⟨rfl, n2⟩
        · have he : skE f off 2 size = 0 := by unfold skE; rw [if_neg hnk, if_neg hall, hb, if_neg (by rintro (c | c); exact d1 c; exact d2 c)]
          unfold skN
          rw [he, if_pos rfl, hb]
          clear he hb hall
          obtain ⟨k, id, fo, rd, wt, nm, rf⟩ := f
          dsimp only at *
          clear ka kb hnk
          go_enter Tryd.func20, Tryd.ntmps20
          go_wp2_with fail
          rw [← hE]
          refine X.mono ?_
          rintro e w1 ⟨rfl, n1⟩
          have n2 := n0.trans n1
          obtain ⟨la, ⟨a0, a1, a2, a3, a4, a5, a6⟩, -⟩ := (bA.new n1).seven
          clear X hE bA n0 n1
          go_wp2
          go_ret2
          exact ⟨rfl, n2⟩
  · rw [decide_eq_false hm] at X
    have he : skE f off way size = 22 := by unfold skE; rw [if_neg hnk, if_pos (.inl hm)]
    unfold skN
    rw [he, if_neg (by decide)]
    clear he hm
    obtain ⟨k, id, fo, rd, wt, nm, rf⟩ := f
    dsimp only at *
    clear ka kb hnk
    go_enter Tryd.func20, Tryd.ntmps20
    go_wp2_with fail
    rw [← hE]
    refine X.mono ?_
    rintro e w1 ⟨rfl, n1⟩
    have n2 := n0.trans n1
    obtain ⟨la, ⟨a0, a1, a2, a3, a4, a5, a6⟩, -⟩ := (bA.new n1).seven
    clear X hE bA n0 n1
    go_wp2
    go_ret2
    exact ⟨rfl, n2⟩
end Go.Proofs.YtpapicnkhjcjoaaDoor
