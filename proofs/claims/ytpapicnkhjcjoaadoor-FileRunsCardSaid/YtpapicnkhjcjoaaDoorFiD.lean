/- The document's open files: Open. -/
import Derived.Test.YtpapicnkhjcjoaaDoorFiC
import Derived.Test.YtpapicnkhjcjoaaDoorApz
import Derived.Test.YtpapicnkhjcjoaaDoorOrdL
import Derived.KernelRfl
namespace Go.Proofs.YtpapicnkhjcjoaaDoor
open Go.RowKit
set_option linter.unusedVariables false
set_option maxRecDepth 100000
section
variable {w w' : World} {u : Value} {L : Ft} {most : Int}
theorem Its.of {base : Nat} (h : OwnW RIt base w u (L.map itC)) : Its w u L := h.rws
set_option maxHeartbeats 8000000 in
theorem rfopen_no (h : Its w u L) (hl : L.length ≤ 100000) (f : Fl) (he : foE most L f ≠ 0) : Calls Tryd.prog 17 #[DtV most u, FlV f] w fun e w' => e = .returned (.tuple #[DtV most u, .int .i64 0, .int .i64 (foE most L f)]) ∧ New w w' := by
  obtain ⟨p, cap, rfl, h1, h2⟩ := h.shape
  unfold maxLen at h2
  obtain ⟨E, hE⟩ : ∃ E, E = ((w.alloc (.cells #[.int .i64 most, .slice p L.length cap] 44)).alloc (.cells #[.int .i64 f.k, .int .i64 f.id, .int .i64 f.off, .bool f.rd, .bool f.wt, .string (ba f.nm), .int .i64 f.rf] 45)).alloc (.cells #[.int .i64 0, .slice none 0 0] 44) := ⟨_, rfl⟩
  have n0 : New w E := by rw [hE]; exact (((New.refl w).alloc _ _).alloc _ _).alloc _ _
  have bA : Box E w.heap.size #[.int .i64 most, .slice p L.length cap] 44 := by rw [hE]; exact ((Box.here w _ _ _ rfl).alloc _).alloc _
  have bB : Box E (w.heap.size + 1) #[.int .i64 f.k, .int .i64 f.id, .int .i64 f.off, .bool f.rd, .bool f.wt, .string (ba f.nm), .int .i64 f.rf] 45 := by rw [hE]; exact (Box.here _ _ _ _ (by rw [World.size_alloc])).alloc _
  have bZ : Box E (w.heap.size + 2) #[.int .i64 0, .slice none 0 0] 44 := by rw [hE]; exact Box.here _ _ _ _ (by rw [World.size_alloc, World.size_alloc])
  have X := rfmay_any f E
  unfold DtV FlV at *
  unfold foE at he ⊢
  by_cases hm : flOk f
  · rw [decide_eq_true hm] at X
    rw [if_neg (fun c => c hm)] at he ⊢
    by_cases hc : most ≤ (L.length : Int)
    · rw [if_pos hc] at he ⊢
      clear h hm he
      generalize L.length = ln at *
      go_enter Tryd.func17, Tryd.ntmps17
      go_wp2_with fail
      rw [← hE]
      refine X.mono ?_
      rintro e w1 ⟨rfl, n1⟩
      have n2 := n0.trans n1
      have sz := n0.size
      have BZ := Lib.hid (bZ.new n1)
      obtain ⟨a0, a1⟩ := (bA.new n1).two
      have lz := (bZ.new n1).lt
      obtain ⟨z0, z1⟩ := (bZ.new n1).two
      have g0 := (bZ.new n1).unfrozen 0
      have g1 := (bZ.new n1).unfrozen 1
      clear X hE bA bB bZ n1 n0
      go_wp2
      have BZ3 : Box ((w1.setCell ⟨w.heap.size + 2, 0, none⟩ (.int .i64 most)).setCell ⟨w.heap.size + 2, 1, none⟩ (.slice p ln cap)) (w.heap.size + 2) #[.int .i64 most, .slice p ln cap] 44 := by simpa using (BZ.out.set 0 (.int .i64 most)).set 1 (.slice p ln cap)
      have HR := BZ3.rtb
      have HN := (n2.setCell (p := ⟨w.heap.size + 2, 0, none⟩) (by show _ ≤ w.heap.size + 2; omega) (.int .i64 most)).setCell (p := ⟨w.heap.size + 2, 1, none⟩) (by show _ ≤ w.heap.size + 2; omega) (.slice p ln cap)
      exact bodyPost_ret (v := .tuple #[.agg #[.int .i64 most, .slice p ln cap], .int .i64 0, .int .i64 23]) (by simp [results, Tryd.results17, asAddr, HR]) rfl ⟨rfl, HN⟩
    · rw [if_neg hc] at he; exact absurd rfl he
  · rw [decide_eq_false hm] at X
    rw [if_pos hm] at he ⊢
    clear h hm he
    generalize L.length = ln at *
    go_enter Tryd.func17, Tryd.ntmps17
    go_wp2_with fail
    rw [← hE]
    refine X.mono ?_
    rintro e w1 ⟨rfl, n1⟩
    have n2 := n0.trans n1
    have sz := n0.size
    have BZ := Lib.hid (bZ.new n1)
    obtain ⟨a0, a1⟩ := (bA.new n1).two
    have lz := (bZ.new n1).lt
    obtain ⟨z0, z1⟩ := (bZ.new n1).two
    have g0 := (bZ.new n1).unfrozen 0
    have g1 := (bZ.new n1).unfrozen 1
    clear X hE bA bB bZ n1 n0
    go_wp2
    have BZ3 : Box ((w1.setCell ⟨w.heap.size + 2, 0, none⟩ (.int .i64 most)).setCell ⟨w.heap.size + 2, 1, none⟩ (.slice p ln cap)) (w.heap.size + 2) #[.int .i64 most, .slice p ln cap] 44 := by simpa using (BZ.out.set 0 (.int .i64 most)).set 1 (.slice p ln cap)
    have HR := BZ3.rtb
    have HN := (n2.setCell (p := ⟨w.heap.size + 2, 0, none⟩) (by show _ ≤ w.heap.size + 2; omega) (.int .i64 most)).setCell (p := ⟨w.heap.size + 2, 1, none⟩) (by show _ ≤ w.heap.size + 2; omega) (.slice p ln cap)
    exact bodyPost_ret (v := .tuple #[.agg #[.int .i64 most, .slice p ln cap], .int .i64 0, .int .i64 22]) (by simp [results, Tryd.results17, asAddr, HR]) rfl ⟨rfl, HN⟩
set_option maxHeartbeats 8000000 in
theorem rfopen_ok (h : Its w u L) (hl : L.length ≤ 100000) (f : Fl) (he : foE most L f = 0) : Calls Tryd.prog 17 #[DtV most u, FlV f] w fun e w' => ∃ u', e = .returned (.tuple #[DtV most u', .int .i64 (frZ L), .int .i64 0]) ∧ OwnW RIt w.heap.size w' u' ((L ++ [(frZ L, { f with rf := 1 })]).map itC) ∧ New w w' := by
  have H := Lib.hid h
  obtain ⟨p, cap, rfl, h1, h2⟩ := h.shape
  unfold maxLen at h2
  obtain ⟨E, hE⟩ : ∃ E, E = ((w.alloc (.cells #[.int .i64 most, .slice p L.length cap] 44)).alloc (.cells #[.int .i64 f.k, .int .i64 f.id, .int .i64 f.off, .bool f.rd, .bool f.wt, .string (ba f.nm), .int .i64 f.rf] 45)).alloc (.cells #[.int .i64 0, .slice none 0 0] 44) := ⟨_, rfl⟩
  have n0 : New w E := by rw [hE]; exact (((New.refl w).alloc _ _).alloc _ _).alloc _ _
  have bA : Box E w.heap.size #[.int .i64 most, .slice p L.length cap] 44 := by rw [hE]; exact ((Box.here w _ _ _ rfl).alloc _).alloc _
  have bB : Box E (w.heap.size + 1) #[.int .i64 f.k, .int .i64 f.id, .int .i64 f.off, .bool f.rd, .bool f.wt, .string (ba f.nm), .int .i64 f.rf] 45 := by rw [hE]; exact (Box.here _ _ _ _ (by rw [World.size_alloc])).alloc _
  have bZ : Box E (w.heap.size + 2) #[.int .i64 0, .slice none 0 0] 44 := by rw [hE]; exact Box.here _ _ _ _ (by rw [World.size_alloc, World.size_alloc])
  have X := rfmay_any f E
  have cA := Lib.hid (fun W (k : New w W) (j : Nat) => rat_any (w := W) (most := most) (h.new k) (by omega) (j : Int))
  unfold DtV FlV at *
  unfold foE at he
  have hm : flOk f := by
    by_cases c : flOk f
    · exact c
    · rw [if_pos c] at he; cases he
  rw [if_neg (fun c => c hm)] at he
  have hc : ¬ most ≤ (L.length : Int) := fun c => by rw [if_pos c] at he; cases he
  rw [decide_eq_true hm] at X
  clear h hm he
  generalize hLN : L.length = ln at *
  have HLN := Lib.hid hLN
  clear hLN
  go_enter Tryd.func17, Tryd.ntmps17
  go_wp2_with fail
  rw [← hE]
  refine X.mono ?_
  rintro e w1 ⟨rfl, n1⟩
  have n2 := n0.trans n1
  have sz := n0.size
  have BZ := Lib.hid (bZ.new n1)
  have BA := Lib.hid (bA.new n1)
  have BB := Lib.hid (bB.new n1)
  have N2 := Lib.hid n2
  have lE := bZ.lt
  have sz1 := n1.size
  obtain ⟨a0, a1⟩ := (bA.new n1).two
  clear X hE bA bB bZ n1 n0 n2
  go_wp2_with fail
  go_loopg [7] (ln + 1) (fun k i wr => ∃ j : Nat, j + k = ln + 1 ∧ i = .int .i64 (j : Int) ∧ (∀ i : Nat, i < j → lget L (i : Int) ≠ none) ∧ New w1 wr)
  case atStart => exact ⟨0, by omega, rfl, fun i hi => absurd hi (Nat.not_lt_zero _), New.refl _⟩
  case round =>
    obtain ⟨j, hj, rfl, hall, hn⟩ := hrel
    have J := Lib.hid hj
    have HALL := Lib.hid hall
    have HN := Lib.hid hn
    have hjb := pigeonZ j L hall
    rw [HLN.out] at hjb
    obtain ⟨b0, b1⟩ := (BA.out.new hn).two
    have c := cA.out _ (N2.out.trans hn) j
    clear hall hn hj a0 a1
    cases hg : lget L (j : Int) with
    | some x =>
      obtain ⟨L1, L2, hL, hn1⟩ := lget_some hg
      have hi := lix_some hL hn1 0
      rw [Int.zero_add] at hi
      rw [hi] at c
      have HG := Lib.hid hg
      have l1b : L1.length ≤ 100000 := by have := congrArg List.length hL; rw [List.length_append, HLN.out] at this; omega
      clear hg hL hn1 hi
      generalize L1.length = l1 at *
      have d1 : decide ((0 : Int) ≤ (l1 : Int)) = true := decide_eq_true (by omega)
      go_wp2_with fail
      refine c.mono ?_
      rintro e w3 ⟨rfl, n3⟩
      have n4 := Lib.hid (HN.out.trans n3)
      clear c n3
      go_wp2
      go_roundg (ln + 1 - (j + 1))
      case measure => have := J.out; omega
      case rel => exact ⟨j + 1, by have := J.out; omega, by go_num, fun i hi => by
        rcases Nat.lt_or_ge i j with c | c
        · exact HALL.out i c
        · obtain rfl : i = j := by omega
          rw [HG.out]; simp, n4.out⟩
    | none =>
      rw [lix_none hg] at c
      have hz := frZ_eq L j HALL.out hg
      have HZ := Lib.hid hz
      clear hg hz
      go_wp2_with fail
      refine c.mono ?_
      rintro e w3 ⟨rfl, n3⟩
      have n4 := HN.out.trans n3
      have sz4 := n4.size
      have BA := Lib.hid ((BA.out.new n4).other (p := ⟨w.heap.size + 1, 6, none⟩) (by show w.heap.size + 1 ≠ _; omega) (.int .i64 1))
      have BZ := Lib.hid ((BZ.out.new n4).other (p := ⟨w.heap.size + 1, 6, none⟩) (by show w.heap.size + 1 ≠ _; omega) (.int .i64 1))
      have BB2 : Box (w3.setCell ⟨w.heap.size + 1, 6, none⟩ (.int .i64 1)) (w.heap.size + 1) #[.int .i64 f.k, .int .i64 f.id, .int .i64 f.off, .bool f.rd, .bool f.wt, .string (ba f.nm), .int .i64 1] 45 := by simpa using (BB.out.new n4).set 6 (.int .i64 1)
      have BB2 := Lib.hid BB2
      have N5 := Lib.hid ((N2.out.trans n4).setCell (p := ⟨w.heap.size + 1, 6, none⟩) (by show _ ≤ w.heap.size + 1; omega) (.int .i64 1))
      obtain ⟨lb, ⟨y0, y1, y2, y3, y4, y5, y6⟩, f0, f1, f2, f3, f4, f5, f6⟩ := (BB.out.new n4).seven
      clear c b0 b1 HN n3 n4
      go_wp2_with fail
      generalize w3.setCell ⟨w.heap.size + 1, 6, none⟩ (.int .i64 1) = w5 at *
      obtain ⟨a0, a1⟩ := BA.out.two
      have g1 := BA.out.unfrozen 1
      obtain ⟨lb2, ⟨y0, y1, y2, y3, y4, y5, y6⟩, -⟩ := BB2.out.seven
      have la := BA.out.lt
      have nd : New w5 w5.drew := (New.refl w5).drew
      have KEEP : ∀ W', New w5 W' → (fun w' : World => w'.cell? ⟨w.heap.size, 1, none⟩ = some (.slice p ln cap) ∧ w'.cell? ⟨w.heap.size + 1, 0, none⟩ = some (.int .i64 f.k) ∧ w'.cell? ⟨w.heap.size + 1, 1, none⟩ = some (.int .i64 f.id) ∧ w'.cell? ⟨w.heap.size + 1, 2, none⟩ = some (.int .i64 f.off) ∧ w'.cell? ⟨w.heap.size + 1, 3, none⟩ = some (.bool f.rd) ∧ w'.cell? ⟨w.heap.size + 1, 4, none⟩ = some (.bool f.wt) ∧ w'.cell? ⟨w.heap.size + 1, 5, none⟩ = some (.string (ba f.nm)) ∧ w'.cell? ⟨w.heap.size + 1, 6, none⟩ = some (.int .i64 1)) W' := fun W' k => ⟨k.keeps a1, k.keeps y0, k.keeps y1, k.keeps y2, k.keeps y3, k.keeps y4, k.keeps y5, k.keeps y6⟩
      have hS := KEEP _ nd
      refine wp_region_L (st := 15) (S := fun w' : World => w'.cell? ⟨w.heap.size, 1, none⟩ = some (.slice p ln cap) ∧ w'.cell? ⟨w.heap.size + 1, 0, none⟩ = some (.int .i64 f.k) ∧ w'.cell? ⟨w.heap.size + 1, 1, none⟩ = some (.int .i64 f.id) ∧ w'.cell? ⟨w.heap.size + 1, 2, none⟩ = some (.int .i64 f.off) ∧ w'.cell? ⟨w.heap.size + 1, 3, none⟩ = some (.bool f.rd) ∧ w'.cell? ⟨w.heap.size + 1, 4, none⟩ = some (.bool f.wt) ∧ w'.cell? ⟨w.heap.size + 1, 5, none⟩ = some (.string (ba f.nm)) ∧ w'.cell? ⟨w.heap.size + 1, 6, none⟩ = some (.int .i64 1)) (by kernel_rfl) ?_
      refine wpAnyL_takeY (i := 0) (v := ?_) (by rfl) rfl (by kernel_rfl) (by kernel_rfl) (by kernel_rfl) (fun _ _ _ h => h) (Or.inl ⟨by rfl, ?_⟩) hS ?_
      rotate_left
      · intro w hSw
        go_simp
        with_reducible rfl
      try simp only [Act.put, List.setIfInBounds_toArray, List.set_cons_zero, List.set_cons_succ, List.getElem_toArray, List.getElem_cons_zero]
      refine wpAnyL_take (i := 1) (v := ?_) rfl (by kernel_rfl) (by kernel_rfl) (by kernel_rfl) (by kernel_rfl) (by kernel_rfl) (fun _ _ _ h => h) (Or.inl ⟨by rfl, ?_⟩) hS ?_
      rotate_left
      · intro w hSw
        obtain ⟨s0, s1, s2, s3, s4, s5, s6, s7⟩ := hSw
        go_simp
        with_reducible rfl
      try simp only [Act.put, List.setIfInBounds_toArray, List.set_cons_zero, List.set_cons_succ, List.getElem_toArray, List.getElem_cons_zero, List.getElem_cons_succ]
      refine wpAnyL_takeY (i := 2) (v := ?_) (by rfl) rfl (by kernel_rfl) (by kernel_rfl) (by kernel_rfl) (fun _ _ _ h => h) (Or.inl ⟨by rfl, ?_⟩) hS ?_
      rotate_left
      · intro w hSw
        go_simp
        with_reducible rfl
      try simp only [Act.put, List.setIfInBounds_toArray, List.set_cons_zero, List.set_cons_succ, List.getElem_toArray, List.getElem_cons_zero, List.getElem_cons_succ]
      refine wpAnyL_take (i := 3) (v := ?_) rfl (by kernel_rfl) (by kernel_rfl) (by kernel_rfl) (by kernel_rfl) (by kernel_rfl) (fun _ _ _ h => h) (Or.inl ⟨by rfl, ?_⟩) hS ?_
      rotate_left
      · intro w hSw
        obtain ⟨s0, s1, s2, s3, s4, s5, s6, s7⟩ := hSw
        go_simp
        with_reducible rfl
      try simp only [Act.put, List.setIfInBounds_toArray, List.set_cons_zero, List.set_cons_succ, List.getElem_toArray, List.getElem_cons_zero, List.getElem_cons_succ]
      refine wpAnyL_takeY (i := 4) (v := ?_) (by rfl) rfl (by kernel_rfl) (by kernel_rfl) (by kernel_rfl) (fun _ _ _ h => h) (Or.inl ⟨by rfl, ?_⟩) hS ?_
      rotate_left
      · intro w hSw
        go_simp
        with_reducible rfl
      try simp only [Act.put, List.setIfInBounds_toArray, List.set_cons_zero, List.set_cons_succ, List.getElem_toArray, List.getElem_cons_zero, List.getElem_cons_succ]
      refine wpAnyL_takeY (i := 5) (v := ?_) (by rfl) rfl (by kernel_rfl) (by kernel_rfl) (by kernel_rfl) (fun _ _ _ h => h) (Or.inl ⟨by rfl, ?_⟩) hS ?_
      rotate_left
      · intro w hSw
        go_simp
        with_reducible rfl
      try simp only [Act.put, List.setIfInBounds_toArray, List.set_cons_zero, List.set_cons_succ, List.getElem_toArray, List.getElem_cons_zero, List.getElem_cons_succ]
      refine wpAnyL_take (i := 6) (v := ?_) rfl (by kernel_rfl) (by kernel_rfl) (by kernel_rfl) (by kernel_rfl) (by kernel_rfl) (fun _ _ _ h => h) (Or.inl ⟨by rfl, ?_⟩) hS ?_
      rotate_left
      · intro w hSw
        obtain ⟨s0, s1, s2, s3, s4, s5, s6, s7⟩ := hSw
        go_simp
        with_reducible rfl
      try simp only [Act.put, List.setIfInBounds_toArray, List.set_cons_zero, List.set_cons_succ, List.getElem_toArray, List.getElem_cons_zero, List.getElem_cons_succ]
      refine wpAnyL_takeY (i := 7) (v := ?_) (by rfl) rfl (by kernel_rfl) (by kernel_rfl) (by kernel_rfl) (fun _ _ _ h => h) (Or.inl ⟨by rfl, ?_⟩) hS ?_
      rotate_left
      · intro w hSw
        go_simp
        with_reducible rfl
      try simp only [Act.put, List.setIfInBounds_toArray, List.set_cons_zero, List.set_cons_succ, List.getElem_toArray, List.getElem_cons_zero, List.getElem_cons_succ]
      refine wpAnyL_takeY (i := 8) (v := ?_) (by rfl) rfl (by kernel_rfl) (by kernel_rfl) (by kernel_rfl) (fun _ _ _ h => h) (Or.inl ⟨by rfl, ?_⟩) hS ?_
      rotate_left
      · intro w hSw
        go_simp
        with_reducible rfl
      try simp only [Act.put, List.setIfInBounds_toArray, List.set_cons_zero, List.set_cons_succ, List.getElem_toArray, List.getElem_cons_zero, List.getElem_cons_succ]
      refine wpAnyL_takeY (i := 9) (v := ?_) (by rfl) rfl (by kernel_rfl) (by kernel_rfl) (by kernel_rfl) (fun _ _ _ h => h) (Or.inl ⟨by rfl, ?_⟩) hS ?_
      rotate_left
      · intro w hSw
        go_simp
        with_reducible rfl
      try simp only [Act.put, List.setIfInBounds_toArray, List.set_cons_zero, List.set_cons_succ, List.getElem_toArray, List.getElem_cons_zero, List.getElem_cons_succ]
      refine wpAnyL_take (i := 10) (v := ?_) rfl (by kernel_rfl) (by kernel_rfl) (by kernel_rfl) (by kernel_rfl) (by kernel_rfl) (fun _ _ _ h => h) (Or.inl ⟨by rfl, ?_⟩) hS ?_
      rotate_left
      · intro w hSw
        obtain ⟨s0, s1, s2, s3, s4, s5, s6, s7⟩ := hSw
        go_simp
        with_reducible rfl
      try simp only [Act.put, List.setIfInBounds_toArray, List.set_cons_zero, List.set_cons_succ, List.getElem_toArray, List.getElem_cons_zero, List.getElem_cons_succ]
      refine wpAnyL_takeY (i := 11) (v := ?_) (by rfl) rfl (by kernel_rfl) (by kernel_rfl) (by kernel_rfl) (fun _ _ _ h => h) (Or.inl ⟨by rfl, ?_⟩) hS ?_
      rotate_left
      · intro w hSw
        go_simp
        with_reducible rfl
      try simp only [Act.put, List.setIfInBounds_toArray, List.set_cons_zero, List.set_cons_succ, List.getElem_toArray, List.getElem_cons_zero, List.getElem_cons_succ]
      refine wpAnyL_one (i := 12) (by kernel_rfl) rfl (fun K' hK => ?_)
      go_simp
      obtain ⟨W6, hW6⟩ : ∃ W6, W6 = (w5.alloc (.cells #[.int .i64 (j : Int), .int .i64 f.k, .int .i64 f.id, .int .i64 f.off, .bool f.rd, .bool f.wt, .string (ba f.nm), .int .i64 1] 82)).drew := ⟨_, rfl⟩
      have n6 : New w5 W6 := by rw [hW6]; exact ((New.refl w5).alloc _ _).drew
      have sz6 : W6.heap.size = w5.heap.size + 1 := by rw [hW6]; exact World.size_alloc _ _
      have hs1 : Rws RIt W6 (.slice (some ⟨w5.heap.size, 0, none⟩) 1 1) [itC ((j : Int), { f with rf := 1 })] := by rw [hW6]; exact (it_laid w5 ((j : Int), { f with rf := 1 })).new (New.refl _).drew
      rw [← hW6]
      clear hW6
      refine hK.out _ _ (fun _ => KEEP _ n6) ?_
      clear hK K'
      have hH : ∃ cap, Rws RIt W6 (.slice p (L.map itC).length cap) (L.map itC) := ⟨cap, by rw [List.length_map, HLN.out]; exact (H.out.new (N5.out.trans n6))⟩
      obtain ⟨v9, w9, hr, o9, n9⟩ := run_clip_w (R := RIt) (base := w5.heap.size + 1) hH hs1 (by simp) (by rw [List.length_map, HLN.out]; simp; omega) (by omega)
      rw [List.length_map, HLN.out] at hr
      obtain ⟨p9, c9, rfl, -, -⟩ := o9.shape
      have hln9 : (L.map itC ++ [itC ((j : Int), { f with rf := 1 })]).length = ln + 1 := by simp [HLN.out]
      rw [hln9] at hr
      have n7 := n6.trans n9
      try simp only [Act.put, List.setIfInBounds_toArray, List.set_cons_zero, List.set_cons_succ, List.getElem_toArray, List.getElem_cons_zero, List.getElem_cons_succ]
      refine wpAnyL_one (i := 13) (by kernel_rfl) rfl (fun K' hK => ?_)
      rw [if_pos (by rfl)]
      refine opwp_zeros (.tmp 34) (.tmp 38) 42 42 rfl _ w9 (.slice p ln ln) (.slice (some ⟨w5.heap.size, 0, none⟩) 1 1) rfl rfl hr ?_
      refine hK.out _ _ (fun _ => KEEP _ n7) ?_
      clear hK K'
      have hS7 := KEEP _ n7
      try simp only [Act.put, List.setIfInBounds_toArray, List.set_cons_zero, List.set_cons_succ, List.getElem_toArray, List.getElem_cons_zero, List.getElem_cons_succ]
      refine wpAnyL_takeY (i := 14) (v := ?_) (by rfl) rfl (by kernel_rfl) (by kernel_rfl) (by kernel_rfl) (fun _ _ _ h => h) (Or.inl ⟨by rfl, ?_⟩) hS7 ?_
      rotate_left
      · intro w hSw
        go_simp
        with_reducible rfl
      try simp only [Act.put, List.setIfInBounds_toArray, List.set_cons_zero, List.set_cons_succ, List.getElem_toArray, List.getElem_cons_zero, List.getElem_cons_succ]
      refine wpAnyL_one (i := 15) (by kernel_rfl) rfl (fun K' hK => ?_)
      have q1 : w9.frozen? ⟨w.heap.size, 1, none⟩ = false := (BA.out.new n7).unfrozen 1
      have q2 : w9.cell? ⟨w.heap.size, 1, none⟩ = some (.slice p ln cap) := (BA.out.new n7).two.2
      go_simp
      refine hK.out _ _ (fun h => by simp at h) ?_
      refine wpAnyL_done (by kernel_rfl) ?_ _
      have szs : w.heap.size + 2 < w9.heap.size := (BZ.out.new n7).lt
      have sz5 : w.heap.size + 2 < w5.heap.size := BZ.out.lt
      have BAf : Box (w9.setCell ⟨w.heap.size, 1, none⟩ (.slice p9 (ln + 1) c9)) w.heap.size #[.int .i64 most, .slice p9 (ln + 1) c9] 44 := by simpa using (BA.out.new n7).set 1 (.slice p9 (ln + 1) c9)
      have BZf := (BZ.out.new n7).other (p := ⟨w.heap.size, 1, none⟩) (by show w.heap.size ≠ _; omega) (.slice p9 (ln + 1) c9)
      have BZ2 : Box (((w9.setCell ⟨w.heap.size, 1, none⟩ (.slice p9 (ln + 1) c9)).setCell ⟨w.heap.size + 2, 0, none⟩ (.int .i64 most)).setCell ⟨w.heap.size + 2, 1, none⟩ (.slice p9 (ln + 1) c9)) (w.heap.size + 2) #[.int .i64 most, .slice p9 (ln + 1) c9] 44 := by simpa using (BZf.set 0 (.int .i64 most)).set 1 (.slice p9 (ln + 1) c9)
      have NN := (((N5.out.trans n7).setCell (p := ⟨w.heap.size, 1, none⟩) (Nat.le_refl _) (.slice p9 (ln + 1) c9)).setCell (p := ⟨w.heap.size + 2, 0, none⟩) (by show _ ≤ w.heap.size + 2; omega) (.int .i64 most)).setCell (p := ⟨w.heap.size + 2, 1, none⟩) (by show _ ≤ w.heap.size + 2; omega) (.slice p9 (ln + 1) c9)
      have KB := ((But.set (S := fun g => g ≤ w.heap.size + 2) w9 (p := ⟨w.heap.size, 1, none⟩) (by show w.heap.size ≤ _; omega) (.slice p9 (ln + 1) c9)).trans (But.set (S := fun g => g ≤ w.heap.size + 2) _ (p := ⟨w.heap.size + 2, 0, none⟩) (Nat.le_refl _) (.int .i64 most))).trans (But.set (S := fun g => g ≤ w.heap.size + 2) _ (p := ⟨w.heap.size + 2, 1, none⟩) (Nat.le_refl _) (.slice p9 (ln + 1) c9))
      have P9 := (o9.but KB (fun g hg c => by have := o9.ge hg; omega)).more (b2 := w.heap.size) (by omega)
      rw [hln9] at P9
      have P10 : OwnW RIt w.heap.size (((w9.setCell ⟨w.heap.size, 1, none⟩ (.slice p9 (ln + 1) c9)).setCell ⟨w.heap.size + 2, 0, none⟩ (.int .i64 most)).setCell ⟨w.heap.size + 2, 1, none⟩ (.slice p9 (ln + 1) c9)) (.slice p9 (ln + 1) c9) ((L ++ [((j : Int), { f with rf := 1 })]).map itC) := by
        rw [List.map_append]
        exact P9
      have END := Lib.hid (And.intro BZ2.rtb (And.intro NN P10))
      obtain ⟨x0, x1⟩ := BAf.two
      obtain ⟨z0, z1⟩ := BZf.two
      have zf0 := BZf.unfrozen 0
      have zf1 := BZf.unfrozen 1
      have zl := BZf.lt
      clear BAf BZf BZ2 NN KB P9 P10 hS hS7 KEEP hr o9 n9 n7 n6 hs1 hH y0 y1 y2 y3 y4 y5 y6 f0 f1 f2 f3 f4 f5 f6 a0 a1 g1 q1 q2
      go_wp2
      obtain ⟨HR, NN, P10⟩ := END.out
      exact bodyPost_ret (v := .tuple #[.agg #[.int .i64 most, .slice p9 (ln + 1) c9], .int .i64 (j : Int), .int .i64 0]) (by simp [results, Tryd.results17, asAddr, HR]) rfl ⟨_, by rw [HZ.out], by rw [HZ.out]; exact P10, NN⟩
end
end Go.Proofs.YtpapicnkhjcjoaaDoor
