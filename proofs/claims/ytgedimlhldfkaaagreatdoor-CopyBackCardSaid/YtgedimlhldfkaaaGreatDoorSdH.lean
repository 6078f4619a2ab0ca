/- The document's own answers on spaces of pages: an address's page and place. Contracts, in any world; behind each there are only new blocks. -/
import Derived.Test.YtgedimlhldfkaaaGreatDoorSdF
import Derived.Test.YtgedimlhldfkaaaGreatDoorSpD
import Derived.Test.YtgedimlhldfkaaaGreatDoorReQ
namespace Go.Proofs.YtgedimlhldfkaaaGreatDoor
open Go.RowKit Go.Joins
set_option linter.unusedVariables false
set_option maxRecDepth 100000
section
variable {E w wr w' : World} {d : DW} {s : DS}
theorem rplace_any (a : Nat) (n : Int) (w : World) (ha : a < 4294967296) (hn : -9223372036854775808 ≤ n ∧ n ≤ 9223372036854775807) :
    Calls Tryz.prog 118 #[.int .u32 a, .int .i64 n] w fun e w' => e = .returned (.tuple #[.int .i64 ((a / 256 : Nat) : Int), .int .i64 ((a % 256 : Nat) : Int), .bool (plc a n)]) ∧ w = w' := by
  have e1 : (a : Int).tdiv 256 = ((a / 256 : Nat) : Int) := by rw [Int.tdiv_eq_ediv_of_nonneg (by omega)]; omega
  have e2 : (a : Int).tmod 256 = ((a % 256 : Nat) : Int) := by rw [Int.tmod_eq_emod_of_nonneg (by omega)]; omega
  have hq := @plc_iff a n
  obtain ⟨q, hq1, hqb⟩ : ∃ q, a / 256 = q ∧ q < 16777216 := ⟨_, rfl, by omega⟩
  obtain ⟨o, ho1, hob⟩ : ∃ o, a % 256 = o ∧ o < 256 := ⟨_, rfl, by omega⟩
  have ha' : (a : Int) / 256 = (q : Int) := by omega
  have ho' : (a : Int) % 256 = (o : Int) := by omega
  rw [hq1, ho1] at hq
  rw [hq1] at e1
  rw [ho1] at e2
  rw [hq1, ho1]
  generalize plc a n = P at *
  clear hq1 ho1
  by_cases c1 : q < 4096
  · have g1 : decide ((q : Int) < 4096) = true := by simp; omega
    by_cases c2 : 0 ≤ n
    · have g2 : decide (0 ≤ n) = true := by simpa using c2
      by_cases c3 : n ≤ 256
      · have g3 : decide (n ≤ 256) = true := by simpa using c3
        by_cases c4 : (o : Int) + n ≤ 256
        · have g4 : decide ((o : Int) + n ≤ 256) = true := by simpa using c4
          obtain rfl : P = true := hq.2 ⟨by omega, by omega, by omega⟩
          clear hq
          go_enter Tryz.func118, Tryz.ntmps118
          go_wp2
          exact bodyPost_ret (v := .tuple #[.int .i64 (q : Int), .int .i64 (o : Int), .bool true]) (by simp [results, Tryz.results118, go_sem]) rfl ⟨rfl, rfl⟩
        · have g4 : decide ((o : Int) + n ≤ 256) = false := by simpa using c4
          obtain rfl : P = false := by
            cases P with
            | false => rfl
            | true => have := hq.1 rfl; omega
          clear hq
          go_enter Tryz.func118, Tryz.ntmps118
          go_wp2
          exact bodyPost_ret (v := .tuple #[.int .i64 (q : Int), .int .i64 (o : Int), .bool false]) (by simp [results, Tryz.results118, go_sem]) rfl ⟨rfl, rfl⟩
      · have g3 : decide (n ≤ 256) = false := by simpa using c3
        obtain rfl : P = false := by
          cases P with
          | false => rfl
          | true => have := hq.1 rfl; omega
        clear hq
        go_enter Tryz.func118, Tryz.ntmps118
        go_wp2
        exact bodyPost_ret (v := .tuple #[.int .i64 (q : Int), .int .i64 (o : Int), .bool false]) (by simp [results, Tryz.results118, go_sem]) rfl ⟨rfl, rfl⟩
    · have g2 : decide (0 ≤ n) = false := by simpa using c2
      obtain rfl : P = false := by
        cases P with
        | false => rfl
        | true => have := hq.1 rfl; omega
      clear hq
      go_enter Tryz.func118, Tryz.ntmps118
      go_wp2
      exact bodyPost_ret (v := .tuple #[.int .i64 (q : Int), .int .i64 (o : Int), .bool false]) (by simp [results, Tryz.results118, go_sem]) rfl ⟨rfl, rfl⟩
  · have g1 : decide ((q : Int) < 4096) = false := by simp; omega
    obtain rfl : P = false := by
      cases P with
      | false => rfl
      | true => have := hq.1 rfl; omega
    clear hq
    go_enter Tryz.func118, Tryz.ntmps118
    go_wp2
    exact bodyPost_ret (v := .tuple #[.int .i64 (q : Int), .int .i64 (o : Int), .bool false]) (by simp [results, Tryz.results118, go_sem]) rfl ⟨rfl, rfl⟩
end
end Go.Proofs.YtgedimlhldfkaaaGreatDoor
namespace Go.Proofs.YtgedimlhldfkaaaGreatDoor
open Go.RowKit Go.Joins
set_option linter.unusedVariables false
set_option maxRecDepth 100000
section
variable {E w wr w' : World} {d : DW} {s : DS}
/-- a space and a number, told -/
def MapD (V0 : Value) (s : DS) (c : Int) (w : World) (e : Ending) (w' : World) : Prop := ∃ V, e = .returned (.tuple #[V, .int .i64 c]) ∧ DSv w' V s ∧ New w w' ∧ ∀ b, b ≤ w.heap.size → VS b V0 → VS b V
set_option maxHeartbeats 4000000 in
theorem rmap_gone {L : List Rg} {it : List (Int × Int)} {up : List Int} (V : Value) (hS : DSv w V ⟨L, it, up, true⟩) (r : Rg) : Calls Tryz.prog 63 #[V, .agg #[.int .i64 r.f, .int .i64 r.t, .int .u8 (r.p : Int)]] w (MapD V ⟨L, it, up, true⟩ 22 w) := by
  obtain ⟨vR, vL, vU, rfl, hG, hI, hU⟩ := hS
  have X := fun E (n : New w E) => dadd_any E _ _ r (hG.arg.new n)
  obtain ⟨p3, k3, c3, rfl⟩ := hG.slc
  obtain ⟨p4, k4, c4, rfl⟩ := hI.slc
  obtain ⟨p5, k5, c5, rfl⟩ := hU.slc
  obtain ⟨E, hE⟩ : ∃ E, E = ((w.alloc (.cells #[.slice p3 k3 c3, .slice p4 k4 c4, .slice p5 k5 c5, .bool true] 84)).alloc (.cells #[.int .i64 r.f, .int .i64 r.t, .int .u8 (r.p : Int)] 50)).alloc (.cells #[.slice none 0 0, .slice none 0 0, .slice none 0 0, .bool false] 84) := ⟨_, rfl⟩
  have n0 : New w E := by rw [hE]; exact (((New.refl w).alloc _ _).alloc _ _).alloc _ _
  have bA : Box E w.heap.size #[.slice p3 k3 c3, .slice p4 k4 c4, .slice p5 k5 c5, .bool true] 84 := by rw [hE]; exact ((Box.here w _ _ _ rfl).alloc _).alloc _
  have bZ : Box E (w.heap.size + 1 + 1) #[.slice none 0 0, .slice none 0 0, .slice none 0 0, .bool false] 84 := by rw [hE]; exact Box.here _ _ _ _ (by rw [World.size_alloc, World.size_alloc])
  have lZ := bZ.lt
  have HG := Lib.hid hG
  have HI := Lib.hid hI
  have HU := Lib.hid hU
  clear hG hI hU
  clear X
  have END := show Box (st4 E (w.heap.size + 1 + 1) (.slice p3 k3 c3) (.slice p4 k4 c4) (.slice p5 k5 c5) (.bool true)) (w.heap.size + 1 + 1) #[.slice p3 k3 c3, .slice p4 k4 c4, .slice p5 k5 c5, .bool true] 84 ∧ New w (st4 E (w.heap.size + 1 + 1) (.slice p3 k3 c3) (.slice p4 k4 c4) (.slice p5 k5 c5) (.bool true)) from
    ⟨Box.st4 bZ, New.st4 n0 (by omega) _ _ _ _⟩
  have HT := Lib.hid END
  obtain ⟨a0, a1, a2, a3⟩ := bA.four
  obtain ⟨z0, z1, z2, z3⟩ := bZ.four
  have fz0 := bZ.unfrozen 0
  have fz1 := bZ.unfrozen 1
  have fz2 := bZ.unfrozen 2
  have fz3 := bZ.unfrozen 3
  clear END bA bZ
  go_enter Tryz.func63, Tryz.ntmps63
  go_wp2_with fail
  clear a0 a1 a2 a3 z0 z1 z2 z3 fz0 fz1 fz2 fz3
  have N : New w (((w.alloc (.cells #[.slice p3 k3 c3, .slice p4 k4 c4, .slice p5 k5 c5, .bool true] 84)).alloc (.cells #[.int .i64 r.f, .int .i64 r.t, .int .u8 (r.p : Int)] 50)).alloc (.cells #[.slice p3 k3 c3, .slice p4 k4 c4, .slice p5 k5 c5, .bool true] 84)) := (((New.refl w).alloc _ _).alloc _ _).alloc _ _
  exact bodyPost_ret (v := .tuple #[.agg #[.slice p3 k3 c3, .slice p4 k4 c4, .slice p5 k5 c5, .bool true], .int .i64 22]) (by simp [results, Tryz.results63, go_sem]) rfl ⟨_, rfl, ⟨_, _, _, rfl, HG.out.new N, HI.out.new N, HU.out.new N⟩, N, fun _ _ h => h⟩
set_option maxHeartbeats 4000000 in
theorem rmap_no {L : List Rg} {it : List (Int × Int)} {up : List Int} (V : Value) (hS : DSv w V ⟨L, it, up, false⟩) (r : Rg) (c : Int) (hc : adE L r = c) (he : c ≠ 0) : Calls Tryz.prog 63 #[V, .agg #[.int .i64 r.f, .int .i64 r.t, .int .u8 (r.p : Int)]] w (MapD V ⟨L, it, up, false⟩ c w) := by
  obtain ⟨vR, vL, vU, rfl, hG, hI, hU⟩ := hS
  have X := fun E (n : New w E) => dadd_any E _ _ r (hG.arg.new n)
  obtain ⟨p3, k3, c3, rfl⟩ := hG.slc
  obtain ⟨p4, k4, c4, rfl⟩ := hI.slc
  obtain ⟨p5, k5, c5, rfl⟩ := hU.slc
  obtain ⟨E, hE⟩ : ∃ E, E = ((w.alloc (.cells #[.slice p3 k3 c3, .slice p4 k4 c4, .slice p5 k5 c5, .bool false] 84)).alloc (.cells #[.int .i64 r.f, .int .i64 r.t, .int .u8 (r.p : Int)] 50)).alloc (.cells #[.slice none 0 0, .slice none 0 0, .slice none 0 0, .bool false] 84) := ⟨_, rfl⟩
  have n0 : New w E := by rw [hE]; exact (((New.refl w).alloc _ _).alloc _ _).alloc _ _
  have bA : Box E w.heap.size #[.slice p3 k3 c3, .slice p4 k4 c4, .slice p5 k5 c5, .bool false] 84 := by rw [hE]; exact ((Box.here w _ _ _ rfl).alloc _).alloc _
  have bZ : Box E (w.heap.size + 1 + 1) #[.slice none 0 0, .slice none 0 0, .slice none 0 0, .bool false] 84 := by rw [hE]; exact Box.here _ _ _ _ (by rw [World.size_alloc, World.size_alloc])
  have lZ := bZ.lt
  have HG := Lib.hid hG
  have HI := Lib.hid hI
  have HU := Lib.hid hU
  clear hG hI hU
  have X1 := X E n0
  rw [hc] at X1
  clear X
  go_enter Tryz.func63, Tryz.ntmps63
  go_wp2_with fail
  rw [← hE]
  refine X1.mono ?_
  rintro e w1 ⟨v1, rfl, o1, n1⟩
  have n2 := n0.trans n1
  have bA1 := bA.new n1
  have bZ1 := bZ.new n1
  obtain ⟨p7, c7, rfl⟩ := OwnR.shape o1
  have END := show Box (st4 w1 (w.heap.size + 1 + 1) (.slice p3 k3 c3) (.slice p4 k4 c4) (.slice p5 k5 c5) (.bool false)) (w.heap.size + 1 + 1) #[.slice p3 k3 c3, .slice p4 k4 c4, .slice p5 k5 c5, .bool false] 84 ∧ New w (st4 w1 (w.heap.size + 1 + 1) (.slice p3 k3 c3) (.slice p4 k4 c4) (.slice p5 k5 c5) (.bool false)) from
    ⟨Box.st4 bZ1, New.st4 n2 (by omega) _ _ _ _⟩
  have HT := Lib.hid END
  obtain ⟨a0, a1, a2, a3⟩ := bA1.four
  obtain ⟨z0, z1, z2, z3⟩ := bZ1.four
  have fz0 := bZ1.unfrozen 0
  have fz1 := bZ1.unfrozen 1
  have fz2 := bZ1.unfrozen 2
  have fz3 := bZ1.unfrozen 3
  have gc : (c == 0) = false := by simpa using he
  clear END bA bZ
  clear hE bA1 bZ1 X1 n0 n1 n2 o1
  go_wp2_with fail
  obtain ⟨Z, N⟩ := HT.out
  unfold st4 at Z N
  obtain ⟨r0, r1, r2, r3⟩ := Z.four
  exact bodyPost_ret (v := .tuple #[.agg #[.slice p3 k3 c3, .slice p4 k4 c4, .slice p5 k5 c5, .bool false], .int .i64 c]) (by simp [results, Tryz.results63, go_sem, r0, r1, r2, r3]) rfl ⟨_, rfl, ⟨_, _, _, rfl, HG.out.new N, HI.out.new N, HU.out.new N⟩, N, fun _ _ h => h⟩
set_option maxHeartbeats 4000000 in
theorem rmap_yes {L : List Rg} {it : List (Int × Int)} {up : List Int} (V : Value) (hS : DSv w V ⟨L, it, up, false⟩) (r : Rg) (he : adE L r = 0) : Calls Tryz.prog 63 #[V, .agg #[.int .i64 r.f, .int .i64 r.t, .int .u8 (r.p : Int)]] w (MapD V ⟨(adL L r), it, up, false⟩ 0 w) := by
  obtain ⟨vR, vL, vU, rfl, hG, hI, hU⟩ := hS
  have X := fun E (n : New w E) => dadd_any E _ _ r (hG.arg.new n)
  obtain ⟨p3, k3, c3, rfl⟩ := hG.slc
  obtain ⟨p4, k4, c4, rfl⟩ := hI.slc
  obtain ⟨p5, k5, c5, rfl⟩ := hU.slc
  obtain ⟨E, hE⟩ : ∃ E, E = ((w.alloc (.cells #[.slice p3 k3 c3, .slice p4 k4 c4, .slice p5 k5 c5, .bool false] 84)).alloc (.cells #[.int .i64 r.f, .int .i64 r.t, .int .u8 (r.p : Int)] 50)).alloc (.cells #[.slice none 0 0, .slice none 0 0, .slice none 0 0, .bool false] 84) := ⟨_, rfl⟩
  have n0 : New w E := by rw [hE]; exact (((New.refl w).alloc _ _).alloc _ _).alloc _ _
  have bA : Box E w.heap.size #[.slice p3 k3 c3, .slice p4 k4 c4, .slice p5 k5 c5, .bool false] 84 := by rw [hE]; exact ((Box.here w _ _ _ rfl).alloc _).alloc _
  have bZ : Box E (w.heap.size + 1 + 1) #[.slice none 0 0, .slice none 0 0, .slice none 0 0, .bool false] 84 := by rw [hE]; exact Box.here _ _ _ _ (by rw [World.size_alloc, World.size_alloc])
  have lZ := bZ.lt
  have HG := Lib.hid hG
  have HI := Lib.hid hI
  have HU := Lib.hid hU
  clear hG hI hU
  have X1 := X E n0
  rw [he] at X1
  clear X
  go_enter Tryz.func63, Tryz.ntmps63
  go_wp2_with fail
  rw [← hE]
  refine X1.mono ?_
  rintro e w1 ⟨v1, rfl, o1, n1⟩
  have n2 := n0.trans n1
  have bA1 := bA.new n1
  have bZ1 := bZ.new n1
  obtain ⟨p7, c7, rfl⟩ := OwnR.shape o1
  have HVB := Lib.hid ((vb_own o1).mono n0.size)
  have bA2 : Box (w1.setCell ⟨w.heap.size, 0, none⟩ (.slice p7 (adL L r).length c7)) w.heap.size #[.slice p7 (adL L r).length c7, .slice p4 k4 c4, .slice p5 k5 c5, .bool false] 84 := bA1.set 0 _
  have bZ2 := bZ1.other (p := ⟨w.heap.size, 0, none⟩) (by simp; omega) (.slice p7 (adL L r).length c7)
  have n3 := n2.setCell (p := ⟨w.heap.size, 0, none⟩) (Nat.le_refl _) (.slice p7 (adL L r).length c7)
  have END := show Box (st4 (w1.setCell ⟨w.heap.size, 0, none⟩ (.slice p7 (adL L r).length c7)) (w.heap.size + 1 + 1) (.slice p7 (adL L r).length c7) (.slice p4 k4 c4) (.slice p5 k5 c5) (.bool false)) (w.heap.size + 1 + 1) #[.slice p7 (adL L r).length c7, .slice p4 k4 c4, .slice p5 k5 c5, .bool false] 84 ∧ New w (st4 (w1.setCell ⟨w.heap.size, 0, none⟩ (.slice p7 (adL L r).length c7)) (w.heap.size + 1 + 1) (.slice p7 (adL L r).length c7) (.slice p4 k4 c4) (.slice p5 k5 c5) (.bool false)) ∧ Rgs (st4 (w1.setCell ⟨w.heap.size, 0, none⟩ (.slice p7 (adL L r).length c7)) (w.heap.size + 1 + 1) (.slice p7 (adL L r).length c7) (.slice p4 k4 c4) (.slice p5 k5 c5) (.bool false)) (.slice p7 (adL L r).length c7) (adL L r) from
    ⟨Box.st4 bZ2, New.st4 n3 (by omega) _ _ _ _, OwnR.rgs (T := 50) (base := E.heap.size) (row_st4 (row_far o1 (p := ⟨w.heap.size, 0, none⟩) (by simp only; omega) _) (by omega) _ _ _ _)⟩
  have HT := Lib.hid END
  obtain ⟨a0, a1, a2, a3⟩ := bA2.four
  obtain ⟨z0, z1, z2, z3⟩ := bZ2.four
  have fz0 := bZ2.unfrozen 0
  have fz1 := bZ2.unfrozen 1
  have fz2 := bZ2.unfrozen 2
  have fz3 := bZ2.unfrozen 3
  obtain ⟨i0, _, _, _⟩ := bA1.four
  have fi := bA1.unfrozen 0
  clear END bA bZ
  clear hE bA1 bZ1 X1 n0 n1 n2 o1
  go_wp2_with fail
  obtain ⟨Z, N, R⟩ := HT.out
  unfold st4 at Z N R
  obtain ⟨r0, r1, r2, r3⟩ := Z.four
  exact bodyPost_ret (v := .tuple #[.agg #[.slice p7 (adL L r).length c7, .slice p4 k4 c4, .slice p5 k5 c5, .bool false], .int .i64 0]) (by simp [results, Tryz.results63, go_sem, r0, r1, r2, r3]) rfl ⟨_, rfl, ⟨_, _, _, rfl, R, HI.out.new N, HU.out.new N⟩, N, fun b hb h => VS.mk (HVB.out.mono hb) h.parts.2.1 h.parts.2.2⟩
set_option maxHeartbeats 4000000 in
theorem rprot_gone {L : List Rg} {it : List (Int × Int)} {up : List Int} (V : Value) (hS : DSv w V ⟨L, it, up, true⟩) (r : Rg) : Calls Tryz.prog 65 #[V, .int .i64 r.f, .int .i64 r.t, .int .u8 (r.p : Int)] w (MapD V ⟨L, it, up, true⟩ 22 w) := by
  obtain ⟨vR, vL, vU, rfl, hG, hI, hU⟩ := hS
  have X := fun E (n : New w E) => dprot_any E _ _ r (hG.arg.new n)
  obtain ⟨p3, k3, c3, rfl⟩ := hG.slc
  obtain ⟨p4, k4, c4, rfl⟩ := hI.slc
  obtain ⟨p5, k5, c5, rfl⟩ := hU.slc
  obtain ⟨E, hE⟩ : ∃ E, E = (w.alloc (.cells #[.slice p3 k3 c3, .slice p4 k4 c4, .slice p5 k5 c5, .bool true] 84)).alloc (.cells #[.slice none 0 0, .slice none 0 0, .slice none 0 0, .bool false] 84) := ⟨_, rfl⟩
  have n0 : New w E := by rw [hE]; exact ((New.refl w).alloc _ _).alloc _ _
  have bA : Box E w.heap.size #[.slice p3 k3 c3, .slice p4 k4 c4, .slice p5 k5 c5, .bool true] 84 := by rw [hE]; exact (Box.here w _ _ _ rfl).alloc _
  have bZ : Box E (w.heap.size + 1) #[.slice none 0 0, .slice none 0 0, .slice none 0 0, .bool false] 84 := by rw [hE]; exact Box.here _ _ _ _ (by rw [World.size_alloc])
  have lZ := bZ.lt
  have HG := Lib.hid hG
  have HI := Lib.hid hI
  have HU := Lib.hid hU
  clear hG hI hU
  clear X
  have END := show Box (st4 E (w.heap.size + 1) (.slice p3 k3 c3) (.slice p4 k4 c4) (.slice p5 k5 c5) (.bool true)) (w.heap.size + 1) #[.slice p3 k3 c3, .slice p4 k4 c4, .slice p5 k5 c5, .bool true] 84 ∧ New w (st4 E (w.heap.size + 1) (.slice p3 k3 c3) (.slice p4 k4 c4) (.slice p5 k5 c5) (.bool true)) from
    ⟨Box.st4 bZ, New.st4 n0 (by omega) _ _ _ _⟩
  have HT := Lib.hid END
  obtain ⟨a0, a1, a2, a3⟩ := bA.four
  obtain ⟨z0, z1, z2, z3⟩ := bZ.four
  have fz0 := bZ.unfrozen 0
  have fz1 := bZ.unfrozen 1
  have fz2 := bZ.unfrozen 2
  have fz3 := bZ.unfrozen 3
  clear END bA bZ
  go_enter Tryz.func65, Tryz.ntmps65
  go_wp2_with fail
  clear a0 a1 a2 a3 z0 z1 z2 z3 fz0 fz1 fz2 fz3
  have N : New w ((w.alloc (.cells #[.slice p3 k3 c3, .slice p4 k4 c4, .slice p5 k5 c5, .bool true] 84)).alloc (.cells #[.slice p3 k3 c3, .slice p4 k4 c4, .slice p5 k5 c5, .bool true] 84)) := ((New.refl w).alloc _ _).alloc _ _
  exact bodyPost_ret (v := .tuple #[.agg #[.slice p3 k3 c3, .slice p4 k4 c4, .slice p5 k5 c5, .bool true], .int .i64 22]) (by simp [results, Tryz.results65, go_sem]) rfl ⟨_, rfl, ⟨_, _, _, rfl, HG.out.new N, HI.out.new N, HU.out.new N⟩, N, fun _ _ h => h⟩
set_option maxHeartbeats 4000000 in
theorem rprot_no {L : List Rg} {it : List (Int × Int)} {up : List Int} (V : Value) (hS : DSv w V ⟨L, it, up, false⟩) (r : Rg) (c : Int) (hc : prE L r = c) (he : c ≠ 0) : Calls Tryz.prog 65 #[V, .int .i64 r.f, .int .i64 r.t, .int .u8 (r.p : Int)] w (MapD V ⟨L, it, up, false⟩ c w) := by
  obtain ⟨vR, vL, vU, rfl, hG, hI, hU⟩ := hS
  have X := fun E (n : New w E) => dprot_any E _ _ r (hG.arg.new n)
  obtain ⟨p3, k3, c3, rfl⟩ := hG.slc
  obtain ⟨p4, k4, c4, rfl⟩ := hI.slc
  obtain ⟨p5, k5, c5, rfl⟩ := hU.slc
  obtain ⟨E, hE⟩ : ∃ E, E = (w.alloc (.cells #[.slice p3 k3 c3, .slice p4 k4 c4, .slice p5 k5 c5, .bool false] 84)).alloc (.cells #[.slice none 0 0, .slice none 0 0, .slice none 0 0, .bool false] 84) := ⟨_, rfl⟩
  have n0 : New w E := by rw [hE]; exact ((New.refl w).alloc _ _).alloc _ _
  have bA : Box E w.heap.size #[.slice p3 k3 c3, .slice p4 k4 c4, .slice p5 k5 c5, .bool false] 84 := by rw [hE]; exact (Box.here w _ _ _ rfl).alloc _
  have bZ : Box E (w.heap.size + 1) #[.slice none 0 0, .slice none 0 0, .slice none 0 0, .bool false] 84 := by rw [hE]; exact Box.here _ _ _ _ (by rw [World.size_alloc])
  have lZ := bZ.lt
  have HG := Lib.hid hG
  have HI := Lib.hid hI
  have HU := Lib.hid hU
  clear hG hI hU
  have X1 := X E n0
  rw [hc] at X1
  clear X
  go_enter Tryz.func65, Tryz.ntmps65
  go_wp2_with fail
  rw [← hE]
  refine X1.mono ?_
  rintro e w1 ⟨v1, rfl, o1, n1⟩
  have n2 := n0.trans n1
  have bA1 := bA.new n1
  have bZ1 := bZ.new n1
  obtain ⟨p7, c7, rfl⟩ := OwnR.shape o1
  have END := show Box (st4 w1 (w.heap.size + 1) (.slice p3 k3 c3) (.slice p4 k4 c4) (.slice p5 k5 c5) (.bool false)) (w.heap.size + 1) #[.slice p3 k3 c3, .slice p4 k4 c4, .slice p5 k5 c5, .bool false] 84 ∧ New w (st4 w1 (w.heap.size + 1) (.slice p3 k3 c3) (.slice p4 k4 c4) (.slice p5 k5 c5) (.bool false)) from
    ⟨Box.st4 bZ1, New.st4 n2 (by omega) _ _ _ _⟩
  have HT := Lib.hid END
  obtain ⟨a0, a1, a2, a3⟩ := bA1.four
  obtain ⟨z0, z1, z2, z3⟩ := bZ1.four
  have fz0 := bZ1.unfrozen 0
  have fz1 := bZ1.unfrozen 1
  have fz2 := bZ1.unfrozen 2
  have fz3 := bZ1.unfrozen 3
  have gc : (c == 0) = false := by simpa using he
  clear END bA bZ
  clear hE bA1 bZ1 X1 n0 n1 n2 o1
  go_wp2_with fail
  obtain ⟨Z, N⟩ := HT.out
  unfold st4 at Z N
  obtain ⟨r0, r1, r2, r3⟩ := Z.four
  exact bodyPost_ret (v := .tuple #[.agg #[.slice p3 k3 c3, .slice p4 k4 c4, .slice p5 k5 c5, .bool false], .int .i64 c]) (by simp [results, Tryz.results65, go_sem, r0, r1, r2, r3]) rfl ⟨_, rfl, ⟨_, _, _, rfl, HG.out.new N, HI.out.new N, HU.out.new N⟩, N, fun _ _ h => h⟩
set_option maxHeartbeats 4000000 in
theorem rprot_yes {L : List Rg} {it : List (Int × Int)} {up : List Int} (V : Value) (hS : DSv w V ⟨L, it, up, false⟩) (r : Rg) (he : prE L r = 0) : Calls Tryz.prog 65 #[V, .int .i64 r.f, .int .i64 r.t, .int .u8 (r.p : Int)] w (MapD V ⟨(prL L r), it, up, false⟩ 0 w) := by
  obtain ⟨vR, vL, vU, rfl, hG, hI, hU⟩ := hS
  have X := fun E (n : New w E) => dprot_any E _ _ r (hG.arg.new n)
  obtain ⟨p3, k3, c3, rfl⟩ := hG.slc
  obtain ⟨p4, k4, c4, rfl⟩ := hI.slc
  obtain ⟨p5, k5, c5, rfl⟩ := hU.slc
  obtain ⟨E, hE⟩ : ∃ E, E = (w.alloc (.cells #[.slice p3 k3 c3, .slice p4 k4 c4, .slice p5 k5 c5, .bool false] 84)).alloc (.cells #[.slice none 0 0, .slice none 0 0, .slice none 0 0, .bool false] 84) := ⟨_, rfl⟩
  have n0 : New w E := by rw [hE]; exact ((New.refl w).alloc _ _).alloc _ _
  have bA : Box E w.heap.size #[.slice p3 k3 c3, .slice p4 k4 c4, .slice p5 k5 c5, .bool false] 84 := by rw [hE]; exact (Box.here w _ _ _ rfl).alloc _
  have bZ : Box E (w.heap.size + 1) #[.slice none 0 0, .slice none 0 0, .slice none 0 0, .bool false] 84 := by rw [hE]; exact Box.here _ _ _ _ (by rw [World.size_alloc])
  have lZ := bZ.lt
  have HG := Lib.hid hG
  have HI := Lib.hid hI
  have HU := Lib.hid hU
  clear hG hI hU
  have X1 := X E n0
  rw [he] at X1
  clear X
  go_enter Tryz.func65, Tryz.ntmps65
  go_wp2_with fail
  rw [← hE]
  refine X1.mono ?_
  rintro e w1 ⟨v1, rfl, o1, n1⟩
  have n2 := n0.trans n1
  have bA1 := bA.new n1
  have bZ1 := bZ.new n1
  obtain ⟨p7, c7, rfl⟩ := OwnR.shape o1
  have HVB := Lib.hid ((vb_own o1).mono n0.size)
  have bA2 : Box (w1.setCell ⟨w.heap.size, 0, none⟩ (.slice p7 (prL L r).length c7)) w.heap.size #[.slice p7 (prL L r).length c7, .slice p4 k4 c4, .slice p5 k5 c5, .bool false] 84 := bA1.set 0 _
  have bZ2 := bZ1.other (p := ⟨w.heap.size, 0, none⟩) (by simp) (.slice p7 (prL L r).length c7)
  have n3 := n2.setCell (p := ⟨w.heap.size, 0, none⟩) (Nat.le_refl _) (.slice p7 (prL L r).length c7)
  have END := show Box (st4 (w1.setCell ⟨w.heap.size, 0, none⟩ (.slice p7 (prL L r).length c7)) (w.heap.size + 1) (.slice p7 (prL L r).length c7) (.slice p4 k4 c4) (.slice p5 k5 c5) (.bool false)) (w.heap.size + 1) #[.slice p7 (prL L r).length c7, .slice p4 k4 c4, .slice p5 k5 c5, .bool false] 84 ∧ New w (st4 (w1.setCell ⟨w.heap.size, 0, none⟩ (.slice p7 (prL L r).length c7)) (w.heap.size + 1) (.slice p7 (prL L r).length c7) (.slice p4 k4 c4) (.slice p5 k5 c5) (.bool false)) ∧ Rgs (st4 (w1.setCell ⟨w.heap.size, 0, none⟩ (.slice p7 (prL L r).length c7)) (w.heap.size + 1) (.slice p7 (prL L r).length c7) (.slice p4 k4 c4) (.slice p5 k5 c5) (.bool false)) (.slice p7 (prL L r).length c7) (prL L r) from
    ⟨Box.st4 bZ2, New.st4 n3 (by omega) _ _ _ _, OwnR.rgs (T := 50) (base := E.heap.size) (row_st4 (row_far o1 (p := ⟨w.heap.size, 0, none⟩) (by simp only; omega) _) (by omega) _ _ _ _)⟩
  have HT := Lib.hid END
  obtain ⟨a0, a1, a2, a3⟩ := bA2.four
  obtain ⟨z0, z1, z2, z3⟩ := bZ2.four
  have fz0 := bZ2.unfrozen 0
  have fz1 := bZ2.unfrozen 1
  have fz2 := bZ2.unfrozen 2
  have fz3 := bZ2.unfrozen 3
  obtain ⟨i0, _, _, _⟩ := bA1.four
  have fi := bA1.unfrozen 0
  clear END bA bZ
  clear hE bA1 bZ1 X1 n0 n1 n2 o1
  go_wp2_with fail
  obtain ⟨Z, N, R⟩ := HT.out
  unfold st4 at Z N R
  obtain ⟨r0, r1, r2, r3⟩ := Z.four
  exact bodyPost_ret (v := .tuple #[.agg #[.slice p7 (prL L r).length c7, .slice p4 k4 c4, .slice p5 k5 c5, .bool false], .int .i64 0]) (by simp [results, Tryz.results65, go_sem, r0, r1, r2, r3]) rfl ⟨_, rfl, ⟨_, _, _, rfl, R, HI.out.new N, HU.out.new N⟩, N, fun b hb h => VS.mk (HVB.out.mono hb) h.parts.2.1 h.parts.2.2⟩
end
end Go.Proofs.YtgedimlhldfkaaaGreatDoor
