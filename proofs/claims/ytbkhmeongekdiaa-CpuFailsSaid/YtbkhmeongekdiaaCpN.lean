/- How the instruction at PC is executed: contracts, an operation each. -/
import Derived.Test.YtbkhmeongekdiaaCpM
import Derived.RegionTactic
namespace Go.Proofs.Ytbkhmeongekdiaa
open Go.RowKit Go.Joins
set_option linter.unusedVariables false
set_option maxRecDepth 100000
section
variable {w0 w w' : World} {cb db : Nat} {v : Value} {L : List Int} {x f : Nat → Int} {q a s : Int}
theorem nx_lo (x : Nat → Int) (j : Nat) (h : j < 16) : nx x j = x j := by unfold nx upd; rw [if_neg (by omega)]
theorem nx_17 (x : Nat → Int) : nx x 17 = x 17 := by unfold nx upd; rw [if_neg (by omega)]
theorem nx_16 (x : Nat → Int) : nx x 16 = m32 (x 16 + 4) := by unfold nx upd; rw [if_pos rfl]
theorem Came.back {w0 w1 : World} {A : Ans} {e : Ending} (h0 : But (SC cb db v) w0 w1) (hk : A.k ≠ 4) (h : Came (.tuple #[]) A w1 cb db v a s e w) : e = .returned (.tuple #[]) ∧ ∀ rv, Came rv A w0 cb db v a s (.returned rv) w := by
  obtain ⟨he, x', f', q', S5, h1, h2⟩ := h
  exact ⟨he.trans (if_neg hk), fun rv => ⟨(if_neg hk).symm, x', f', q', ⟨S5.1, S5.2.1, h0.trans S5.2.2⟩, h1, h2⟩⟩
theorem Came.fell {w0 w1 : World} {A : Ans} {e : Ending} (h0 : But (SC cb db v) w0 w1) (hk : A.k = 4) (h : Came (.tuple #[]) A w1 cb db v a s e w) : e = .panicked [{ v := pval A.s A.a, recovered := false }] ∧ ∀ rv, Came rv A w0 cb db v a s (.panicked [{ v := pval A.s A.a, recovered := false }]) w := by
  obtain ⟨he, x', f', q', S5, h1, h2⟩ := h
  exact ⟨he.trans (if_pos hk), fun rv => ⟨(if_pos hk).symm, x', f', q', ⟨S5.1, S5.2.1, h0.trans S5.2.2⟩, h1, h2⟩⟩
set_option maxHeartbeats 2000000 in
theorem ex_1 (hc : Co w cb db x f q) (h : Bd w db v L a s) (hx : Bx x) (hf : Bf f) (pc i j : Nat) (m : Int) (hpc : x 16 = pc) (hp : (pc : Int) % 4 = 0) (hh : hsn L pc 4) (hi : i < 16) (hj : j < 16) (m0 : -32768 ≤ m) (m1 : m ≤ 32767)
    (e1 : gtn L pc 4 / 16777216 = 1) (e2 : gtn L pc 4 / 1048576 % 16 = i) (e3 : gtn L pc 4 / 65536 % 16 = j) (e4 : imv (gtn L pc 4) = m) :
    Calls Try.prog 19 #[.pointer (some ⟨cb, 0, none⟩)] w (Came (.int .i64 (okA (upd (nx x) i (m32 m)) f L).k) (okA (upd (nx x) i (m32 m)) f L) w cb db v (wrap64 (a + 1)) s) := by
  have bp := hx 16 (by omega)
  rw [hpc] at bp
  have q1 := cfetch_ok hc h pc (by omega) hp hh (by omega)
  unfold insV at q1
  rw [e1, e2, e3, e4] at q1
  have c16 := hc.rx 16 (by omega)
  rw [hpc] at c16
  clear h hp hh e1 e2 e3 e4
  have i0 : (0 : Int) ≤ (i : Int) := by omega
  have i1 : (i : Int) < 16 := by omega
  have j0 : (0 : Int) ≤ (j : Int) := by omega
  have j1 : (j : Int) < 16 := by omega
  go_enter Try.func19, Try.ntmps19
  go_wp2_with fail
  refine q1.mono ?_
  rintro e W1 ⟨rfl, c1, b1, k1⟩
  have n2 := (New.refl W1).alloc #[.int .i64 1, .int .i64 i, .int .i64 j, .int .i64 m] 73
  have BI := Box.here W1 _ #[.int .i64 1, .int .i64 i, .int .i64 j, .int .i64 m] 73 rfl
  have S1 : St w cb db v (wrap64 (a + 1)) s x f pc L (W1.alloc (.cells #[.int .i64 1, .int .i64 i, .int .i64 j, .int .i64 m] 73)) := St.new ⟨c1, b1, k1⟩ n2
  have nb : W1.heap.size ≠ cb := Box.ne BI S1.1.1 (by decide)
  clear c1 b1 k1 q1 c16 hc n2
  have c16 := S1.1.rx 16 (by omega)
  rw [hpc] at c16
  have u16 := S1.1.un (1 + 16)
  have S2 := S1.setx 16 (by omega) (m32 ((pc : Int) + 4))
  have BI := BI.other (p := ⟨cb, 1 + 16, none⟩) (fun e => nb e.symm) (.int .u32 (m32 ((pc : Int) + 4)))
  have en : upd x 16 (m32 ((pc : Int) + 4)) = nx x := by unfold nx; rw [hpc]
  rw [en] at S2
  clear en nb
  have S2 := Lib.hid S2
  have BI := Lib.hid BI
  go_upto_region 4 with fail
  change Code.wp _ _ _ _ ((W1.alloc (.cells #[.int .i64 1, .int .i64 i, .int .i64 j, .int .i64 m] 73)).setCell ⟨cb, 1 + 16, none⟩ (.int .u32 (m32 ((pc : Int) + 4))))
  generalize ((W1.alloc (.cells #[.int .i64 1, .int .i64 i, .int .i64 j, .int .i64 m] 73)).setCell ⟨cb, 1 + 16, none⟩ (.int .u32 (m32 ((pc : Int) + 4)))) = W3 at *
  generalize W1.heap.size = ib at *
  clear c16 u16 S1
  obtain ⟨t0, t1, t2, t3⟩ := BI.out.four
  have cj := S2.out.1.rx j (by omega)
  rw [nx_lo x j hj] at cj
  have bj := hx j (by omega)
  obtain ⟨A, hA⟩ : ∃ A, A = adr x j m := ⟨_, rfl⟩
  have ad : (x j + m % 4294967296) % 4294967296 = A := by rw [hA]; unfold adr m32; omega
  have Ab : 0 ≤ A ∧ A ≤ 4294967295 := by rw [hA]; exact adr_bd x j m
  go_wp2_with fail
  go_region
  simp only [ad]
  clear ad
  have S4 := Lib.hid (S2.out.new (New.refl W3).drew)
  have t0 := (New.refl W3).drew.keeps t0
  have t1 := (New.refl W3).drew.keeps t1
  have t2 := (New.refl W3).drew.keeps t2
  have t3 := (New.refl W3).drew.keeps t3
  generalize W3.drew = W4 at *
  have cj := S4.out.1.rx j (by omega)
  rw [nx_lo x j hj] at cj
  have ci := S4.out.1.rx i (by omega)
  rw [nx_lo x i hi] at ci
  have ui := S4.out.1.un (1 + i)
  have c17 := S4.out.1.rx 17 (by omega)
  rw [nx_17] at c17
  clear S2 BI
  have em : m % 4294967296 = m32 m := rfl
  simp only [em]
  have Sf := Lib.hid (S4.out.setx i (by omega) (m32 m))
  go_wp2
  go_region
  all_goals
    go_wp2
    go_ret
    subst hA
    first
      | exact came_ok (n := 0) (k := 0) (s1 := 0) (a1 := 0) (by omega) (by omega) Sf.out
      | exact came_ok (n := 0) (k := 0) (s1 := 0) (a1 := 0) (by omega) (by omega) (Sf.out.new (New.refl _).drew)
      | exact came_ok (n := 0) (k := 0) (s1 := 0) (a1 := 0) (by omega) (by omega) (Sf.out.new (New.drewN (New.refl _) _))
set_option maxHeartbeats 2000000 in
theorem ex_2 (hc : Co w cb db x f q) (h : Bd w db v L a s) (hx : Bx x) (hf : Bf f) (pc i j : Nat) (m : Int) (hpc : x 16 = pc) (hp : (pc : Int) % 4 = 0) (hh : hsn L pc 4) (hi : i < 16) (hj : j < 16) (m0 : -32768 ≤ m) (m1 : m ≤ 32767)
    (e1 : gtn L pc 4 / 16777216 = 2) (e2 : gtn L pc 4 / 1048576 % 16 = i) (e3 : gtn L pc 4 / 65536 % 16 = j) (e4 : imv (gtn L pc 4) = m) :
    Calls Try.prog 19 #[.pointer (some ⟨cb, 0, none⟩)] w (Came (.int .i64 (okA (upd (nx x) i (m32 (65536 * m))) f L).k) (okA (upd (nx x) i (m32 (65536 * m))) f L) w cb db v (wrap64 (a + 1)) s) := by
  have bp := hx 16 (by omega)
  rw [hpc] at bp
  have q1 := cfetch_ok hc h pc (by omega) hp hh (by omega)
  unfold insV at q1
  rw [e1, e2, e3, e4] at q1
  have c16 := hc.rx 16 (by omega)
  rw [hpc] at c16
  clear h hp hh e1 e2 e3 e4
  have i0 : (0 : Int) ≤ (i : Int) := by omega
  have i1 : (i : Int) < 16 := by omega
  have j0 : (0 : Int) ≤ (j : Int) := by omega
  have j1 : (j : Int) < 16 := by omega
  go_enter Try.func19, Try.ntmps19
  go_wp2_with fail
  refine q1.mono ?_
  rintro e W1 ⟨rfl, c1, b1, k1⟩
  have n2 := (New.refl W1).alloc #[.int .i64 2, .int .i64 i, .int .i64 j, .int .i64 m] 73
  have BI := Box.here W1 _ #[.int .i64 2, .int .i64 i, .int .i64 j, .int .i64 m] 73 rfl
  have S1 : St w cb db v (wrap64 (a + 1)) s x f pc L (W1.alloc (.cells #[.int .i64 2, .int .i64 i, .int .i64 j, .int .i64 m] 73)) := St.new ⟨c1, b1, k1⟩ n2
  have nb : W1.heap.size ≠ cb := Box.ne BI S1.1.1 (by decide)
  clear c1 b1 k1 q1 c16 hc n2
  have c16 := S1.1.rx 16 (by omega)
  rw [hpc] at c16
  have u16 := S1.1.un (1 + 16)
  have S2 := S1.setx 16 (by omega) (m32 ((pc : Int) + 4))
  have BI := BI.other (p := ⟨cb, 1 + 16, none⟩) (fun e => nb e.symm) (.int .u32 (m32 ((pc : Int) + 4)))
  have en : upd x 16 (m32 ((pc : Int) + 4)) = nx x := by unfold nx; rw [hpc]
  rw [en] at S2
  clear en nb
  have S2 := Lib.hid S2
  have BI := Lib.hid BI
  go_upto_region 4 with fail
  change Code.wp _ _ _ _ ((W1.alloc (.cells #[.int .i64 2, .int .i64 i, .int .i64 j, .int .i64 m] 73)).setCell ⟨cb, 1 + 16, none⟩ (.int .u32 (m32 ((pc : Int) + 4))))
  generalize ((W1.alloc (.cells #[.int .i64 2, .int .i64 i, .int .i64 j, .int .i64 m] 73)).setCell ⟨cb, 1 + 16, none⟩ (.int .u32 (m32 ((pc : Int) + 4)))) = W3 at *
  generalize W1.heap.size = ib at *
  clear c16 u16 S1
  obtain ⟨t0, t1, t2, t3⟩ := BI.out.four
  have cj := S2.out.1.rx j (by omega)
  rw [nx_lo x j hj] at cj
  have bj := hx j (by omega)
  obtain ⟨A, hA⟩ : ∃ A, A = adr x j m := ⟨_, rfl⟩
  have ad : (x j + m % 4294967296) % 4294967296 = A := by rw [hA]; unfold adr m32; omega
  have Ab : 0 ≤ A ∧ A ≤ 4294967295 := by rw [hA]; exact adr_bd x j m
  go_wp2_with fail
  go_region
  simp only [ad]
  clear ad
  have S4 := Lib.hid (S2.out.new (New.refl W3).drew)
  have t0 := (New.refl W3).drew.keeps t0
  have t1 := (New.refl W3).drew.keeps t1
  have t2 := (New.refl W3).drew.keeps t2
  have t3 := (New.refl W3).drew.keeps t3
  generalize W3.drew = W4 at *
  have cj := S4.out.1.rx j (by omega)
  rw [nx_lo x j hj] at cj
  have ci := S4.out.1.rx i (by omega)
  rw [nx_lo x i hi] at ci
  have ui := S4.out.1.un (1 + i)
  have c17 := S4.out.1.rx 17 (by omega)
  rw [nx_17] at c17
  clear S2 BI
  have em : m % 4294967296 * 65536 % 4294967296 = m32 (65536 * m) := by unfold m32; omega
  have Sf := Lib.hid (S4.out.setx i (by omega) (m32 (65536 * m)))
  go_wp2
  go_region
  all_goals
    go_wp2
    go_ret
    subst hA
    first
      | exact came_ok (n := 0) (k := 0) (s1 := 0) (a1 := 0) (by omega) (by omega) Sf.out
      | exact came_ok (n := 0) (k := 0) (s1 := 0) (a1 := 0) (by omega) (by omega) (Sf.out.new (New.refl _).drew)
      | exact came_ok (n := 0) (k := 0) (s1 := 0) (a1 := 0) (by omega) (by omega) (Sf.out.new (New.drewN (New.refl _) _))
set_option maxHeartbeats 2000000 in
theorem ex_3 (hc : Co w cb db x f q) (h : Bd w db v L a s) (hx : Bx x) (hf : Bf f) (pc i j : Nat) (m : Int) (hpc : x 16 = pc) (hp : (pc : Int) % 4 = 0) (hh : hsn L pc 4) (hi : i < 16) (hj : j < 16) (m0 : -32768 ≤ m) (m1 : m ≤ 32767)
    (e1 : gtn L pc 4 / 16777216 = 3) (e2 : gtn L pc 4 / 1048576 % 16 = i) (e3 : gtn L pc 4 / 65536 % 16 = j) (e4 : imv (gtn L pc 4) = m) :
    Calls Try.prog 19 #[.pointer (some ⟨cb, 0, none⟩)] w (Came (.int .i64 (okA (upd (nx x) i (x j)) f L).k) (okA (upd (nx x) i (x j)) f L) w cb db v (wrap64 (a + 1)) s) := by
  have bp := hx 16 (by omega)
  rw [hpc] at bp
  have q1 := cfetch_ok hc h pc (by omega) hp hh (by omega)
  unfold insV at q1
  rw [e1, e2, e3, e4] at q1
  have c16 := hc.rx 16 (by omega)
  rw [hpc] at c16
  clear h hp hh e1 e2 e3 e4
  have i0 : (0 : Int) ≤ (i : Int) := by omega
  have i1 : (i : Int) < 16 := by omega
  have j0 : (0 : Int) ≤ (j : Int) := by omega
  have j1 : (j : Int) < 16 := by omega
  go_enter Try.func19, Try.ntmps19
  go_wp2_with fail
  refine q1.mono ?_
  rintro e W1 ⟨rfl, c1, b1, k1⟩
  have n2 := (New.refl W1).alloc #[.int .i64 3, .int .i64 i, .int .i64 j, .int .i64 m] 73
  have BI := Box.here W1 _ #[.int .i64 3, .int .i64 i, .int .i64 j, .int .i64 m] 73 rfl
  have S1 : St w cb db v (wrap64 (a + 1)) s x f pc L (W1.alloc (.cells #[.int .i64 3, .int .i64 i, .int .i64 j, .int .i64 m] 73)) := St.new ⟨c1, b1, k1⟩ n2
  have nb : W1.heap.size ≠ cb := Box.ne BI S1.1.1 (by decide)
  clear c1 b1 k1 q1 c16 hc n2
  have c16 := S1.1.rx 16 (by omega)
  rw [hpc] at c16
  have u16 := S1.1.un (1 + 16)
  have S2 := S1.setx 16 (by omega) (m32 ((pc : Int) + 4))
  have BI := BI.other (p := ⟨cb, 1 + 16, none⟩) (fun e => nb e.symm) (.int .u32 (m32 ((pc : Int) + 4)))
  have en : upd x 16 (m32 ((pc : Int) + 4)) = nx x := by unfold nx; rw [hpc]
  rw [en] at S2
  clear en nb
  have S2 := Lib.hid S2
  have BI := Lib.hid BI
  go_upto_region 4 with fail
  change Code.wp _ _ _ _ ((W1.alloc (.cells #[.int .i64 3, .int .i64 i, .int .i64 j, .int .i64 m] 73)).setCell ⟨cb, 1 + 16, none⟩ (.int .u32 (m32 ((pc : Int) + 4))))
  generalize ((W1.alloc (.cells #[.int .i64 3, .int .i64 i, .int .i64 j, .int .i64 m] 73)).setCell ⟨cb, 1 + 16, none⟩ (.int .u32 (m32 ((pc : Int) + 4)))) = W3 at *
  generalize W1.heap.size = ib at *
  clear c16 u16 S1
  obtain ⟨t0, t1, t2, t3⟩ := BI.out.four
  have cj := S2.out.1.rx j (by omega)
  rw [nx_lo x j hj] at cj
  have bj := hx j (by omega)
  obtain ⟨A, hA⟩ : ∃ A, A = adr x j m := ⟨_, rfl⟩
  have ad : (x j + m % 4294967296) % 4294967296 = A := by rw [hA]; unfold adr m32; omega
  have Ab : 0 ≤ A ∧ A ≤ 4294967295 := by rw [hA]; exact adr_bd x j m
  go_wp2_with fail
  go_region
  simp only [ad]
  clear ad
  have S4 := Lib.hid (S2.out.new (New.refl W3).drew)
  have t0 := (New.refl W3).drew.keeps t0
  have t1 := (New.refl W3).drew.keeps t1
  have t2 := (New.refl W3).drew.keeps t2
  have t3 := (New.refl W3).drew.keeps t3
  generalize W3.drew = W4 at *
  have cj := S4.out.1.rx j (by omega)
  rw [nx_lo x j hj] at cj
  have ci := S4.out.1.rx i (by omega)
  rw [nx_lo x i hi] at ci
  have ui := S4.out.1.un (1 + i)
  have c17 := S4.out.1.rx 17 (by omega)
  rw [nx_17] at c17
  clear S2 BI
  have Sf := Lib.hid (S4.out.setx i (by omega) (x j))
  go_wp2
  go_region
  all_goals
    go_wp2
    go_ret
    subst hA
    first
      | exact came_ok (n := 0) (k := 0) (s1 := 0) (a1 := 0) (by omega) (by omega) Sf.out
      | exact came_ok (n := 0) (k := 0) (s1 := 0) (a1 := 0) (by omega) (by omega) (Sf.out.new (New.refl _).drew)
      | exact came_ok (n := 0) (k := 0) (s1 := 0) (a1 := 0) (by omega) (by omega) (Sf.out.new (New.drewN (New.refl _) _))
set_option maxHeartbeats 2000000 in
theorem ex_15 (hc : Co w cb db x f q) (h : Bd w db v L a s) (hx : Bx x) (hf : Bf f) (pc i j : Nat) (m : Int) (hpc : x 16 = pc) (hp : (pc : Int) % 4 = 0) (hh : hsn L pc 4) (hi : i < 16) (hj : j < 16) (m0 : -32768 ≤ m) (m1 : m ≤ 32767)
    (e1 : gtn L pc 4 / 16777216 = 15) (e2 : gtn L pc 4 / 1048576 % 16 = i) (e3 : gtn L pc 4 / 65536 % 16 = j) (e4 : imv (gtn L pc 4) = m) :
    Calls Try.prog 19 #[.pointer (some ⟨cb, 0, none⟩)] w (Came (.int .i64 (okA (upd (nx x) i (adr x j m)) f L).k) (okA (upd (nx x) i (adr x j m)) f L) w cb db v (wrap64 (a + 1)) s) := by
  have bp := hx 16 (by omega)
  rw [hpc] at bp
  have q1 := cfetch_ok hc h pc (by omega) hp hh (by omega)
  unfold insV at q1
  rw [e1, e2, e3, e4] at q1
  have c16 := hc.rx 16 (by omega)
  rw [hpc] at c16
  clear h hp hh e1 e2 e3 e4
  have i0 : (0 : Int) ≤ (i : Int) := by omega
  have i1 : (i : Int) < 16 := by omega
  have j0 : (0 : Int) ≤ (j : Int) := by omega
  have j1 : (j : Int) < 16 := by omega
  go_enter Try.func19, Try.ntmps19
  go_wp2_with fail
  refine q1.mono ?_
  rintro e W1 ⟨rfl, c1, b1, k1⟩
  have n2 := (New.refl W1).alloc #[.int .i64 15, .int .i64 i, .int .i64 j, .int .i64 m] 73
  have BI := Box.here W1 _ #[.int .i64 15, .int .i64 i, .int .i64 j, .int .i64 m] 73 rfl
  have S1 : St w cb db v (wrap64 (a + 1)) s x f pc L (W1.alloc (.cells #[.int .i64 15, .int .i64 i, .int .i64 j, .int .i64 m] 73)) := St.new ⟨c1, b1, k1⟩ n2
  have nb : W1.heap.size ≠ cb := Box.ne BI S1.1.1 (by decide)
  clear c1 b1 k1 q1 c16 hc n2
  have c16 := S1.1.rx 16 (by omega)
  rw [hpc] at c16
  have u16 := S1.1.un (1 + 16)
  have S2 := S1.setx 16 (by omega) (m32 ((pc : Int) + 4))
  have BI := BI.other (p := ⟨cb, 1 + 16, none⟩) (fun e => nb e.symm) (.int .u32 (m32 ((pc : Int) + 4)))
  have en : upd x 16 (m32 ((pc : Int) + 4)) = nx x := by unfold nx; rw [hpc]
  rw [en] at S2
  clear en nb
  have S2 := Lib.hid S2
  have BI := Lib.hid BI
  go_upto_region 4 with fail
  change Code.wp _ _ _ _ ((W1.alloc (.cells #[.int .i64 15, .int .i64 i, .int .i64 j, .int .i64 m] 73)).setCell ⟨cb, 1 + 16, none⟩ (.int .u32 (m32 ((pc : Int) + 4))))
  generalize ((W1.alloc (.cells #[.int .i64 15, .int .i64 i, .int .i64 j, .int .i64 m] 73)).setCell ⟨cb, 1 + 16, none⟩ (.int .u32 (m32 ((pc : Int) + 4)))) = W3 at *
  generalize W1.heap.size = ib at *
  clear c16 u16 S1
  obtain ⟨t0, t1, t2, t3⟩ := BI.out.four
  have cj := S2.out.1.rx j (by omega)
  rw [nx_lo x j hj] at cj
  have bj := hx j (by omega)
  obtain ⟨A, hA⟩ : ∃ A, A = adr x j m := ⟨_, rfl⟩
  have ad : (x j + m % 4294967296) % 4294967296 = A := by rw [hA]; unfold adr m32; omega
  have Ab : 0 ≤ A ∧ A ≤ 4294967295 := by rw [hA]; exact adr_bd x j m
  go_wp2_with fail
  go_region
  simp only [ad]
  clear ad
  have S4 := Lib.hid (S2.out.new (New.refl W3).drew)
  have t0 := (New.refl W3).drew.keeps t0
  have t1 := (New.refl W3).drew.keeps t1
  have t2 := (New.refl W3).drew.keeps t2
  have t3 := (New.refl W3).drew.keeps t3
  generalize W3.drew = W4 at *
  have cj := S4.out.1.rx j (by omega)
  rw [nx_lo x j hj] at cj
  have ci := S4.out.1.rx i (by omega)
  rw [nx_lo x i hi] at ci
  have ui := S4.out.1.un (1 + i)
  have c17 := S4.out.1.rx 17 (by omega)
  rw [nx_17] at c17
  clear S2 BI
  have Sf := Lib.hid (S4.out.setx i (by omega) (A))
  go_wp2
  go_region
  all_goals
    go_wp2
    go_ret
    subst hA
    first
      | exact came_ok (n := 0) (k := 0) (s1 := 0) (a1 := 0) (by omega) (by omega) Sf.out
      | exact came_ok (n := 0) (k := 0) (s1 := 0) (a1 := 0) (by omega) (by omega) (Sf.out.new (New.refl _).drew)
      | exact came_ok (n := 0) (k := 0) (s1 := 0) (a1 := 0) (by omega) (by omega) (Sf.out.new (New.drewN (New.refl _) _))
set_option maxHeartbeats 2000000 in
theorem ex_41 (hc : Co w cb db x f q) (h : Bd w db v L a s) (hx : Bx x) (hf : Bf f) (pc i j : Nat) (m : Int) (hpc : x 16 = pc) (hp : (pc : Int) % 4 = 0) (hh : hsn L pc 4) (hi : i < 16) (hj : j < 16) (m0 : -32768 ≤ m) (m1 : m ≤ 32767)
    (e1 : gtn L pc 4 / 16777216 = 41) (e2 : gtn L pc 4 / 1048576 % 16 = i) (e3 : gtn L pc 4 / 65536 % 16 = j) (e4 : imv (gtn L pc 4) = m) :
    Calls Try.prog 19 #[.pointer (some ⟨cb, 0, none⟩)] w (Came (.int .i64 (okA (upd (nx x) i (x 17 % 16)) f L).k) (okA (upd (nx x) i (x 17 % 16)) f L) w cb db v (wrap64 (a + 1)) s) := by
  have bp := hx 16 (by omega)
  rw [hpc] at bp
  have q1 := cfetch_ok hc h pc (by omega) hp hh (by omega)
  unfold insV at q1
  rw [e1, e2, e3, e4] at q1
  have c16 := hc.rx 16 (by omega)
  rw [hpc] at c16
  clear h hp hh e1 e2 e3 e4
  have i0 : (0 : Int) ≤ (i : Int) := by omega
  have i1 : (i : Int) < 16 := by omega
  have j0 : (0 : Int) ≤ (j : Int) := by omega
  have j1 : (j : Int) < 16 := by omega
  go_enter Try.func19, Try.ntmps19
  go_wp2_with fail
  refine q1.mono ?_
  rintro e W1 ⟨rfl, c1, b1, k1⟩
  have n2 := (New.refl W1).alloc #[.int .i64 41, .int .i64 i, .int .i64 j, .int .i64 m] 73
  have BI := Box.here W1 _ #[.int .i64 41, .int .i64 i, .int .i64 j, .int .i64 m] 73 rfl
  have S1 : St w cb db v (wrap64 (a + 1)) s x f pc L (W1.alloc (.cells #[.int .i64 41, .int .i64 i, .int .i64 j, .int .i64 m] 73)) := St.new ⟨c1, b1, k1⟩ n2
  have nb : W1.heap.size ≠ cb := Box.ne BI S1.1.1 (by decide)
  clear c1 b1 k1 q1 c16 hc n2
  have c16 := S1.1.rx 16 (by omega)
  rw [hpc] at c16
  have u16 := S1.1.un (1 + 16)
  have S2 := S1.setx 16 (by omega) (m32 ((pc : Int) + 4))
  have BI := BI.other (p := ⟨cb, 1 + 16, none⟩) (fun e => nb e.symm) (.int .u32 (m32 ((pc : Int) + 4)))
  have en : upd x 16 (m32 ((pc : Int) + 4)) = nx x := by unfold nx; rw [hpc]
  rw [en] at S2
  clear en nb
  have S2 := Lib.hid S2
  have BI := Lib.hid BI
  go_upto_region 4 with fail
  change Code.wp _ _ _ _ ((W1.alloc (.cells #[.int .i64 41, .int .i64 i, .int .i64 j, .int .i64 m] 73)).setCell ⟨cb, 1 + 16, none⟩ (.int .u32 (m32 ((pc : Int) + 4))))
  generalize ((W1.alloc (.cells #[.int .i64 41, .int .i64 i, .int .i64 j, .int .i64 m] 73)).setCell ⟨cb, 1 + 16, none⟩ (.int .u32 (m32 ((pc : Int) + 4)))) = W3 at *
  generalize W1.heap.size = ib at *
  clear c16 u16 S1
  obtain ⟨t0, t1, t2, t3⟩ := BI.out.four
  have cj := S2.out.1.rx j (by omega)
  rw [nx_lo x j hj] at cj
  have bj := hx j (by omega)
  obtain ⟨A, hA⟩ : ∃ A, A = adr x j m := ⟨_, rfl⟩
  have ad : (x j + m % 4294967296) % 4294967296 = A := by rw [hA]; unfold adr m32; omega
  have Ab : 0 ≤ A ∧ A ≤ 4294967295 := by rw [hA]; exact adr_bd x j m
  go_wp2_with fail
  go_region
  simp only [ad]
  clear ad
  have S4 := Lib.hid (S2.out.new (New.refl W3).drew)
  have t0 := (New.refl W3).drew.keeps t0
  have t1 := (New.refl W3).drew.keeps t1
  have t2 := (New.refl W3).drew.keeps t2
  have t3 := (New.refl W3).drew.keeps t3
  generalize W3.drew = W4 at *
  have cj := S4.out.1.rx j (by omega)
  rw [nx_lo x j hj] at cj
  have ci := S4.out.1.rx i (by omega)
  rw [nx_lo x i hi] at ci
  have ui := S4.out.1.un (1 + i)
  have c17 := S4.out.1.rx 17 (by omega)
  rw [nx_17] at c17
  clear S2 BI
  have b17 := hx 17 (by omega)
  have Sf := Lib.hid (S4.out.setx i (by omega) (x 17 % 16))
  go_wp2
  go_region
  all_goals
    go_wp2
    go_ret
    subst hA
    first
      | exact came_ok (n := 0) (k := 0) (s1 := 0) (a1 := 0) (by omega) (by omega) Sf.out
      | exact came_ok (n := 0) (k := 0) (s1 := 0) (a1 := 0) (by omega) (by omega) (Sf.out.new (New.refl _).drew)
      | exact came_ok (n := 0) (k := 0) (s1 := 0) (a1 := 0) (by omega) (by omega) (Sf.out.new (New.drewN (New.refl _) _))
set_option maxHeartbeats 2000000 in
theorem ex_0 (hc : Co w cb db x f q) (h : Bd w db v L a s) (hx : Bx x) (hf : Bf f) (pc i j : Nat) (m : Int) (hpc : x 16 = pc) (hp : (pc : Int) % 4 = 0) (hh : hsn L pc 4) (hi : i < 16) (hj : j < 16) (m0 : -32768 ≤ m) (m1 : m ≤ 32767)
    (e1 : gtn L pc 4 / 16777216 = 0) (e2 : gtn L pc 4 / 1048576 % 16 = i) (e3 : gtn L pc 4 / 65536 % 16 = j) (e4 : imv (gtn L pc 4) = m) :
    Calls Try.prog 19 #[.pointer (some ⟨cb, 0, none⟩)] w (Came (.int .i64 ((okA (nx x) f L : Ans)).k) ((okA (nx x) f L : Ans)) w cb db v (wrap64 (a + 1)) s) := by
  have bp := hx 16 (by omega)
  rw [hpc] at bp
  have q1 := cfetch_ok hc h pc (by omega) hp hh (by omega)
  unfold insV at q1
  rw [e1, e2, e3, e4] at q1
  have c16 := hc.rx 16 (by omega)
  rw [hpc] at c16
  clear h hp hh e1 e2 e3 e4
  have i0 : (0 : Int) ≤ (i : Int) := by omega
  have i1 : (i : Int) < 16 := by omega
  have j0 : (0 : Int) ≤ (j : Int) := by omega
  have j1 : (j : Int) < 16 := by omega
  go_enter Try.func19, Try.ntmps19
  go_wp2_with fail
  refine q1.mono ?_
  rintro e W1 ⟨rfl, c1, b1, k1⟩
  have n2 := (New.refl W1).alloc #[.int .i64 0, .int .i64 i, .int .i64 j, .int .i64 m] 73
  have BI := Box.here W1 _ #[.int .i64 0, .int .i64 i, .int .i64 j, .int .i64 m] 73 rfl
  have S1 : St w cb db v (wrap64 (a + 1)) s x f pc L (W1.alloc (.cells #[.int .i64 0, .int .i64 i, .int .i64 j, .int .i64 m] 73)) := St.new ⟨c1, b1, k1⟩ n2
  have nb : W1.heap.size ≠ cb := Box.ne BI S1.1.1 (by decide)
  clear c1 b1 k1 q1 c16 hc n2
  have c16 := S1.1.rx 16 (by omega)
  rw [hpc] at c16
  have u16 := S1.1.un (1 + 16)
  have S2 := S1.setx 16 (by omega) (m32 ((pc : Int) + 4))
  have BI := BI.other (p := ⟨cb, 1 + 16, none⟩) (fun e => nb e.symm) (.int .u32 (m32 ((pc : Int) + 4)))
  have en : upd x 16 (m32 ((pc : Int) + 4)) = nx x := by unfold nx; rw [hpc]
  rw [en] at S2
  clear en nb
  have S2 := Lib.hid S2
  have BI := Lib.hid BI
  go_upto_region 4 with fail
  change Code.wp _ _ _ _ ((W1.alloc (.cells #[.int .i64 0, .int .i64 i, .int .i64 j, .int .i64 m] 73)).setCell ⟨cb, 1 + 16, none⟩ (.int .u32 (m32 ((pc : Int) + 4))))
  generalize ((W1.alloc (.cells #[.int .i64 0, .int .i64 i, .int .i64 j, .int .i64 m] 73)).setCell ⟨cb, 1 + 16, none⟩ (.int .u32 (m32 ((pc : Int) + 4)))) = W3 at *
  generalize W1.heap.size = ib at *
  clear c16 u16 S1
  obtain ⟨t0, t1, t2, t3⟩ := BI.out.four
  have cj := S2.out.1.rx j (by omega)
  rw [nx_lo x j hj] at cj
  have bj := hx j (by omega)
  obtain ⟨A, hA⟩ : ∃ A, A = adr x j m := ⟨_, rfl⟩
  have ad : (x j + m % 4294967296) % 4294967296 = A := by rw [hA]; unfold adr m32; omega
  have Ab : 0 ≤ A ∧ A ≤ 4294967295 := by rw [hA]; exact adr_bd x j m
  go_wp2_with fail
  go_region
  simp only [ad]
  clear ad
  have S4 := Lib.hid (S2.out.new (New.refl W3).drew)
  have t0 := (New.refl W3).drew.keeps t0
  have t1 := (New.refl W3).drew.keeps t1
  have t2 := (New.refl W3).drew.keeps t2
  have t3 := (New.refl W3).drew.keeps t3
  generalize W3.drew = W4 at *
  have cj := S4.out.1.rx j (by omega)
  rw [nx_lo x j hj] at cj
  have ci := S4.out.1.rx i (by omega)
  rw [nx_lo x i hi] at ci
  have ui := S4.out.1.un (1 + i)
  have c17 := S4.out.1.rx 17 (by omega)
  rw [nx_17] at c17
  clear S2 BI
  have Sf := S4
  go_wp2
  all_goals
    go_ret
    subst hA
    first
      | exact came_ok (n := 0) (k := 0) (s1 := 0) (a1 := 0) (by omega) (by omega) Sf.out
      | exact came_ok (n := 0) (k := 0) (s1 := 0) (a1 := 0) (by omega) (by omega) (Sf.out.new (New.refl _).drew)
      | exact came_ok (n := 0) (k := 0) (s1 := 0) (a1 := 0) (by omega) (by omega) (Sf.out.new (New.drewN (New.refl _) _))
set_option maxHeartbeats 2000000 in
theorem ex_29 (hc : Co w cb db x f q) (h : Bd w db v L a s) (hx : Bx x) (hf : Bf f) (pc i j : Nat) (m : Int) (hpc : x 16 = pc) (hp : (pc : Int) % 4 = 0) (hh : hsn L pc 4) (hi : i < 16) (hj : j < 16) (m0 : -32768 ≤ m) (m1 : m ≤ 32767)
    (e1 : gtn L pc 4 / 16777216 = 29) (e2 : gtn L pc 4 / 1048576 % 16 = i) (e3 : gtn L pc 4 / 65536 % 16 = j) (e4 : imv (gtn L pc 4) = m) :
    Calls Try.prog 19 #[.pointer (some ⟨cb, 0, none⟩)] w (Came (.int .i64 ((⟨nx x, f, L, 0, 1, 0, 0⟩ : Ans)).k) ((⟨nx x, f, L, 0, 1, 0, 0⟩ : Ans)) w cb db v (wrap64 (a + 1)) s) := by
  have bp := hx 16 (by omega)
  rw [hpc] at bp
  have q1 := cfetch_ok hc h pc (by omega) hp hh (by omega)
  unfold insV at q1
  rw [e1, e2, e3, e4] at q1
  have c16 := hc.rx 16 (by omega)
  rw [hpc] at c16
  clear h hp hh e1 e2 e3 e4
  have i0 : (0 : Int) ≤ (i : Int) := by omega
  have i1 : (i : Int) < 16 := by omega
  have j0 : (0 : Int) ≤ (j : Int) := by omega
  have j1 : (j : Int) < 16 := by omega
  go_enter Try.func19, Try.ntmps19
  go_wp2_with fail
  refine q1.mono ?_
  rintro e W1 ⟨rfl, c1, b1, k1⟩
  have n2 := (New.refl W1).alloc #[.int .i64 29, .int .i64 i, .int .i64 j, .int .i64 m] 73
  have BI := Box.here W1 _ #[.int .i64 29, .int .i64 i, .int .i64 j, .int .i64 m] 73 rfl
  have S1 : St w cb db v (wrap64 (a + 1)) s x f pc L (W1.alloc (.cells #[.int .i64 29, .int .i64 i, .int .i64 j, .int .i64 m] 73)) := St.new ⟨c1, b1, k1⟩ n2
  have nb : W1.heap.size ≠ cb := Box.ne BI S1.1.1 (by decide)
  clear c1 b1 k1 q1 c16 hc n2
  have c16 := S1.1.rx 16 (by omega)
  rw [hpc] at c16
  have u16 := S1.1.un (1 + 16)
  have S2 := S1.setx 16 (by omega) (m32 ((pc : Int) + 4))
  have BI := BI.other (p := ⟨cb, 1 + 16, none⟩) (fun e => nb e.symm) (.int .u32 (m32 ((pc : Int) + 4)))
  have en : upd x 16 (m32 ((pc : Int) + 4)) = nx x := by unfold nx; rw [hpc]
  rw [en] at S2
  clear en nb
  have S2 := Lib.hid S2
  have BI := Lib.hid BI
  go_upto_region 4 with fail
  change Code.wp _ _ _ _ ((W1.alloc (.cells #[.int .i64 29, .int .i64 i, .int .i64 j, .int .i64 m] 73)).setCell ⟨cb, 1 + 16, none⟩ (.int .u32 (m32 ((pc : Int) + 4))))
  generalize ((W1.alloc (.cells #[.int .i64 29, .int .i64 i, .int .i64 j, .int .i64 m] 73)).setCell ⟨cb, 1 + 16, none⟩ (.int .u32 (m32 ((pc : Int) + 4)))) = W3 at *
  generalize W1.heap.size = ib at *
  clear c16 u16 S1
  obtain ⟨t0, t1, t2, t3⟩ := BI.out.four
  have cj := S2.out.1.rx j (by omega)
  rw [nx_lo x j hj] at cj
  have bj := hx j (by omega)
  obtain ⟨A, hA⟩ : ∃ A, A = adr x j m := ⟨_, rfl⟩
  have ad : (x j + m % 4294967296) % 4294967296 = A := by rw [hA]; unfold adr m32; omega
  have Ab : 0 ≤ A ∧ A ≤ 4294967295 := by rw [hA]; exact adr_bd x j m
  go_wp2_with fail
  go_region
  simp only [ad]
  clear ad
  have S4 := Lib.hid (S2.out.new (New.refl W3).drew)
  have t0 := (New.refl W3).drew.keeps t0
  have t1 := (New.refl W3).drew.keeps t1
  have t2 := (New.refl W3).drew.keeps t2
  have t3 := (New.refl W3).drew.keeps t3
  generalize W3.drew = W4 at *
  have cj := S4.out.1.rx j (by omega)
  rw [nx_lo x j hj] at cj
  have ci := S4.out.1.rx i (by omega)
  rw [nx_lo x i hi] at ci
  have ui := S4.out.1.un (1 + i)
  have c17 := S4.out.1.rx 17 (by omega)
  rw [nx_17] at c17
  clear S2 BI
  have Sf := S4
  go_wp2
  all_goals
    go_ret
    subst hA
    first
      | exact came_ok (n := 0) (k := 1) (s1 := 0) (a1 := 0) (by omega) (by omega) Sf.out
      | exact came_ok (n := 0) (k := 1) (s1 := 0) (a1 := 0) (by omega) (by omega) (Sf.out.new (New.refl _).drew)
      | exact came_ok (n := 0) (k := 1) (s1 := 0) (a1 := 0) (by omega) (by omega) (Sf.out.new (New.drewN (New.refl _) _))
set_option maxHeartbeats 2000000 in
theorem ex_30 (hc : Co w cb db x f q) (h : Bd w db v L a s) (hx : Bx x) (hf : Bf f) (pc i j : Nat) (m : Int) (hpc : x 16 = pc) (hp : (pc : Int) % 4 = 0) (hh : hsn L pc 4) (hi : i < 16) (hj : j < 16) (m0 : -32768 ≤ m) (m1 : m ≤ 32767)
    (e1 : gtn L pc 4 / 16777216 = 30) (e2 : gtn L pc 4 / 1048576 % 16 = i) (e3 : gtn L pc 4 / 65536 % 16 = j) (e4 : imv (gtn L pc 4) = m) :
    Calls Try.prog 19 #[.pointer (some ⟨cb, 0, none⟩)] w (Came (.int .i64 ((⟨nx x, f, L, 0, 2, 0, 0⟩ : Ans)).k) ((⟨nx x, f, L, 0, 2, 0, 0⟩ : Ans)) w cb db v (wrap64 (a + 1)) s) := by
  have bp := hx 16 (by omega)
  rw [hpc] at bp
  have q1 := cfetch_ok hc h pc (by omega) hp hh (by omega)
  unfold insV at q1
  rw [e1, e2, e3, e4] at q1
  have c16 := hc.rx 16 (by omega)
  rw [hpc] at c16
  clear h hp hh e1 e2 e3 e4
  have i0 : (0 : Int) ≤ (i : Int) := by omega
  have i1 : (i : Int) < 16 := by omega
  have j0 : (0 : Int) ≤ (j : Int) := by omega
  have j1 : (j : Int) < 16 := by omega
  go_enter Try.func19, Try.ntmps19
  go_wp2_with fail
  refine q1.mono ?_
  rintro e W1 ⟨rfl, c1, b1, k1⟩
  have n2 := (New.refl W1).alloc #[.int .i64 30, .int .i64 i, .int .i64 j, .int .i64 m] 73
  have BI := Box.here W1 _ #[.int .i64 30, .int .i64 i, .int .i64 j, .int .i64 m] 73 rfl
  have S1 : St w cb db v (wrap64 (a + 1)) s x f pc L (W1.alloc (.cells #[.int .i64 30, .int .i64 i, .int .i64 j, .int .i64 m] 73)) := St.new ⟨c1, b1, k1⟩ n2
  have nb : W1.heap.size ≠ cb := Box.ne BI S1.1.1 (by decide)
  clear c1 b1 k1 q1 c16 hc n2
  have c16 := S1.1.rx 16 (by omega)
  rw [hpc] at c16
  have u16 := S1.1.un (1 + 16)
  have S2 := S1.setx 16 (by omega) (m32 ((pc : Int) + 4))
  have BI := BI.other (p := ⟨cb, 1 + 16, none⟩) (fun e => nb e.symm) (.int .u32 (m32 ((pc : Int) + 4)))
  have en : upd x 16 (m32 ((pc : Int) + 4)) = nx x := by unfold nx; rw [hpc]
  rw [en] at S2
  clear en nb
  have S2 := Lib.hid S2
  have BI := Lib.hid BI
  go_upto_region 4 with fail
  change Code.wp _ _ _ _ ((W1.alloc (.cells #[.int .i64 30, .int .i64 i, .int .i64 j, .int .i64 m] 73)).setCell ⟨cb, 1 + 16, none⟩ (.int .u32 (m32 ((pc : Int) + 4))))
  generalize ((W1.alloc (.cells #[.int .i64 30, .int .i64 i, .int .i64 j, .int .i64 m] 73)).setCell ⟨cb, 1 + 16, none⟩ (.int .u32 (m32 ((pc : Int) + 4)))) = W3 at *
  generalize W1.heap.size = ib at *
  clear c16 u16 S1
  obtain ⟨t0, t1, t2, t3⟩ := BI.out.four
  have cj := S2.out.1.rx j (by omega)
  rw [nx_lo x j hj] at cj
  have bj := hx j (by omega)
  obtain ⟨A, hA⟩ : ∃ A, A = adr x j m := ⟨_, rfl⟩
  have ad : (x j + m % 4294967296) % 4294967296 = A := by rw [hA]; unfold adr m32; omega
  have Ab : 0 ≤ A ∧ A ≤ 4294967295 := by rw [hA]; exact adr_bd x j m
  go_wp2_with fail
  go_region
  simp only [ad]
  clear ad
  have S4 := Lib.hid (S2.out.new (New.refl W3).drew)
  have t0 := (New.refl W3).drew.keeps t0
  have t1 := (New.refl W3).drew.keeps t1
  have t2 := (New.refl W3).drew.keeps t2
  have t3 := (New.refl W3).drew.keeps t3
  generalize W3.drew = W4 at *
  have cj := S4.out.1.rx j (by omega)
  rw [nx_lo x j hj] at cj
  have ci := S4.out.1.rx i (by omega)
  rw [nx_lo x i hi] at ci
  have ui := S4.out.1.un (1 + i)
  have c17 := S4.out.1.rx 17 (by omega)
  rw [nx_17] at c17
  clear S2 BI
  have Sf := S4
  go_wp2
  all_goals
    go_ret
    subst hA
    first
      | exact came_ok (n := 0) (k := 2) (s1 := 0) (a1 := 0) (by omega) (by omega) Sf.out
      | exact came_ok (n := 0) (k := 2) (s1 := 0) (a1 := 0) (by omega) (by omega) (Sf.out.new (New.refl _).drew)
      | exact came_ok (n := 0) (k := 2) (s1 := 0) (a1 := 0) (by omega) (by omega) (Sf.out.new (New.drewN (New.refl _) _))
end
end Go.Proofs.Ytbkhmeongekdiaa
