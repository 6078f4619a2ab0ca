/- How the instruction at PC is executed: floats held against each other, turned, missing. -/
import Derived.Test.YtbkhmeongekdiaaCpN
import Derived.Test.YtbkhmeongekdiaaCpM
import Derived.RegionTactic
namespace Go.Proofs.Ytbkhmeongekdiaa
open Go.RowKit Go.Joins
set_option linter.unusedVariables false
set_option maxRecDepth 100000
section
variable {w0 w w' : World} {cb db : Nat} {v : Value} {L : List Int} {x f : Nat → Int} {q a s : Int}
set_option maxHeartbeats 2000000 in
theorem ex_38 (hc : Co w cb db x f q) (h : Bd w db v L a s) (hx : Bx x) (hf : Bf f) (pc i j : Nat) (m : Int) (hpc : x 16 = pc) (hp : (pc : Int) % 4 = 0) (hh : hsn L pc 4) (hi : i < 16) (hj : j < 16) (m0 : -32768 ≤ m) (m1 : m ≤ 32767) (h4 : i < 4) (g4 : j < 4)
    (e1 : gtn L pc 4 / 16777216 = 38) (e2 : gtn L pc 4 / 1048576 % 16 = i) (e3 : gtn L pc 4 / 65536 % 16 = j) (e4 : imv (gtn L pc 4) = m) :
    Calls Try.prog 19 #[.pointer (some ⟨cb, 0, none⟩)] w (Came (.int .i64 (okA (upd (nx x) 17 (fcv (cmpv (f i).toNat (f j).toNat) (x 17))) f L).k) (okA (upd (nx x) 17 (fcv (cmpv (f i).toNat (f j).toNat) (x 17))) f L) w cb db v (wrap64 (a + 1)) s) := by
  have bp := hx 16 (by omega)
  rw [hpc] at bp
  have q1 := cfetch_ok hc h pc (by omega) hp hh (by omega)
  unfold insV at q1
  rw [e1, e2, e3, e4] at q1
  have c16 := hc.rx 16 (by omega)
  rw [hpc] at c16
  clear h hp hh e1 e2 e3 e4
  have i0 : (0 : Int) ≤ (i : Int) := by omega
  have i1 : (i : Int) < 16 := by omega
  have j0 : (0 : Int) ≤ (j : Int) := by omega
  have j1 : (j : Int) < 16 := by omega
  go_enter Try.func19, Try.ntmps19
  go_wp2_with fail
  refine q1.mono ?_
  rintro e W1 ⟨rfl, c1, b1, k1⟩
  have n2 := (New.refl W1).alloc #[.int .i64 38, .int .i64 i, .int .i64 j, .int .i64 m] 73
  have BI := Box.here W1 _ #[.int .i64 38, .int .i64 i, .int .i64 j, .int .i64 m] 73 rfl
  have S1 : St w cb db v (wrap64 (a + 1)) s x f pc L (W1.alloc (.cells #[.int .i64 38, .int .i64 i, .int .i64 j, .int .i64 m] 73)) := St.new ⟨c1, b1, k1⟩ n2
  have nb : W1.heap.size ≠ cb := Box.ne BI S1.1.1 (by decide)
  clear c1 b1 k1 q1 c16 hc n2
  have c16 := S1.1.rx 16 (by omega)
  rw [hpc] at c16
  have u16 := S1.1.un (1 + 16)
  have S2 := S1.setx 16 (by omega) (m32 ((pc : Int) + 4))
  have BI := BI.other (p := ⟨cb, 1 + 16, none⟩) (fun e => nb e.symm) (.int .u32 (m32 ((pc : Int) + 4)))
  have en : upd x 16 (m32 ((pc : Int) + 4)) = nx x := by unfold nx; rw [hpc]
  rw [en] at S2
  clear en nb
  have S2 := Lib.hid S2
  have BI := Lib.hid BI
  go_upto_region 4 with fail
  change Code.wp _ _ _ _ ((W1.alloc (.cells #[.int .i64 38, .int .i64 i, .int .i64 j, .int .i64 m] 73)).setCell ⟨cb, 1 + 16, none⟩ (.int .u32 (m32 ((pc : Int) + 4))))
  generalize ((W1.alloc (.cells #[.int .i64 38, .int .i64 i, .int .i64 j, .int .i64 m] 73)).setCell ⟨cb, 1 + 16, none⟩ (.int .u32 (m32 ((pc : Int) + 4)))) = W3 at *
  generalize W1.heap.size = ib at *
  clear c16 u16 S1
  obtain ⟨t0, t1, t2, t3⟩ := BI.out.four
  have cj := S2.out.1.rx j (by omega)
  rw [nx_lo x j hj] at cj
  have bj := hx j (by omega)
  obtain ⟨A, hA⟩ : ∃ A, A = adr x j m := ⟨_, rfl⟩
  have ad : (x j + m % 4294967296) % 4294967296 = A := by rw [hA]; unfold adr m32; omega
  have Ab : 0 ≤ A ∧ A ≤ 4294967295 := by rw [hA]; exact adr_bd x j m
  go_wp2_with fail
  go_region
  simp only [ad]
  clear ad
  have S4 := Lib.hid (S2.out.new (New.refl W3).drew)
  have t0 := (New.refl W3).drew.keeps t0
  have t1 := (New.refl W3).drew.keeps t1
  have t2 := (New.refl W3).drew.keeps t2
  have t3 := (New.refl W3).drew.keeps t3
  generalize W3.drew = W4 at *
  have cj := S4.out.1.rx j (by omega)
  rw [nx_lo x j hj] at cj
  have ci := S4.out.1.rx i (by omega)
  rw [nx_lo x i hi] at ci
  have ui := S4.out.1.un (1 + i)
  have c17 := S4.out.1.rx 17 (by omega)
  rw [nx_17] at c17
  clear S2 BI
  obtain ⟨N, hN⟩ : ∃ N : Nat, A = N := ⟨A.toNat, by omega⟩
  subst hN
  have hA := Lib.hid hA
  have qr := flt_cmp S4.out.1 S4.out.2.1 m i j hi hj (bx_nx hx) hf x f N (by omega) h4 g4 
  rw [nx_17] at qr
  simp only [hA.out] at qr
  go_wp2_with fail
  refine (qr).mono ?_
  intro e W5 hc
  obtain ⟨rfl, hb⟩ := Came.back S4.out.2.2 (show (0 : Int) ≠ 4 by decide) hc
  clear hc
  go_wp2
  go_ret
  first | exact hb _ | (simp only [hpc] at hb; exact hb _) | (subst hA; exact hb _)
set_option maxHeartbeats 2000000 in
theorem ex_39 (hc : Co w cb db x f q) (h : Bd w db v L a s) (hx : Bx x) (hf : Bf f) (pc i j : Nat) (m : Int) (hpc : x 16 = pc) (hp : (pc : Int) % 4 = 0) (hh : hsn L pc 4) (hi : i < 16) (hj : j < 16) (m0 : -32768 ≤ m) (m1 : m ≤ 32767) (g4 : j < 4)
    (e1 : gtn L pc 4 / 16777216 = 39) (e2 : gtn L pc 4 / 1048576 % 16 = i) (e3 : gtn L pc 4 / 65536 % 16 = j) (e4 : imv (gtn L pc 4) = m) :
    Calls Try.prog 19 #[.pointer (some ⟨cb, 0, none⟩)] w (Came (.int .i64 (okA (upd (nx x) i (toi (f j).toNat)) f L).k) (okA (upd (nx x) i (toi (f j).toNat)) f L) w cb db v (wrap64 (a + 1)) s) := by
  have bp := hx 16 (by omega)
  rw [hpc] at bp
  have q1 := cfetch_ok hc h pc (by omega) hp hh (by omega)
  unfold insV at q1
  rw [e1, e2, e3, e4] at q1
  have c16 := hc.rx 16 (by omega)
  rw [hpc] at c16
  clear h hp hh e1 e2 e3 e4
  have i0 : (0 : Int) ≤ (i : Int) := by omega
  have i1 : (i : Int) < 16 := by omega
  have j0 : (0 : Int) ≤ (j : Int) := by omega
  have j1 : (j : Int) < 16 := by omega
  go_enter Try.func19, Try.ntmps19
  go_wp2_with fail
  refine q1.mono ?_
  rintro e W1 ⟨rfl, c1, b1, k1⟩
  have n2 := (New.refl W1).alloc #[.int .i64 39, .int .i64 i, .int .i64 j, .int .i64 m] 73
  have BI := Box.here W1 _ #[.int .i64 39, .int .i64 i, .int .i64 j, .int .i64 m] 73 rfl
  have S1 : St w cb db v (wrap64 (a + 1)) s x f pc L (W1.alloc (.cells #[.int .i64 39, .int .i64 i, .int .i64 j, .int .i64 m] 73)) := St.new ⟨c1, b1, k1⟩ n2
  have nb : W1.heap.size ≠ cb := Box.ne BI S1.1.1 (by decide)
  clear c1 b1 k1 q1 c16 hc n2
  have c16 := S1.1.rx 16 (by omega)
  rw [hpc] at c16
  have u16 := S1.1.un (1 + 16)
  have S2 := S1.setx 16 (by omega) (m32 ((pc : Int) + 4))
  have BI := BI.other (p := ⟨cb, 1 + 16, none⟩) (fun e => nb e.symm) (.int .u32 (m32 ((pc : Int) + 4)))
  have en : upd x 16 (m32 ((pc : Int) + 4)) = nx x := by unfold nx; rw [hpc]
  rw [en] at S2
  clear en nb
  have S2 := Lib.hid S2
  have BI := Lib.hid BI
  go_upto_region 4 with fail
  change Code.wp _ _ _ _ ((W1.alloc (.cells #[.int .i64 39, .int .i64 i, .int .i64 j, .int .i64 m] 73)).setCell ⟨cb, 1 + 16, none⟩ (.int .u32 (m32 ((pc : Int) + 4))))
  generalize ((W1.alloc (.cells #[.int .i64 39, .int .i64 i, .int .i64 j, .int .i64 m] 73)).setCell ⟨cb, 1 + 16, none⟩ (.int .u32 (m32 ((pc : Int) + 4)))) = W3 at *
  generalize W1.heap.size = ib at *
  clear c16 u16 S1
  obtain ⟨t0, t1, t2, t3⟩ := BI.out.four
  have cj := S2.out.1.rx j (by omega)
  rw [nx_lo x j hj] at cj
  have bj := hx j (by omega)
  obtain ⟨A, hA⟩ : ∃ A, A = adr x j m := ⟨_, rfl⟩
  have ad : (x j + m % 4294967296) % 4294967296 = A := by rw [hA]; unfold adr m32; omega
  have Ab : 0 ≤ A ∧ A ≤ 4294967295 := by rw [hA]; exact adr_bd x j m
  go_wp2_with fail
  go_region
  simp only [ad]
  clear ad
  have S4 := Lib.hid (S2.out.new (New.refl W3).drew)
  have t0 := (New.refl W3).drew.keeps t0
  have t1 := (New.refl W3).drew.keeps t1
  have t2 := (New.refl W3).drew.keeps t2
  have t3 := (New.refl W3).drew.keeps t3
  generalize W3.drew = W4 at *
  have cj := S4.out.1.rx j (by omega)
  rw [nx_lo x j hj] at cj
  have ci := S4.out.1.rx i (by omega)
  rw [nx_lo x i hi] at ci
  have ui := S4.out.1.un (1 + i)
  have c17 := S4.out.1.rx 17 (by omega)
  rw [nx_17] at c17
  clear S2 BI
  obtain ⟨N, hN⟩ : ∃ N : Nat, A = N := ⟨A.toNat, by omega⟩
  subst hN
  have hA := Lib.hid hA
  have qr := flt_toi S4.out.1 S4.out.2.1 m i j hi hj (bx_nx hx) hf x f N (by omega) g4 
  simp only [hA.out] at qr
  go_wp2_with fail
  refine (qr).mono ?_
  intro e W5 hc
  obtain ⟨rfl, hb⟩ := Came.back S4.out.2.2 (show (0 : Int) ≠ 4 by decide) hc
  clear hc
  go_wp2
  go_ret
  first | exact hb _ | (simp only [hpc] at hb; exact hb _) | (subst hA; exact hb _)
set_option maxHeartbeats 2000000 in
theorem ex_40 (hc : Co w cb db x f q) (h : Bd w db v L a s) (hx : Bx x) (hf : Bf f) (pc i j : Nat) (m : Int) (hpc : x 16 = pc) (hp : (pc : Int) % 4 = 0) (hh : hsn L pc 4) (hi : i < 16) (hj : j < 16) (m0 : -32768 ≤ m) (m1 : m ≤ 32767) (h4 : i < 4)
    (e1 : gtn L pc 4 / 16777216 = 40) (e2 : gtn L pc 4 / 1048576 % 16 = i) (e3 : gtn L pc 4 / 65536 % 16 = j) (e4 : imv (gtn L pc 4) = m) :
    Calls Try.prog 19 #[.pointer (some ⟨cb, 0, none⟩)] w (Came (.int .i64 (okA (nx x) (upd f i (ofi (sg32 (x j).toNat))) L).k) (okA (nx x) (upd f i (ofi (sg32 (x j).toNat))) L) w cb db v (wrap64 (a + 1)) s) := by
  have bp := hx 16 (by omega)
  rw [hpc] at bp
  have q1 := cfetch_ok hc h pc (by omega) hp hh (by omega)
  unfold insV at q1
  rw [e1, e2, e3, e4] at q1
  have c16 := hc.rx 16 (by omega)
  rw [hpc] at c16
  clear h hp hh e1 e2 e3 e4
  have i0 : (0 : Int) ≤ (i : Int) := by omega
  have i1 : (i : Int) < 16 := by omega
  have j0 : (0 : Int) ≤ (j : Int) := by omega
  have j1 : (j : Int) < 16 := by omega
  go_enter Try.func19, Try.ntmps19
  go_wp2_with fail
  refine q1.mono ?_
  rintro e W1 ⟨rfl, c1, b1, k1⟩
  have n2 := (New.refl W1).alloc #[.int .i64 40, .int .i64 i, .int .i64 j, .int .i64 m] 73
  have BI := Box.here W1 _ #[.int .i64 40, .int .i64 i, .int .i64 j, .int .i64 m] 73 rfl
  have S1 : St w cb db v (wrap64 (a + 1)) s x f pc L (W1.alloc (.cells #[.int .i64 40, .int .i64 i, .int .i64 j, .int .i64 m] 73)) := St.new ⟨c1, b1, k1⟩ n2
  have nb : W1.heap.size ≠ cb := Box.ne BI S1.1.1 (by decide)
  clear c1 b1 k1 q1 c16 hc n2
  have c16 := S1.1.rx 16 (by omega)
  rw [hpc] at c16
  have u16 := S1.1.un (1 + 16)
  have S2 := S1.setx 16 (by omega) (m32 ((pc : Int) + 4))
  have BI := BI.other (p := ⟨cb, 1 + 16, none⟩) (fun e => nb e.symm) (.int .u32 (m32 ((pc : Int) + 4)))
  have en : upd x 16 (m32 ((pc : Int) + 4)) = nx x := by unfold nx; rw [hpc]
  rw [en] at S2
  clear en nb
  have S2 := Lib.hid S2
  have BI := Lib.hid BI
  go_upto_region 4 with fail
  change Code.wp _ _ _ _ ((W1.alloc (.cells #[.int .i64 40, .int .i64 i, .int .i64 j, .int .i64 m] 73)).setCell ⟨cb, 1 + 16, none⟩ (.int .u32 (m32 ((pc : Int) + 4))))
  generalize ((W1.alloc (.cells #[.int .i64 40, .int .i64 i, .int .i64 j, .int .i64 m] 73)).setCell ⟨cb, 1 + 16, none⟩ (.int .u32 (m32 ((pc : Int) + 4)))) = W3 at *
  generalize W1.heap.size = ib at *
  clear c16 u16 S1
  obtain ⟨t0, t1, t2, t3⟩ := BI.out.four
  have cj := S2.out.1.rx j (by omega)
  rw [nx_lo x j hj] at cj
  have bj := hx j (by omega)
  obtain ⟨A, hA⟩ : ∃ A, A = adr x j m := ⟨_, rfl⟩
  have ad : (x j + m % 4294967296) % 4294967296 = A := by rw [hA]; unfold adr m32; omega
  have Ab : 0 ≤ A ∧ A ≤ 4294967295 := by rw [hA]; exact adr_bd x j m
  go_wp2_with fail
  go_region
  simp only [ad]
  clear ad
  have S4 := Lib.hid (S2.out.new (New.refl W3).drew)
  have t0 := (New.refl W3).drew.keeps t0
  have t1 := (New.refl W3).drew.keeps t1
  have t2 := (New.refl W3).drew.keeps t2
  have t3 := (New.refl W3).drew.keeps t3
  generalize W3.drew = W4 at *
  have cj := S4.out.1.rx j (by omega)
  rw [nx_lo x j hj] at cj
  have ci := S4.out.1.rx i (by omega)
  rw [nx_lo x i hi] at ci
  have ui := S4.out.1.un (1 + i)
  have c17 := S4.out.1.rx 17 (by omega)
  rw [nx_17] at c17
  clear S2 BI
  obtain ⟨N, hN⟩ : ∃ N : Nat, A = N := ⟨A.toNat, by omega⟩
  subst hN
  have hA := Lib.hid hA
  have qr := flt_itof S4.out.1 S4.out.2.1 m i j hi hj (bx_nx hx) hf x f N (by omega) h4 
  rw [nx_lo x j hj] at qr
  simp only [hA.out] at qr
  go_wp2_with fail
  refine (qr).mono ?_
  intro e W5 hc
  obtain ⟨rfl, hb⟩ := Came.back S4.out.2.2 (show (0 : Int) ≠ 4 by decide) hc
  clear hc
  go_wp2
  go_ret
  first | exact hb _ | (simp only [hpc] at hb; exact hb _) | (subst hA; exact hb _)
set_option maxHeartbeats 2000000 in
theorem ex_31_ill (hc : Co w cb db x f q) (h : Bd w db v L a s) (hx : Bx x) (hf : Bf f) (pc i j : Nat) (m : Int) (hpc : x 16 = pc) (hp : (pc : Int) % 4 = 0) (hh : hsn L pc 4) (hi : i < 16) (hj : j < 16) (m0 : -32768 ≤ m) (m1 : m ≤ 32767) (k4 : 4 ≤ i)
    (e1 : gtn L pc 4 / 16777216 = 31) (e2 : gtn L pc 4 / 1048576 % 16 = i) (e3 : gtn L pc 4 / 65536 % 16 = j) (e4 : imv (gtn L pc 4) = m) :
    Calls Try.prog 19 #[.pointer (some ⟨cb, 0, none⟩)] w (Came (.int .i64 (noA x f L 4 (x 16)).k) (noA x f L 4 (x 16)) w cb db v (wrap64 (a + 1)) s) := by
  have bp := hx 16 (by omega)
  rw [hpc] at bp
  have q1 := cfetch_ok hc h pc (by omega) hp hh (by omega)
  unfold insV at q1
  rw [e1, e2, e3, e4] at q1
  have c16 := hc.rx 16 (by omega)
  rw [hpc] at c16
  clear h hp hh e1 e2 e3 e4
  have i0 : (0 : Int) ≤ (i : Int) := by omega
  have i1 : (i : Int) < 16 := by omega
  have j0 : (0 : Int) ≤ (j : Int) := by omega
  have j1 : (j : Int) < 16 := by omega
  go_enter Try.func19, Try.ntmps19
  go_wp2_with fail
  refine q1.mono ?_
  rintro e W1 ⟨rfl, c1, b1, k1⟩
  have n2 := (New.refl W1).alloc #[.int .i64 31, .int .i64 i, .int .i64 j, .int .i64 m] 73
  have BI := Box.here W1 _ #[.int .i64 31, .int .i64 i, .int .i64 j, .int .i64 m] 73 rfl
  have S1 : St w cb db v (wrap64 (a + 1)) s x f pc L (W1.alloc (.cells #[.int .i64 31, .int .i64 i, .int .i64 j, .int .i64 m] 73)) := St.new ⟨c1, b1, k1⟩ n2
  have nb : W1.heap.size ≠ cb := Box.ne BI S1.1.1 (by decide)
  clear c1 b1 k1 q1 c16 hc n2
  have c16 := S1.1.rx 16 (by omega)
  rw [hpc] at c16
  have u16 := S1.1.un (1 + 16)
  have S2 := S1.setx 16 (by omega) (m32 ((pc : Int) + 4))
  have BI := BI.other (p := ⟨cb, 1 + 16, none⟩) (fun e => nb e.symm) (.int .u32 (m32 ((pc : Int) + 4)))
  have en : upd x 16 (m32 ((pc : Int) + 4)) = nx x := by unfold nx; rw [hpc]
  rw [en] at S2
  clear en nb
  have S2 := Lib.hid S2
  have BI := Lib.hid BI
  go_upto_region 4 with fail
  change Code.wp _ _ _ _ ((W1.alloc (.cells #[.int .i64 31, .int .i64 i, .int .i64 j, .int .i64 m] 73)).setCell ⟨cb, 1 + 16, none⟩ (.int .u32 (m32 ((pc : Int) + 4))))
  generalize ((W1.alloc (.cells #[.int .i64 31, .int .i64 i, .int .i64 j, .int .i64 m] 73)).setCell ⟨cb, 1 + 16, none⟩ (.int .u32 (m32 ((pc : Int) + 4)))) = W3 at *
  generalize W1.heap.size = ib at *
  clear c16 u16 S1
  obtain ⟨t0, t1, t2, t3⟩ := BI.out.four
  have cj := S2.out.1.rx j (by omega)
  rw [nx_lo x j hj] at cj
  have bj := hx j (by omega)
  obtain ⟨A, hA⟩ : ∃ A, A = adr x j m := ⟨_, rfl⟩
  have ad : (x j + m % 4294967296) % 4294967296 = A := by rw [hA]; unfold adr m32; omega
  have Ab : 0 ≤ A ∧ A ≤ 4294967295 := by rw [hA]; exact adr_bd x j m
  go_wp2_with fail
  go_region
  simp only [ad]
  clear ad
  have S4 := Lib.hid (S2.out.new (New.refl W3).drew)
  have t0 := (New.refl W3).drew.keeps t0
  have t1 := (New.refl W3).drew.keeps t1
  have t2 := (New.refl W3).drew.keeps t2
  have t3 := (New.refl W3).drew.keeps t3
  generalize W3.drew = W4 at *
  have cj := S4.out.1.rx j (by omega)
  rw [nx_lo x j hj] at cj
  have ci := S4.out.1.rx i (by omega)
  rw [nx_lo x i hi] at ci
  have ui := S4.out.1.un (1 + i)
  have c17 := S4.out.1.rx 17 (by omega)
  rw [nx_17] at c17
  clear S2 BI
  obtain ⟨N, hN⟩ : ∃ N : Nat, A = N := ⟨A.toNat, by omega⟩
  subst hN
  have hA := Lib.hid hA
  have qr := flt_ill_a31 S4.out.1 S4.out.2.1 m i j hi hj (bx_nx hx) hf x f (x 16) N (by omega) k4 
  simp only [hA.out] at qr
  go_wp2_with fail
  refine (qr).mono ?_
  intro e W5 hc
  obtain ⟨rfl, hb⟩ := Came.fell S4.out.2.2 rfl hc
  clear hc
  go_wp2
  first | exact ⟨rfl, hb _⟩ | (simp only [hpc] at hb; exact ⟨rfl, hb _⟩) | (subst hA; exact ⟨rfl, hb _⟩)
set_option maxHeartbeats 2000000 in
theorem ex_32_ill (hc : Co w cb db x f q) (h : Bd w db v L a s) (hx : Bx x) (hf : Bf f) (pc i j : Nat) (m : Int) (hpc : x 16 = pc) (hp : (pc : Int) % 4 = 0) (hh : hsn L pc 4) (hi : i < 16) (hj : j < 16) (m0 : -32768 ≤ m) (m1 : m ≤ 32767) (k4 : 4 ≤ i)
    (e1 : gtn L pc 4 / 16777216 = 32) (e2 : gtn L pc 4 / 1048576 % 16 = i) (e3 : gtn L pc 4 / 65536 % 16 = j) (e4 : imv (gtn L pc 4) = m) :
    Calls Try.prog 19 #[.pointer (some ⟨cb, 0, none⟩)] w (Came (.int .i64 (noA x f L 4 (x 16)).k) (noA x f L 4 (x 16)) w cb db v (wrap64 (a + 1)) s) := by
  have bp := hx 16 (by omega)
  rw [hpc] at bp
  have q1 := cfetch_ok hc h pc (by omega) hp hh (by omega)
  unfold insV at q1
  rw [e1, e2, e3, e4] at q1
  have c16 := hc.rx 16 (by omega)
  rw [hpc] at c16
  clear h hp hh e1 e2 e3 e4
  have i0 : (0 : Int) ≤ (i : Int) := by omega
  have i1 : (i : Int) < 16 := by omega
  have j0 : (0 : Int) ≤ (j : Int) := by omega
  have j1 : (j : Int) < 16 := by omega
  go_enter Try.func19, Try.ntmps19
  go_wp2_with fail
  refine q1.mono ?_
  rintro e W1 ⟨rfl, c1, b1, k1⟩
  have n2 := (New.refl W1).alloc #[.int .i64 32, .int .i64 i, .int .i64 j, .int .i64 m] 73
  have BI := Box.here W1 _ #[.int .i64 32, .int .i64 i, .int .i64 j, .int .i64 m] 73 rfl
  have S1 : St w cb db v (wrap64 (a + 1)) s x f pc L (W1.alloc (.cells #[.int .i64 32, .int .i64 i, .int .i64 j, .int .i64 m] 73)) := St.new ⟨c1, b1, k1⟩ n2
  have nb : W1.heap.size ≠ cb := Box.ne BI S1.1.1 (by decide)
  clear c1 b1 k1 q1 c16 hc n2
  have c16 := S1.1.rx 16 (by omega)
  rw [hpc] at c16
  have u16 := S1.1.un (1 + 16)
  have S2 := S1.setx 16 (by omega) (m32 ((pc : Int) + 4))
  have BI := BI.other (p := ⟨cb, 1 + 16, none⟩) (fun e => nb e.symm) (.int .u32 (m32 ((pc : Int) + 4)))
  have en : upd x 16 (m32 ((pc : Int) + 4)) = nx x := by unfold nx; rw [hpc]
  rw [en] at S2
  clear en nb
  have S2 := Lib.hid S2
  have BI := Lib.hid BI
  go_upto_region 4 with fail
  change Code.wp _ _ _ _ ((W1.alloc (.cells #[.int .i64 32, .int .i64 i, .int .i64 j, .int .i64 m] 73)).setCell ⟨cb, 1 + 16, none⟩ (.int .u32 (m32 ((pc : Int) + 4))))
  generalize ((W1.alloc (.cells #[.int .i64 32, .int .i64 i, .int .i64 j, .int .i64 m] 73)).setCell ⟨cb, 1 + 16, none⟩ (.int .u32 (m32 ((pc : Int) + 4)))) = W3 at *
  generalize W1.heap.size = ib at *
  clear c16 u16 S1
  obtain ⟨t0, t1, t2, t3⟩ := BI.out.four
  have cj := S2.out.1.rx j (by omega)
  rw [nx_lo x j hj] at cj
  have bj := hx j (by omega)
  obtain ⟨A, hA⟩ : ∃ A, A = adr x j m := ⟨_, rfl⟩
  have ad : (x j + m % 4294967296) % 4294967296 = A := by rw [hA]; unfold adr m32; omega
  have Ab : 0 ≤ A ∧ A ≤ 4294967295 := by rw [hA]; exact adr_bd x j m
  go_wp2_with fail
  go_region
  simp only [ad]
  clear ad
  have S4 := Lib.hid (S2.out.new (New.refl W3).drew)
  have t0 := (New.refl W3).drew.keeps t0
  have t1 := (New.refl W3).drew.keeps t1
  have t2 := (New.refl W3).drew.keeps t2
  have t3 := (New.refl W3).drew.keeps t3
  generalize W3.drew = W4 at *
  have cj := S4.out.1.rx j (by omega)
  rw [nx_lo x j hj] at cj
  have ci := S4.out.1.rx i (by omega)
  rw [nx_lo x i hi] at ci
  have ui := S4.out.1.un (1 + i)
  have c17 := S4.out.1.rx 17 (by omega)
  rw [nx_17] at c17
  clear S2 BI
  obtain ⟨N, hN⟩ : ∃ N : Nat, A = N := ⟨A.toNat, by omega⟩
  subst hN
  have hA := Lib.hid hA
  have qr := flt_ill_a32 S4.out.1 S4.out.2.1 m i j hi hj (bx_nx hx) hf x f (x 16) N (by omega) k4 
  simp only [hA.out] at qr
  go_wp2_with fail
  refine (qr).mono ?_
  intro e W5 hc
  obtain ⟨rfl, hb⟩ := Came.fell S4.out.2.2 rfl hc
  clear hc
  go_wp2
  first | exact ⟨rfl, hb _⟩ | (simp only [hpc] at hb; exact ⟨rfl, hb _⟩) | (subst hA; exact ⟨rfl, hb _⟩)
set_option maxHeartbeats 2000000 in
theorem ex_40_ill (hc : Co w cb db x f q) (h : Bd w db v L a s) (hx : Bx x) (hf : Bf f) (pc i j : Nat) (m : Int) (hpc : x 16 = pc) (hp : (pc : Int) % 4 = 0) (hh : hsn L pc 4) (hi : i < 16) (hj : j < 16) (m0 : -32768 ≤ m) (m1 : m ≤ 32767) (k4 : 4 ≤ i)
    (e1 : gtn L pc 4 / 16777216 = 40) (e2 : gtn L pc 4 / 1048576 % 16 = i) (e3 : gtn L pc 4 / 65536 % 16 = j) (e4 : imv (gtn L pc 4) = m) :
    Calls Try.prog 19 #[.pointer (some ⟨cb, 0, none⟩)] w (Came (.int .i64 (noA x f L 4 (x 16)).k) (noA x f L 4 (x 16)) w cb db v (wrap64 (a + 1)) s) := by
  have bp := hx 16 (by omega)
  rw [hpc] at bp
  have q1 := cfetch_ok hc h pc (by omega) hp hh (by omega)
  unfold insV at q1
  rw [e1, e2, e3, e4] at q1
  have c16 := hc.rx 16 (by omega)
  rw [hpc] at c16
  clear h hp hh e1 e2 e3 e4
  have i0 : (0 : Int) ≤ (i : Int) := by omega
  have i1 : (i : Int) < 16 := by omega
  have j0 : (0 : Int) ≤ (j : Int) := by omega
  have j1 : (j : Int) < 16 := by omega
  go_enter Try.func19, Try.ntmps19
  go_wp2_with fail
  refine q1.mono ?_
  rintro e W1 ⟨rfl, c1, b1, k1⟩
  have n2 := (New.refl W1).alloc #[.int .i64 40, .int .i64 i, .int .i64 j, .int .i64 m] 73
  have BI := Box.here W1 _ #[.int .i64 40, .int .i64 i, .int .i64 j, .int .i64 m] 73 rfl
  have S1 : St w cb db v (wrap64 (a + 1)) s x f pc L (W1.alloc (.cells #[.int .i64 40, .int .i64 i, .int .i64 j, .int .i64 m] 73)) := St.new ⟨c1, b1, k1⟩ n2
  have nb : W1.heap.size ≠ cb := Box.ne BI S1.1.1 (by decide)
  clear c1 b1 k1 q1 c16 hc n2
  have c16 := S1.1.rx 16 (by omega)
  rw [hpc] at c16
  have u16 := S1.1.un (1 + 16)
  have S2 := S1.setx 16 (by omega) (m32 ((pc : Int) + 4))
  have BI := BI.other (p := ⟨cb, 1 + 16, none⟩) (fun e => nb e.symm) (.int .u32 (m32 ((pc : Int) + 4)))
  have en : upd x 16 (m32 ((pc : Int) + 4)) = nx x := by unfold nx; rw [hpc]
  rw [en] at S2
  clear en nb
  have S2 := Lib.hid S2
  have BI := Lib.hid BI
  go_upto_region 4 with fail
  change Code.wp _ _ _ _ ((W1.alloc (.cells #[.int .i64 40, .int .i64 i, .int .i64 j, .int .i64 m] 73)).setCell ⟨cb, 1 + 16, none⟩ (.int .u32 (m32 ((pc : Int) + 4))))
  generalize ((W1.alloc (.cells #[.int .i64 40, .int .i64 i, .int .i64 j, .int .i64 m] 73)).setCell ⟨cb, 1 + 16, none⟩ (.int .u32 (m32 ((pc : Int) + 4)))) = W3 at *
  generalize W1.heap.size = ib at *
  clear c16 u16 S1
  obtain ⟨t0, t1, t2, t3⟩ := BI.out.four
  have cj := S2.out.1.rx j (by omega)
  rw [nx_lo x j hj] at cj
  have bj := hx j (by omega)
  obtain ⟨A, hA⟩ : ∃ A, A = adr x j m := ⟨_, rfl⟩
  have ad : (x j + m % 4294967296) % 4294967296 = A := by rw [hA]; unfold adr m32; omega
  have Ab : 0 ≤ A ∧ A ≤ 4294967295 := by rw [hA]; exact adr_bd x j m
  go_wp2_with fail
  go_region
  simp only [ad]
  clear ad
  have S4 := Lib.hid (S2.out.new (New.refl W3).drew)
  have t0 := (New.refl W3).drew.keeps t0
  have t1 := (New.refl W3).drew.keeps t1
  have t2 := (New.refl W3).drew.keeps t2
  have t3 := (New.refl W3).drew.keeps t3
  generalize W3.drew = W4 at *
  have cj := S4.out.1.rx j (by omega)
  rw [nx_lo x j hj] at cj
  have ci := S4.out.1.rx i (by omega)
  rw [nx_lo x i hi] at ci
  have ui := S4.out.1.un (1 + i)
  have c17 := S4.out.1.rx 17 (by omega)
  rw [nx_17] at c17
  clear S2 BI
  obtain ⟨N, hN⟩ : ∃ N : Nat, A = N := ⟨A.toNat, by omega⟩
  subst hN
  have hA := Lib.hid hA
  have qr := flt_ill_a40 S4.out.1 S4.out.2.1 m i j hi hj (bx_nx hx) hf x f (x 16) N (by omega) k4 
  simp only [hA.out] at qr
  go_wp2_with fail
  refine (qr).mono ?_
  intro e W5 hc
  obtain ⟨rfl, hb⟩ := Came.fell S4.out.2.2 rfl hc
  clear hc
  go_wp2
  first | exact ⟨rfl, hb _⟩ | (simp only [hpc] at hb; exact ⟨rfl, hb _⟩) | (subst hA; exact ⟨rfl, hb _⟩)
set_option maxHeartbeats 2000000 in
theorem ex_39_ill (hc : Co w cb db x f q) (h : Bd w db v L a s) (hx : Bx x) (hf : Bf f) (pc i j : Nat) (m : Int) (hpc : x 16 = pc) (hp : (pc : Int) % 4 = 0) (hh : hsn L pc 4) (hi : i < 16) (hj : j < 16) (m0 : -32768 ≤ m) (m1 : m ≤ 32767) (k4 : 4 ≤ j)
    (e1 : gtn L pc 4 / 16777216 = 39) (e2 : gtn L pc 4 / 1048576 % 16 = i) (e3 : gtn L pc 4 / 65536 % 16 = j) (e4 : imv (gtn L pc 4) = m) :
    Calls Try.prog 19 #[.pointer (some ⟨cb, 0, none⟩)] w (Came (.int .i64 (noA x f L 4 (x 16)).k) (noA x f L 4 (x 16)) w cb db v (wrap64 (a + 1)) s) := by
  have bp := hx 16 (by omega)
  rw [hpc] at bp
  have q1 := cfetch_ok hc h pc (by omega) hp hh (by omega)
  unfold insV at q1
  rw [e1, e2, e3, e4] at q1
  have c16 := hc.rx 16 (by omega)
  rw [hpc] at c16
  clear h hp hh e1 e2 e3 e4
  have i0 : (0 : Int) ≤ (i : Int) := by omega
  have i1 : (i : Int) < 16 := by omega
  have j0 : (0 : Int) ≤ (j : Int) := by omega
  have j1 : (j : Int) < 16 := by omega
  go_enter Try.func19, Try.ntmps19
  go_wp2_with fail
  refine q1.mono ?_
  rintro e W1 ⟨rfl, c1, b1, k1⟩
  have n2 := (New.refl W1).alloc #[.int .i64 39, .int .i64 i, .int .i64 j, .int .i64 m] 73
  have BI := Box.here W1 _ #[.int .i64 39, .int .i64 i, .int .i64 j, .int .i64 m] 73 rfl
  have S1 : St w cb db v (wrap64 (a + 1)) s x f pc L (W1.alloc (.cells #[.int .i64 39, .int .i64 i, .int .i64 j, .int .i64 m] 73)) := St.new ⟨c1, b1, k1⟩ n2
  have nb : W1.heap.size ≠ cb := Box.ne BI S1.1.1 (by decide)
  clear c1 b1 k1 q1 c16 hc n2
  have c16 := S1.1.rx 16 (by omega)
  rw [hpc] at c16
  have u16 := S1.1.un (1 + 16)
  have S2 := S1.setx 16 (by omega) (m32 ((pc : Int) + 4))
  have BI := BI.other (p := ⟨cb, 1 + 16, none⟩) (fun e => nb e.symm) (.int .u32 (m32 ((pc : Int) + 4)))
  have en : upd x 16 (m32 ((pc : Int) + 4)) = nx x := by unfold nx; rw [hpc]
  rw [en] at S2
  clear en nb
  have S2 := Lib.hid S2
  have BI := Lib.hid BI
  go_upto_region 4 with fail
  change Code.wp _ _ _ _ ((W1.alloc (.cells #[.int .i64 39, .int .i64 i, .int .i64 j, .int .i64 m] 73)).setCell ⟨cb, 1 + 16, none⟩ (.int .u32 (m32 ((pc : Int) + 4))))
  generalize ((W1.alloc (.cells #[.int .i64 39, .int .i64 i, .int .i64 j, .int .i64 m] 73)).setCell ⟨cb, 1 + 16, none⟩ (.int .u32 (m32 ((pc : Int) + 4)))) = W3 at *
  generalize W1.heap.size = ib at *
  clear c16 u16 S1
  obtain ⟨t0, t1, t2, t3⟩ := BI.out.four
  have cj := S2.out.1.rx j (by omega)
  rw [nx_lo x j hj] at cj
  have bj := hx j (by omega)
  obtain ⟨A, hA⟩ : ∃ A, A = adr x j m := ⟨_, rfl⟩
  have ad : (x j + m % 4294967296) % 4294967296 = A := by rw [hA]; unfold adr m32; omega
  have Ab : 0 ≤ A ∧ A ≤ 4294967295 := by rw [hA]; exact adr_bd x j m
  go_wp2_with fail
  go_region
  simp only [ad]
  clear ad
  have S4 := Lib.hid (S2.out.new (New.refl W3).drew)
  have t0 := (New.refl W3).drew.keeps t0
  have t1 := (New.refl W3).drew.keeps t1
  have t2 := (New.refl W3).drew.keeps t2
  have t3 := (New.refl W3).drew.keeps t3
  generalize W3.drew = W4 at *
  have cj := S4.out.1.rx j (by omega)
  rw [nx_lo x j hj] at cj
  have ci := S4.out.1.rx i (by omega)
  rw [nx_lo x i hi] at ci
  have ui := S4.out.1.un (1 + i)
  have c17 := S4.out.1.rx 17 (by omega)
  rw [nx_17] at c17
  clear S2 BI
  obtain ⟨N, hN⟩ : ∃ N : Nat, A = N := ⟨A.toNat, by omega⟩
  subst hN
  have hA := Lib.hid hA
  have qr := flt_ill_b39 S4.out.1 S4.out.2.1 m i j hi hj (bx_nx hx) hf x f (x 16) N (by omega) k4 
  simp only [hA.out] at qr
  go_wp2_with fail
  refine (qr).mono ?_
  intro e W5 hc
  obtain ⟨rfl, hb⟩ := Came.fell S4.out.2.2 rfl hc
  clear hc
  go_wp2
  first | exact ⟨rfl, hb _⟩ | (simp only [hpc] at hb; exact ⟨rfl, hb _⟩) | (subst hA; exact ⟨rfl, hb _⟩)
end
end Go.Proofs.Ytbkhmeongekdiaa
