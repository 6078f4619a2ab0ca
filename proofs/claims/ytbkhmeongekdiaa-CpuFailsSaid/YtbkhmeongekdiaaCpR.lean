/- How the instruction at PC is executed: jumps. -/
import Derived.Test.YtbkhmeongekdiaaCpN
import Derived.RegionTactic
namespace Go.Proofs.Ytbkhmeongekdiaa
open Go.RowKit Go.Joins
set_option linter.unusedVariables false
set_option maxRecDepth 100000
section
variable {w0 w w' : World} {cb db : Nat} {v : Value} {L : List Int} {x f : Nat → Int} {q a s : Int}
theorem frw_eq (x : Nat → Int) (m : Int) : (m32 (x 16 + 4) + 4 * (m % 4294967296) % 4294967296) % 4294967296 = frw x m := by unfold frw m32; omega
set_option maxHeartbeats 2000000 in
theorem ex_27 (hc : Co w cb db x f q) (h : Bd w db v L a s) (hx : Bx x) (hf : Bf f) (pc i j : Nat) (m : Int) (hpc : x 16 = pc) (hp : (pc : Int) % 4 = 0) (hh : hsn L pc 4) (hi : i < 16) (hj : j < 16) (m0 : -32768 ≤ m) (m1 : m ≤ 32767)
    (e1 : gtn L pc 4 / 16777216 = 27) (e2 : gtn L pc 4 / 1048576 % 16 = i) (e3 : gtn L pc 4 / 65536 % 16 = j) (e4 : imv (gtn L pc 4) = m) :
    Calls Try.prog 19 #[.pointer (some ⟨cb, 0, none⟩)] w (Came (.int .i64 (okA (upd (upd (nx x) 14 (m32 (x 16 + 4))) 16 (frw x m)) f L).k) (okA (upd (upd (nx x) 14 (m32 (x 16 + 4))) 16 (frw x m)) f L) w cb db v (wrap64 (a + 1)) s) := by
  have bp := hx 16 (by omega)
  rw [hpc] at bp
  have q1 := cfetch_ok hc h pc (by omega) hp hh (by omega)
  unfold insV at q1
  rw [e1, e2, e3, e4] at q1
  have c16 := hc.rx 16 (by omega)
  rw [hpc] at c16
  clear h hp hh e1 e2 e3 e4
  have i0 : (0 : Int) ≤ (i : Int) := by omega
  have i1 : (i : Int) < 16 := by omega
  have j0 : (0 : Int) ≤ (j : Int) := by omega
  have j1 : (j : Int) < 16 := by omega
  go_enter Try.func19, Try.ntmps19
  go_wp2_with fail
  refine q1.mono ?_
  rintro e W1 ⟨rfl, c1, b1, k1⟩
  have n2 := (New.refl W1).alloc #[.int .i64 27, .int .i64 i, .int .i64 j, .int .i64 m] 73
  have BI := Box.here W1 _ #[.int .i64 27, .int .i64 i, .int .i64 j, .int .i64 m] 73 rfl
  have S1 : St w cb db v (wrap64 (a + 1)) s x f pc L (W1.alloc (.cells #[.int .i64 27, .int .i64 i, .int .i64 j, .int .i64 m] 73)) := St.new ⟨c1, b1, k1⟩ n2
  have nb : W1.heap.size ≠ cb := Box.ne BI S1.1.1 (by decide)
  clear c1 b1 k1 q1 c16 hc n2
  have c16 := S1.1.rx 16 (by omega)
  rw [hpc] at c16
  have u16 := S1.1.un (1 + 16)
  have S2 := S1.setx 16 (by omega) (m32 ((pc : Int) + 4))
  have BI := BI.other (p := ⟨cb, 1 + 16, none⟩) (fun e => nb e.symm) (.int .u32 (m32 ((pc : Int) + 4)))
  have en : upd x 16 (m32 ((pc : Int) + 4)) = nx x := by unfold nx; rw [hpc]
  rw [en] at S2
  clear en nb
  have S2 := Lib.hid S2
  have BI := Lib.hid BI
  go_upto_region 4 with fail
  change Code.wp _ _ _ _ ((W1.alloc (.cells #[.int .i64 27, .int .i64 i, .int .i64 j, .int .i64 m] 73)).setCell ⟨cb, 1 + 16, none⟩ (.int .u32 (m32 ((pc : Int) + 4))))
  generalize ((W1.alloc (.cells #[.int .i64 27, .int .i64 i, .int .i64 j, .int .i64 m] 73)).setCell ⟨cb, 1 + 16, none⟩ (.int .u32 (m32 ((pc : Int) + 4)))) = W3 at *
  generalize W1.heap.size = ib at *
  clear c16 u16 S1
  obtain ⟨t0, t1, t2, t3⟩ := BI.out.four
  have cj := S2.out.1.rx j (by omega)
  rw [nx_lo x j hj] at cj
  have bj := hx j (by omega)
  obtain ⟨A, hA⟩ : ∃ A, A = adr x j m := ⟨_, rfl⟩
  have ad : (x j + m % 4294967296) % 4294967296 = A := by rw [hA]; unfold adr m32; omega
  have Ab : 0 ≤ A ∧ A ≤ 4294967295 := by rw [hA]; exact adr_bd x j m
  go_wp2_with fail
  go_region
  simp only [ad]
  clear ad
  have S4 := Lib.hid (S2.out.new (New.refl W3).drew)
  have t0 := (New.refl W3).drew.keeps t0
  have t1 := (New.refl W3).drew.keeps t1
  have t2 := (New.refl W3).drew.keeps t2
  have t3 := (New.refl W3).drew.keeps t3
  generalize W3.drew = W4 at *
  have cj := S4.out.1.rx j (by omega)
  rw [nx_lo x j hj] at cj
  have ci := S4.out.1.rx i (by omega)
  rw [nx_lo x i hi] at ci
  have ui := S4.out.1.un (1 + i)
  have c17 := S4.out.1.rx 17 (by omega)
  rw [nx_17] at c17
  clear S2 BI
  have c16 := S4.out.1.rx 16 (by omega)
  rw [nx_16, hpc] at c16
  have jb : IntKind.wrap .u32 (m32 ((pc : Int) + 4) + IntKind.wrap .u32 (4 * (m % 4294967296))) = frw x m := by
    have h0 := frw_eq x m
    rw [hpc] at h0
    exact h0
  have jb := Lib.hid jb
  go_wp2_with fail
  go_still_tail 9, (by kernel_rfl)
  change wpList _ _ _ _ _ W4.drew
  have S4 := Lib.hid (S4.out.new (New.refl W4).drew)
  clear t0 t1 t2 t3 cj ci ui c17 c16
  generalize W4.drew = W6 at *
  have qr := jmp_call S4.out.1 S4.out.2.1 m i j hi hj (bx_nx hx) (frw x m)
  rw [nx_16] at qr
  go_wp2_with fail
  try simp only [jb.out]
  clear jb
  refine (qr).mono ?_
  intro e W5 hc
  obtain ⟨rfl, hb⟩ := Came.back S4.out.2.2 (show (0 : Int) ≠ 4 by decide) hc
  clear hc
  go_wp2
  go_ret
  first | exact hb _ | (simp only [hpc] at hb; exact hb _) | (subst hA; exact hb _)
set_option maxHeartbeats 2000000 in
theorem ex_28 (hc : Co w cb db x f q) (h : Bd w db v L a s) (hx : Bx x) (hf : Bf f) (pc i j : Nat) (m : Int) (hpc : x 16 = pc) (hp : (pc : Int) % 4 = 0) (hh : hsn L pc 4) (hi : i < 16) (hj : j < 16) (m0 : -32768 ≤ m) (m1 : m ≤ 32767)
    (e1 : gtn L pc 4 / 16777216 = 28) (e2 : gtn L pc 4 / 1048576 % 16 = i) (e3 : gtn L pc 4 / 65536 % 16 = j) (e4 : imv (gtn L pc 4) = m) :
    Calls Try.prog 19 #[.pointer (some ⟨cb, 0, none⟩)] w (Came (.int .i64 (okA (upd (nx x) 16 (x i)) f L).k) (okA (upd (nx x) 16 (x i)) f L) w cb db v (wrap64 (a + 1)) s) := by
  have bp := hx 16 (by omega)
  rw [hpc] at bp
  have q1 := cfetch_ok hc h pc (by omega) hp hh (by omega)
  unfold insV at q1
  rw [e1, e2, e3, e4] at q1
  have c16 := hc.rx 16 (by omega)
  rw [hpc] at c16
  clear h hp hh e1 e2 e3 e4
  have i0 : (0 : Int) ≤ (i : Int) := by omega
  have i1 : (i : Int) < 16 := by omega
  have j0 : (0 : Int) ≤ (j : Int) := by omega
  have j1 : (j : Int) < 16 := by omega
  go_enter Try.func19, Try.ntmps19
  go_wp2_with fail
  refine q1.mono ?_
  rintro e W1 ⟨rfl, c1, b1, k1⟩
  have n2 := (New.refl W1).alloc #[.int .i64 28, .int .i64 i, .int .i64 j, .int .i64 m] 73
  have BI := Box.here W1 _ #[.int .i64 28, .int .i64 i, .int .i64 j, .int .i64 m] 73 rfl
  have S1 : St w cb db v (wrap64 (a + 1)) s x f pc L (W1.alloc (.cells #[.int .i64 28, .int .i64 i, .int .i64 j, .int .i64 m] 73)) := St.new ⟨c1, b1, k1⟩ n2
  have nb : W1.heap.size ≠ cb := Box.ne BI S1.1.1 (by decide)
  clear c1 b1 k1 q1 c16 hc n2
  have c16 := S1.1.rx 16 (by omega)
  rw [hpc] at c16
  have u16 := S1.1.un (1 + 16)
  have S2 := S1.setx 16 (by omega) (m32 ((pc : Int) + 4))
  have BI := BI.other (p := ⟨cb, 1 + 16, none⟩) (fun e => nb e.symm) (.int .u32 (m32 ((pc : Int) + 4)))
  have en : upd x 16 (m32 ((pc : Int) + 4)) = nx x := by unfold nx; rw [hpc]
  rw [en] at S2
  clear en nb
  have S2 := Lib.hid S2
  have BI := Lib.hid BI
  go_upto_region 4 with fail
  change Code.wp _ _ _ _ ((W1.alloc (.cells #[.int .i64 28, .int .i64 i, .int .i64 j, .int .i64 m] 73)).setCell ⟨cb, 1 + 16, none⟩ (.int .u32 (m32 ((pc : Int) + 4))))
  generalize ((W1.alloc (.cells #[.int .i64 28, .int .i64 i, .int .i64 j, .int .i64 m] 73)).setCell ⟨cb, 1 + 16, none⟩ (.int .u32 (m32 ((pc : Int) + 4)))) = W3 at *
  generalize W1.heap.size = ib at *
  clear c16 u16 S1
  obtain ⟨t0, t1, t2, t3⟩ := BI.out.four
  have cj := S2.out.1.rx j (by omega)
  rw [nx_lo x j hj] at cj
  have bj := hx j (by omega)
  obtain ⟨A, hA⟩ : ∃ A, A = adr x j m := ⟨_, rfl⟩
  have ad : (x j + m % 4294967296) % 4294967296 = A := by rw [hA]; unfold adr m32; omega
  have Ab : 0 ≤ A ∧ A ≤ 4294967295 := by rw [hA]; exact adr_bd x j m
  go_wp2_with fail
  go_region
  simp only [ad]
  clear ad
  have S4 := Lib.hid (S2.out.new (New.refl W3).drew)
  have t0 := (New.refl W3).drew.keeps t0
  have t1 := (New.refl W3).drew.keeps t1
  have t2 := (New.refl W3).drew.keeps t2
  have t3 := (New.refl W3).drew.keeps t3
  generalize W3.drew = W4 at *
  have cj := S4.out.1.rx j (by omega)
  rw [nx_lo x j hj] at cj
  have ci := S4.out.1.rx i (by omega)
  rw [nx_lo x i hi] at ci
  have ui := S4.out.1.un (1 + i)
  have c17 := S4.out.1.rx 17 (by omega)
  rw [nx_17] at c17
  clear S2 BI
  have c16 := S4.out.1.rx 16 (by omega)
  rw [nx_16, hpc] at c16
  have jb : IntKind.wrap .u32 (m32 ((pc : Int) + 4) + IntKind.wrap .u32 (4 * (m % 4294967296))) = frw x m := by
    have h0 := frw_eq x m
    rw [hpc] at h0
    exact h0
  have jb := Lib.hid jb
  go_wp2_with fail
  go_still_tail 9, (by kernel_rfl)
  change wpList _ _ _ _ _ W4.drew
  have S4 := Lib.hid (S4.out.new (New.refl W4).drew)
  clear t0 t1 t2 t3 cj ci ui c17 c16
  generalize W4.drew = W6 at *
  have qr := jmp_jr S4.out.1 S4.out.2.1 m i j hi hj (bx_nx hx) (frw x m)
  rw [nx_lo x i hi] at qr
  go_wp2_with fail
  try simp only [jb.out]
  clear jb
  refine (qr).mono ?_
  intro e W5 hc
  obtain ⟨rfl, hb⟩ := Came.back S4.out.2.2 (show (0 : Int) ≠ 4 by decide) hc
  clear hc
  go_wp2
  go_ret
  first | exact hb _ | (simp only [hpc] at hb; exact hb _) | (subst hA; exact hb _)
set_option maxHeartbeats 2000000 in
theorem exb_21 (hc : Co w cb db x f q) (h : Bd w db v L a s) (hx : Bx x) (hf : Bf f) (pc i j : Nat) (m : Int) (hpc : x 16 = pc) (hp : (pc : Int) % 4 = 0) (hh : hsn L pc 4) (hi : i < 16) (hj : j < 16) (m0 : -32768 ≤ m) (m1 : m ≤ 32767) (B : Ans) (hB : (if tkv 21 (x 17) then okA (upd (nx x) 16 (frw x m)) f L else okA (nx x) f L) = B) (hk : B.k = 0)
    (e1 : gtn L pc 4 / 16777216 = 21) (e2 : gtn L pc 4 / 1048576 % 16 = i) (e3 : gtn L pc 4 / 65536 % 16 = j) (e4 : imv (gtn L pc 4) = m) :
    Calls Try.prog 19 #[.pointer (some ⟨cb, 0, none⟩)] w (Came (.int .i64 0) B w cb db v (wrap64 (a + 1)) s) := by
  have hB := Lib.hid hB
  have hk := Lib.hid hk
  have bp := hx 16 (by omega)
  rw [hpc] at bp
  have q1 := cfetch_ok hc h pc (by omega) hp hh (by omega)
  unfold insV at q1
  rw [e1, e2, e3, e4] at q1
  have c16 := hc.rx 16 (by omega)
  rw [hpc] at c16
  clear h hp hh e1 e2 e3 e4
  have i0 : (0 : Int) ≤ (i : Int) := by omega
  have i1 : (i : Int) < 16 := by omega
  have j0 : (0 : Int) ≤ (j : Int) := by omega
  have j1 : (j : Int) < 16 := by omega
  go_enter Try.func19, Try.ntmps19
  go_wp2_with fail
  refine q1.mono ?_
  rintro e W1 ⟨rfl, c1, b1, k1⟩
  have n2 := (New.refl W1).alloc #[.int .i64 21, .int .i64 i, .int .i64 j, .int .i64 m] 73
  have BI := Box.here W1 _ #[.int .i64 21, .int .i64 i, .int .i64 j, .int .i64 m] 73 rfl
  have S1 : St w cb db v (wrap64 (a + 1)) s x f pc L (W1.alloc (.cells #[.int .i64 21, .int .i64 i, .int .i64 j, .int .i64 m] 73)) := St.new ⟨c1, b1, k1⟩ n2
  have nb : W1.heap.size ≠ cb := Box.ne BI S1.1.1 (by decide)
  clear c1 b1 k1 q1 c16 hc n2
  have c16 := S1.1.rx 16 (by omega)
  rw [hpc] at c16
  have u16 := S1.1.un (1 + 16)
  have S2 := S1.setx 16 (by omega) (m32 ((pc : Int) + 4))
  have BI := BI.other (p := ⟨cb, 1 + 16, none⟩) (fun e => nb e.symm) (.int .u32 (m32 ((pc : Int) + 4)))
  have en : upd x 16 (m32 ((pc : Int) + 4)) = nx x := by unfold nx; rw [hpc]
  rw [en] at S2
  clear en nb
  have S2 := Lib.hid S2
  have BI := Lib.hid BI
  go_upto_region 4 with fail
  change Code.wp _ _ _ _ ((W1.alloc (.cells #[.int .i64 21, .int .i64 i, .int .i64 j, .int .i64 m] 73)).setCell ⟨cb, 1 + 16, none⟩ (.int .u32 (m32 ((pc : Int) + 4))))
  generalize ((W1.alloc (.cells #[.int .i64 21, .int .i64 i, .int .i64 j, .int .i64 m] 73)).setCell ⟨cb, 1 + 16, none⟩ (.int .u32 (m32 ((pc : Int) + 4)))) = W3 at *
  generalize W1.heap.size = ib at *
  clear c16 u16 S1
  obtain ⟨t0, t1, t2, t3⟩ := BI.out.four
  have cj := S2.out.1.rx j (by omega)
  rw [nx_lo x j hj] at cj
  have bj := hx j (by omega)
  obtain ⟨A, hA⟩ : ∃ A, A = adr x j m := ⟨_, rfl⟩
  have ad : (x j + m % 4294967296) % 4294967296 = A := by rw [hA]; unfold adr m32; omega
  have Ab : 0 ≤ A ∧ A ≤ 4294967295 := by rw [hA]; exact adr_bd x j m
  go_wp2_with fail
  go_region
  simp only [ad]
  clear ad
  have S4 := Lib.hid (S2.out.new (New.refl W3).drew)
  have t0 := (New.refl W3).drew.keeps t0
  have t1 := (New.refl W3).drew.keeps t1
  have t2 := (New.refl W3).drew.keeps t2
  have t3 := (New.refl W3).drew.keeps t3
  generalize W3.drew = W4 at *
  have cj := S4.out.1.rx j (by omega)
  rw [nx_lo x j hj] at cj
  have ci := S4.out.1.rx i (by omega)
  rw [nx_lo x i hi] at ci
  have ui := S4.out.1.un (1 + i)
  have c17 := S4.out.1.rx 17 (by omega)
  rw [nx_17] at c17
  clear S2 BI
  have c16 := S4.out.1.rx 16 (by omega)
  rw [nx_16, hpc] at c16
  have jb : IntKind.wrap .u32 (m32 ((pc : Int) + 4) + IntKind.wrap .u32 (4 * (m % 4294967296))) = frw x m := by
    have h0 := frw_eq x m
    rw [hpc] at h0
    exact h0
  have jb := Lib.hid jb
  go_wp2_with fail
  go_still_tail 9, (by kernel_rfl)
  change wpList _ _ _ _ _ W4.drew
  have S4 := Lib.hid (S4.out.new (New.refl W4).drew)
  clear t0 t1 t2 t3 cj ci ui c17 c16
  generalize W4.drew = W6 at *
  have qr := jmp_if S4.out.1 S4.out.2.1 21 m i j hi hj (bx_nx hx) (frw x m) (by omega) (by omega)
  rw [nx_17, hB.out] at qr
  go_wp2_with fail
  try simp only [jb.out]
  clear jb
  refine (qr).mono ?_
  intro e W5 hc
  obtain ⟨rfl, hb⟩ := Came.back S4.out.2.2 (by rw [hk.out]; decide) hc
  clear hc
  go_wp2
  go_ret
  first | exact hb _ | (simp only [hpc] at hb; exact hb _) | (subst hA; exact hb _)
set_option maxHeartbeats 2000000 in
theorem ex_21 (hc : Co w cb db x f q) (h : Bd w db v L a s) (hx : Bx x) (hf : Bf f) (pc i j : Nat) (m : Int) (hpc : x 16 = pc) (hp : (pc : Int) % 4 = 0) (hh : hsn L pc 4) (hi : i < 16) (hj : j < 16) (m0 : -32768 ≤ m) (m1 : m ≤ 32767)
    (e1 : gtn L pc 4 / 16777216 = 21) (e2 : gtn L pc 4 / 1048576 % 16 = i) (e3 : gtn L pc 4 / 65536 % 16 = j) (e4 : imv (gtn L pc 4) = m) :
    Calls Try.prog 19 #[.pointer (some ⟨cb, 0, none⟩)] w (Came (.int .i64 (if tkv 21 (x 17) then okA (upd (nx x) 16 (frw x m)) f L else okA (nx x) f L : Ans).k) (if tkv 21 (x 17) then okA (upd (nx x) 16 (frw x m)) f L else okA (nx x) f L) w cb db v (wrap64 (a + 1)) s) := by
  have hk : (if tkv 21 (x 17) then okA (upd (nx x) 16 (frw x m)) f L else okA (nx x) f L : Ans).k = 0 := by split <;> rfl
  rw [hk]
  exact exb_21 hc h hx hf pc i j m hpc hp hh hi hj m0 m1 _ rfl hk e1 e2 e3 e4
set_option maxHeartbeats 2000000 in
theorem exb_22 (hc : Co w cb db x f q) (h : Bd w db v L a s) (hx : Bx x) (hf : Bf f) (pc i j : Nat) (m : Int) (hpc : x 16 = pc) (hp : (pc : Int) % 4 = 0) (hh : hsn L pc 4) (hi : i < 16) (hj : j < 16) (m0 : -32768 ≤ m) (m1 : m ≤ 32767) (B : Ans) (hB : (if tkv 22 (x 17) then okA (upd (nx x) 16 (frw x m)) f L else okA (nx x) f L) = B) (hk : B.k = 0)
    (e1 : gtn L pc 4 / 16777216 = 22) (e2 : gtn L pc 4 / 1048576 % 16 = i) (e3 : gtn L pc 4 / 65536 % 16 = j) (e4 : imv (gtn L pc 4) = m) :
    Calls Try.prog 19 #[.pointer (some ⟨cb, 0, none⟩)] w (Came (.int .i64 0) B w cb db v (wrap64 (a + 1)) s) := by
  have hB := Lib.hid hB
  have hk := Lib.hid hk
  have bp := hx 16 (by omega)
  rw [hpc] at bp
  have q1 := cfetch_ok hc h pc (by omega) hp hh (by omega)
  unfold insV at q1
  rw [e1, e2, e3, e4] at q1
  have c16 := hc.rx 16 (by omega)
  rw [hpc] at c16
  clear h hp hh e1 e2 e3 e4
  have i0 : (0 : Int) ≤ (i : Int) := by omega
  have i1 : (i : Int) < 16 := by omega
  have j0 : (0 : Int) ≤ (j : Int) := by omega
  have j1 : (j : Int) < 16 := by omega
  go_enter Try.func19, Try.ntmps19
  go_wp2_with fail
  refine q1.mono ?_
  rintro e W1 ⟨rfl, c1, b1, k1⟩
  have n2 := (New.refl W1).alloc #[.int .i64 22, .int .i64 i, .int .i64 j, .int .i64 m] 73
  have BI := Box.here W1 _ #[.int .i64 22, .int .i64 i, .int .i64 j, .int .i64 m] 73 rfl
  have S1 : St w cb db v (wrap64 (a + 1)) s x f pc L (W1.alloc (.cells #[.int .i64 22, .int .i64 i, .int .i64 j, .int .i64 m] 73)) := St.new ⟨c1, b1, k1⟩ n2
  have nb : W1.heap.size ≠ cb := Box.ne BI S1.1.1 (by decide)
  clear c1 b1 k1 q1 c16 hc n2
  have c16 := S1.1.rx 16 (by omega)
  rw [hpc] at c16
  have u16 := S1.1.un (1 + 16)
  have S2 := S1.setx 16 (by omega) (m32 ((pc : Int) + 4))
  have BI := BI.other (p := ⟨cb, 1 + 16, none⟩) (fun e => nb e.symm) (.int .u32 (m32 ((pc : Int) + 4)))
  have en : upd x 16 (m32 ((pc : Int) + 4)) = nx x := by unfold nx; rw [hpc]
  rw [en] at S2
  clear en nb
  have S2 := Lib.hid S2
  have BI := Lib.hid BI
  go_upto_region 4 with fail
  change Code.wp _ _ _ _ ((W1.alloc (.cells #[.int .i64 22, .int .i64 i, .int .i64 j, .int .i64 m] 73)).setCell ⟨cb, 1 + 16, none⟩ (.int .u32 (m32 ((pc : Int) + 4))))
  generalize ((W1.alloc (.cells #[.int .i64 22, .int .i64 i, .int .i64 j, .int .i64 m] 73)).setCell ⟨cb, 1 + 16, none⟩ (.int .u32 (m32 ((pc : Int) + 4)))) = W3 at *
  generalize W1.heap.size = ib at *
  clear c16 u16 S1
  obtain ⟨t0, t1, t2, t3⟩ := BI.out.four
  have cj := S2.out.1.rx j (by omega)
  rw [nx_lo x j hj] at cj
  have bj := hx j (by omega)
  obtain ⟨A, hA⟩ : ∃ A, A = adr x j m := ⟨_, rfl⟩
  have ad : (x j + m % 4294967296) % 4294967296 = A := by rw [hA]; unfold adr m32; omega
  have Ab : 0 ≤ A ∧ A ≤ 4294967295 := by rw [hA]; exact adr_bd x j m
  go_wp2_with fail
  go_region
  simp only [ad]
  clear ad
  have S4 := Lib.hid (S2.out.new (New.refl W3).drew)
  have t0 := (New.refl W3).drew.keeps t0
  have t1 := (New.refl W3).drew.keeps t1
  have t2 := (New.refl W3).drew.keeps t2
  have t3 := (New.refl W3).drew.keeps t3
  generalize W3.drew = W4 at *
  have cj := S4.out.1.rx j (by omega)
  rw [nx_lo x j hj] at cj
  have ci := S4.out.1.rx i (by omega)
  rw [nx_lo x i hi] at ci
  have ui := S4.out.1.un (1 + i)
  have c17 := S4.out.1.rx 17 (by omega)
  rw [nx_17] at c17
  clear S2 BI
  have c16 := S4.out.1.rx 16 (by omega)
  rw [nx_16, hpc] at c16
  have jb : IntKind.wrap .u32 (m32 ((pc : Int) + 4) + IntKind.wrap .u32 (4 * (m % 4294967296))) = frw x m := by
    have h0 := frw_eq x m
    rw [hpc] at h0
    exact h0
  have jb := Lib.hid jb
  go_wp2_with fail
  go_still_tail 9, (by kernel_rfl)
  change wpList _ _ _ _ _ W4.drew
  have S4 := Lib.hid (S4.out.new (New.refl W4).drew)
  clear t0 t1 t2 t3 cj ci ui c17 c16
  generalize W4.drew = W6 at *
  have qr := jmp_if S4.out.1 S4.out.2.1 22 m i j hi hj (bx_nx hx) (frw x m) (by omega) (by omega)
  rw [nx_17, hB.out] at qr
  go_wp2_with fail
  try simp only [jb.out]
  clear jb
  refine (qr).mono ?_
  intro e W5 hc
  obtain ⟨rfl, hb⟩ := Came.back S4.out.2.2 (by rw [hk.out]; decide) hc
  clear hc
  go_wp2
  go_ret
  first | exact hb _ | (simp only [hpc] at hb; exact hb _) | (subst hA; exact hb _)
set_option maxHeartbeats 2000000 in
theorem ex_22 (hc : Co w cb db x f q) (h : Bd w db v L a s) (hx : Bx x) (hf : Bf f) (pc i j : Nat) (m : Int) (hpc : x 16 = pc) (hp : (pc : Int) % 4 = 0) (hh : hsn L pc 4) (hi : i < 16) (hj : j < 16) (m0 : -32768 ≤ m) (m1 : m ≤ 32767)
    (e1 : gtn L pc 4 / 16777216 = 22) (e2 : gtn L pc 4 / 1048576 % 16 = i) (e3 : gtn L pc 4 / 65536 % 16 = j) (e4 : imv (gtn L pc 4) = m) :
    Calls Try.prog 19 #[.pointer (some ⟨cb, 0, none⟩)] w (Came (.int .i64 (if tkv 22 (x 17) then okA (upd (nx x) 16 (frw x m)) f L else okA (nx x) f L : Ans).k) (if tkv 22 (x 17) then okA (upd (nx x) 16 (frw x m)) f L else okA (nx x) f L) w cb db v (wrap64 (a + 1)) s) := by
  have hk : (if tkv 22 (x 17) then okA (upd (nx x) 16 (frw x m)) f L else okA (nx x) f L : Ans).k = 0 := by split <;> rfl
  rw [hk]
  exact exb_22 hc h hx hf pc i j m hpc hp hh hi hj m0 m1 _ rfl hk e1 e2 e3 e4
set_option maxHeartbeats 2000000 in
theorem exb_23 (hc : Co w cb db x f q) (h : Bd w db v L a s) (hx : Bx x) (hf : Bf f) (pc i j : Nat) (m : Int) (hpc : x 16 = pc) (hp : (pc : Int) % 4 = 0) (hh : hsn L pc 4) (hi : i < 16) (hj : j < 16) (m0 : -32768 ≤ m) (m1 : m ≤ 32767) (B : Ans) (hB : (if tkv 23 (x 17) then okA (upd (nx x) 16 (frw x m)) f L else okA (nx x) f L) = B) (hk : B.k = 0)
    (e1 : gtn L pc 4 / 16777216 = 23) (e2 : gtn L pc 4 / 1048576 % 16 = i) (e3 : gtn L pc 4 / 65536 % 16 = j) (e4 : imv (gtn L pc 4) = m) :
    Calls Try.prog 19 #[.pointer (some ⟨cb, 0, none⟩)] w (Came (.int .i64 0) B w cb db v (wrap64 (a + 1)) s) := by
  have hB := Lib.hid hB
  have hk := Lib.hid hk
  have bp := hx 16 (by omega)
  rw [hpc] at bp
  have q1 := cfetch_ok hc h pc (by omega) hp hh (by omega)
  unfold insV at q1
  rw [e1, e2, e3, e4] at q1
  have c16 := hc.rx 16 (by omega)
  rw [hpc] at c16
  clear h hp hh e1 e2 e3 e4
  have i0 : (0 : Int) ≤ (i : Int) := by omega
  have i1 : (i : Int) < 16 := by omega
  have j0 : (0 : Int) ≤ (j : Int) := by omega
  have j1 : (j : Int) < 16 := by omega
  go_enter Try.func19, Try.ntmps19
  go_wp2_with fail
  refine q1.mono ?_
  rintro e W1 ⟨rfl, c1, b1, k1⟩
  have n2 := (New.refl W1).alloc #[.int .i64 23, .int .i64 i, .int .i64 j, .int .i64 m] 73
  have BI := Box.here W1 _ #[.int .i64 23, .int .i64 i, .int .i64 j, .int .i64 m] 73 rfl
  have S1 : St w cb db v (wrap64 (a + 1)) s x f pc L (W1.alloc (.cells #[.int .i64 23, .int .i64 i, .int .i64 j, .int .i64 m] 73)) := St.new ⟨c1, b1, k1⟩ n2
  have nb : W1.heap.size ≠ cb := Box.ne BI S1.1.1 (by decide)
  clear c1 b1 k1 q1 c16 hc n2
  have c16 := S1.1.rx 16 (by omega)
  rw [hpc] at c16
  have u16 := S1.1.un (1 + 16)
  have S2 := S1.setx 16 (by omega) (m32 ((pc : Int) + 4))
  have BI := BI.other (p := ⟨cb, 1 + 16, none⟩) (fun e => nb e.symm) (.int .u32 (m32 ((pc : Int) + 4)))
  have en : upd x 16 (m32 ((pc : Int) + 4)) = nx x := by unfold nx; rw [hpc]
  rw [en] at S2
  clear en nb
  have S2 := Lib.hid S2
  have BI := Lib.hid BI
  go_upto_region 4 with fail
  change Code.wp _ _ _ _ ((W1.alloc (.cells #[.int .i64 23, .int .i64 i, .int .i64 j, .int .i64 m] 73)).setCell ⟨cb, 1 + 16, none⟩ (.int .u32 (m32 ((pc : Int) + 4))))
  generalize ((W1.alloc (.cells #[.int .i64 23, .int .i64 i, .int .i64 j, .int .i64 m] 73)).setCell ⟨cb, 1 + 16, none⟩ (.int .u32 (m32 ((pc : Int) + 4)))) = W3 at *
  generalize W1.heap.size = ib at *
  clear c16 u16 S1
  obtain ⟨t0, t1, t2, t3⟩ := BI.out.four
  have cj := S2.out.1.rx j (by omega)
  rw [nx_lo x j hj] at cj
  have bj := hx j (by omega)
  obtain ⟨A, hA⟩ : ∃ A, A = adr x j m := ⟨_, rfl⟩
  have ad : (x j + m % 4294967296) % 4294967296 = A := by rw [hA]; unfold adr m32; omega
  have Ab : 0 ≤ A ∧ A ≤ 4294967295 := by rw [hA]; exact adr_bd x j m
  go_wp2_with fail
  go_region
  simp only [ad]
  clear ad
  have S4 := Lib.hid (S2.out.new (New.refl W3).drew)
  have t0 := (New.refl W3).drew.keeps t0
  have t1 := (New.refl W3).drew.keeps t1
  have t2 := (New.refl W3).drew.keeps t2
  have t3 := (New.refl W3).drew.keeps t3
  generalize W3.drew = W4 at *
  have cj := S4.out.1.rx j (by omega)
  rw [nx_lo x j hj] at cj
  have ci := S4.out.1.rx i (by omega)
  rw [nx_lo x i hi] at ci
  have ui := S4.out.1.un (1 + i)
  have c17 := S4.out.1.rx 17 (by omega)
  rw [nx_17] at c17
  clear S2 BI
  have c16 := S4.out.1.rx 16 (by omega)
  rw [nx_16, hpc] at c16
  have jb : IntKind.wrap .u32 (m32 ((pc : Int) + 4) + IntKind.wrap .u32 (4 * (m % 4294967296))) = frw x m := by
    have h0 := frw_eq x m
    rw [hpc] at h0
    exact h0
  have jb := Lib.hid jb
  go_wp2_with fail
  go_still_tail 9, (by kernel_rfl)
  change wpList _ _ _ _ _ W4.drew
  have S4 := Lib.hid (S4.out.new (New.refl W4).drew)
  clear t0 t1 t2 t3 cj ci ui c17 c16
  generalize W4.drew = W6 at *
  have qr := jmp_if S4.out.1 S4.out.2.1 23 m i j hi hj (bx_nx hx) (frw x m) (by omega) (by omega)
  rw [nx_17, hB.out] at qr
  go_wp2_with fail
  try simp only [jb.out]
  clear jb
  refine (qr).mono ?_
  intro e W5 hc
  obtain ⟨rfl, hb⟩ := Came.back S4.out.2.2 (by rw [hk.out]; decide) hc
  clear hc
  go_wp2
  go_ret
  first | exact hb _ | (simp only [hpc] at hb; exact hb _) | (subst hA; exact hb _)
set_option maxHeartbeats 2000000 in
theorem ex_23 (hc : Co w cb db x f q) (h : Bd w db v L a s) (hx : Bx x) (hf : Bf f) (pc i j : Nat) (m : Int) (hpc : x 16 = pc) (hp : (pc : Int) % 4 = 0) (hh : hsn L pc 4) (hi : i < 16) (hj : j < 16) (m0 : -32768 ≤ m) (m1 : m ≤ 32767)
    (e1 : gtn L pc 4 / 16777216 = 23) (e2 : gtn L pc 4 / 1048576 % 16 = i) (e3 : gtn L pc 4 / 65536 % 16 = j) (e4 : imv (gtn L pc 4) = m) :
    Calls Try.prog 19 #[.pointer (some ⟨cb, 0, none⟩)] w (Came (.int .i64 (if tkv 23 (x 17) then okA (upd (nx x) 16 (frw x m)) f L else okA (nx x) f L : Ans).k) (if tkv 23 (x 17) then okA (upd (nx x) 16 (frw x m)) f L else okA (nx x) f L) w cb db v (wrap64 (a + 1)) s) := by
  have hk : (if tkv 23 (x 17) then okA (upd (nx x) 16 (frw x m)) f L else okA (nx x) f L : Ans).k = 0 := by split <;> rfl
  rw [hk]
  exact exb_23 hc h hx hf pc i j m hpc hp hh hi hj m0 m1 _ rfl hk e1 e2 e3 e4
set_option maxHeartbeats 2000000 in
theorem exb_24 (hc : Co w cb db x f q) (h : Bd w db v L a s) (hx : Bx x) (hf : Bf f) (pc i j : Nat) (m : Int) (hpc : x 16 = pc) (hp : (pc : Int) % 4 = 0) (hh : hsn L pc 4) (hi : i < 16) (hj : j < 16) (m0 : -32768 ≤ m) (m1 : m ≤ 32767) (B : Ans) (hB : (if tkv 24 (x 17) then okA (upd (nx x) 16 (frw x m)) f L else okA (nx x) f L) = B) (hk : B.k = 0)
    (e1 : gtn L pc 4 / 16777216 = 24) (e2 : gtn L pc 4 / 1048576 % 16 = i) (e3 : gtn L pc 4 / 65536 % 16 = j) (e4 : imv (gtn L pc 4) = m) :
    Calls Try.prog 19 #[.pointer (some ⟨cb, 0, none⟩)] w (Came (.int .i64 0) B w cb db v (wrap64 (a + 1)) s) := by
  have hB := Lib.hid hB
  have hk := Lib.hid hk
  have bp := hx 16 (by omega)
  rw [hpc] at bp
  have q1 := cfetch_ok hc h pc (by omega) hp hh (by omega)
  unfold insV at q1
  rw [e1, e2, e3, e4] at q1
  have c16 := hc.rx 16 (by omega)
  rw [hpc] at c16
  clear h hp hh e1 e2 e3 e4
  have i0 : (0 : Int) ≤ (i : Int) := by omega
  have i1 : (i : Int) < 16 := by omega
  have j0 : (0 : Int) ≤ (j : Int) := by omega
  have j1 : (j : Int) < 16 := by omega
  go_enter Try.func19, Try.ntmps19
  go_wp2_with fail
  refine q1.mono ?_
  rintro e W1 ⟨rfl, c1, b1, k1⟩
  have n2 := (New.refl W1).alloc #[.int .i64 24, .int .i64 i, .int .i64 j, .int .i64 m] 73
  have BI := Box.here W1 _ #[.int .i64 24, .int .i64 i, .int .i64 j, .int .i64 m] 73 rfl
  have S1 : St w cb db v (wrap64 (a + 1)) s x f pc L (W1.alloc (.cells #[.int .i64 24, .int .i64 i, .int .i64 j, .int .i64 m] 73)) := St.new ⟨c1, b1, k1⟩ n2
  have nb : W1.heap.size ≠ cb := Box.ne BI S1.1.1 (by decide)
  clear c1 b1 k1 q1 c16 hc n2
  have c16 := S1.1.rx 16 (by omega)
  rw [hpc] at c16
  have u16 := S1.1.un (1 + 16)
  have S2 := S1.setx 16 (by omega) (m32 ((pc : Int) + 4))
  have BI := BI.other (p := ⟨cb, 1 + 16, none⟩) (fun e => nb e.symm) (.int .u32 (m32 ((pc : Int) + 4)))
  have en : upd x 16 (m32 ((pc : Int) + 4)) = nx x := by unfold nx; rw [hpc]
  rw [en] at S2
  clear en nb
  have S2 := Lib.hid S2
  have BI := Lib.hid BI
  go_upto_region 4 with fail
  change Code.wp _ _ _ _ ((W1.alloc (.cells #[.int .i64 24, .int .i64 i, .int .i64 j, .int .i64 m] 73)).setCell ⟨cb, 1 + 16, none⟩ (.int .u32 (m32 ((pc : Int) + 4))))
  generalize ((W1.alloc (.cells #[.int .i64 24, .int .i64 i, .int .i64 j, .int .i64 m] 73)).setCell ⟨cb, 1 + 16, none⟩ (.int .u32 (m32 ((pc : Int) + 4)))) = W3 at *
  generalize W1.heap.size = ib at *
  clear c16 u16 S1
  obtain ⟨t0, t1, t2, t3⟩ := BI.out.four
  have cj := S2.out.1.rx j (by omega)
  rw [nx_lo x j hj] at cj
  have bj := hx j (by omega)
  obtain ⟨A, hA⟩ : ∃ A, A = adr x j m := ⟨_, rfl⟩
  have ad : (x j + m % 4294967296) % 4294967296 = A := by rw [hA]; unfold adr m32; omega
  have Ab : 0 ≤ A ∧ A ≤ 4294967295 := by rw [hA]; exact adr_bd x j m
  go_wp2_with fail
  go_region
  simp only [ad]
  clear ad
  have S4 := Lib.hid (S2.out.new (New.refl W3).drew)
  have t0 := (New.refl W3).drew.keeps t0
  have t1 := (New.refl W3).drew.keeps t1
  have t2 := (New.refl W3).drew.keeps t2
  have t3 := (New.refl W3).drew.keeps t3
  generalize W3.drew = W4 at *
  have cj := S4.out.1.rx j (by omega)
  rw [nx_lo x j hj] at cj
  have ci := S4.out.1.rx i (by omega)
  rw [nx_lo x i hi] at ci
  have ui := S4.out.1.un (1 + i)
  have c17 := S4.out.1.rx 17 (by omega)
  rw [nx_17] at c17
  clear S2 BI
  have c16 := S4.out.1.rx 16 (by omega)
  rw [nx_16, hpc] at c16
  have jb : IntKind.wrap .u32 (m32 ((pc : Int) + 4) + IntKind.wrap .u32 (4 * (m % 4294967296))) = frw x m := by
    have h0 := frw_eq x m
    rw [hpc] at h0
    exact h0
  have jb := Lib.hid jb
  go_wp2_with fail
  go_still_tail 9, (by kernel_rfl)
  change wpList _ _ _ _ _ W4.drew
  have S4 := Lib.hid (S4.out.new (New.refl W4).drew)
  clear t0 t1 t2 t3 cj ci ui c17 c16
  generalize W4.drew = W6 at *
  have qr := jmp_if S4.out.1 S4.out.2.1 24 m i j hi hj (bx_nx hx) (frw x m) (by omega) (by omega)
  rw [nx_17, hB.out] at qr
  go_wp2_with fail
  try simp only [jb.out]
  clear jb
  refine (qr).mono ?_
  intro e W5 hc
  obtain ⟨rfl, hb⟩ := Came.back S4.out.2.2 (by rw [hk.out]; decide) hc
  clear hc
  go_wp2
  go_ret
  first | exact hb _ | (simp only [hpc] at hb; exact hb _) | (subst hA; exact hb _)
set_option maxHeartbeats 2000000 in
theorem ex_24 (hc : Co w cb db x f q) (h : Bd w db v L a s) (hx : Bx x) (hf : Bf f) (pc i j : Nat) (m : Int) (hpc : x 16 = pc) (hp : (pc : Int) % 4 = 0) (hh : hsn L pc 4) (hi : i < 16) (hj : j < 16) (m0 : -32768 ≤ m) (m1 : m ≤ 32767)
    (e1 : gtn L pc 4 / 16777216 = 24) (e2 : gtn L pc 4 / 1048576 % 16 = i) (e3 : gtn L pc 4 / 65536 % 16 = j) (e4 : imv (gtn L pc 4) = m) :
    Calls Try.prog 19 #[.pointer (some ⟨cb, 0, none⟩)] w (Came (.int .i64 (if tkv 24 (x 17) then okA (upd (nx x) 16 (frw x m)) f L else okA (nx x) f L : Ans).k) (if tkv 24 (x 17) then okA (upd (nx x) 16 (frw x m)) f L else okA (nx x) f L) w cb db v (wrap64 (a + 1)) s) := by
  have hk : (if tkv 24 (x 17) then okA (upd (nx x) 16 (frw x m)) f L else okA (nx x) f L : Ans).k = 0 := by split <;> rfl
  rw [hk]
  exact exb_24 hc h hx hf pc i j m hpc hp hh hi hj m0 m1 _ rfl hk e1 e2 e3 e4
set_option maxHeartbeats 2000000 in
theorem exb_25 (hc : Co w cb db x f q) (h : Bd w db v L a s) (hx : Bx x) (hf : Bf f) (pc i j : Nat) (m : Int) (hpc : x 16 = pc) (hp : (pc : Int) % 4 = 0) (hh : hsn L pc 4) (hi : i < 16) (hj : j < 16) (m0 : -32768 ≤ m) (m1 : m ≤ 32767) (B : Ans) (hB : (if tkv 25 (x 17) then okA (upd (nx x) 16 (frw x m)) f L else okA (nx x) f L) = B) (hk : B.k = 0)
    (e1 : gtn L pc 4 / 16777216 = 25) (e2 : gtn L pc 4 / 1048576 % 16 = i) (e3 : gtn L pc 4 / 65536 % 16 = j) (e4 : imv (gtn L pc 4) = m) :
    Calls Try.prog 19 #[.pointer (some ⟨cb, 0, none⟩)] w (Came (.int .i64 0) B w cb db v (wrap64 (a + 1)) s) := by
  have hB := Lib.hid hB
  have hk := Lib.hid hk
  have bp := hx 16 (by omega)
  rw [hpc] at bp
  have q1 := cfetch_ok hc h pc (by omega) hp hh (by omega)
  unfold insV at q1
  rw [e1, e2, e3, e4] at q1
  have c16 := hc.rx 16 (by omega)
  rw [hpc] at c16
  clear h hp hh e1 e2 e3 e4
  have i0 : (0 : Int) ≤ (i : Int) := by omega
  have i1 : (i : Int) < 16 := by omega
  have j0 : (0 : Int) ≤ (j : Int) := by omega
  have j1 : (j : Int) < 16 := by omega
  go_enter Try.func19, Try.ntmps19
  go_wp2_with fail
  refine q1.mono ?_
  rintro e W1 ⟨rfl, c1, b1, k1⟩
  have n2 := (New.refl W1).alloc #[.int .i64 25, .int .i64 i, .int .i64 j, .int .i64 m] 73
  have BI := Box.here W1 _ #[.int .i64 25, .int .i64 i, .int .i64 j, .int .i64 m] 73 rfl
  have S1 : St w cb db v (wrap64 (a + 1)) s x f pc L (W1.alloc (.cells #[.int .i64 25, .int .i64 i, .int .i64 j, .int .i64 m] 73)) := St.new ⟨c1, b1, k1⟩ n2
  have nb : W1.heap.size ≠ cb := Box.ne BI S1.1.1 (by decide)
  clear c1 b1 k1 q1 c16 hc n2
  have c16 := S1.1.rx 16 (by omega)
  rw [hpc] at c16
  have u16 := S1.1.un (1 + 16)
  have S2 := S1.setx 16 (by omega) (m32 ((pc : Int) + 4))
  have BI := BI.other (p := ⟨cb, 1 + 16, none⟩) (fun e => nb e.symm) (.int .u32 (m32 ((pc : Int) + 4)))
  have en : upd x 16 (m32 ((pc : Int) + 4)) = nx x := by unfold nx; rw [hpc]
  rw [en] at S2
  clear en nb
  have S2 := Lib.hid S2
  have BI := Lib.hid BI
  go_upto_region 4 with fail
  change Code.wp _ _ _ _ ((W1.alloc (.cells #[.int .i64 25, .int .i64 i, .int .i64 j, .int .i64 m] 73)).setCell ⟨cb, 1 + 16, none⟩ (.int .u32 (m32 ((pc : Int) + 4))))
  generalize ((W1.alloc (.cells #[.int .i64 25, .int .i64 i, .int .i64 j, .int .i64 m] 73)).setCell ⟨cb, 1 + 16, none⟩ (.int .u32 (m32 ((pc : Int) + 4)))) = W3 at *
  generalize W1.heap.size = ib at *
  clear c16 u16 S1
  obtain ⟨t0, t1, t2, t3⟩ := BI.out.four
  have cj := S2.out.1.rx j (by omega)
  rw [nx_lo x j hj] at cj
  have bj := hx j (by omega)
  obtain ⟨A, hA⟩ : ∃ A, A = adr x j m := ⟨_, rfl⟩
  have ad : (x j + m % 4294967296) % 4294967296 = A := by rw [hA]; unfold adr m32; omega
  have Ab : 0 ≤ A ∧ A ≤ 4294967295 := by rw [hA]; exact adr_bd x j m
  go_wp2_with fail
  go_region
  simp only [ad]
  clear ad
  have S4 := Lib.hid (S2.out.new (New.refl W3).drew)
  have t0 := (New.refl W3).drew.keeps t0
  have t1 := (New.refl W3).drew.keeps t1
  have t2 := (New.refl W3).drew.keeps t2
  have t3 := (New.refl W3).drew.keeps t3
  generalize W3.drew = W4 at *
  have cj := S4.out.1.rx j (by omega)
  rw [nx_lo x j hj] at cj
  have ci := S4.out.1.rx i (by omega)
  rw [nx_lo x i hi] at ci
  have ui := S4.out.1.un (1 + i)
  have c17 := S4.out.1.rx 17 (by omega)
  rw [nx_17] at c17
  clear S2 BI
  have c16 := S4.out.1.rx 16 (by omega)
  rw [nx_16, hpc] at c16
  have jb : IntKind.wrap .u32 (m32 ((pc : Int) + 4) + IntKind.wrap .u32 (4 * (m % 4294967296))) = frw x m := by
    have h0 := frw_eq x m
    rw [hpc] at h0
    exact h0
  have jb := Lib.hid jb
  go_wp2_with fail
  go_still_tail 9, (by kernel_rfl)
  change wpList _ _ _ _ _ W4.drew
  have S4 := Lib.hid (S4.out.new (New.refl W4).drew)
  clear t0 t1 t2 t3 cj ci ui c17 c16
  generalize W4.drew = W6 at *
  have qr := jmp_if S4.out.1 S4.out.2.1 25 m i j hi hj (bx_nx hx) (frw x m) (by omega) (by omega)
  rw [nx_17, hB.out] at qr
  go_wp2_with fail
  try simp only [jb.out]
  clear jb
  refine (qr).mono ?_
  intro e W5 hc
  obtain ⟨rfl, hb⟩ := Came.back S4.out.2.2 (by rw [hk.out]; decide) hc
  clear hc
  go_wp2
  go_ret
  first | exact hb _ | (simp only [hpc] at hb; exact hb _) | (subst hA; exact hb _)
set_option maxHeartbeats 2000000 in
theorem ex_25 (hc : Co w cb db x f q) (h : Bd w db v L a s) (hx : Bx x) (hf : Bf f) (pc i j : Nat) (m : Int) (hpc : x 16 = pc) (hp : (pc : Int) % 4 = 0) (hh : hsn L pc 4) (hi : i < 16) (hj : j < 16) (m0 : -32768 ≤ m) (m1 : m ≤ 32767)
    (e1 : gtn L pc 4 / 16777216 = 25) (e2 : gtn L pc 4 / 1048576 % 16 = i) (e3 : gtn L pc 4 / 65536 % 16 = j) (e4 : imv (gtn L pc 4) = m) :
    Calls Try.prog 19 #[.pointer (some ⟨cb, 0, none⟩)] w (Came (.int .i64 (if tkv 25 (x 17) then okA (upd (nx x) 16 (frw x m)) f L else okA (nx x) f L : Ans).k) (if tkv 25 (x 17) then okA (upd (nx x) 16 (frw x m)) f L else okA (nx x) f L) w cb db v (wrap64 (a + 1)) s) := by
  have hk : (if tkv 25 (x 17) then okA (upd (nx x) 16 (frw x m)) f L else okA (nx x) f L : Ans).k = 0 := by split <;> rfl
  rw [hk]
  exact exb_25 hc h hx hf pc i j m hpc hp hh hi hj m0 m1 _ rfl hk e1 e2 e3 e4
set_option maxHeartbeats 2000000 in
theorem exb_26 (hc : Co w cb db x f q) (h : Bd w db v L a s) (hx : Bx x) (hf : Bf f) (pc i j : Nat) (m : Int) (hpc : x 16 = pc) (hp : (pc : Int) % 4 = 0) (hh : hsn L pc 4) (hi : i < 16) (hj : j < 16) (m0 : -32768 ≤ m) (m1 : m ≤ 32767) (B : Ans) (hB : (if tkv 26 (x 17) then okA (upd (nx x) 16 (frw x m)) f L else okA (nx x) f L) = B) (hk : B.k = 0)
    (e1 : gtn L pc 4 / 16777216 = 26) (e2 : gtn L pc 4 / 1048576 % 16 = i) (e3 : gtn L pc 4 / 65536 % 16 = j) (e4 : imv (gtn L pc 4) = m) :
    Calls Try.prog 19 #[.pointer (some ⟨cb, 0, none⟩)] w (Came (.int .i64 0) B w cb db v (wrap64 (a + 1)) s) := by
  have hB := Lib.hid hB
  have hk := Lib.hid hk
  have bp := hx 16 (by omega)
  rw [hpc] at bp
  have q1 := cfetch_ok hc h pc (by omega) hp hh (by omega)
  unfold insV at q1
  rw [e1, e2, e3, e4] at q1
  have c16 := hc.rx 16 (by omega)
  rw [hpc] at c16
  clear h hp hh e1 e2 e3 e4
  have i0 : (0 : Int) ≤ (i : Int) := by omega
  have i1 : (i : Int) < 16 := by omega
  have j0 : (0 : Int) ≤ (j : Int) := by omega
  have j1 : (j : Int) < 16 := by omega
  go_enter Try.func19, Try.ntmps19
  go_wp2_with fail
  refine q1.mono ?_
  rintro e W1 ⟨rfl, c1, b1, k1⟩
  have n2 := (New.refl W1).alloc #[.int .i64 26, .int .i64 i, .int .i64 j, .int .i64 m] 73
  have BI := Box.here W1 _ #[.int .i64 26, .int .i64 i, .int .i64 j, .int .i64 m] 73 rfl
  have S1 : St w cb db v (wrap64 (a + 1)) s x f pc L (W1.alloc (.cells #[.int .i64 26, .int .i64 i, .int .i64 j, .int .i64 m] 73)) := St.new ⟨c1, b1, k1⟩ n2
  have nb : W1.heap.size ≠ cb := Box.ne BI S1.1.1 (by decide)
  clear c1 b1 k1 q1 c16 hc n2
  have c16 := S1.1.rx 16 (by omega)
  rw [hpc] at c16
  have u16 := S1.1.un (1 + 16)
  have S2 := S1.setx 16 (by omega) (m32 ((pc : Int) + 4))
  have BI := BI.other (p := ⟨cb, 1 + 16, none⟩) (fun e => nb e.symm) (.int .u32 (m32 ((pc : Int) + 4)))
  have en : upd x 16 (m32 ((pc : Int) + 4)) = nx x := by unfold nx; rw [hpc]
  rw [en] at S2
  clear en nb
  have S2 := Lib.hid S2
  have BI := Lib.hid BI
  go_upto_region 4 with fail
  change Code.wp _ _ _ _ ((W1.alloc (.cells #[.int .i64 26, .int .i64 i, .int .i64 j, .int .i64 m] 73)).setCell ⟨cb, 1 + 16, none⟩ (.int .u32 (m32 ((pc : Int) + 4))))
  generalize ((W1.alloc (.cells #[.int .i64 26, .int .i64 i, .int .i64 j, .int .i64 m] 73)).setCell ⟨cb, 1 + 16, none⟩ (.int .u32 (m32 ((pc : Int) + 4)))) = W3 at *
  generalize W1.heap.size = ib at *
  clear c16 u16 S1
  obtain ⟨t0, t1, t2, t3⟩ := BI.out.four
  have cj := S2.out.1.rx j (by omega)
  rw [nx_lo x j hj] at cj
  have bj := hx j (by omega)
  obtain ⟨A, hA⟩ : ∃ A, A = adr x j m := ⟨_, rfl⟩
  have ad : (x j + m % 4294967296) % 4294967296 = A := by rw [hA]; unfold adr m32; omega
  have Ab : 0 ≤ A ∧ A ≤ 4294967295 := by rw [hA]; exact adr_bd x j m
  go_wp2_with fail
  go_region
  simp only [ad]
  clear ad
  have S4 := Lib.hid (S2.out.new (New.refl W3).drew)
  have t0 := (New.refl W3).drew.keeps t0
  have t1 := (New.refl W3).drew.keeps t1
  have t2 := (New.refl W3).drew.keeps t2
  have t3 := (New.refl W3).drew.keeps t3
  generalize W3.drew = W4 at *
  have cj := S4.out.1.rx j (by omega)
  rw [nx_lo x j hj] at cj
  have ci := S4.out.1.rx i (by omega)
  rw [nx_lo x i hi] at ci
  have ui := S4.out.1.un (1 + i)
  have c17 := S4.out.1.rx 17 (by omega)
  rw [nx_17] at c17
  clear S2 BI
  have c16 := S4.out.1.rx 16 (by omega)
  rw [nx_16, hpc] at c16
  have jb : IntKind.wrap .u32 (m32 ((pc : Int) + 4) + IntKind.wrap .u32 (4 * (m % 4294967296))) = frw x m := by
    have h0 := frw_eq x m
    rw [hpc] at h0
    exact h0
  have jb := Lib.hid jb
  go_wp2_with fail
  go_still_tail 9, (by kernel_rfl)
  change wpList _ _ _ _ _ W4.drew
  have S4 := Lib.hid (S4.out.new (New.refl W4).drew)
  clear t0 t1 t2 t3 cj ci ui c17 c16
  generalize W4.drew = W6 at *
  have qr := jmp_if S4.out.1 S4.out.2.1 26 m i j hi hj (bx_nx hx) (frw x m) (by omega) (by omega)
  rw [nx_17, hB.out] at qr
  go_wp2_with fail
  try simp only [jb.out]
  clear jb
  refine (qr).mono ?_
  intro e W5 hc
  obtain ⟨rfl, hb⟩ := Came.back S4.out.2.2 (by rw [hk.out]; decide) hc
  clear hc
  go_wp2
  go_ret
  first | exact hb _ | (simp only [hpc] at hb; exact hb _) | (subst hA; exact hb _)
set_option maxHeartbeats 2000000 in
theorem ex_26 (hc : Co w cb db x f q) (h : Bd w db v L a s) (hx : Bx x) (hf : Bf f) (pc i j : Nat) (m : Int) (hpc : x 16 = pc) (hp : (pc : Int) % 4 = 0) (hh : hsn L pc 4) (hi : i < 16) (hj : j < 16) (m0 : -32768 ≤ m) (m1 : m ≤ 32767)
    (e1 : gtn L pc 4 / 16777216 = 26) (e2 : gtn L pc 4 / 1048576 % 16 = i) (e3 : gtn L pc 4 / 65536 % 16 = j) (e4 : imv (gtn L pc 4) = m) :
    Calls Try.prog 19 #[.pointer (some ⟨cb, 0, none⟩)] w (Came (.int .i64 (if tkv 26 (x 17) then okA (upd (nx x) 16 (frw x m)) f L else okA (nx x) f L : Ans).k) (if tkv 26 (x 17) then okA (upd (nx x) 16 (frw x m)) f L else okA (nx x) f L) w cb db v (wrap64 (a + 1)) s) := by
  have hk : (if tkv 26 (x 17) then okA (upd (nx x) 16 (frw x m)) f L else okA (nx x) f L : Ans).k = 0 := by split <;> rfl
  rw [hk]
  exact exb_26 hc h hx hf pc i j m hpc hp hh hi hj m0 m1 _ rfl hk e1 e2 e3 e4
end
end Go.Proofs.Ytbkhmeongekdiaa
