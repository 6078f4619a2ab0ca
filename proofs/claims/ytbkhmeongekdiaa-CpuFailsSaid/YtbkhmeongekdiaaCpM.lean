/- How an instruction that loads or stores a number is done: contracts. -/
import Derived.Test.YtbkhmeongekdiaaCpG
import Derived.Test.YtbkhmeongekdiaaAlB
import Derived.StillTailTactics
import Derived.RegionTactic
namespace Go.Proofs.Ytbkhmeongekdiaa
open Go.RowKit Go.Joins
set_option linter.unusedVariables false
set_option maxRecDepth 100000
section
variable {w0 w w' : World} {cb db : Nat} {v : Value} {L : List Int} {x f : Nat → Int} {q a s : Int}
set_option maxHeartbeats 1000000 in
theorem acc_lb_ok (hc : Co w cb db x f q) (h : Bd w db v L a s) (m : Int) (i j : Nat) (hi : i < 16) (hx : Bx x) (x1 f1 : Nat → Int) (p : Nat) (hp1 : p ≤ 4294967295) (hh : hsn L p 1) :
    Calls Try.prog 22 #[.pointer (some ⟨cb, 0, none⟩), .agg #[.int .i64 17, .int .i64 i, .int .i64 j, .int .i64 m], .int .u32 p] w
      (Came (.tuple #[]) (okA (upd x i (gtn L p 1)) f L) w cb db v a s) := by
  have n0 := (New.refl w).alloc #[.int .i64 17, .int .i64 i, .int .i64 j, .int .i64 m] 73
  have BI := Box.here w _ #[.int .i64 17, .int .i64 i, .int .i64 j, .int .i64 m] 73 rfl
  have S1 := (St.start hc h).new n0
  have i0 : (0 : Int) ≤ (i : Int) := by omega
  have i1 : (i : Int) < 16 := by omega
  go_enter Try.func22, Try.ntmps22
  go_upto_region 1 with fail
  change Code.wp _ _ _ _ (w.alloc (.cells #[.int .i64 17, .int .i64 i, .int .i64 j, .int .i64 m] 73))
  generalize (w.alloc (.cells #[.int .i64 17, .int .i64 i, .int .i64 j, .int .i64 m] 73)) = W at *
  generalize w.heap.size = ib at *
  obtain ⟨t0, t1, t2, t3⟩ := BI.four
  have BI := Lib.hid BI
  go_region
  have S1 := S1.new (New.refl W).drew
  have t0 := (New.refl W).drew.keeps t0
  generalize W.drew = W1 at *
  have ci := S1.1.rx i (by omega)
  have S1 := Lib.hid S1
  have q1 := cload_ok S1.out.1 S1.out.2.1 p 1 (by omega) hp1 hh
  go_wp2_with fail
  refine q1.mono ?_
  rintro e W3 ⟨rfl, c3, b3, k3⟩
  have S3 : St w cb db v a s x f p L W3 := ⟨c3, b3, S1.out.2.2.trans k3⟩
  have ci := c3.rx i (by omega)
  have ui := c3.un (1 + i)
  have Sf := Lib.hid (S3.setx i (by omega) (gtn L p 1))
  clear S3 S1 c3 b3 k3 q1 t0 t1 t2 t3 BI
  generalize gtn L (p : Int) 1 = G at *
  go_wp2
  go_end0
  exact came_ok (n := 0) (k := 0) (s1 := 0) (a1 := 0) (by omega) (by omega) Sf.out
set_option maxHeartbeats 1000000 in
theorem acc_lb_no (hc : Co w cb db x f q) (h : Bd w db v L a s) (m : Int) (i j : Nat) (hi : i < 16) (hx : Bx x) (x1 f1 : Nat → Int) (p : Nat) (hp1 : p ≤ 4294967295) (hh : ¬ hsn L p 1) :
    Calls Try.prog 22 #[.pointer (some ⟨cb, 0, none⟩), .agg #[.int .i64 17, .int .i64 i, .int .i64 j, .int .i64 m], .int .u32 p] w
      (Came (.tuple #[]) (noA x1 f1 L 11 p) w cb db v a s) := by
  have n0 := (New.refl w).alloc #[.int .i64 17, .int .i64 i, .int .i64 j, .int .i64 m] 73
  have BI := Box.here w _ #[.int .i64 17, .int .i64 i, .int .i64 j, .int .i64 m] 73 rfl
  have S1 := (St.start hc h).new n0
  have i0 : (0 : Int) ≤ (i : Int) := by omega
  have i1 : (i : Int) < 16 := by omega
  go_enter Try.func22, Try.ntmps22
  go_upto_region 1 with fail
  change Code.wp _ _ _ _ (w.alloc (.cells #[.int .i64 17, .int .i64 i, .int .i64 j, .int .i64 m] 73))
  generalize (w.alloc (.cells #[.int .i64 17, .int .i64 i, .int .i64 j, .int .i64 m] 73)) = W at *
  generalize w.heap.size = ib at *
  obtain ⟨t0, t1, t2, t3⟩ := BI.four
  have BI := Lib.hid BI
  go_region
  have S1 := S1.new (New.refl W).drew
  have t0 := (New.refl W).drew.keeps t0
  generalize W.drew = W1 at *
  have ci := S1.1.rx i (by omega)
  have S1 := Lib.hid S1
  have q1 := cload_no S1.out.1 S1.out.2.1 p 1 (by omega) hp1 hh
  go_wp2_with fail
  refine q1.mono ?_
  rintro e W3 ⟨rfl, c3, b3, k3⟩
  go_wp2
  exact ⟨rfl, came_no (x1 := x1) (f1 := f1) (n := 0) (s1 := 11) (a1 := p) (fun _ => rfl) ⟨c3, b3, S1.out.2.2.trans k3⟩⟩
set_option maxHeartbeats 1000000 in
theorem acc_lw_odd (hc : Co w cb db x f q) (h : Bd w db v L a s) (m : Int) (i j : Nat) (hi : i < 16) (hx : Bx x) (x1 f1 : Nat → Int) (p : Nat) (hp1 : p ≤ 4294967295) (hp : (p : Int) % 4 ≠ 0) :
    Calls Try.prog 22 #[.pointer (some ⟨cb, 0, none⟩), .agg #[.int .i64 18, .int .i64 i, .int .i64 j, .int .i64 m], .int .u32 p] w
      (Came (.tuple #[]) (noA x1 f1 L 7 p) w cb db v a s) := by
  have n0 := (New.refl w).alloc #[.int .i64 18, .int .i64 i, .int .i64 j, .int .i64 m] 73
  have BI := Box.here w _ #[.int .i64 18, .int .i64 i, .int .i64 j, .int .i64 m] 73 rfl
  have S1 := (St.start hc h).new n0
  have i0 : (0 : Int) ≤ (i : Int) := by omega
  have i1 : (i : Int) < 16 := by omega
  go_enter Try.func22, Try.ntmps22
  go_upto_region 1 with fail
  change Code.wp _ _ _ _ (w.alloc (.cells #[.int .i64 18, .int .i64 i, .int .i64 j, .int .i64 m] 73))
  generalize (w.alloc (.cells #[.int .i64 18, .int .i64 i, .int .i64 j, .int .i64 m] 73)) = W at *
  generalize w.heap.size = ib at *
  obtain ⟨t0, t1, t2, t3⟩ := BI.four
  have BI := Lib.hid BI
  go_region
  have S1 := S1.new (New.refl W).drew
  have t0 := (New.refl W).drew.keeps t0
  generalize W.drew = W1 at *
  have ci := S1.1.rx i (by omega)
  have S1 := Lib.hid S1
  have q1 := fun w => align_no p 4 w (by omega) (.inl rfl) hp
  go_wp2_with fail
  refine (q1 _).mono ?_
  rintro e W2 ⟨rfl, rfl⟩
  go_wp2
  exact ⟨rfl, came_no (x1 := x1) (f1 := f1) (n := 0) (s1 := 7) (a1 := p) (by omega) S1.out⟩
set_option maxHeartbeats 1000000 in
theorem acc_lw_ok (hc : Co w cb db x f q) (h : Bd w db v L a s) (m : Int) (i j : Nat) (hi : i < 16) (hx : Bx x) (x1 f1 : Nat → Int) (p : Nat) (hp1 : p ≤ 4294967295) (hp : (p : Int) % 4 = 0) (hh : hsn L p 4) :
    Calls Try.prog 22 #[.pointer (some ⟨cb, 0, none⟩), .agg #[.int .i64 18, .int .i64 i, .int .i64 j, .int .i64 m], .int .u32 p] w
      (Came (.tuple #[]) (okA (upd x i (gtn L p 4)) f L) w cb db v a s) := by
  have n0 := (New.refl w).alloc #[.int .i64 18, .int .i64 i, .int .i64 j, .int .i64 m] 73
  have BI := Box.here w _ #[.int .i64 18, .int .i64 i, .int .i64 j, .int .i64 m] 73 rfl
  have S1 := (St.start hc h).new n0
  have i0 : (0 : Int) ≤ (i : Int) := by omega
  have i1 : (i : Int) < 16 := by omega
  go_enter Try.func22, Try.ntmps22
  go_upto_region 1 with fail
  change Code.wp _ _ _ _ (w.alloc (.cells #[.int .i64 18, .int .i64 i, .int .i64 j, .int .i64 m] 73))
  generalize (w.alloc (.cells #[.int .i64 18, .int .i64 i, .int .i64 j, .int .i64 m] 73)) = W at *
  generalize w.heap.size = ib at *
  obtain ⟨t0, t1, t2, t3⟩ := BI.four
  have BI := Lib.hid BI
  go_region
  have S1 := S1.new (New.refl W).drew
  have t0 := (New.refl W).drew.keeps t0
  generalize W.drew = W1 at *
  have ci := S1.1.rx i (by omega)
  have S1 := Lib.hid S1
  have q0 := fun w => align_ok p 4 w (by omega) (.inl rfl) hp
  go_wp2_with fail
  refine (q0 _).mono ?_
  rintro e W2 ⟨rfl, rfl⟩
  have q1 := cload_ok S1.out.1 S1.out.2.1 p 4 (by omega) hp1 hh
  go_wp2_with fail
  refine q1.mono ?_
  rintro e W3 ⟨rfl, c3, b3, k3⟩
  have S3 : St w cb db v a s x f p L W3 := ⟨c3, b3, S1.out.2.2.trans k3⟩
  have ci := c3.rx i (by omega)
  have ui := c3.un (1 + i)
  have Sf := Lib.hid (S3.setx i (by omega) (gtn L p 4))
  clear S3 S1 c3 b3 k3 q1 t0 t1 t2 t3 BI
  generalize gtn L (p : Int) 4 = G at *
  go_wp2
  go_end0
  exact came_ok (n := 0) (k := 0) (s1 := 0) (a1 := 0) (by omega) (by omega) Sf.out
set_option maxHeartbeats 1000000 in
theorem acc_lw_no (hc : Co w cb db x f q) (h : Bd w db v L a s) (m : Int) (i j : Nat) (hi : i < 16) (hx : Bx x) (x1 f1 : Nat → Int) (p : Nat) (hp1 : p ≤ 4294967295) (hp : (p : Int) % 4 = 0) (hh : ¬ hsn L p 4) :
    Calls Try.prog 22 #[.pointer (some ⟨cb, 0, none⟩), .agg #[.int .i64 18, .int .i64 i, .int .i64 j, .int .i64 m], .int .u32 p] w
      (Came (.tuple #[]) (noA x1 f1 L 11 p) w cb db v a s) := by
  have n0 := (New.refl w).alloc #[.int .i64 18, .int .i64 i, .int .i64 j, .int .i64 m] 73
  have BI := Box.here w _ #[.int .i64 18, .int .i64 i, .int .i64 j, .int .i64 m] 73 rfl
  have S1 := (St.start hc h).new n0
  have i0 : (0 : Int) ≤ (i : Int) := by omega
  have i1 : (i : Int) < 16 := by omega
  go_enter Try.func22, Try.ntmps22
  go_upto_region 1 with fail
  change Code.wp _ _ _ _ (w.alloc (.cells #[.int .i64 18, .int .i64 i, .int .i64 j, .int .i64 m] 73))
  generalize (w.alloc (.cells #[.int .i64 18, .int .i64 i, .int .i64 j, .int .i64 m] 73)) = W at *
  generalize w.heap.size = ib at *
  obtain ⟨t0, t1, t2, t3⟩ := BI.four
  have BI := Lib.hid BI
  go_region
  have S1 := S1.new (New.refl W).drew
  have t0 := (New.refl W).drew.keeps t0
  generalize W.drew = W1 at *
  have ci := S1.1.rx i (by omega)
  have S1 := Lib.hid S1
  have q0 := fun w => align_ok p 4 w (by omega) (.inl rfl) hp
  go_wp2_with fail
  refine (q0 _).mono ?_
  rintro e W2 ⟨rfl, rfl⟩
  have q1 := cload_no S1.out.1 S1.out.2.1 p 4 (by omega) hp1 hh
  go_wp2_with fail
  refine q1.mono ?_
  rintro e W3 ⟨rfl, c3, b3, k3⟩
  go_wp2
  exact ⟨rfl, came_no (x1 := x1) (f1 := f1) (n := 0) (s1 := 11) (a1 := p) (fun _ => rfl) ⟨c3, b3, S1.out.2.2.trans k3⟩⟩
set_option maxHeartbeats 1000000 in
theorem acc_sb_ok (hc : Co w cb db x f q) (h : Bd w db v L a s) (m : Int) (i j : Nat) (hi : i < 16) (hx : Bx x) (x1 f1 : Nat → Int) (p : Nat) (hp1 : p ≤ 4294967295) (hh : hsn L p 1) :
    Calls Try.prog 22 #[.pointer (some ⟨cb, 0, none⟩), .agg #[.int .i64 19, .int .i64 i, .int .i64 j, .int .i64 m], .int .u32 p] w
      (Came (.tuple #[]) ⟨x, f, ptn L p 1 (x i), 1, 0, 0, 0⟩ w cb db v a s) := by
  have n0 := (New.refl w).alloc #[.int .i64 19, .int .i64 i, .int .i64 j, .int .i64 m] 73
  have BI := Box.here w _ #[.int .i64 19, .int .i64 i, .int .i64 j, .int .i64 m] 73 rfl
  have S1 := (St.start hc h).new n0
  have i0 : (0 : Int) ≤ (i : Int) := by omega
  have i1 : (i : Int) < 16 := by omega
  go_enter Try.func22, Try.ntmps22
  go_upto_region 1 with fail
  change Code.wp _ _ _ _ (w.alloc (.cells #[.int .i64 19, .int .i64 i, .int .i64 j, .int .i64 m] 73))
  generalize (w.alloc (.cells #[.int .i64 19, .int .i64 i, .int .i64 j, .int .i64 m] 73)) = W at *
  generalize w.heap.size = ib at *
  obtain ⟨t0, t1, t2, t3⟩ := BI.four
  have BI := Lib.hid BI
  go_region
  have S1 := S1.new (New.refl W).drew
  have t0 := (New.refl W).drew.keeps t0
  generalize W.drew = W1 at *
  have ci := S1.1.rx i (by omega)
  have S1 := Lib.hid S1
  have hxi := hx i (by omega)
  have q1 := cstore_ok S1.out.1 S1.out.2.1 p 1 (by omega) hp1 hh (x i) hxi.1 hxi.2
  generalize x i = y at *
  go_wp2_with fail
  refine q1.mono ?_
  rintro e W3 ⟨rfl, c3, b3, k3⟩
  go_wp2
  go_end0
  exact came_ok (n := 1) (k := 0) (s1 := 0) (a1 := 0) (by omega) (by omega) ⟨c3, b3, S1.out.2.2.trans k3⟩
set_option maxHeartbeats 1000000 in
theorem acc_sb_no (hc : Co w cb db x f q) (h : Bd w db v L a s) (m : Int) (i j : Nat) (hi : i < 16) (hx : Bx x) (x1 f1 : Nat → Int) (p : Nat) (hp1 : p ≤ 4294967295) (hh : ¬ hsn L p 1) :
    Calls Try.prog 22 #[.pointer (some ⟨cb, 0, none⟩), .agg #[.int .i64 19, .int .i64 i, .int .i64 j, .int .i64 m], .int .u32 p] w
      (Came (.tuple #[]) (noA x1 f1 L 11 p) w cb db v a s) := by
  have n0 := (New.refl w).alloc #[.int .i64 19, .int .i64 i, .int .i64 j, .int .i64 m] 73
  have BI := Box.here w _ #[.int .i64 19, .int .i64 i, .int .i64 j, .int .i64 m] 73 rfl
  have S1 := (St.start hc h).new n0
  have i0 : (0 : Int) ≤ (i : Int) := by omega
  have i1 : (i : Int) < 16 := by omega
  go_enter Try.func22, Try.ntmps22
  go_upto_region 1 with fail
  change Code.wp _ _ _ _ (w.alloc (.cells #[.int .i64 19, .int .i64 i, .int .i64 j, .int .i64 m] 73))
  generalize (w.alloc (.cells #[.int .i64 19, .int .i64 i, .int .i64 j, .int .i64 m] 73)) = W at *
  generalize w.heap.size = ib at *
  obtain ⟨t0, t1, t2, t3⟩ := BI.four
  have BI := Lib.hid BI
  go_region
  have S1 := S1.new (New.refl W).drew
  have t0 := (New.refl W).drew.keeps t0
  generalize W.drew = W1 at *
  have ci := S1.1.rx i (by omega)
  have S1 := Lib.hid S1
  have q1 := cstore_no S1.out.1 S1.out.2.1 p 1 (by omega) hp1 hh (x i)
  generalize x i = y at *
  go_wp2_with fail
  refine q1.mono ?_
  rintro e W3 ⟨rfl, c3, b3, k3⟩
  go_wp2
  exact ⟨rfl, came_no (x1 := x1) (f1 := f1) (n := 0) (s1 := 11) (a1 := p) (fun _ => rfl) ⟨c3, b3, S1.out.2.2.trans k3⟩⟩
set_option maxHeartbeats 1000000 in
theorem acc_sw_odd (hc : Co w cb db x f q) (h : Bd w db v L a s) (m : Int) (i j : Nat) (hi : i < 16) (hx : Bx x) (x1 f1 : Nat → Int) (p : Nat) (hp1 : p ≤ 4294967295) (hp : (p : Int) % 4 ≠ 0) :
    Calls Try.prog 22 #[.pointer (some ⟨cb, 0, none⟩), .agg #[.int .i64 20, .int .i64 i, .int .i64 j, .int .i64 m], .int .u32 p] w
      (Came (.tuple #[]) (noA x1 f1 L 7 p) w cb db v a s) := by
  have n0 := (New.refl w).alloc #[.int .i64 20, .int .i64 i, .int .i64 j, .int .i64 m] 73
  have BI := Box.here w _ #[.int .i64 20, .int .i64 i, .int .i64 j, .int .i64 m] 73 rfl
  have S1 := (St.start hc h).new n0
  have i0 : (0 : Int) ≤ (i : Int) := by omega
  have i1 : (i : Int) < 16 := by omega
  go_enter Try.func22, Try.ntmps22
  go_upto_region 1 with fail
  change Code.wp _ _ _ _ (w.alloc (.cells #[.int .i64 20, .int .i64 i, .int .i64 j, .int .i64 m] 73))
  generalize (w.alloc (.cells #[.int .i64 20, .int .i64 i, .int .i64 j, .int .i64 m] 73)) = W at *
  generalize w.heap.size = ib at *
  obtain ⟨t0, t1, t2, t3⟩ := BI.four
  have BI := Lib.hid BI
  go_region
  have S1 := S1.new (New.refl W).drew
  have t0 := (New.refl W).drew.keeps t0
  generalize W.drew = W1 at *
  have ci := S1.1.rx i (by omega)
  have S1 := Lib.hid S1
  have q1 := fun w => align_no p 4 w (by omega) (.inl rfl) hp
  go_wp2_with fail
  refine (q1 _).mono ?_
  rintro e W2 ⟨rfl, rfl⟩
  go_wp2
  exact ⟨rfl, came_no (x1 := x1) (f1 := f1) (n := 0) (s1 := 7) (a1 := p) (by omega) S1.out⟩
set_option maxHeartbeats 1000000 in
theorem acc_sw_ok (hc : Co w cb db x f q) (h : Bd w db v L a s) (m : Int) (i j : Nat) (hi : i < 16) (hx : Bx x) (x1 f1 : Nat → Int) (p : Nat) (hp1 : p ≤ 4294967295) (hp : (p : Int) % 4 = 0) (hh : hsn L p 4) :
    Calls Try.prog 22 #[.pointer (some ⟨cb, 0, none⟩), .agg #[.int .i64 20, .int .i64 i, .int .i64 j, .int .i64 m], .int .u32 p] w
      (Came (.tuple #[]) ⟨x, f, ptn L p 4 (x i), 1, 0, 0, 0⟩ w cb db v a s) := by
  have n0 := (New.refl w).alloc #[.int .i64 20, .int .i64 i, .int .i64 j, .int .i64 m] 73
  have BI := Box.here w _ #[.int .i64 20, .int .i64 i, .int .i64 j, .int .i64 m] 73 rfl
  have S1 := (St.start hc h).new n0
  have i0 : (0 : Int) ≤ (i : Int) := by omega
  have i1 : (i : Int) < 16 := by omega
  go_enter Try.func22, Try.ntmps22
  go_upto_region 1 with fail
  change Code.wp _ _ _ _ (w.alloc (.cells #[.int .i64 20, .int .i64 i, .int .i64 j, .int .i64 m] 73))
  generalize (w.alloc (.cells #[.int .i64 20, .int .i64 i, .int .i64 j, .int .i64 m] 73)) = W at *
  generalize w.heap.size = ib at *
  obtain ⟨t0, t1, t2, t3⟩ := BI.four
  have BI := Lib.hid BI
  go_region
  have S1 := S1.new (New.refl W).drew
  have t0 := (New.refl W).drew.keeps t0
  generalize W.drew = W1 at *
  have ci := S1.1.rx i (by omega)
  have S1 := Lib.hid S1
  have hxi := hx i (by omega)
  have q0 := fun w => align_ok p 4 w (by omega) (.inl rfl) hp
  go_wp2_with fail
  refine (q0 _).mono ?_
  rintro e W2 ⟨rfl, rfl⟩
  have q1 := cstore_ok S1.out.1 S1.out.2.1 p 4 (by omega) hp1 hh (x i) hxi.1 hxi.2
  generalize x i = y at *
  go_wp2_with fail
  refine q1.mono ?_
  rintro e W3 ⟨rfl, c3, b3, k3⟩
  go_wp2
  go_end0
  exact came_ok (n := 1) (k := 0) (s1 := 0) (a1 := 0) (by omega) (by omega) ⟨c3, b3, S1.out.2.2.trans k3⟩
set_option maxHeartbeats 1000000 in
theorem acc_sw_no (hc : Co w cb db x f q) (h : Bd w db v L a s) (m : Int) (i j : Nat) (hi : i < 16) (hx : Bx x) (x1 f1 : Nat → Int) (p : Nat) (hp1 : p ≤ 4294967295) (hp : (p : Int) % 4 = 0) (hh : ¬ hsn L p 4) :
    Calls Try.prog 22 #[.pointer (some ⟨cb, 0, none⟩), .agg #[.int .i64 20, .int .i64 i, .int .i64 j, .int .i64 m], .int .u32 p] w
      (Came (.tuple #[]) (noA x1 f1 L 11 p) w cb db v a s) := by
  have n0 := (New.refl w).alloc #[.int .i64 20, .int .i64 i, .int .i64 j, .int .i64 m] 73
  have BI := Box.here w _ #[.int .i64 20, .int .i64 i, .int .i64 j, .int .i64 m] 73 rfl
  have S1 := (St.start hc h).new n0
  have i0 : (0 : Int) ≤ (i : Int) := by omega
  have i1 : (i : Int) < 16 := by omega
  go_enter Try.func22, Try.ntmps22
  go_upto_region 1 with fail
  change Code.wp _ _ _ _ (w.alloc (.cells #[.int .i64 20, .int .i64 i, .int .i64 j, .int .i64 m] 73))
  generalize (w.alloc (.cells #[.int .i64 20, .int .i64 i, .int .i64 j, .int .i64 m] 73)) = W at *
  generalize w.heap.size = ib at *
  obtain ⟨t0, t1, t2, t3⟩ := BI.four
  have BI := Lib.hid BI
  go_region
  have S1 := S1.new (New.refl W).drew
  have t0 := (New.refl W).drew.keeps t0
  generalize W.drew = W1 at *
  have ci := S1.1.rx i (by omega)
  have S1 := Lib.hid S1
  have q0 := fun w => align_ok p 4 w (by omega) (.inl rfl) hp
  go_wp2_with fail
  refine (q0 _).mono ?_
  rintro e W2 ⟨rfl, rfl⟩
  have q1 := cstore_no S1.out.1 S1.out.2.1 p 4 (by omega) hp1 hh (x i)
  generalize x i = y at *
  go_wp2_with fail
  refine q1.mono ?_
  rintro e W3 ⟨rfl, c3, b3, k3⟩
  go_wp2
  exact ⟨rfl, came_no (x1 := x1) (f1 := f1) (n := 0) (s1 := 11) (a1 := p) (fun _ => rfl) ⟨c3, b3, S1.out.2.2.trans k3⟩⟩
end
end Go.Proofs.Ytbkhmeongekdiaa
namespace Go.Proofs.Ytbkhmeongekdiaa
open Go.RowKit Go.Joins
set_option linter.unusedVariables false
set_option maxRecDepth 100000
section
variable {w0 w w' : World} {cb db : Nat} {v : Value} {L : List Int} {x f : Nat → Int} {q a s : Int}
set_option maxHeartbeats 1000000 in
theorem jmp_call (hc : Co w cb db x f q) (h : Bd w db v L a s) (m : Int) (i j : Nat) (hi : i < 16) (hj : j < 16) (hx : Bx x) (p : Int)  :
    Calls Try.prog 23 #[.pointer (some ⟨cb, 0, none⟩), .agg #[.int .i64 27, .int .i64 i, .int .i64 j, .int .i64 m], .int .u32 p] w
      (Came (.tuple #[]) (okA (upd (upd x 14 (x 16)) 16 p) f L) w cb db v a s) := by
  have n0 := (New.refl w).alloc #[.int .i64 27, .int .i64 i, .int .i64 j, .int .i64 m] 73
  have BI := Box.here w _ #[.int .i64 27, .int .i64 i, .int .i64 j, .int .i64 m] 73 rfl
  have S1 := (St.start hc h).new n0
  have i0 : (0 : Int) ≤ (i : Int) := by omega
  have i1 : (i : Int) < 16 := by omega
  have j0 : (0 : Int) ≤ (j : Int) := by omega
  have j1 : (j : Int) < 16 := by omega
  go_enter Try.func23, Try.ntmps23
  go_upto_region 1 with fail
  change Code.wp _ _ _ _ (w.alloc (.cells #[.int .i64 27, .int .i64 i, .int .i64 j, .int .i64 m] 73))
  generalize (w.alloc (.cells #[.int .i64 27, .int .i64 i, .int .i64 j, .int .i64 m] 73)) = W at *
  generalize w.heap.size = ib at *
  obtain ⟨t0, t1, t2, t3⟩ := BI.four
  have BI := Lib.hid BI
  have c16 := S1.1.rx 16 (by omega)
  have c14 := S1.1.rx 14 (by omega)
  have u14 := S1.1.un (1 + 14)
  have u16 := S1.1.un (1 + 16)
  have Sf := Lib.hid ((S1.setx 14 (by omega) (x 16)).setx 16 (by omega) p)
  generalize x 16 = y at *
  go_wp2
  go_region
  all_goals
    go_wp2
    go_end0
    first
      | exact came_ok (n := 0) (k := 0) (s1 := 0) (a1 := 0) (by omega) (by omega) Sf.out
      | exact came_ok (n := 0) (k := 0) (s1 := 0) (a1 := 0) (by omega) (by omega) (Sf.out.new (New.refl _).drew)
      | exact came_ok (n := 0) (k := 0) (s1 := 0) (a1 := 0) (by omega) (by omega) (Sf.out.new (New.drewN (New.refl _) _))
set_option maxHeartbeats 1000000 in
theorem jmp_jr (hc : Co w cb db x f q) (h : Bd w db v L a s) (m : Int) (i j : Nat) (hi : i < 16) (hj : j < 16) (hx : Bx x) (p : Int)  :
    Calls Try.prog 23 #[.pointer (some ⟨cb, 0, none⟩), .agg #[.int .i64 28, .int .i64 i, .int .i64 j, .int .i64 m], .int .u32 p] w
      (Came (.tuple #[]) (okA (upd x 16 (x i)) f L) w cb db v a s) := by
  have n0 := (New.refl w).alloc #[.int .i64 28, .int .i64 i, .int .i64 j, .int .i64 m] 73
  have BI := Box.here w _ #[.int .i64 28, .int .i64 i, .int .i64 j, .int .i64 m] 73 rfl
  have S1 := (St.start hc h).new n0
  have i0 : (0 : Int) ≤ (i : Int) := by omega
  have i1 : (i : Int) < 16 := by omega
  have j0 : (0 : Int) ≤ (j : Int) := by omega
  have j1 : (j : Int) < 16 := by omega
  go_enter Try.func23, Try.ntmps23
  go_upto_region 1 with fail
  change Code.wp _ _ _ _ (w.alloc (.cells #[.int .i64 28, .int .i64 i, .int .i64 j, .int .i64 m] 73))
  generalize (w.alloc (.cells #[.int .i64 28, .int .i64 i, .int .i64 j, .int .i64 m] 73)) = W at *
  generalize w.heap.size = ib at *
  obtain ⟨t0, t1, t2, t3⟩ := BI.four
  have BI := Lib.hid BI
  have c16 := S1.1.rx 16 (by omega)
  have ci := S1.1.rx i (by omega)
  have u16 := S1.1.un (1 + 16)
  have Sf := Lib.hid (S1.setx 16 (by omega) (x i))
  generalize x i = y at *
  go_wp2
  go_region
  all_goals
    go_wp2
    go_end0
    first
      | exact came_ok (n := 0) (k := 0) (s1 := 0) (a1 := 0) (by omega) (by omega) Sf.out
      | exact came_ok (n := 0) (k := 0) (s1 := 0) (a1 := 0) (by omega) (by omega) (Sf.out.new (New.refl _).drew)
      | exact came_ok (n := 0) (k := 0) (s1 := 0) (a1 := 0) (by omega) (by omega) (Sf.out.new (New.drewN (New.refl _) _))
set_option maxHeartbeats 1000000 in
theorem jmp_if (hc : Co w cb db x f q) (h : Bd w db v L a s) (op m : Int) (i j : Nat) (hi : i < 16) (hj : j < 16) (hx : Bx x) (p : Int) (h1 : 21 ≤ op) (h2 : op ≤ 26) :
    Calls Try.prog 23 #[.pointer (some ⟨cb, 0, none⟩), .agg #[.int .i64 op, .int .i64 i, .int .i64 j, .int .i64 m], .int .u32 p] w
      (Came (.tuple #[]) (if tkv op (x 17) then okA (upd x 16 p) f L else okA x f L) w cb db v a s) := by
  have n0 := (New.refl w).alloc #[.int .i64 op, .int .i64 i, .int .i64 j, .int .i64 m] 73
  have BI := Box.here w _ #[.int .i64 op, .int .i64 i, .int .i64 j, .int .i64 m] 73 rfl
  have S1 := (St.start hc h).new n0
  have i0 : (0 : Int) ≤ (i : Int) := by omega
  have i1 : (i : Int) < 16 := by omega
  have j0 : (0 : Int) ≤ (j : Int) := by omega
  have j1 : (j : Int) < 16 := by omega
  go_enter Try.func23, Try.ntmps23
  go_upto_region 1 with fail
  change Code.wp _ _ _ _ (w.alloc (.cells #[.int .i64 op, .int .i64 i, .int .i64 j, .int .i64 m] 73))
  generalize (w.alloc (.cells #[.int .i64 op, .int .i64 i, .int .i64 j, .int .i64 m] 73)) = W at *
  generalize w.heap.size = ib at *
  obtain ⟨t0, t1, t2, t3⟩ := BI.four
  have BI := Lib.hid BI
  have c16 := S1.1.rx 16 (by omega)
  have c17 := S1.1.rx 17 (by omega)
  have u16 := S1.1.un (1 + 16)
  have b17 := hx 17 (by omega)
  have o27 : op ≠ 27 := by omega
  have o28 : op ≠ 28 := by omega
  have q1 := fun w => taken_any op (x 17) w b17.1 b17.2
  rw [show tke op = 0 by unfold tke; rw [if_pos ⟨h1, h2⟩], erN_zero] at q1
  have S1 := Lib.hid S1
  generalize x 17 = u at *
  generalize tkv op u = T at *
  clear h1 h2
  cases T
  all_goals
    go_wp2_with fail
    go_region_held3 (fun w' => New W w' ∧ w'.cell? ⟨ib, 0, none⟩ = some (.int .i64 op) ∧ w'.cell? ⟨cb, 1 + 17, none⟩ = some (.int .u32 u))
      (first
        | exact ⟨hnx, hnx.keeps t0, hnx.keeps c17⟩
        | (have hnx := (New.refl W).drew; exact ⟨hnx, hnx.keeps t0, hnx.keeps c17⟩))
      (first
        | (go_at_call 31; (with_reducible refine (q1 _).mono ?_); rintro e wz ⟨rfl, hny⟩; have hnx : New W wz := New.trans (by first | exact (New.refl _).drew | exact New.refl _) hny))
  · have Sf := Lib.hid (S1.out.new hnx)
    go_wp2
    go_end0
    exact came_ok (n := 0) (k := 0) (s1 := 0) (a1 := 0) (by omega) (by omega) Sf.out
  · have Sz := S1.out.new hnx
    have d16 := hnx.keeps c16
    have v16 := Sz.1.un (1 + 16)
    have Sf := Lib.hid (Sz.setx 16 (by omega) p)
    clear Sz
    go_wp2
    go_end0
    exact came_ok (n := 0) (k := 0) (s1 := 0) (a1 := 0) (by omega) (by omega) Sf.out
end
theorem has_31_yes (i j : Nat) (m : Int) (w : World) (h : i < 4) :
    Calls Try.prog 32 #[.agg #[.int .i64 31, .int .i64 i, .int .i64 j, .int .i64 m]] w fun e w' => e = .returned (.bool true) ∧ New w w' := by
  have h' : (i : Int) < 4 := by omega
  go_enter Try.func32, Try.ntmps32
  go_wp2
  go_ret
  first
    | exact ⟨rfl, (New.refl w).alloc _ _⟩
    | exact ⟨ret_bool (by simp; omega), (New.refl w).alloc _ _⟩
    | exact ⟨rfl, ((New.refl w).alloc _ _).drew⟩
theorem has_31_no (i j : Nat) (m : Int) (w : World) (h : 4 ≤ i) :
    Calls Try.prog 32 #[.agg #[.int .i64 31, .int .i64 i, .int .i64 j, .int .i64 m]] w fun e w' => e = .returned (.bool false) ∧ New w w' := by
  have h' : decide ((i : Int) < 4) = false := by simp; omega
  go_enter Try.func32, Try.ntmps32
  go_wp2
  go_ret
  first
    | exact ⟨rfl, (New.refl w).alloc _ _⟩
    | exact ⟨ret_bool (by simp; omega), (New.refl w).alloc _ _⟩
    | exact ⟨rfl, ((New.refl w).alloc _ _).drew⟩
theorem has_32_yes (i j : Nat) (m : Int) (w : World) (h : i < 4) :
    Calls Try.prog 32 #[.agg #[.int .i64 32, .int .i64 i, .int .i64 j, .int .i64 m]] w fun e w' => e = .returned (.bool true) ∧ New w w' := by
  have h' : (i : Int) < 4 := by omega
  go_enter Try.func32, Try.ntmps32
  go_wp2
  go_ret
  first
    | exact ⟨rfl, (New.refl w).alloc _ _⟩
    | exact ⟨ret_bool (by simp; omega), (New.refl w).alloc _ _⟩
    | exact ⟨rfl, ((New.refl w).alloc _ _).drew⟩
theorem has_32_no (i j : Nat) (m : Int) (w : World) (h : 4 ≤ i) :
    Calls Try.prog 32 #[.agg #[.int .i64 32, .int .i64 i, .int .i64 j, .int .i64 m]] w fun e w' => e = .returned (.bool false) ∧ New w w' := by
  have h' : decide ((i : Int) < 4) = false := by simp; omega
  go_enter Try.func32, Try.ntmps32
  go_wp2
  go_ret
  first
    | exact ⟨rfl, (New.refl w).alloc _ _⟩
    | exact ⟨ret_bool (by simp; omega), (New.refl w).alloc _ _⟩
    | exact ⟨rfl, ((New.refl w).alloc _ _).drew⟩
theorem has_40_yes (i j : Nat) (m : Int) (w : World) (h : i < 4) :
    Calls Try.prog 32 #[.agg #[.int .i64 40, .int .i64 i, .int .i64 j, .int .i64 m]] w fun e w' => e = .returned (.bool true) ∧ New w w' := by
  have h' : (i : Int) < 4 := by omega
  go_enter Try.func32, Try.ntmps32
  go_wp2
  go_ret
  first
    | exact ⟨rfl, (New.refl w).alloc _ _⟩
    | exact ⟨ret_bool (by simp; omega), (New.refl w).alloc _ _⟩
    | exact ⟨rfl, ((New.refl w).alloc _ _).drew⟩
theorem has_40_no (i j : Nat) (m : Int) (w : World) (h : 4 ≤ i) :
    Calls Try.prog 32 #[.agg #[.int .i64 40, .int .i64 i, .int .i64 j, .int .i64 m]] w fun e w' => e = .returned (.bool false) ∧ New w w' := by
  have h' : decide ((i : Int) < 4) = false := by simp; omega
  go_enter Try.func32, Try.ntmps32
  go_wp2
  go_ret
  first
    | exact ⟨rfl, (New.refl w).alloc _ _⟩
    | exact ⟨ret_bool (by simp; omega), (New.refl w).alloc _ _⟩
    | exact ⟨rfl, ((New.refl w).alloc _ _).drew⟩
theorem has_39_yes (i j : Nat) (m : Int) (w : World) (h : j < 4) :
    Calls Try.prog 32 #[.agg #[.int .i64 39, .int .i64 i, .int .i64 j, .int .i64 m]] w fun e w' => e = .returned (.bool true) ∧ New w w' := by
  have h' : (j : Int) < 4 := by omega
  go_enter Try.func32, Try.ntmps32
  go_wp2
  go_ret
  first
    | exact ⟨rfl, (New.refl w).alloc _ _⟩
    | exact ⟨ret_bool (by simp; omega), (New.refl w).alloc _ _⟩
    | exact ⟨rfl, ((New.refl w).alloc _ _).drew⟩
theorem has_39_no (i j : Nat) (m : Int) (w : World) (h : 4 ≤ j) :
    Calls Try.prog 32 #[.agg #[.int .i64 39, .int .i64 i, .int .i64 j, .int .i64 m]] w fun e w' => e = .returned (.bool false) ∧ New w w' := by
  have h' : decide ((j : Int) < 4) = false := by simp; omega
  go_enter Try.func32, Try.ntmps32
  go_wp2
  go_ret
  first
    | exact ⟨rfl, (New.refl w).alloc _ _⟩
    | exact ⟨ret_bool (by simp; omega), (New.refl w).alloc _ _⟩
    | exact ⟨rfl, ((New.refl w).alloc _ _).drew⟩
theorem has_two_yes (i j : Nat) (op m : Int) (w : World) (h1 : 33 ≤ op) (h2 : op ≤ 38) (h : i < 4) (g : j < 4) :
    Calls Try.prog 32 #[.agg #[.int .i64 op, .int .i64 i, .int .i64 j, .int .i64 m]] w fun e w' => e = .returned (.bool true) ∧ New w w' := by
  have o1 : op ≠ 31 := by omega
  have o2 : op ≠ 32 := by omega
  have o3 : op ≠ 40 := by omega
  have o4 : op ≠ 39 := by omega
  clear h1 h2
  have h' : (i : Int) < 4 := by omega
  have g' : (j : Int) < 4 := by omega
  go_enter Try.func32, Try.ntmps32
  go_wp2
  go_ret
  first
    | exact ⟨rfl, (New.refl w).alloc _ _⟩
    | exact ⟨ret_bool (by simp; omega), (New.refl w).alloc _ _⟩
    | exact ⟨rfl, ((New.refl w).alloc _ _).drew⟩
theorem has_twoa_no (i j : Nat) (op m : Int) (w : World) (h1 : 33 ≤ op) (h2 : op ≤ 38) (h : 4 ≤ i) :
    Calls Try.prog 32 #[.agg #[.int .i64 op, .int .i64 i, .int .i64 j, .int .i64 m]] w fun e w' => e = .returned (.bool false) ∧ New w w' := by
  have o1 : op ≠ 31 := by omega
  have o2 : op ≠ 32 := by omega
  have o3 : op ≠ 40 := by omega
  have o4 : op ≠ 39 := by omega
  clear h1 h2
  have h' : decide ((i : Int) < 4) = false := by simp; omega
  go_enter Try.func32, Try.ntmps32
  go_wp2
  go_ret
  first
    | exact ⟨rfl, (New.refl w).alloc _ _⟩
    | exact ⟨ret_bool (by simp; omega), (New.refl w).alloc _ _⟩
    | exact ⟨rfl, ((New.refl w).alloc _ _).drew⟩
theorem has_twob_no (i j : Nat) (op m : Int) (w : World) (h1 : 33 ≤ op) (h2 : op ≤ 38) (h : i < 4) (g : 4 ≤ j) :
    Calls Try.prog 32 #[.agg #[.int .i64 op, .int .i64 i, .int .i64 j, .int .i64 m]] w fun e w' => e = .returned (.bool false) ∧ New w w' := by
  have o1 : op ≠ 31 := by omega
  have o2 : op ≠ 32 := by omega
  have o3 : op ≠ 40 := by omega
  have o4 : op ≠ 39 := by omega
  clear h1 h2
  have h' : (i : Int) < 4 := by omega
  have g' : decide ((j : Int) < 4) = false := by simp; omega
  go_enter Try.func32, Try.ntmps32
  go_wp2
  go_ret
  first
    | exact ⟨rfl, (New.refl w).alloc _ _⟩
    | exact ⟨ret_bool (by simp; omega), (New.refl w).alloc _ _⟩
    | exact ⟨rfl, ((New.refl w).alloc _ _).drew⟩
end Go.Proofs.Ytbkhmeongekdiaa
namespace Go.Proofs.Ytbkhmeongekdiaa
open Go.RowKit Go.Joins
set_option linter.unusedVariables false
set_option maxRecDepth 100000
section
variable {w0 w w' : World} {cb db : Nat} {v : Value} {L : List Int} {x f : Nat → Int} {q a s : Int}
theorem cp_cmp (x y : Nat) (old : Int) (w : World) (hx : U x) (hy : U y) (k0 : 0 ≤ old) (k1 : old ≤ 4294967295) :
    Calls Try.prog 33 #[.int .u64 x, .int .u64 y, .int .u32 old] w fun e w' => e = .returned (.int .u32 (fcv (cmpv x y) old)) ∧ w = w' := by
  have E1 := Lib.hid (and16 old k0 k1)
  have q := fun w => cmp_any x y w hx hy
  generalize cmpv x y = c at *
  go_enter Try.func33, Try.ntmps33
  go_wp2_with (first | (go_at_call 43; (with_reducible refine (q _).mono ?_); rintro e w' ⟨rfl, rfl⟩) | (go_at_call 44; (with_reducible refine (flag_any _ _ _).mono ?_); rintro e w' ⟨rfl, rfl⟩))
  go_ret
  refine ⟨ret_int ?_, rfl⟩
  unfold fcv
  rw [E1.out, ← or_three _ _ _ _ (step_two old)]
set_option maxHeartbeats 1000000 in
theorem flt_cmp (hc : Co w cb db x f q) (h : Bd w db v L a s) (m : Int) (i j : Nat) (hi : i < 16) (hj : j < 16) (hx : Bx x) (hf : Bf f) (x1 f1 : Nat → Int) (p : Nat) (hp1 : p ≤ 4294967295) (h4 : i < 4) (g4 : j < 4) :
    Calls Try.prog 24 #[.pointer (some ⟨cb, 0, none⟩), .agg #[.int .i64 38, .int .i64 i, .int .i64 j, .int .i64 m], .int .u32 p] w
      (Came (.tuple #[]) (okA (upd x 17 (fcv (cmpv (f i).toNat (f j).toNat) (x 17))) f L) w cb db v a s) := by
  have n0 := (New.refl w).alloc #[.int .i64 38, .int .i64 i, .int .i64 j, .int .i64 m] 73
  have BI := Box.here w _ #[.int .i64 38, .int .i64 i, .int .i64 j, .int .i64 m] 73 rfl
  have S1 := (St.start hc h).new n0
  have i0 : (0 : Int) ≤ (i : Int) := by omega
  have i1 : (i : Int) < 16 := by omega
  have j0 : (0 : Int) ≤ (j : Int) := by omega
  have j1 : (j : Int) < 16 := by omega
  obtain ⟨F, hF⟩ : ∃ n : Nat, f i = n := ⟨(f i).toNat, by have := hf i h4; omega⟩
  obtain ⟨G, hG⟩ : ∃ n : Nat, f j = n := ⟨(f j).toNat, by have := hf j g4; omega⟩
  have bF := hf i h4
  have bG := hf j g4
  rw [hF] at bF
  rw [hG] at bG
  have b17 := hx 17 (by omega)
  have q1 : ∀ w, Calls Try.prog 33 #[.int .u64 F, .int .u64 G, .int .u32 (x 17)] w fun e w' => e = .returned (.int .u32 (fcv (cmpv F G) (x 17))) ∧ w' = w := fun w => (cp_cmp F G (x 17) w (by unfold U; omega) (by unfold U; omega) b17.1 b17.2).mono fun _ _ h => ⟨h.1, h.2.symm⟩
  rw [hF, hG, Int.toNat_natCast, Int.toNat_natCast]
  go_enter Try.func24, Try.ntmps24
  go_upto_region 1 with fail
  change Code.wp _ _ _ _ (w.alloc (.cells #[.int .i64 38, .int .i64 i, .int .i64 j, .int .i64 m] 73))
  generalize (w.alloc (.cells #[.int .i64 38, .int .i64 i, .int .i64 j, .int .i64 m] 73)) = W at *
  generalize w.heap.size = ib at *
  obtain ⟨t0, t1, t2, t3⟩ := BI.four
  have BI := Lib.hid BI
  have qh := fun w => (fun w => has_two_yes i j 38 m w (by omega) (by omega) h4 g4) w
  go_wp2_with fail
  refine (qh _).mono ?_
  rintro e W2 ⟨rfl, n2⟩
  have S1 := S1.new n2
  have BI := Lib.hid (BI.out.new n2)
  obtain ⟨t0, t1, t2, t3⟩ := BI.out.four
  clear n2 qh
  have ci := S1.1.rf i h4
  have cj := S1.1.rf j g4
  have c17 := S1.1.rx 17 (by omega)
  have S1 := Lib.hid S1
  rw [hF] at ci
  rw [hG] at cj
  generalize fcv (cmpv F G) (x 17) = R at *
  generalize x 17 = u at *
  have i4 : (i : Int) < 4 := by omega
  have j4 : (j : Int) < 4 := by omega
  clear hF hG h hc hx hf
  go_wp2_with fail
  go_still_tail 20, (by kernel_rfl)
  still_call (q1 _)
  refine wpStill_nil ?_
  change wpList _ _ _ _ _ W2.drew
  have S1 := S1.out.new (New.refl W2).drew
  clear t0 t1 t2 t3 ci cj c17
  generalize W2.drew = W3 at *
  have c17 := S1.1.rx 17 (by omega)
  have u17 := S1.1.un (1 + 17)
  have Sf := Lib.hid (S1.setx 17 (by omega) R)
  clear S1
  go_wp2
  go_end0
  exact came_ok (n := 0) (k := 0) (s1 := 0) (a1 := 0) (by omega) (by omega) Sf.out
end
end Go.Proofs.Ytbkhmeongekdiaa
namespace Go.Proofs.Ytbkhmeongekdiaa
open Go.RowKit Go.Joins
set_option linter.unusedVariables false
set_option maxRecDepth 100000
section
variable {w0 w w' : World} {cb db : Nat} {v : Value} {L : List Int} {x f : Nat → Int} {q a s : Int}
set_option maxHeartbeats 1000000 in
theorem flt_toi (hc : Co w cb db x f q) (h : Bd w db v L a s) (m : Int) (i j : Nat) (hi : i < 16) (hj : j < 16) (hx : Bx x) (hf : Bf f) (x1 f1 : Nat → Int) (p : Nat) (hp1 : p ≤ 4294967295) (g4 : j < 4) :
    Calls Try.prog 24 #[.pointer (some ⟨cb, 0, none⟩), .agg #[.int .i64 39, .int .i64 i, .int .i64 j, .int .i64 m], .int .u32 p] w
      (Came (.tuple #[]) (okA (upd x i (toi (f j).toNat)) f L) w cb db v a s) := by
  have n0 := (New.refl w).alloc #[.int .i64 39, .int .i64 i, .int .i64 j, .int .i64 m] 73
  have BI := Box.here w _ #[.int .i64 39, .int .i64 i, .int .i64 j, .int .i64 m] 73 rfl
  have S1 := (St.start hc h).new n0
  have i0 : (0 : Int) ≤ (i : Int) := by omega
  have i1 : (i : Int) < 16 := by omega
  have j0 : (0 : Int) ≤ (j : Int) := by omega
  have j1 : (j : Int) < 16 := by omega
  obtain ⟨F, hF⟩ : ∃ n : Nat, f j = n := ⟨(f j).toNat, by have := hf j g4; omega⟩
  have bF := hf j g4
  rw [hF] at bF
  have q1 : ∀ w, Calls Try.prog 34 #[.int .u64 F] w fun e w' => e = .returned (.int .u32 (toi F)) ∧ w' = w := fun w => (toint_any F w (by unfold U; omega)).mono fun _ _ h => ⟨h.1, h.2.symm⟩
  rw [hF, Int.toNat_natCast]
  go_enter Try.func24, Try.ntmps24
  go_upto_region 1 with fail
  change Code.wp _ _ _ _ (w.alloc (.cells #[.int .i64 39, .int .i64 i, .int .i64 j, .int .i64 m] 73))
  generalize (w.alloc (.cells #[.int .i64 39, .int .i64 i, .int .i64 j, .int .i64 m] 73)) = W at *
  generalize w.heap.size = ib at *
  obtain ⟨t0, t1, t2, t3⟩ := BI.four
  have BI := Lib.hid BI
  have qh := fun w => (fun w => has_39_yes i j m w g4) w
  go_wp2_with fail
  refine (qh _).mono ?_
  rintro e W2 ⟨rfl, n2⟩
  have S1 := S1.new n2
  have BI := Lib.hid (BI.out.new n2)
  obtain ⟨t0, t1, t2, t3⟩ := BI.out.four
  clear n2 qh
  have cj := S1.1.rf j g4
  have S1 := Lib.hid S1
  rw [hF] at cj
  generalize ((toi F : Nat) : Int) = R at *
  have j4 : (j : Int) < 4 := by omega
  clear hF h hc hx hf
  go_wp2_with fail
  go_still_tail 13, (by kernel_rfl)
  still_call (q1 _)
  repeat still_step
  refine wpStill_nil ?_
  change wpList _ _ _ _ _ W2.drew
  have S1 := S1.out.new (New.refl W2).drew
  clear t0 t1 t2 t3 cj
  generalize W2.drew = W3 at *
  have ci := S1.1.rx i (by omega)
  have ui := S1.1.un (1 + i)
  have Sf := Lib.hid (S1.setx i (by omega) R)
  clear S1
  go_wp2
  go_end0
  exact came_ok (n := 0) (k := 0) (s1 := 0) (a1 := 0) (by omega) (by omega) Sf.out
set_option maxHeartbeats 1000000 in
theorem flt_itof (hc : Co w cb db x f q) (h : Bd w db v L a s) (m : Int) (i j : Nat) (hi : i < 16) (hj : j < 16) (hx : Bx x) (hf : Bf f) (x1 f1 : Nat → Int) (p : Nat) (hp1 : p ≤ 4294967295) (h4 : i < 4) :
    Calls Try.prog 24 #[.pointer (some ⟨cb, 0, none⟩), .agg #[.int .i64 40, .int .i64 i, .int .i64 j, .int .i64 m], .int .u32 p] w
      (Came (.tuple #[]) (okA x (upd f i (ofi (sg32 (x j).toNat))) L) w cb db v a s) := by
  have n0 := (New.refl w).alloc #[.int .i64 40, .int .i64 i, .int .i64 j, .int .i64 m] 73
  have BI := Box.here w _ #[.int .i64 40, .int .i64 i, .int .i64 j, .int .i64 m] 73 rfl
  have S1 := (St.start hc h).new n0
  have i0 : (0 : Int) ≤ (i : Int) := by omega
  have i1 : (i : Int) < 16 := by omega
  have j0 : (0 : Int) ≤ (j : Int) := by omega
  have j1 : (j : Int) < 16 := by omega
  obtain ⟨F, hF⟩ : ∃ n : Nat, x j = n := ⟨(x j).toNat, by have := hx j (by omega); omega⟩
  have bF := hx j (by omega)
  rw [hF] at bF
  have q1 : ∀ w, Calls Try.prog 35 #[.int .u32 F] w fun e w' => e = .returned (.int .u64 (ofi (sg32 F))) ∧ w' = w := fun w => (fromint_any F w (by omega)).mono fun _ _ h => ⟨h.1, h.2.symm⟩
  rw [hF, Int.toNat_natCast]
  go_enter Try.func24, Try.ntmps24
  go_upto_region 1 with fail
  change Code.wp _ _ _ _ (w.alloc (.cells #[.int .i64 40, .int .i64 i, .int .i64 j, .int .i64 m] 73))
  generalize (w.alloc (.cells #[.int .i64 40, .int .i64 i, .int .i64 j, .int .i64 m] 73)) = W at *
  generalize w.heap.size = ib at *
  obtain ⟨t0, t1, t2, t3⟩ := BI.four
  have BI := Lib.hid BI
  have qh := fun w => (fun w => has_40_yes i j m w h4) w
  go_wp2_with fail
  refine (qh _).mono ?_
  rintro e W2 ⟨rfl, n2⟩
  have S1 := S1.new n2
  have BI := Lib.hid (BI.out.new n2)
  obtain ⟨t0, t1, t2, t3⟩ := BI.out.four
  clear n2 qh
  have cj := S1.1.rx j (by omega)
  have S1 := Lib.hid S1
  rw [hF] at cj
  generalize ((ofi (sg32 F) : Nat) : Int) = R at *
  have i4 : (i : Int) < 4 := by omega
  clear hF h hc hx hf
  go_wp2_with fail
  go_still_tail 13, (by kernel_rfl)
  still_call (q1 _)
  repeat still_step
  refine wpStill_nil ?_
  change wpList _ _ _ _ _ W2.drew
  have S1 := S1.out.new (New.refl W2).drew
  clear t0 t1 t2 t3 cj
  generalize W2.drew = W3 at *
  have ci := S1.1.rf i h4
  have ui := S1.1.un (19 + i)
  have Sf := Lib.hid (S1.setf i h4 R)
  clear S1
  go_wp2
  go_end0
  exact came_ok (n := 0) (k := 0) (s1 := 0) (a1 := 0) (by omega) (by omega) Sf.out
set_option maxHeartbeats 1000000 in
theorem flt_ill_a31 (hc : Co w cb db x f q) (h : Bd w db v L a s) (m : Int) (i j : Nat) (hi : i < 16) (hj : j < 16) (hx : Bx x) (hf : Bf f) (x1 f1 : Nat → Int) (pc : Int) (p : Nat) (hp1 : p ≤ 4294967295) (k4 : 4 ≤ i) :
    Calls Try.prog 24 #[.pointer (some ⟨cb, 0, none⟩), .agg #[.int .i64 31, .int .i64 i, .int .i64 j, .int .i64 m], .int .u32 p] w
      (Came (.tuple #[]) (noA x1 f1 L 4 pc) w cb db v a s) := by
  have n0 := (New.refl w).alloc #[.int .i64 31, .int .i64 i, .int .i64 j, .int .i64 m] 73
  have BI := Box.here w _ #[.int .i64 31, .int .i64 i, .int .i64 j, .int .i64 m] 73 rfl
  have S1 := (St.start hc h).new n0
  have i0 : (0 : Int) ≤ (i : Int) := by omega
  have i1 : (i : Int) < 16 := by omega
  have j0 : (0 : Int) ≤ (j : Int) := by omega
  have j1 : (j : Int) < 16 := by omega
  go_enter Try.func24, Try.ntmps24
  go_upto_region 1 with fail
  change Code.wp _ _ _ _ (w.alloc (.cells #[.int .i64 31, .int .i64 i, .int .i64 j, .int .i64 m] 73))
  generalize (w.alloc (.cells #[.int .i64 31, .int .i64 i, .int .i64 j, .int .i64 m] 73)) = W at *
  generalize w.heap.size = ib at *
  obtain ⟨t0, t1, t2, t3⟩ := BI.four
  have BI := Lib.hid BI
  have qh := fun w => has_31_no i j m w k4
  clear h hc hx hf
  have S1 := Lib.hid S1
  go_wp2_with fail
  refine (qh _).mono ?_
  rintro e W2 ⟨rfl, n2⟩
  go_wp2
  exact ⟨rfl, came_no (x1 := x1) (f1 := f1) (n := 0) (s1 := 4) (a1 := pc) (by omega) (S1.out.new n2)⟩
set_option maxHeartbeats 1000000 in
theorem flt_ill_a32 (hc : Co w cb db x f q) (h : Bd w db v L a s) (m : Int) (i j : Nat) (hi : i < 16) (hj : j < 16) (hx : Bx x) (hf : Bf f) (x1 f1 : Nat → Int) (pc : Int) (p : Nat) (hp1 : p ≤ 4294967295) (k4 : 4 ≤ i) :
    Calls Try.prog 24 #[.pointer (some ⟨cb, 0, none⟩), .agg #[.int .i64 32, .int .i64 i, .int .i64 j, .int .i64 m], .int .u32 p] w
      (Came (.tuple #[]) (noA x1 f1 L 4 pc) w cb db v a s) := by
  have n0 := (New.refl w).alloc #[.int .i64 32, .int .i64 i, .int .i64 j, .int .i64 m] 73
  have BI := Box.here w _ #[.int .i64 32, .int .i64 i, .int .i64 j, .int .i64 m] 73 rfl
  have S1 := (St.start hc h).new n0
  have i0 : (0 : Int) ≤ (i : Int) := by omega
  have i1 : (i : Int) < 16 := by omega
  have j0 : (0 : Int) ≤ (j : Int) := by omega
  have j1 : (j : Int) < 16 := by omega
  go_enter Try.func24, Try.ntmps24
  go_upto_region 1 with fail
  change Code.wp _ _ _ _ (w.alloc (.cells #[.int .i64 32, .int .i64 i, .int .i64 j, .int .i64 m] 73))
  generalize (w.alloc (.cells #[.int .i64 32, .int .i64 i, .int .i64 j, .int .i64 m] 73)) = W at *
  generalize w.heap.size = ib at *
  obtain ⟨t0, t1, t2, t3⟩ := BI.four
  have BI := Lib.hid BI
  have qh := fun w => has_32_no i j m w k4
  clear h hc hx hf
  have S1 := Lib.hid S1
  go_wp2_with fail
  refine (qh _).mono ?_
  rintro e W2 ⟨rfl, n2⟩
  go_wp2
  exact ⟨rfl, came_no (x1 := x1) (f1 := f1) (n := 0) (s1 := 4) (a1 := pc) (by omega) (S1.out.new n2)⟩
set_option maxHeartbeats 1000000 in
theorem flt_ill_a40 (hc : Co w cb db x f q) (h : Bd w db v L a s) (m : Int) (i j : Nat) (hi : i < 16) (hj : j < 16) (hx : Bx x) (hf : Bf f) (x1 f1 : Nat → Int) (pc : Int) (p : Nat) (hp1 : p ≤ 4294967295) (k4 : 4 ≤ i) :
    Calls Try.prog 24 #[.pointer (some ⟨cb, 0, none⟩), .agg #[.int .i64 40, .int .i64 i, .int .i64 j, .int .i64 m], .int .u32 p] w
      (Came (.tuple #[]) (noA x1 f1 L 4 pc) w cb db v a s) := by
  have n0 := (New.refl w).alloc #[.int .i64 40, .int .i64 i, .int .i64 j, .int .i64 m] 73
  have BI := Box.here w _ #[.int .i64 40, .int .i64 i, .int .i64 j, .int .i64 m] 73 rfl
  have S1 := (St.start hc h).new n0
  have i0 : (0 : Int) ≤ (i : Int) := by omega
  have i1 : (i : Int) < 16 := by omega
  have j0 : (0 : Int) ≤ (j : Int) := by omega
  have j1 : (j : Int) < 16 := by omega
  go_enter Try.func24, Try.ntmps24
  go_upto_region 1 with fail
  change Code.wp _ _ _ _ (w.alloc (.cells #[.int .i64 40, .int .i64 i, .int .i64 j, .int .i64 m] 73))
  generalize (w.alloc (.cells #[.int .i64 40, .int .i64 i, .int .i64 j, .int .i64 m] 73)) = W at *
  generalize w.heap.size = ib at *
  obtain ⟨t0, t1, t2, t3⟩ := BI.four
  have BI := Lib.hid BI
  have qh := fun w => has_40_no i j m w k4
  clear h hc hx hf
  have S1 := Lib.hid S1
  go_wp2_with fail
  refine (qh _).mono ?_
  rintro e W2 ⟨rfl, n2⟩
  go_wp2
  exact ⟨rfl, came_no (x1 := x1) (f1 := f1) (n := 0) (s1 := 4) (a1 := pc) (by omega) (S1.out.new n2)⟩
set_option maxHeartbeats 1000000 in
theorem flt_ill_b39 (hc : Co w cb db x f q) (h : Bd w db v L a s) (m : Int) (i j : Nat) (hi : i < 16) (hj : j < 16) (hx : Bx x) (hf : Bf f) (x1 f1 : Nat → Int) (pc : Int) (p : Nat) (hp1 : p ≤ 4294967295) (k4 : 4 ≤ j) :
    Calls Try.prog 24 #[.pointer (some ⟨cb, 0, none⟩), .agg #[.int .i64 39, .int .i64 i, .int .i64 j, .int .i64 m], .int .u32 p] w
      (Came (.tuple #[]) (noA x1 f1 L 4 pc) w cb db v a s) := by
  have n0 := (New.refl w).alloc #[.int .i64 39, .int .i64 i, .int .i64 j, .int .i64 m] 73
  have BI := Box.here w _ #[.int .i64 39, .int .i64 i, .int .i64 j, .int .i64 m] 73 rfl
  have S1 := (St.start hc h).new n0
  have i0 : (0 : Int) ≤ (i : Int) := by omega
  have i1 : (i : Int) < 16 := by omega
  have j0 : (0 : Int) ≤ (j : Int) := by omega
  have j1 : (j : Int) < 16 := by omega
  go_enter Try.func24, Try.ntmps24
  go_upto_region 1 with fail
  change Code.wp _ _ _ _ (w.alloc (.cells #[.int .i64 39, .int .i64 i, .int .i64 j, .int .i64 m] 73))
  generalize (w.alloc (.cells #[.int .i64 39, .int .i64 i, .int .i64 j, .int .i64 m] 73)) = W at *
  generalize w.heap.size = ib at *
  obtain ⟨t0, t1, t2, t3⟩ := BI.four
  have BI := Lib.hid BI
  have qh := fun w => has_39_no i j m w k4
  clear h hc hx hf
  have S1 := Lib.hid S1
  go_wp2_with fail
  refine (qh _).mono ?_
  rintro e W2 ⟨rfl, n2⟩
  go_wp2
  exact ⟨rfl, came_no (x1 := x1) (f1 := f1) (n := 0) (s1 := 4) (a1 := pc) (by omega) (S1.out.new n2)⟩
set_option maxHeartbeats 1000000 in
theorem flt_ill_a (hc : Co w cb db x f q) (h : Bd w db v L a s) (op m : Int) (i j : Nat) (hi : i < 16) (hj : j < 16) (hx : Bx x) (hf : Bf f) (x1 f1 : Nat → Int) (pc : Int) (p : Nat) (hp1 : p ≤ 4294967295) (h1 : 33 ≤ op) (h2 : op ≤ 38) (k4 : 4 ≤ i) :
    Calls Try.prog 24 #[.pointer (some ⟨cb, 0, none⟩), .agg #[.int .i64 op, .int .i64 i, .int .i64 j, .int .i64 m], .int .u32 p] w
      (Came (.tuple #[]) (noA x1 f1 L 4 pc) w cb db v a s) := by
  have n0 := (New.refl w).alloc #[.int .i64 op, .int .i64 i, .int .i64 j, .int .i64 m] 73
  have BI := Box.here w _ #[.int .i64 op, .int .i64 i, .int .i64 j, .int .i64 m] 73 rfl
  have S1 := (St.start hc h).new n0
  have i0 : (0 : Int) ≤ (i : Int) := by omega
  have i1 : (i : Int) < 16 := by omega
  have j0 : (0 : Int) ≤ (j : Int) := by omega
  have j1 : (j : Int) < 16 := by omega
  go_enter Try.func24, Try.ntmps24
  go_upto_region 1 with fail
  change Code.wp _ _ _ _ (w.alloc (.cells #[.int .i64 op, .int .i64 i, .int .i64 j, .int .i64 m] 73))
  generalize (w.alloc (.cells #[.int .i64 op, .int .i64 i, .int .i64 j, .int .i64 m] 73)) = W at *
  generalize w.heap.size = ib at *
  obtain ⟨t0, t1, t2, t3⟩ := BI.four
  have BI := Lib.hid BI
  have qh := fun w => has_twoa_no i j op m w h1 h2 k4
  clear h hc hx hf
  have S1 := Lib.hid S1
  go_wp2_with fail
  refine (qh _).mono ?_
  rintro e W2 ⟨rfl, n2⟩
  go_wp2
  exact ⟨rfl, came_no (x1 := x1) (f1 := f1) (n := 0) (s1 := 4) (a1 := pc) (by omega) (S1.out.new n2)⟩
set_option maxHeartbeats 1000000 in
theorem flt_ill_b (hc : Co w cb db x f q) (h : Bd w db v L a s) (op m : Int) (i j : Nat) (hi : i < 16) (hj : j < 16) (hx : Bx x) (hf : Bf f) (x1 f1 : Nat → Int) (pc : Int) (p : Nat) (hp1 : p ≤ 4294967295) (h1 : 33 ≤ op) (h2 : op ≤ 38) (h4 : i < 4) (k4 : 4 ≤ j) :
    Calls Try.prog 24 #[.pointer (some ⟨cb, 0, none⟩), .agg #[.int .i64 op, .int .i64 i, .int .i64 j, .int .i64 m], .int .u32 p] w
      (Came (.tuple #[]) (noA x1 f1 L 4 pc) w cb db v a s) := by
  have n0 := (New.refl w).alloc #[.int .i64 op, .int .i64 i, .int .i64 j, .int .i64 m] 73
  have BI := Box.here w _ #[.int .i64 op, .int .i64 i, .int .i64 j, .int .i64 m] 73 rfl
  have S1 := (St.start hc h).new n0
  have i0 : (0 : Int) ≤ (i : Int) := by omega
  have i1 : (i : Int) < 16 := by omega
  have j0 : (0 : Int) ≤ (j : Int) := by omega
  have j1 : (j : Int) < 16 := by omega
  go_enter Try.func24, Try.ntmps24
  go_upto_region 1 with fail
  change Code.wp _ _ _ _ (w.alloc (.cells #[.int .i64 op, .int .i64 i, .int .i64 j, .int .i64 m] 73))
  generalize (w.alloc (.cells #[.int .i64 op, .int .i64 i, .int .i64 j, .int .i64 m] 73)) = W at *
  generalize w.heap.size = ib at *
  obtain ⟨t0, t1, t2, t3⟩ := BI.four
  have BI := Lib.hid BI
  have qh := fun w => has_twob_no i j op m w h1 h2 h4 k4
  clear h hc hx hf
  have S1 := Lib.hid S1
  go_wp2_with fail
  refine (qh _).mono ?_
  rintro e W2 ⟨rfl, n2⟩
  go_wp2
  exact ⟨rfl, came_no (x1 := x1) (f1 := f1) (n := 0) (s1 := 4) (a1 := pc) (by omega) (S1.out.new n2)⟩
set_option maxHeartbeats 1000000 in
theorem flt_odd31 (hc : Co w cb db x f q) (h : Bd w db v L a s) (m : Int) (i j : Nat) (hi : i < 16) (hj : j < 16) (hx : Bx x) (hf : Bf f) (x1 f1 : Nat → Int) (p : Nat) (hp1 : p ≤ 4294967295) (h4 : i < 4) (hp : (p : Int) % 8 ≠ 0) :
    Calls Try.prog 24 #[.pointer (some ⟨cb, 0, none⟩), .agg #[.int .i64 31, .int .i64 i, .int .i64 j, .int .i64 m], .int .u32 p] w
      (Came (.tuple #[]) (noA x1 f1 L 7 p) w cb db v a s) := by
  have n0 := (New.refl w).alloc #[.int .i64 31, .int .i64 i, .int .i64 j, .int .i64 m] 73
  have BI := Box.here w _ #[.int .i64 31, .int .i64 i, .int .i64 j, .int .i64 m] 73 rfl
  have S1 := (St.start hc h).new n0
  have i0 : (0 : Int) ≤ (i : Int) := by omega
  have i1 : (i : Int) < 16 := by omega
  have j0 : (0 : Int) ≤ (j : Int) := by omega
  have j1 : (j : Int) < 16 := by omega
  go_enter Try.func24, Try.ntmps24
  go_upto_region 1 with fail
  change Code.wp _ _ _ _ (w.alloc (.cells #[.int .i64 31, .int .i64 i, .int .i64 j, .int .i64 m] 73))
  generalize (w.alloc (.cells #[.int .i64 31, .int .i64 i, .int .i64 j, .int .i64 m] 73)) = W at *
  generalize w.heap.size = ib at *
  obtain ⟨t0, t1, t2, t3⟩ := BI.four
  have BI := Lib.hid BI
  have qh := fun w => (fun w => has_31_yes i j m w h4) w
  go_wp2_with fail
  refine (qh _).mono ?_
  rintro e W2 ⟨rfl, n2⟩
  have S1 := S1.new n2
  have BI := Lib.hid (BI.out.new n2)
  obtain ⟨t0, t1, t2, t3⟩ := BI.out.four
  clear n2 qh
  have q0 := fun w => align_no p 8 w (by omega) (.inr rfl) hp
  clear h hc hx hf
  have S1 := Lib.hid S1
  go_wp2_with fail
  refine (q0 _).mono ?_
  rintro e W3 ⟨rfl, rfl⟩
  go_wp2
  exact ⟨rfl, came_no (x1 := x1) (f1 := f1) (n := 0) (s1 := 7) (a1 := p) (by omega) S1.out⟩
set_option maxHeartbeats 1000000 in
theorem flt_odd32 (hc : Co w cb db x f q) (h : Bd w db v L a s) (m : Int) (i j : Nat) (hi : i < 16) (hj : j < 16) (hx : Bx x) (hf : Bf f) (x1 f1 : Nat → Int) (p : Nat) (hp1 : p ≤ 4294967295) (h4 : i < 4) (hp : (p : Int) % 8 ≠ 0) :
    Calls Try.prog 24 #[.pointer (some ⟨cb, 0, none⟩), .agg #[.int .i64 32, .int .i64 i, .int .i64 j, .int .i64 m], .int .u32 p] w
      (Came (.tuple #[]) (noA x1 f1 L 7 p) w cb db v a s) := by
  have n0 := (New.refl w).alloc #[.int .i64 32, .int .i64 i, .int .i64 j, .int .i64 m] 73
  have BI := Box.here w _ #[.int .i64 32, .int .i64 i, .int .i64 j, .int .i64 m] 73 rfl
  have S1 := (St.start hc h).new n0
  have i0 : (0 : Int) ≤ (i : Int) := by omega
  have i1 : (i : Int) < 16 := by omega
  have j0 : (0 : Int) ≤ (j : Int) := by omega
  have j1 : (j : Int) < 16 := by omega
  go_enter Try.func24, Try.ntmps24
  go_upto_region 1 with fail
  change Code.wp _ _ _ _ (w.alloc (.cells #[.int .i64 32, .int .i64 i, .int .i64 j, .int .i64 m] 73))
  generalize (w.alloc (.cells #[.int .i64 32, .int .i64 i, .int .i64 j, .int .i64 m] 73)) = W at *
  generalize w.heap.size = ib at *
  obtain ⟨t0, t1, t2, t3⟩ := BI.four
  have BI := Lib.hid BI
  have qh := fun w => (fun w => has_32_yes i j m w h4) w
  go_wp2_with fail
  refine (qh _).mono ?_
  rintro e W2 ⟨rfl, n2⟩
  have S1 := S1.new n2
  have BI := Lib.hid (BI.out.new n2)
  obtain ⟨t0, t1, t2, t3⟩ := BI.out.four
  clear n2 qh
  have q0 := fun w => align_no p 8 w (by omega) (.inr rfl) hp
  clear h hc hx hf
  have S1 := Lib.hid S1
  go_wp2_with fail
  refine (q0 _).mono ?_
  rintro e W3 ⟨rfl, rfl⟩
  go_wp2
  exact ⟨rfl, came_no (x1 := x1) (f1 := f1) (n := 0) (s1 := 7) (a1 := p) (by omega) S1.out⟩
set_option maxHeartbeats 1000000 in
theorem flt_ld_no (hc : Co w cb db x f q) (h : Bd w db v L a s) (m : Int) (i j : Nat) (hi : i < 16) (hj : j < 16) (hx : Bx x) (hf : Bf f) (x1 f1 : Nat → Int) (p : Nat) (hp1 : p ≤ 4294967295) (h4 : i < 4) (hp : (p : Int) % 8 = 0) (hh : ¬ hsn L p 4) :
    Calls Try.prog 24 #[.pointer (some ⟨cb, 0, none⟩), .agg #[.int .i64 31, .int .i64 i, .int .i64 j, .int .i64 m], .int .u32 p] w
      (Came (.tuple #[]) (noA x1 f1 L 11 p) w cb db v a s) := by
  have n0 := (New.refl w).alloc #[.int .i64 31, .int .i64 i, .int .i64 j, .int .i64 m] 73
  have BI := Box.here w _ #[.int .i64 31, .int .i64 i, .int .i64 j, .int .i64 m] 73 rfl
  have S1 := (St.start hc h).new n0
  have i0 : (0 : Int) ≤ (i : Int) := by omega
  have i1 : (i : Int) < 16 := by omega
  have j0 : (0 : Int) ≤ (j : Int) := by omega
  have j1 : (j : Int) < 16 := by omega
  go_enter Try.func24, Try.ntmps24
  go_upto_region 1 with fail
  change Code.wp _ _ _ _ (w.alloc (.cells #[.int .i64 31, .int .i64 i, .int .i64 j, .int .i64 m] 73))
  generalize (w.alloc (.cells #[.int .i64 31, .int .i64 i, .int .i64 j, .int .i64 m] 73)) = W at *
  generalize w.heap.size = ib at *
  obtain ⟨t0, t1, t2, t3⟩ := BI.four
  have BI := Lib.hid BI
  have qh := fun w => (fun w => has_31_yes i j m w h4) w
  go_wp2_with fail
  refine (qh _).mono ?_
  rintro e W2 ⟨rfl, n2⟩
  have S1 := S1.new n2
  have BI := Lib.hid (BI.out.new n2)
  obtain ⟨t0, t1, t2, t3⟩ := BI.out.four
  clear n2 qh
  have q0 := fun w => align_ok p 8 w (by omega) (.inr rfl) hp
  have p4 : (p : Int) + 4 ≤ 4294967295 := by omega
  have pc4 : ((p + 4 : Nat) : Int) = (p : Int) + 4 := by omega
  go_wp2_with fail
  refine (q0 _).mono ?_
  rintro e W3 ⟨rfl, rfl⟩
  have q1 := cload_no S1.1 S1.2.1 p 4 (.inr rfl) hp1 hh
  have S1 := Lib.hid S1
  clear h hc hx hf hh
  go_wp2_with fail
  refine q1.mono ?_
  rintro e W4 ⟨rfl, c3, b3, k3⟩
  go_wp2
  exact ⟨rfl, came_no (x1 := x1) (f1 := f1) (n := 0) (s1 := 11) (a1 := p) (fun _ => rfl) ⟨c3, b3, S1.out.2.2.trans k3⟩⟩
set_option maxHeartbeats 1000000 in
theorem flt_ld_no2 (hc : Co w cb db x f q) (h : Bd w db v L a s) (m : Int) (i j : Nat) (hi : i < 16) (hj : j < 16) (hx : Bx x) (hf : Bf f) (x1 f1 : Nat → Int) (p : Nat) (hp1 : p ≤ 4294967295) (h4 : i < 4) (hp : (p : Int) % 8 = 0) (hh : hsn L p 4) (hh2 : ¬ hsn L ((p : Int) + 4) 4) :
    Calls Try.prog 24 #[.pointer (some ⟨cb, 0, none⟩), .agg #[.int .i64 31, .int .i64 i, .int .i64 j, .int .i64 m], .int .u32 p] w
      (Came (.tuple #[]) (noA x1 f1 L 11 ((p : Int) + 4)) w cb db v a s) := by
  have n0 := (New.refl w).alloc #[.int .i64 31, .int .i64 i, .int .i64 j, .int .i64 m] 73
  have BI := Box.here w _ #[.int .i64 31, .int .i64 i, .int .i64 j, .int .i64 m] 73 rfl
  have S1 := (St.start hc h).new n0
  have i0 : (0 : Int) ≤ (i : Int) := by omega
  have i1 : (i : Int) < 16 := by omega
  have j0 : (0 : Int) ≤ (j : Int) := by omega
  have j1 : (j : Int) < 16 := by omega
  go_enter Try.func24, Try.ntmps24
  go_upto_region 1 with fail
  change Code.wp _ _ _ _ (w.alloc (.cells #[.int .i64 31, .int .i64 i, .int .i64 j, .int .i64 m] 73))
  generalize (w.alloc (.cells #[.int .i64 31, .int .i64 i, .int .i64 j, .int .i64 m] 73)) = W at *
  generalize w.heap.size = ib at *
  obtain ⟨t0, t1, t2, t3⟩ := BI.four
  have BI := Lib.hid BI
  have qh := fun w => (fun w => has_31_yes i j m w h4) w
  go_wp2_with fail
  refine (qh _).mono ?_
  rintro e W2 ⟨rfl, n2⟩
  have S1 := S1.new n2
  have BI := Lib.hid (BI.out.new n2)
  obtain ⟨t0, t1, t2, t3⟩ := BI.out.four
  clear n2 qh
  have q0 := fun w => align_ok p 8 w (by omega) (.inr rfl) hp
  have p4 : (p : Int) + 4 ≤ 4294967295 := by omega
  have pc4 : ((p + 4 : Nat) : Int) = (p : Int) + 4 := by omega
  go_wp2_with fail
  refine (q0 _).mono ?_
  rintro e W3 ⟨rfl, rfl⟩
  have q1 := cload_ok S1.1 S1.2.1 p 4 (.inr rfl) hp1 hh
  have gb := gtn_bd S1.2.1.2.2.1 p 4
  have gb2 := gtn_bd S1.2.1.2.2.1 ((p : Int) + 4) 4
  go_wp2_with fail
  refine q1.mono ?_
  rintro e W4 ⟨rfl, c3, b3, k3⟩
  have S3 : St w cb db v a s x f p L W4 := ⟨c3, b3, S1.2.2.trans k3⟩
  have q2 := cload_no c3 b3 (p + 4) 4 (.inr rfl) (by omega) (by rw [pc4]; exact hh2)
  rw [pc4] at q2
  have S3 := Lib.hid S3
  clear h hc hx hf hh hh2 S1 q1 k3
  go_wp2_with fail
  refine q2.mono ?_
  rintro e W5 ⟨rfl, c5, b5, k5⟩
  go_wp2
  exact ⟨rfl, came_no (x1 := x1) (f1 := f1) (n := 0) (s1 := 11) (a1 := (p : Int) + 4) (fun _ => rfl) ⟨c5, b5, S3.out.2.2.trans k5⟩⟩
set_option maxHeartbeats 1000000 in
theorem flt_ld_ok (hc : Co w cb db x f q) (h : Bd w db v L a s) (m : Int) (i j : Nat) (hi : i < 16) (hj : j < 16) (hx : Bx x) (hf : Bf f) (x1 f1 : Nat → Int) (p : Nat) (hp1 : p ≤ 4294967295) (h4 : i < 4) (hp : (p : Int) % 8 = 0) (hh : hsn L p 4) (hh2 : hsn L ((p : Int) + 4) 4) :
    Calls Try.prog 24 #[.pointer (some ⟨cb, 0, none⟩), .agg #[.int .i64 31, .int .i64 i, .int .i64 j, .int .i64 m], .int .u32 p] w
      (Came (.tuple #[]) (okA x (upd f i (gtn L p 4 + gtn L ((p : Int) + 4) 4 * 4294967296)) L) w cb db v a s) := by
  have n0 := (New.refl w).alloc #[.int .i64 31, .int .i64 i, .int .i64 j, .int .i64 m] 73
  have BI := Box.here w _ #[.int .i64 31, .int .i64 i, .int .i64 j, .int .i64 m] 73 rfl
  have S1 := (St.start hc h).new n0
  have i0 : (0 : Int) ≤ (i : Int) := by omega
  have i1 : (i : Int) < 16 := by omega
  have j0 : (0 : Int) ≤ (j : Int) := by omega
  have j1 : (j : Int) < 16 := by omega
  go_enter Try.func24, Try.ntmps24
  go_upto_region 1 with fail
  change Code.wp _ _ _ _ (w.alloc (.cells #[.int .i64 31, .int .i64 i, .int .i64 j, .int .i64 m] 73))
  generalize (w.alloc (.cells #[.int .i64 31, .int .i64 i, .int .i64 j, .int .i64 m] 73)) = W at *
  generalize w.heap.size = ib at *
  obtain ⟨t0, t1, t2, t3⟩ := BI.four
  have BI := Lib.hid BI
  have qh := fun w => (fun w => has_31_yes i j m w h4) w
  go_wp2_with fail
  refine (qh _).mono ?_
  rintro e W2 ⟨rfl, n2⟩
  have S1 := S1.new n2
  have BI := Lib.hid (BI.out.new n2)
  obtain ⟨t0, t1, t2, t3⟩ := BI.out.four
  clear n2 qh
  have q0 := fun w => align_ok p 8 w (by omega) (.inr rfl) hp
  have p4 : (p : Int) + 4 ≤ 4294967295 := by omega
  have pc4 : ((p + 4 : Nat) : Int) = (p : Int) + 4 := by omega
  go_wp2_with fail
  refine (q0 _).mono ?_
  rintro e W3 ⟨rfl, rfl⟩
  have q1 := cload_ok S1.1 S1.2.1 p 4 (.inr rfl) hp1 hh
  have gb := gtn_bd S1.2.1.2.2.1 p 4
  have gb2 := gtn_bd S1.2.1.2.2.1 ((p : Int) + 4) 4
  go_wp2_with fail
  refine q1.mono ?_
  rintro e W4 ⟨rfl, c3, b3, k3⟩
  have S3 : St w cb db v a s x f p L W4 := ⟨c3, b3, S1.2.2.trans k3⟩
  have q2 := cload_ok c3 b3 (p + 4) 4 (.inr rfl) (by omega) (by rw [pc4]; exact hh2)
  rw [pc4] at q2
  have BI := Lib.hid ((BI.out.but k3 (fun e => e.elim (fun e => Box.ne BI.out S1.1.1 (by decide) e) (S1.2.1.not BI.out (by decide) (by decide)))))
  have S3 := Lib.hid S3
  clear h hc hx hf hh hh2 S1 q1 k3 t0 t1 t2 t3
  generalize gtn L (p : Int) 4 = lo at *
  generalize gtn L ((p : Int) + 4) 4 = up at *
  go_wp2_with fail
  refine q2.mono ?_
  rintro e W5 ⟨rfl, c5, b5, k5⟩
  have S5 : St w cb db v a s x f ((p : Int) + 4) L W5 := ⟨c5, b5, S3.out.2.2.trans k5⟩
  have BI := BI.out.but k5 (fun e => e.elim (fun e => Box.ne BI.out c3.1 (by decide) e) (b3.not BI.out (by decide) (by decide)))
  obtain ⟨t0, t1, t2, t3⟩ := BI.four
  have ci := c5.rf i h4
  have ui := c5.un (19 + i)
  have i4 : (i : Int) < 4 := by omega
  have ho := or64 up lo gb2.1 gb2.2 gb.1 gb.2
  have eR : up * 4294967296 + lo = lo + up * 4294967296 := by omega
  rw [eR] at ho
  have Sf := Lib.hid (S5.setf i h4 (lo + up * 4294967296))
  clear S5 S3 c5 b5 k5 c3 b3 q2 q0 BI eR
  go_wp2
  go_region
  all_goals
    go_wp2
    go_end0
    first
      | exact came_ok (n := 0) (k := 0) (s1 := 0) (a1 := 0) (by omega) (by omega) Sf.out
      | exact came_ok (n := 0) (k := 0) (s1 := 0) (a1 := 0) (by omega) (by omega) (Sf.out.new (New.refl _).drew)
end
end Go.Proofs.Ytbkhmeongekdiaa
namespace Go.Proofs.Ytbkhmeongekdiaa
open Go.RowKit Go.Joins
set_option linter.unusedVariables false
set_option maxRecDepth 100000
section
variable {w0 w w' : World} {cb db : Nat} {v : Value} {L : List Int} {x f : Nat → Int} {q a s : Int}
set_option maxHeartbeats 1000000 in
theorem flt_st_no (hc : Co w cb db x f q) (h : Bd w db v L a s) (m : Int) (i j : Nat) (hi : i < 16) (hj : j < 16) (hx : Bx x) (hf : Bf f) (x1 f1 : Nat → Int) (p : Nat) (hp1 : p ≤ 4294967295) (h4 : i < 4) (hp : (p : Int) % 8 = 0) (hh : ¬ hsn L p 4) :
    Calls Try.prog 24 #[.pointer (some ⟨cb, 0, none⟩), .agg #[.int .i64 32, .int .i64 i, .int .i64 j, .int .i64 m], .int .u32 p] w
      (Came (.tuple #[]) (noA x1 f1 L 11 p) w cb db v a s) := by
  have n0 := (New.refl w).alloc #[.int .i64 32, .int .i64 i, .int .i64 j, .int .i64 m] 73
  have BI := Box.here w _ #[.int .i64 32, .int .i64 i, .int .i64 j, .int .i64 m] 73 rfl
  have S1 := (St.start hc h).new n0
  have i0 : (0 : Int) ≤ (i : Int) := by omega
  have i1 : (i : Int) < 16 := by omega
  have j0 : (0 : Int) ≤ (j : Int) := by omega
  have j1 : (j : Int) < 16 := by omega
  have bf := hf i h4
  obtain ⟨y, hy⟩ : ∃ y, f i = y := ⟨_, rfl⟩
  rw [hy] at bf
  try rw [hy]
  have hy := Lib.hid hy
  go_enter Try.func24, Try.ntmps24
  go_upto_region 1 with fail
  change Code.wp _ _ _ _ (w.alloc (.cells #[.int .i64 32, .int .i64 i, .int .i64 j, .int .i64 m] 73))
  generalize (w.alloc (.cells #[.int .i64 32, .int .i64 i, .int .i64 j, .int .i64 m] 73)) = W at *
  generalize w.heap.size = ib at *
  obtain ⟨t0, t1, t2, t3⟩ := BI.four
  have BI := Lib.hid BI
  have qh := fun w => (fun w => has_32_yes i j m w h4) w
  go_wp2_with fail
  refine (qh _).mono ?_
  rintro e W2 ⟨rfl, n2⟩
  have S1 := S1.new n2
  have BI := Lib.hid (BI.out.new n2)
  obtain ⟨t0, t1, t2, t3⟩ := BI.out.four
  clear n2 qh
  have q0 := fun w => align_ok p 8 w (by omega) (.inr rfl) hp
  have p4 : (p : Int) + 4 ≤ 4294967295 := by omega
  have pc4 : ((p + 4 : Nat) : Int) = (p : Int) + 4 := by omega
  go_wp2_with fail
  refine (q0 _).mono ?_
  rintro e W9 ⟨rfl, rfl⟩
  have ci := S1.1.rf i h4
  rw [hy.out] at ci
  have i4 : (i : Int) < 4 := by omega
  have S1 := Lib.hid S1
  clear h hc hx hf
  go_wp2_with fail
  go_still_tail 10, (by kernel_rfl)
  change wpList _ _ _ _ _ W2.drew
  have S1 := S1.out.new (New.refl W2).drew
  have BI := BI.out.new (New.refl W2).drew
  clear t0 t1 t2 t3 ci
  generalize W2.drew = W3 at *
  have q1 := cstore_no S1.1 S1.2.1 p 4 (.inr rfl) hp1 hh (y % 4294967296)
  go_wp2_with fail
  refine q1.mono ?_
  rintro e W4 ⟨rfl, c3, b3, k3⟩
  go_wp2
  exact ⟨rfl, came_no (x1 := x1) (f1 := f1) (n := 0) (s1 := 11) (a1 := p) (fun _ => rfl) ⟨c3, b3, S1.2.2.trans k3⟩⟩
set_option maxHeartbeats 1000000 in
theorem flt_st_no2 (hc : Co w cb db x f q) (h : Bd w db v L a s) (m : Int) (i j : Nat) (hi : i < 16) (hj : j < 16) (hx : Bx x) (hf : Bf f) (x1 f1 : Nat → Int) (p : Nat) (hp1 : p ≤ 4294967295) (h4 : i < 4) (hp : (p : Int) % 8 = 0) (hh : hsn L p 4) (hh2 : ¬ hsn L ((p : Int) + 4) 4) :
    Calls Try.prog 24 #[.pointer (some ⟨cb, 0, none⟩), .agg #[.int .i64 32, .int .i64 i, .int .i64 j, .int .i64 m], .int .u32 p] w
      (Came (.tuple #[]) ⟨x1, f1, ptn L p 4 (f i % 4294967296), 1, 4, 11, (p : Int) + 4⟩ w cb db v a s) := by
  have n0 := (New.refl w).alloc #[.int .i64 32, .int .i64 i, .int .i64 j, .int .i64 m] 73
  have BI := Box.here w _ #[.int .i64 32, .int .i64 i, .int .i64 j, .int .i64 m] 73 rfl
  have S1 := (St.start hc h).new n0
  have i0 : (0 : Int) ≤ (i : Int) := by omega
  have i1 : (i : Int) < 16 := by omega
  have j0 : (0 : Int) ≤ (j : Int) := by omega
  have j1 : (j : Int) < 16 := by omega
  have bf := hf i h4
  obtain ⟨y, hy⟩ : ∃ y, f i = y := ⟨_, rfl⟩
  rw [hy] at bf
  try rw [hy]
  have hy := Lib.hid hy
  go_enter Try.func24, Try.ntmps24
  go_upto_region 1 with fail
  change Code.wp _ _ _ _ (w.alloc (.cells #[.int .i64 32, .int .i64 i, .int .i64 j, .int .i64 m] 73))
  generalize (w.alloc (.cells #[.int .i64 32, .int .i64 i, .int .i64 j, .int .i64 m] 73)) = W at *
  generalize w.heap.size = ib at *
  obtain ⟨t0, t1, t2, t3⟩ := BI.four
  have BI := Lib.hid BI
  have qh := fun w => (fun w => has_32_yes i j m w h4) w
  go_wp2_with fail
  refine (qh _).mono ?_
  rintro e W2 ⟨rfl, n2⟩
  have S1 := S1.new n2
  have BI := Lib.hid (BI.out.new n2)
  obtain ⟨t0, t1, t2, t3⟩ := BI.out.four
  clear n2 qh
  have q0 := fun w => align_ok p 8 w (by omega) (.inr rfl) hp
  have p4 : (p : Int) + 4 ≤ 4294967295 := by omega
  have pc4 : ((p + 4 : Nat) : Int) = (p : Int) + 4 := by omega
  go_wp2_with fail
  refine (q0 _).mono ?_
  rintro e W9 ⟨rfl, rfl⟩
  have ci := S1.1.rf i h4
  rw [hy.out] at ci
  have i4 : (i : Int) < 4 := by omega
  have S1 := Lib.hid S1
  clear h hc hx hf
  go_wp2_with fail
  go_still_tail 10, (by kernel_rfl)
  change wpList _ _ _ _ _ W2.drew
  have S1 := S1.out.new (New.refl W2).drew
  have BI := BI.out.new (New.refl W2).drew
  clear t0 t1 t2 t3 ci
  generalize W2.drew = W3 at *
  have q1 := cstore_ok S1.1 S1.2.1 p 4 (.inr rfl) hp1 hh (y % 4294967296) (by omega) (by omega)
  go_wp2_with fail
  refine q1.mono ?_
  rintro e W4 ⟨rfl, c4, b4, k4⟩
  have S4 : St w cb db v a (wrap64 (s + 1)) x f p (ptn L p 4 (y % 4294967296)) W4 := ⟨c4, b4, S1.2.2.trans k4⟩
  have BI := BI.but k4 (fun e => e.elim (fun e => Box.ne BI S1.1.1 (by decide) e) (S1.2.1.not BI (by decide) (by decide)))
  obtain ⟨t0, t1, t2, t3⟩ := BI.four
  have hlen := ptn_len (L := L) (p := p) (n := 4) (y % 4294967296) (.inr rfl) (by omega) hh
  have ci := c4.rf i h4
  rw [hy.out] at ci
  have S4 := Lib.hid S4
  generalize hP : ptn L (p : Int) 4 (y % 4294967296) = P at *
  clear S1 q1 k4 hh q0
  go_wp2_with fail
  go_still_tail 12, (by kernel_rfl)
  change wpList _ _ _ _ _ W4.drew
  have S4 := S4.out.new (New.refl W4).drew
  clear t0 t1 t2 t3 ci BI c4 b4
  generalize W4.drew = W5 at *
  have hh3 : ¬ hsn P ((p + 4 : Nat) : Int) 4 := by rw [pc4]; unfold hsn at hh2 ⊢; rw [hlen]; exact hh2
  have q2 := cstore_no S4.1 S4.2.1 (p + 4) 4 (.inr rfl) (by omega) hh3 (y / 4294967296)
  rw [pc4] at q2
  go_wp2_with fail
  refine q2.mono ?_
  rintro e W6 ⟨rfl, c6, b6, k6⟩
  go_wp2
  subst hP
  exact ⟨rfl, came_no (x1 := x1) (f1 := f1) (n := 1) (s1 := 11) (a1 := (p : Int) + 4) (fun _ => rfl) ⟨c6, b6, S4.2.2.trans k6⟩⟩
set_option maxHeartbeats 1000000 in
theorem flt_st_ok (hc : Co w cb db x f q) (h : Bd w db v L a s) (m : Int) (i j : Nat) (hi : i < 16) (hj : j < 16) (hx : Bx x) (hf : Bf f) (x1 f1 : Nat → Int) (p : Nat) (hp1 : p ≤ 4294967295) (h4 : i < 4) (hp : (p : Int) % 8 = 0) (hh : hsn L p 4) (hh2 : hsn L ((p : Int) + 4) 4) :
    Calls Try.prog 24 #[.pointer (some ⟨cb, 0, none⟩), .agg #[.int .i64 32, .int .i64 i, .int .i64 j, .int .i64 m], .int .u32 p] w
      (Came (.tuple #[]) ⟨x, f, ptn (ptn L p 4 (f i % 4294967296)) ((p : Int) + 4) 4 (f i / 4294967296), 2, 0, 0, 0⟩ w cb db v a s) := by
  have n0 := (New.refl w).alloc #[.int .i64 32, .int .i64 i, .int .i64 j, .int .i64 m] 73
  have BI := Box.here w _ #[.int .i64 32, .int .i64 i, .int .i64 j, .int .i64 m] 73 rfl
  have S1 := (St.start hc h).new n0
  have i0 : (0 : Int) ≤ (i : Int) := by omega
  have i1 : (i : Int) < 16 := by omega
  have j0 : (0 : Int) ≤ (j : Int) := by omega
  have j1 : (j : Int) < 16 := by omega
  have bf := hf i h4
  obtain ⟨y, hy⟩ : ∃ y, f i = y := ⟨_, rfl⟩
  rw [hy] at bf
  try rw [hy]
  have hy := Lib.hid hy
  go_enter Try.func24, Try.ntmps24
  go_upto_region 1 with fail
  change Code.wp _ _ _ _ (w.alloc (.cells #[.int .i64 32, .int .i64 i, .int .i64 j, .int .i64 m] 73))
  generalize (w.alloc (.cells #[.int .i64 32, .int .i64 i, .int .i64 j, .int .i64 m] 73)) = W at *
  generalize w.heap.size = ib at *
  obtain ⟨t0, t1, t2, t3⟩ := BI.four
  have BI := Lib.hid BI
  have qh := fun w => (fun w => has_32_yes i j m w h4) w
  go_wp2_with fail
  refine (qh _).mono ?_
  rintro e W2 ⟨rfl, n2⟩
  have S1 := S1.new n2
  have BI := Lib.hid (BI.out.new n2)
  obtain ⟨t0, t1, t2, t3⟩ := BI.out.four
  clear n2 qh
  have q0 := fun w => align_ok p 8 w (by omega) (.inr rfl) hp
  have p4 : (p : Int) + 4 ≤ 4294967295 := by omega
  have pc4 : ((p + 4 : Nat) : Int) = (p : Int) + 4 := by omega
  go_wp2_with fail
  refine (q0 _).mono ?_
  rintro e W9 ⟨rfl, rfl⟩
  have ci := S1.1.rf i h4
  rw [hy.out] at ci
  have i4 : (i : Int) < 4 := by omega
  have S1 := Lib.hid S1
  clear h hc hx hf
  go_wp2_with fail
  go_still_tail 10, (by kernel_rfl)
  change wpList _ _ _ _ _ W2.drew
  have S1 := S1.out.new (New.refl W2).drew
  have BI := BI.out.new (New.refl W2).drew
  clear t0 t1 t2 t3 ci
  generalize W2.drew = W3 at *
  have q1 := cstore_ok S1.1 S1.2.1 p 4 (.inr rfl) hp1 hh (y % 4294967296) (by omega) (by omega)
  go_wp2_with fail
  refine q1.mono ?_
  rintro e W4 ⟨rfl, c4, b4, k4⟩
  have S4 : St w cb db v a (wrap64 (s + 1)) x f p (ptn L p 4 (y % 4294967296)) W4 := ⟨c4, b4, S1.2.2.trans k4⟩
  have BI := BI.but k4 (fun e => e.elim (fun e => Box.ne BI S1.1.1 (by decide) e) (S1.2.1.not BI (by decide) (by decide)))
  obtain ⟨t0, t1, t2, t3⟩ := BI.four
  have hlen := ptn_len (L := L) (p := p) (n := 4) (y % 4294967296) (.inr rfl) (by omega) hh
  have ci := c4.rf i h4
  rw [hy.out] at ci
  have S4 := Lib.hid S4
  generalize hP : ptn L (p : Int) 4 (y % 4294967296) = P at *
  clear S1 q1 k4 hh q0
  go_wp2_with fail
  go_still_tail 12, (by kernel_rfl)
  change wpList _ _ _ _ _ W4.drew
  have S4 := S4.out.new (New.refl W4).drew
  clear t0 t1 t2 t3 ci BI c4 b4
  generalize W4.drew = W5 at *
  have hh3 : hsn P ((p + 4 : Nat) : Int) 4 := by rw [pc4]; unfold hsn at hh2 ⊢; rw [hlen]; exact hh2
  have q2 := cstore_ok S4.1 S4.2.1 (p + 4) 4 (.inr rfl) (by omega) hh3 (y / 4294967296) (by omega) (by omega)
  rw [pc4] at q2
  go_wp2_with fail
  refine q2.mono ?_
  rintro e W6 ⟨rfl, c6, b6, k6⟩
  go_wp2
  go_end0
  subst hP
  exact came_ok (n := 2) (k := 0) (s1 := 0) (a1 := 0) (by omega) (by omega) ⟨c6, b6, S4.2.2.trans k6⟩
end
end Go.Proofs.Ytbkhmeongekdiaa
