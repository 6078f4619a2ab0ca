/- What becomes of an instruction that fails: the deferred function recovers, and tells which failure it was. -/
import Derived.Test.YtbkhmeongekdiaaCpG
import Derived.Recover
import Derived.RegionTactic
import Derived.Test.YtbkhmeongekdiaaWhole
import Derived.Test.YtbkhmeongekdiaaCpN
namespace Go.Proofs.Ytbkhmeongekdiaa
open Go.RowKit Go.Joins
set_option linter.unusedVariables false
set_option maxRecDepth 100000
section
variable {w0 w w' : World} {cb db : Nat} {v : Value} {L : List Int} {x f : Nat → Int} {q a s : Int}
theorem failure_any (s a : Int) (w : World) : Calls Try.prog 15 #[.int .i64 s, .int .u32 a] w fun e w' => e = .returned (.agg #[.int .i64 4, .int .i64 s, .int .u32 a]) ∧ New w w' := by
  go_enter Try.func15, Try.ntmps15
  go_wp2
  exact bodyPost_ret (v := .agg #[.int .i64 4, .int .i64 s, .int .u32 a]) (by simp [results, Try.results15, go_sem]) rfl ⟨rfl, (New.refl _).alloc _ _⟩
theorem ev_size : (Try.prog.info? 36).map (·.size) = some 3 := by kernel_rfl
theorem slots9 (p r k V : Value) : #[p, r, k] ++ (Array.replicate 36 undef).setIfInBounds 6 V = #[p, r, k, undef, undef, undef, undef, undef, undef, V, undef, undef, undef, undef, undef, undef, undef, undef, undef, undef, undef, undef, undef, undef, undef, undef, undef, undef, undef, undef, undef, undef, undef, undef, undef, undef, undef, undef, undef] := by kernel_rfl
set_option maxHeartbeats 2000000 in
theorem catch_ill (pb eb kb : Nat) (pc : Int) (older : List PanicEntry) (w : World) (e0 e1 e2 : Value)
    (h0 : w.cell? ⟨pb, 0, none⟩ = some (.int .u32 pc)) (BE : Box w eb #[e0, e1, e2] 36) :
    CallsD Try.prog 18 #[.pointer (some ⟨pb, 0, none⟩), .pointer (some ⟨eb, 0, none⟩), .pointer (some ⟨kb, 0, none⟩)] (.panicking ({ v := .iface 67 (.agg #[]), recovered := false } :: older)) w fun e u' w' =>
      e = .returned (.tuple #[]) ∧ u' = .panicking ({ v := .iface 67 (.agg #[]), recovered := true } :: older) ∧ Box w' eb #[.int .i64 4, .int .i64 4, .int .u32 pc] 36 ∧ Far eb w w' := by
  refine callsD_of_wpS Try.func18 rfl fun c₀ cs hu => ?_
  apply wpS_seq
  apply wpS_region
  simp [wpOpsS, go_sem, recoverD, hu, Try.ntmps18, Exit.thenS]
  refine wpS_of_wp ?_
  rw [slots9]
  refine Code.wp_mono (Q := fun e ac w1 => e = .normal ∧ ac.defers = [] ∧ Box w1 eb #[.int .i64 4, .int .i64 4, .int .u32 pc] 36 ∧ Far eb w w1) ?_ ?_
  · rintro e a1 w1 ⟨rfl, hd, hb, hf⟩
    exact ⟨hd, _, rfl, _, results_none rfl _ _ _, rfl, rfl, hb, hf⟩
  have qf := fun w => failure_any 4 pc w
  have h1 : ∀ w : World, (binOp .eql 20 (.iface 67 (.agg #[])) .nilIface).run Try.prog w = .ok (.bool false) w := fun w => by kernel_rfl
  have k0 : ∀ w : World, (Instr.typeAssert (.iface 67 (.agg #[])) 20 67 true).run Try.prog w = .ok (.tuple #[.agg #[], .bool true]) w := fun w => by kernel_rfl
  have nw := (New.refl w).alloc #[] 67
  have p1 := nw.keeps h0
  go_wp2_with fail
  refine (qf _).mono ?_
  rintro e W2 ⟨rfl, n2⟩
  have n3 := New.trans nw n2
  have BE2 := BE.new n3
  go_wp2_with ((with_reducible refine at_store 36 ?_); refine wpList_store_box rfl 36 _ _ rfl eb [.int .i64 4, .int .i64 4, .int .u32 pc] [e0, e1, e2] 36 rfl rfl BE2 rfl ev_size (by intro u hu; simp at hu; rcases hu with rfl | rfl | rfl <;> rfl) ?_)
  intro W3 B3 f3
  have hF : Far eb w W3 := (Far.of_new eb n3).trans f3
  clear qf h1 nw n2 n3 BE2 f3
  go_wp2
set_option maxHeartbeats 2000000 in
theorem catch_und (pb eb kb : Nat) (pc : Int) (older : List PanicEntry) (w : World) (e0 e1 e2 : Value)
    (h0 : w.cell? ⟨pb, 0, none⟩ = some (.int .u32 pc)) (BE : Box w eb #[e0, e1, e2] 36) :
    CallsD Try.prog 18 #[.pointer (some ⟨pb, 0, none⟩), .pointer (some ⟨eb, 0, none⟩), .pointer (some ⟨kb, 0, none⟩)] (.panicking ({ v := .iface 68 (.agg #[]), recovered := false } :: older)) w fun e u' w' =>
      e = .returned (.tuple #[]) ∧ u' = .panicking ({ v := .iface 68 (.agg #[]), recovered := true } :: older) ∧ Box w' eb #[.int .i64 4, .int .i64 8, .int .u32 pc] 36 ∧ Far eb w w' := by
  refine callsD_of_wpS Try.func18 rfl fun c₀ cs hu => ?_
  apply wpS_seq
  apply wpS_region
  simp [wpOpsS, go_sem, recoverD, hu, Try.ntmps18, Exit.thenS]
  refine wpS_of_wp ?_
  rw [slots9]
  refine Code.wp_mono (Q := fun e ac w1 => e = .normal ∧ ac.defers = [] ∧ Box w1 eb #[.int .i64 4, .int .i64 8, .int .u32 pc] 36 ∧ Far eb w w1) ?_ ?_
  · rintro e a1 w1 ⟨rfl, hd, hb, hf⟩
    exact ⟨hd, _, rfl, _, results_none rfl _ _ _, rfl, rfl, hb, hf⟩
  have qf := fun w => failure_any 8 pc w
  have h1 : ∀ w : World, (binOp .eql 20 (.iface 68 (.agg #[])) .nilIface).run Try.prog w = .ok (.bool false) w := fun w => by kernel_rfl
  have k0 : ∀ w : World, (Instr.typeAssert (.iface 68 (.agg #[])) 20 67 true).run Try.prog w = .ok (.tuple #[.agg #[], .bool false]) w := fun w => by kernel_rfl
  have k1 : ∀ w : World, (Instr.typeAssert (.iface 68 (.agg #[])) 20 68 true).run Try.prog w = .ok (.tuple #[.agg #[], .bool true]) w := fun w => by kernel_rfl
  have nw := (New.refl w).alloc #[] 68
  have p1 := nw.keeps h0
  go_wp2_with fail
  refine (qf _).mono ?_
  rintro e W2 ⟨rfl, n2⟩
  have n3 := New.trans nw n2
  have BE2 := BE.new n3
  go_wp2_with ((with_reducible refine at_store 36 ?_); refine wpList_store_box rfl 36 _ _ rfl eb [.int .i64 4, .int .i64 8, .int .u32 pc] [e0, e1, e2] 36 rfl rfl BE2 rfl ev_size (by intro u hu; simp at hu; rcases hu with rfl | rfl | rfl <;> rfl) ?_)
  intro W3 B3 f3
  have hF : Far eb w W3 := (Far.of_new eb n3).trans f3
  clear qf h1 nw n2 n3 BE2 f3
  go_wp2
set_option maxHeartbeats 2000000 in
theorem catch_cro (pb eb kb : Nat) (pc a : Int) (older : List PanicEntry) (w : World) (e0 e1 e2 : Value)
    (h0 : w.cell? ⟨pb, 0, none⟩ = some (.int .u32 pc)) (BE : Box w eb #[e0, e1, e2] 36) :
    CallsD Try.prog 18 #[.pointer (some ⟨pb, 0, none⟩), .pointer (some ⟨eb, 0, none⟩), .pointer (some ⟨kb, 0, none⟩)] (.panicking ({ v := .iface 69 (.int .u32 a), recovered := false } :: older)) w fun e u' w' =>
      e = .returned (.tuple #[]) ∧ u' = .panicking ({ v := .iface 69 (.int .u32 a), recovered := true } :: older) ∧ Box w' eb #[.int .i64 4, .int .i64 7, .int .u32 a] 36 ∧ Far eb w w' := by
  refine callsD_of_wpS Try.func18 rfl fun c₀ cs hu => ?_
  apply wpS_seq
  apply wpS_region
  simp [wpOpsS, go_sem, recoverD, hu, Try.ntmps18, Exit.thenS]
  refine wpS_of_wp ?_
  rw [slots9]
  refine Code.wp_mono (Q := fun e ac w1 => e = .normal ∧ ac.defers = [] ∧ Box w1 eb #[.int .i64 4, .int .i64 7, .int .u32 a] 36 ∧ Far eb w w1) ?_ ?_
  · rintro e a1 w1 ⟨rfl, hd, hb, hf⟩
    exact ⟨hd, _, rfl, _, results_none rfl _ _ _, rfl, rfl, hb, hf⟩
  have qf := fun w => failure_any 7 a w
  have h1 : ∀ w : World, (binOp .eql 20 (.iface 69 (.int .u32 a)) .nilIface).run Try.prog w = .ok (.bool false) w := fun w => by kernel_rfl
  have k0 : ∀ w : World, (Instr.typeAssert (.iface 69 (.int .u32 a)) 20 67 true).run Try.prog w = .ok (.tuple #[.agg #[], .bool false]) w := fun w => by kernel_rfl
  have k1 : ∀ w : World, (Instr.typeAssert (.iface 69 (.int .u32 a)) 20 68 true).run Try.prog w = .ok (.tuple #[.agg #[], .bool false]) w := fun w => by kernel_rfl
  have k2 : ∀ w : World, (Instr.typeAssert (.iface 69 (.int .u32 a)) 20 69 true).run Try.prog w = .ok (.tuple #[.int .u32 a, .bool true]) w := fun w => by kernel_rfl
  have nw := New.refl w
  go_wp2_with fail
  refine (qf _).mono ?_
  rintro e W2 ⟨rfl, n2⟩
  have n3 := New.trans nw n2
  have BE2 := BE.new n3
  go_wp2_with ((with_reducible refine at_store 36 ?_); refine wpList_store_box rfl 36 _ _ rfl eb [.int .i64 4, .int .i64 7, .int .u32 a] [e0, e1, e2] 36 rfl rfl BE2 rfl ev_size (by intro u hu; simp at hu; rcases hu with rfl | rfl | rfl <;> rfl) ?_)
  intro W3 B3 f3
  have hF : Far eb w W3 := (Far.of_new eb n3).trans f3
  clear qf h1 nw n2 n3 BE2 f3
  go_wp2
set_option maxHeartbeats 2000000 in
theorem catch_abs (pb eb kb cb : Nat) (pc q : Int) (older : List PanicEntry) (w : World) (e0 e1 e2 : Value)
    (h0 : w.cell? ⟨pb, 0, none⟩ = some (.int .u32 pc)) (h5 : w.cell? ⟨kb, 0, none⟩ = some (.pointer (some ⟨cb, 0, none⟩))) (h6 : w.cell? ⟨cb, 23, none⟩ = some (.int .u32 q)) (BE : Box w eb #[e0, e1, e2] 36) :
    CallsD Try.prog 18 #[.pointer (some ⟨pb, 0, none⟩), .pointer (some ⟨eb, 0, none⟩), .pointer (some ⟨kb, 0, none⟩)] (.panicking ({ v := .iface 70 (.agg #[]), recovered := false } :: older)) w fun e u' w' =>
      e = .returned (.tuple #[]) ∧ u' = .panicking ({ v := .iface 70 (.agg #[]), recovered := true } :: older) ∧ Box w' eb #[.int .i64 4, .int .i64 11, .int .u32 q] 36 ∧ Far eb w w' := by
  refine callsD_of_wpS Try.func18 rfl fun c₀ cs hu => ?_
  apply wpS_seq
  apply wpS_region
  simp [wpOpsS, go_sem, recoverD, hu, Try.ntmps18, Exit.thenS]
  refine wpS_of_wp ?_
  rw [slots9]
  refine Code.wp_mono (Q := fun e ac w1 => e = .normal ∧ ac.defers = [] ∧ Box w1 eb #[.int .i64 4, .int .i64 11, .int .u32 q] 36 ∧ Far eb w w1) ?_ ?_
  · rintro e a1 w1 ⟨rfl, hd, hb, hf⟩
    exact ⟨hd, _, rfl, _, results_none rfl _ _ _, rfl, rfl, hb, hf⟩
  have qf := fun w => failure_any 11 q w
  have h1 : ∀ w : World, (binOp .eql 20 (.iface 70 (.agg #[])) .nilIface).run Try.prog w = .ok (.bool false) w := fun w => by kernel_rfl
  have k0 : ∀ w : World, (Instr.typeAssert (.iface 70 (.agg #[])) 20 67 true).run Try.prog w = .ok (.tuple #[.agg #[], .bool false]) w := fun w => by kernel_rfl
  have k1 : ∀ w : World, (Instr.typeAssert (.iface 70 (.agg #[])) 20 68 true).run Try.prog w = .ok (.tuple #[.agg #[], .bool false]) w := fun w => by kernel_rfl
  have k2 : ∀ w : World, (Instr.typeAssert (.iface 70 (.agg #[])) 20 69 true).run Try.prog w = .ok (.tuple #[.int .u32 0, .bool false]) w := fun w => by kernel_rfl
  have k3 : ∀ w : World, (Instr.typeAssert (.iface 70 (.agg #[])) 20 70 true).run Try.prog w = .ok (.tuple #[.agg #[], .bool true]) w := fun w => by kernel_rfl
  have nw := (New.refl w).alloc #[] 70
  have p1 := nw.keeps h5
  have p2 := nw.keeps h6
  go_wp2_with fail
  refine (qf _).mono ?_
  rintro e W2 ⟨rfl, n2⟩
  have n3 := New.trans nw n2
  have BE2 := BE.new n3
  go_wp2_with ((with_reducible refine at_store 36 ?_); refine wpList_store_box rfl 36 _ _ rfl eb [.int .i64 4, .int .i64 11, .int .u32 q] [e0, e1, e2] 36 rfl rfl BE2 rfl ev_size (by intro u hu; simp at hu; rcases hu with rfl | rfl | rfl <;> rfl) ?_)
  intro W3 B3 f3
  have hF : Far eb w W3 := (Far.of_new eb n3).trans f3
  clear qf h1 nw n2 n3 BE2 f3
  go_wp2
theorem catch_idle (pb eb kb : Nat) (w : World) :
    CallsD Try.prog 18 #[.pointer (some ⟨pb, 0, none⟩), .pointer (some ⟨eb, 0, none⟩), .pointer (some ⟨kb, 0, none⟩)] .returning w fun e u' w' => e = .returned (.tuple #[]) ∧ u' = .returning ∧ w = w' := by
  refine callsD_of_wpS Try.func18 rfl fun c₀ cs hu => ?_
  apply wpS_seq
  apply wpS_region
  simp [wpOpsS, go_sem, recoverD, hu, Try.ntmps18, Exit.thenS]
  refine wpS_of_wp ?_
  rw [slots9]
  refine Code.wp_mono (Q := fun e ac w1 => e = .normal ∧ ac.defers = [] ∧ w = w1) ?_ ?_
  · rintro e a1 w1 ⟨rfl, hd, rfl⟩
    exact ⟨hd, .returning, by cases c₀; cases hu; rfl, _, results_none rfl _ _ _, rfl, rfl, rfl⟩
  have h1 : ∀ w : World, (binOp .eql 20 .nilIface .nilIface).run Try.prog w = .ok (.bool true) w := fun w => by kernel_rfl
  go_wp2
end
end Go.Proofs.Ytbkhmeongekdiaa
namespace Go.Proofs.Ytbkhmeongekdiaa
open Go.RowKit Go.Joins
set_option linter.unusedVariables false
set_option maxRecDepth 100000
section
variable {w0 w w' : World} {cb db : Nat} {v : Value} {L : List Int} {x f : Nat → Int} {q a a' s : Int}
set_option maxHeartbeats 1000000 in
theorem attempt_ok (hc : Co w cb db x f q) (h : Bd w db v L a s) (A : Ans) (hk : A.k ≠ 4)
    (hq : ∀ w1, Co w1 cb db x f q → Bd w1 db v L a s → Calls Try.prog 19 #[.pointer (some ⟨cb, 0, none⟩)] w1 (Came (.int .i64 A.k) A w1 cb db v a' s)) :
    Calls Try.prog 16 #[.pointer (some ⟨cb, 0, none⟩)] w fun e w' => e = .returned (.agg #[.int .i64 A.k, .int .i64 0, .int .u32 0]) ∧ (∃ q', Co w' cb db A.x A.f q') ∧ Bd w' db v A.L a' (adds s A.n) ∧ But (SC cb db v) w w' := by
  have hmf : ∀ (fn : Fn) (first cap : Array Value) (w : World), (Instr.makeFunc fn first cap).run Try.prog w = .ok (.func fn first cap) w := fun _ _ _ _ => rfl
  go_enter_defers Try.func16, Try.ntmps16
  have n2 : New w ((w.alloc (.cells #[.pointer (some ⟨cb, 0, none⟩)] 65)).alloc (.cells #[.int .i64 0, .int .i64 0, .int .u32 0] 36)) := ((New.refl w).alloc _ _).alloc _ _
  have n3 := n2.alloc #[.int .u32 (x 16)] 23
  have BE := (Box.here (w.alloc (.cells #[.pointer (some ⟨cb, 0, none⟩)] 65)) (w.heap.size + 1) #[.int .i64 0, .int .i64 0, .int .u32 0] 36 (by simp)).alloc (.cells #[.int .u32 (x 16)] 23)
  have c16 := (hc.new n2).rx 16 (by omega)
  have C3 := hc.new n3
  have h3 := h.new n3
  go_wp2_with fail
  refine (hq _ C3 h3).mono ?_
  rintro e W3 ⟨he, x', f', q', S3, hxf, hq2⟩
  rw [if_neg hk] at he
  subst he
  obtain ⟨rfl, rfl⟩ := hxf hk
  have BE3 := BE.but S3.2.2 (fun e => e.elim (fun e => Box.ne BE C3.1 (by decide) e) (h3.not BE (by decide) (by decide)))
  clear hq
  go_wp2_with ((with_reducible refine at_store 36 ?_); refine wpList_store_box rfl 36 _ _ rfl (w.heap.size + 1) [.int .i64 A.k, .int .i64 0, .int .u32 0] [.int .i64 0, .int .i64 0, .int .u32 0] 36 rfl rfl BE3 rfl ev_size (by intro u hu; simp at hu; rcases hu with rfl | rfl | rfl <;> rfl) ?_)
  intro W4 B4 f4
  have C4 := S3.1.far BE3 (by decide) f4
  have h4 := S3.2.1.far BE3 (by decide) (by decide) f4
  have s4 : But (SC cb db v) w W4 := by
    have s0 : But (SC cb db v) w W3 := (But.of_new _ n3).trans S3.2.2
    exact ⟨f4.1.trans s0.1, f4.2.1.trans s0.2.1, f4.2.2.1.trans s0.2.2.1, Nat.le_trans s0.size f4.size, fun i hi hn => (f4.block (Nat.lt_of_lt_of_le hi s0.size) (by omega)).trans (s0.block hi hn)⟩
  obtain ⟨d0, d1, d2⟩ := Box.three B4
  clear S3 f4 B4 BE BE3 C3 h3 n2 n3 c16 hc h
  go_wp2
  refine leaves_cons (f := 18) (args := #[.pointer (some ⟨w.heap.size + 2, 0, none⟩), .pointer (some ⟨w.heap.size + 1, 0, none⟩), .pointer (some ⟨w.heap.size, 0, none⟩)]) (by simp) (by simp [go_sem]) ?_
  refine (catch_idle _ _ _ _).mono ?_
  rintro e u' w'' ⟨rfl, rfl, rfl⟩
  simp [Leaves, settle, results, Try.results16, go_sem, d0, d1, d2]
  exact ⟨⟨_, C4⟩, h4, s4⟩
set_option maxHeartbeats 1000000 in
theorem attempt_no (hc : Co w cb db x f q) (h : Bd w db v L a s) (A : Ans) (hk : A.k = 4) (hs : (A.s = 4 ∧ A.a = x 16) ∨ (A.s = 8 ∧ A.a = x 16) ∨ A.s = 7 ∨ A.s = 11)
    (hq : ∀ w1, Co w1 cb db x f q → Bd w1 db v L a s → Calls Try.prog 19 #[.pointer (some ⟨cb, 0, none⟩)] w1 (Came (.int .i64 A.k) A w1 cb db v a' s)) :
    Calls Try.prog 16 #[.pointer (some ⟨cb, 0, none⟩)] w fun e w' => e = .returned (.agg #[.int .i64 4, .int .i64 A.s, .int .u32 A.a]) ∧ (∃ x' f' q', Co w' cb db x' f' q') ∧ Bd w' db v A.L a' (adds s A.n) ∧ But (SC cb db v) w w' := by
  have hmf : ∀ (fn : Fn) (first cap : Array Value) (w : World), (Instr.makeFunc fn first cap).run Try.prog w = .ok (.func fn first cap) w := fun _ _ _ _ => rfl
  go_enter_defers Try.func16, Try.ntmps16
  have n2 : New w ((w.alloc (.cells #[.pointer (some ⟨cb, 0, none⟩)] 65)).alloc (.cells #[.int .i64 0, .int .i64 0, .int .u32 0] 36)) := ((New.refl w).alloc _ _).alloc _ _
  have n3 := n2.alloc #[.int .u32 (x 16)] 23
  have BK := ((Box.here w w.heap.size #[.pointer (some ⟨cb, 0, none⟩)] 65 rfl).alloc (.cells #[.int .i64 0, .int .i64 0, .int .u32 0] 36)).alloc (.cells #[.int .u32 (x 16)] 23)
  have BE := (Box.here (w.alloc (.cells #[.pointer (some ⟨cb, 0, none⟩)] 65)) (w.heap.size + 1) #[.int .i64 0, .int .i64 0, .int .u32 0] 36 (by simp)).alloc (.cells #[.int .u32 (x 16)] 23)
  have BP := Box.here ((w.alloc (.cells #[.pointer (some ⟨cb, 0, none⟩)] 65)).alloc (.cells #[.int .i64 0, .int .i64 0, .int .u32 0] 36)) (w.heap.size + 2) #[.int .u32 (x 16)] 23 (by simp)
  have c16 := (hc.new n2).rx 16 (by omega)
  have C3 := hc.new n3
  have h3 := h.new n3
  go_wp2_with fail
  refine (hq _ C3 h3).mono ?_
  rintro e W3 ⟨he, x', f', q', S3, hxf, hq2⟩
  rw [if_pos hk] at he
  subst he
  have BE3 := BE.but S3.2.2 (fun e => e.elim (fun e => Box.ne BE C3.1 (by decide) e) (h3.not BE (by decide) (by decide)))
  have BP3 := BP.but S3.2.2 (fun e => e.elim (fun e => Box.ne BP C3.1 (by decide) e) (h3.not BP (by decide) (by decide)))
  have BK3 := BK.but S3.2.2 (fun e => e.elim (fun e => Box.ne BK C3.1 (by decide) e) (h3.not BK (by decide) (by decide)))
  have s3 : But (SC cb db v) w W3 := (But.of_new _ n3).trans S3.2.2
  have ask := S3.1.askc
  have C := S3.1
  have hB := S3.2.1
  clear hq hxf S3 BE BP BK C3 h3 n2 n3 c16 hc h
  have fin : ∀ (W4 : World) (y z : Int), Box W4 (w.heap.size + 1) #[.int .i64 4, .int .i64 y, .int .u32 z] 36 → Far (w.heap.size + 1) W3 W4 → (∃ x' f' q', Co W4 cb db x' f' q') ∧ Bd W4 db v A.L a' (adds s A.n) ∧ But (SC cb db v) w W4 := fun W4 y z B4 f4 =>
    ⟨⟨_, _, _, C.far BE3 (by decide) f4⟩, hB.far BE3 (by decide) (by decide) f4, f4.1.trans s3.1, f4.2.1.trans s3.2.1, f4.2.2.1.trans s3.2.2.1, Nat.le_trans s3.size f4.size, fun i hi hn => (f4.block (Nat.lt_of_lt_of_le hi s3.size) (by omega)).trans (s3.block hi hn)⟩
  rcases hs with ⟨hs, ha⟩ | ⟨hs, ha⟩ | hs | hs
  case' inl =>
    rw [hs, ha]
    rw [show pval 4 (x 16) = .iface 67 (.agg #[]) from rfl]
    have qc := catch_ill (w.heap.size + 2) (w.heap.size + 1) w.heap.size (x 16) [] W3 _ _ _ BP3.one BE3
  case' inr.inl =>
    rw [hs, ha]
    rw [show pval 8 (x 16) = .iface 68 (.agg #[]) from rfl]
    have qc := catch_und (w.heap.size + 2) (w.heap.size + 1) w.heap.size (x 16) [] W3 _ _ _ BP3.one BE3
  case' inr.inr.inl =>
    rw [hs]
    rw [show pval 7 A.a = .iface 69 (.int .u32 A.a) from rfl]
    have qc := catch_cro (w.heap.size + 2) (w.heap.size + 1) w.heap.size (x 16) A.a [] W3 _ _ _ BP3.one BE3
  case' inr.inr.inr =>
    rw [hq2 hs] at ask
    rw [hs]
    rw [show pval 11 A.a = .iface 70 (.agg #[]) from rfl]
    have qc := catch_abs (w.heap.size + 2) (w.heap.size + 1) w.heap.size cb (x 16) A.a [] W3 _ _ _ BP3.one BK3.one ask BE3
  all_goals
    go_wp2
    refine leaves_cons (f := 18) (args := #[.pointer (some ⟨w.heap.size + 2, 0, none⟩), .pointer (some ⟨w.heap.size + 1, 0, none⟩), .pointer (some ⟨w.heap.size, 0, none⟩)]) (by simp) (by simp [go_sem]) ?_
    refine qc.mono ?_
    rintro e u' W4 ⟨rfl, rfl, B4, f4⟩
    obtain ⟨d0, d1, d2⟩ := Box.three B4
    simp [Leaves, settle, results, Try.results16, go_sem, d0, d1, d2]
    first
      | exact ⟨⟨hs.symm, ha.symm⟩, fin W4 _ _ B4 f4⟩
      | exact ⟨hs.symm, fin W4 _ _ B4 f4⟩
end
end Go.Proofs.Ytbkhmeongekdiaa
