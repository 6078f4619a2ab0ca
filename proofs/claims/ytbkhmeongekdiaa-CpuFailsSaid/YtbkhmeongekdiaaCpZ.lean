/- A step, over a board of bytes: contracts. -/
import Derived.Test.YtbkhmeongekdiaaCpEx
import Derived.Test.YtbkhmeongekdiaaCpX
import Derived.Test.YtbkhmeongekdiaaCpMore
import Derived.Test.YtbkhmeongekdiaaRgQ
import Derived.Test.YtbkhmeongekdiaaHeld
import Derived.RegionTactic
namespace Go.Proofs.Ytbkhmeongekdiaa
open Go.RowKit Go.Joins
set_option linter.unusedVariables false
set_option linter.unusedSimpArgs false
set_option maxRecDepth 100000
section
variable {w0 w w' : World} {cb db : Nat} {v : Value} {L : List Int} {x f : Nat → Int} {q a s : Int}
theorem co_size : (Try.prog.info? 61).map (·.size) = some 24 := by kernel_rfl
theorem cc_build (db : Nat) (x f : Nat → Int) (w : World) : (Instr.build 61 #[(0, bus db), (1, .agg (rc x f).toArray)]).run Try.prog w = .ok (.agg (cc (bus db) x f 0).toArray) w := by kernel_rfl
theorem at_build (ty' : TypeId) {P : Program} {w : World} {ops : Array Oper} {rest : List Oper} {a : Act} {Q : Exit → Act → World → Prop} {d ps ty pos af gd} (h : wpList P ops Q (⟨d, .build ty' ps, ty, pos, af, gd⟩ :: rest) a w) :
    wpList P ops Q (⟨d, .build ty' ps, ty, pos, af, gd⟩ :: rest) a w := h
theorem wpList_build {P : Program} {ops : Array Oper} {rest : List Oper} {op : Oper} {a : Act} {w : World} {Q : Exit → Act → World → Prop} (hgd : op.guard = none) (t : TypeId) (ps : Array (Nat × Operand)) (ho : op.op = .build t ps)
    (qs : Array (Nat × Value)) (hq : (ps.map fun (i, x) => (i, a.eval x)) = qs) (v : Value) (he : (Instr.build t qs).run P w = .ok v w) (h : wpList P ops Q rest (a.put op.dst v) w) : wpList P ops Q (op :: rest) a w :=
  wpList_plain hgd fun _ hK => by
    unfold Oper.wp execOp
    simp only [ho, hq, Sem.run_bind, he, Result.andThen_ok, Sem.run_pure]
    exact hK _ _ h
theorem cc_one (db : Nat) (x f : Nat → Int) (q : Int) : ∀ v ∈ cc (bus db) x f q, v.oneCell' = true := by
  intro v hv
  unfold cc at hv
  rcases List.mem_cons.1 hv with rfl | hv
  · rfl
  · rcases List.mem_append.1 hv with hv | hv
    · exact rc_one x f v hv
    · rw [List.mem_singleton.1 hv]; rfl
theorem But.trans' {S T : Nat → Prop} {a b c : World} (h : But T a b) (k : But S b c) (hs : ∀ i, i < a.heap.size → S i → T i) : But T a c :=
  ⟨k.1.trans h.1, k.2.1.trans h.2.1, k.2.2.1.trans h.2.2.1, Nat.le_trans h.size k.size, fun i hi hn => (k.block (Nat.lt_of_lt_of_le hi h.size) fun e => hn (hs i hi e)).trans (h.block hi hn)⟩
theorem Co.regs (h : Co w cb db x f q) : w.rangeAt cb 1 (rc x f) := fun j v hv => by
  have hj : j < 22 := by have := (List.getElem?_eq_some_iff.1 hv).1; rw [rc_len] at this; exact this
  rw [h.1.cell (1 + j), List.getElem?_toArray, cc_r j hj]; exact hv
theorem sh_fail (h : (exA x f L).k = 4) : ((exA x f L).s = 4 ∧ (exA x f L).a = x 16) ∨ ((exA x f L).s = 8 ∧ (exA x f L).a = x 16) ∨ (exA x f L).s = 7 ∨ (exA x f L).s = 11 := by
  rcases (sh_exA x f L).1 with e | ⟨e | e | e, _⟩
  · exact e.2.2.2
  all_goals rw [h] at e; cases e
set_option maxHeartbeats 2000000 in
theorem step_fail (h : Bd w db v L a s) (hx : Bx x) (hf : Bf f) (hL : Oct L) (h17 : x 17 < 32) (hk : (exA x f L).k = 4) :
    Calls Try.prog 7 #[bus db, .agg (rc x f).toArray] w fun e w' => e = .returned (.tuple #[.agg (rc x f).toArray, .agg #[.int .i64 4, .int .i64 (exA x f L).s, .int .u32 (exA x f L).a]]) ∧
      Bd w' db v (exA x f L).L (fea x a) (adds s (exA x f L).n) ∧ But (SB db v) w w' := by
  have hq := fun w1 cb q (hc : Co w1 cb db x f q) (hb : Bd w1 db v L a s) => attempt_no hc hb (exA x f L) hk (sh_fail hk) fun w2 hc2 hb2 => exec hc2 hb2 hx hf hL
  have qk : ∀ w, Calls Try.prog 14 #[.agg (rc x f).toArray] w fun e w' => e = .returned .nilIface ∧ New w w' := fun w => by
    have := check_any x f w (hx 17 (by omega)).1
    unfold cke at this; rw [if_pos h17] at this; exact this
  generalize exA x f L = A at *
  have hnil : ∀ w, (binOp .eql 55 (bus db) .nilIface).run Try.prog w = .ok (.bool false) w := fun w => by kernel_rfl
  have hguard : ∀ w, (eqGuard .eql 55 (.tmp 8) (.const .nilIface) (bus db) .nilIface).run Try.prog w = .ok () w := fun w => by kernel_rfl
  go_enter Try.func7, Try.ntmps7
  go_upto_region 1 with fail
  have n1 := ((New.refl w).alloc (rc x f).toArray 34).alloc (rc (fun _ => 0) (fun _ => 0)).toArray 34
  have n1 := n1.alloc #[.int .i64 0, .int .i64 0, .int .u32 0] 36
  have BR := ((Box.here w w.heap.size (rc x f).toArray 34 rfl).alloc (.cells (rc (fun _ => 0) (fun _ => 0)).toArray 34)).alloc (.cells #[.int .i64 0, .int .i64 0, .int .u32 0] 36)
  have B4 := (Box.here (w.alloc (.cells (rc x f).toArray 34)) (w.heap.size + 1) (rc (fun _ => 0) (fun _ => 0)).toArray 34 (by simp)).alloc (.cells #[.int .i64 0, .int .i64 0, .int .u32 0] 36)
  have B5 := Box.here ((w.alloc (.cells (rc x f).toArray 34)).alloc (.cells (rc (fun _ => 0) (fun _ => 0)).toArray 34)) (w.heap.size + 2) #[.int .i64 0, .int .i64 0, .int .u32 0] 36 (by simp)
  have h1 := h.new n1
  have s1 := n1.size
  change Code.wp _ _ _ _ (((w.alloc (.cells (rc x f).toArray 34)).alloc (.cells (rc (fun _ => 0) (fun _ => 0)).toArray 34)).alloc (.cells #[.int .i64 0, .int .i64 0, .int .u32 0] 36))
  have hsz : (((w.alloc (.cells (rc x f).toArray 34)).alloc (.cells (rc (fun _ => 0) (fun _ => 0)).toArray 34)).alloc (.cells #[.int .i64 0, .int .i64 0, .int .u32 0] 36)).heap.size = w.heap.size + 3 := by simp
  generalize (((w.alloc (.cells (rc x f).toArray 34)).alloc (.cells (rc (fun _ => 0) (fun _ => 0)).toArray 34)).alloc (.cells #[.int .i64 0, .int .i64 0, .int .u32 0] 36)) = W at *
  go_wp2_with (first
    | ((with_reducible refine at_load 34 ?_); refine wpList_load_wbox (by rfl) 34 _ rfl w.heap.size rfl (rc x f) 34 _ BR Try.underlying34 rfl (by rw [rc_len]; exact ar_info) ?_)
    | (go_at_call 14; (with_reducible refine (qk _).mono ?_)))
  rintro e W2 rfl n2
  have n2' := New.trans n1 n2
  have BR2 := Lib.hid (BR.new n2)
  have B42 := Lib.hid (B4.new n2)
  have B52 := Lib.hid (B5.new n2)
  have h2 := Lib.hid (h1.new n2)
  have hs2 := n2.size
  rw [hsz] at hs2
  have BRo := BR2.out
  clear n1 n2 BR B4 B5 h1 hsz s1 qk
  go_wp2_with (first
    | ((with_reducible refine at_load 34 ?_); refine wpList_load_box rfl 34 _ rfl w.heap.size rfl (rc x f) 34 _ BRo Try.underlying34 rfl (by rw [rc_len]; exact ar_info) ?_)
    | ((with_reducible refine at_build 61 ?_); refine wpList_build rfl 61 _ rfl #[(0, bus db), (1, .agg (rc x f).toArray)] (by kernel_rfl) (.agg (cc (bus db) x f 0).toArray) (cc_build db x f _) ?_)
    | ((with_reducible refine at_store 61 ?_); refine wpList_store_box rfl 61 _ _ rfl W2.heap.size (cc (bus db) x f 0) (cc .nilIface (fun _ => 0) (fun _ => 0) 0) 61 rfl rfl (Box.here W2 _ _ _ rfl) rfl (by rw [cc_len]; exact co_size) (cc_one db x f 0) ?_))
  intro W3 BC F3
  have hn3 : New W2 W3 := F3.new ((New.refl W2).alloc _ _) (Nat.le_refl _)
  have hdb := h2.out.1.lt
  have C3 : Co W3 W2.heap.size db x f 0 := ⟨BC, by omega⟩
  have BR3 := BR2.out.new hn3
  have B43 := B42.out.new hn3
  have B53 := B52.out.new hn3
  have h3 := h2.out.new hn3
  have q4 := hq W3 W2.heap.size 0 C3 h3
  have hnw : New w W3 := New.trans n2' hn3
  have hs3 := hn3.size
  clear hq F3 BC BR2 B42 B52 h2 BRo hn3 n2'
  go_wp2_with fail
  refine q4.mono ?_
  rintro e W4 ⟨rfl, ⟨x', f', q', C4⟩, h4, b4⟩
  have BR4 := BR3.but b4 (fun e => e.elim (fun e => Box.ne BR3 C3.1 (by decide) e) (h3.not BR3 (by decide) (by decide)))
  have B44 := B43.but b4 (fun e => e.elim (fun e => Box.ne B43 C3.1 (by decide) e) (h3.not B43 (by decide) (by decide)))
  have B54 := B53.but b4 (fun e => e.elim (fun e => Box.ne B53 C3.1 (by decide) e) (h3.not B53 (by decide) (by decide)))
  have bw4 : But (SB db v) w W4 := (But.of_new _ hnw).trans' b4 (fun i hi e => e.elim (fun e => absurd (e ▸ hi) (by omega)) id)
  have hs4 := b4.size
  clear q4 BR3 B43 B53 h3 C3 C4 b4 hnw
  generalize W2.heap.size = cb at *
  go_wp2_with ((with_reducible refine at_store 36 ?_); refine wpList_store_box rfl 36 _ _ rfl W4.heap.size [.int .i64 4, .int .i64 A.s, .int .u32 A.a] [.int .i64 0, .int .i64 0, .int .u32 0] 36 rfl rfl (Box.here W4 _ _ _ rfl) rfl ev_size (by intro u hu; simp at hu; rcases hu with rfl | rfl | rfl <;> rfl) ?_)
  intro W5 BE F5
  have hn5 : New W4 W5 := F5.new ((New.refl W4).alloc _ _) (Nat.le_refl _)
  have BR := BR4.new hn5
  have B4 := B44.new hn5
  have B5 := B54.new hn5
  have h5 := h4.new hn5
  have bw := bw4.trans' (But.of_new (SB db v) hn5) (fun _ _ e => e)
  have hs5 := hn5.size
  obtain ⟨d0, d1, d2⟩ := BE.three
  clear hn5 F5 BR4 B44 B54 h4 bw4
  generalize W4.heap.size = eb at *
  go_wp2_with fail
  have hS : (fun w' : World => Box w' (w.heap.size) (rc x f).toArray 34 ∧ Box w' (eb) #[.int .i64 4, .int .i64 A.s, .int .u32 A.a] 36) W5.drew := ⟨BR.new (New.refl _).drew, BE.new (New.refl _).drew⟩
  have B4 := B4.new (New.refl W5).drew
  have B5 := B5.new (New.refl W5).drew
  refine wp_region_held_drew (S := (fun w' : World => Box w' (w.heap.size) (rc x f).toArray 34 ∧ Box w' (eb) #[.int .i64 4, .int .i64 A.s, .int .u32 A.a] 36)) (by kernel_rfl) hS (fun _ => ?_)
  refine wpAnyH_take (i := 0) (v := .agg (rc x f).toArray) rfl (by kernel_rfl) (by kernel_rfl) (by kernel_rfl) (fun _ _ _ h => h) (yieldsIf_load_box (by rfl) 34 _ rfl _ rfl (rc x f) _ _ (fun _ e => e.1) Try.underlying34 rfl (by rw [rc_len]; exact ar_info)) hS ?_
  simp only [Act.put, List.setIfInBounds_toArray, List.set_cons_zero, List.set_cons_succ, List.getElem_toArray, List.getElem_cons_zero, List.getElem_cons_succ]
  refine wpAnyH_take (i := 1) (v := .agg #[.int .i64 4, .int .i64 A.s, .int .u32 A.a]) rfl (by kernel_rfl) (by kernel_rfl) (by kernel_rfl) (fun _ _ _ h => h) (yieldsIf_load_box (by rfl) 36 _ rfl _ rfl [.int .i64 4, .int .i64 A.s, .int .u32 A.a] _ _ (fun _ e => e.2) Try.underlying36 rfl ev_size) hS ?_
  simp only [Act.put, List.setIfInBounds_toArray, List.set_cons_zero, List.set_cons_succ, List.getElem_toArray, List.getElem_cons_zero, List.getElem_cons_succ]
  refine wpAnyH_ready (rs := [2]) (by kernel_rfl) (by simp) (AllReadyH.cons rfl (fun K hK => ?_) AllReadyH.nil)
  rw [if_pos (by rfl)]
  refine wp_store_bx 34 _ _ rfl (w.heap.size + 1) (rc x f) (rc (fun _ => 0) (fun _ => 0)) 34 rfl rfl B4 rfl (by rw [rc_len]; exact ar_info) (rc_one _ _) ?_
  intro W6 B46 F6
  have hS6 : Box W6 w.heap.size (rc x f).toArray 34 ∧ Box W6 eb #[.int .i64 4, .int .i64 A.s, .int .u32 A.a] 36 := ⟨hS.1.far F6 (by omega), hS.2.far F6 (by omega)⟩
  have B56 := B5.far F6 (by omega)
  refine hK.out _ _ hS6 (fun _ => ?_)
  clear hK K
  simp only [Act.put, List.setIfInBounds_toArray, List.set_cons_zero, List.set_cons_succ, List.getElem_toArray, List.getElem_cons_zero, List.getElem_cons_succ]
  refine wpAnyH_ready (rs := [3]) (by kernel_rfl) (by simp) (AllReadyH.cons rfl (fun K hK => ?_) AllReadyH.nil)
  rw [if_pos (by rfl)]
  refine wp_store_bx 36 _ _ rfl (w.heap.size + 2) [.int .i64 4, .int .i64 A.s, .int .u32 A.a] [.int .i64 0, .int .i64 0, .int .u32 0] 36 rfl rfl B56 rfl ev_size (by intro u hu; simp at hu; rcases hu with rfl | rfl | rfl <;> rfl) ?_
  intro W7 B57 F7
  have B47 := B46.far F7 (by omega)
  refine hK.out _ _ ⟨hS6.1.far F7 (by omega), hS6.2.far F7 (by omega)⟩ (fun _ => ?_)
  clear hK K
  simp only [Act.put, List.setIfInBounds_toArray, List.set_cons_zero, List.set_cons_succ, List.getElem_toArray, List.getElem_cons_zero, List.getElem_cons_succ]
  refine wpAnyH_done (by kernel_rfl) ?_ _
  have hb : Bd W7 db v A.L (fea x a) (adds s A.n) := ((h5.new (New.refl _).drew).far B4 (by decide) (by decide) F6).far B56 (by decide) (by decide) F7
  have hw : But (SB db v) w W7 := ((bw.trans' (But.of_new (SB db v) (New.refl _).drew) (fun _ _ e => e)).far F6 (by omega)).far F7 (by omega)
  have r4 : (loadVar 34 ⟨w.heap.size + 1, 0, none⟩).run Try.prog W7 = .ok (.agg (rc x f).toArray) W7 := run_loadVar_mid W7 _ 0 _ _ _ B47.range Try.underlying34 rfl (by rw [rc_len]; exact ar_info)
  have r5 : (loadVar 36 ⟨w.heap.size + 1 + 1, 0, none⟩).run Try.prog W7 = .ok (.agg #[.int .i64 4, .int .i64 A.s, .int .u32 A.a]) W7 := run_loadVar_mid W7 _ 0 _ [.int .i64 4, .int .i64 A.s, .int .u32 A.a] _ (Box.range B57) Try.underlying36 rfl ev_size
  clear hS hS6 B4 B5 B46 B56 B57 B47 F6 F7 h5 bw d0 d1 d2 BR BE
  go_wp2
  exact bodyPost_ret (v := .tuple #[.agg (rc x f).toArray, .agg #[.int .i64 4, .int .i64 A.s, .int .u32 A.a]]) (by simp [results, Try.results7, asAddr, r4, r5]) rfl ⟨rfl, hb, hw⟩
set_option maxHeartbeats 2000000 in
theorem step_ran (h : Bd w db v L a s) (hx : Bx x) (hf : Bf f) (hL : Oct L) (h17 : x 17 < 32) (hk : (exA x f L).k = 0) (hfl : x 17 < 16) :
    Calls Try.prog 7 #[bus db, .agg (rc x f).toArray] w fun e w' => e = .returned (.tuple #[.agg (rc (exA x f L).x (exA x f L).f).toArray, .agg #[.int .i64 0, .int .i64 0, .int .u32 0]]) ∧
      Bd w' db v (exA x f L).L (fea x a) (adds s (exA x f L).n) ∧ But (SB db v) w w' := by
  have hk4 : (exA x f L).k ≠ 4 := by rw [hk]; decide
  have hq := fun w1 cb q (hc : Co w1 cb db x f q) (hb : Bd w1 db v L a s) => attempt_ok hc hb (exA x f L) hk4 fun w2 hc2 hb2 => exec hc2 hb2 hx hf hL
  rw [hk] at hq
  have b17 := (hx 17 (by omega)).1
  have qk : ∀ w, Calls Try.prog 14 #[.agg (rc x f).toArray] w fun e w' => e = .returned .nilIface ∧ New w w' := fun w => by
    have := check_any x f w (hx 17 (by omega)).1
    unfold cke at this; rw [if_pos h17] at this; exact this
  generalize exA x f L = A at *
  have hnil : ∀ w, (binOp .eql 55 (bus db) .nilIface).run Try.prog w = .ok (.bool false) w := fun w => by kernel_rfl
  have hguard : ∀ w, (eqGuard .eql 55 (.tmp 8) (.const .nilIface) (bus db) .nilIface).run Try.prog w = .ok () w := fun w => by kernel_rfl
  go_enter Try.func7, Try.ntmps7
  go_upto_region 1 with fail
  have n1 := ((New.refl w).alloc (rc x f).toArray 34).alloc (rc (fun _ => 0) (fun _ => 0)).toArray 34
  have n1 := n1.alloc #[.int .i64 0, .int .i64 0, .int .u32 0] 36
  have BR := ((Box.here w w.heap.size (rc x f).toArray 34 rfl).alloc (.cells (rc (fun _ => 0) (fun _ => 0)).toArray 34)).alloc (.cells #[.int .i64 0, .int .i64 0, .int .u32 0] 36)
  have B4 := (Box.here (w.alloc (.cells (rc x f).toArray 34)) (w.heap.size + 1) (rc (fun _ => 0) (fun _ => 0)).toArray 34 (by simp)).alloc (.cells #[.int .i64 0, .int .i64 0, .int .u32 0] 36)
  have B5 := Box.here ((w.alloc (.cells (rc x f).toArray 34)).alloc (.cells (rc (fun _ => 0) (fun _ => 0)).toArray 34)) (w.heap.size + 2) #[.int .i64 0, .int .i64 0, .int .u32 0] 36 (by simp)
  have h1 := h.new n1
  have s1 := n1.size
  change Code.wp _ _ _ _ (((w.alloc (.cells (rc x f).toArray 34)).alloc (.cells (rc (fun _ => 0) (fun _ => 0)).toArray 34)).alloc (.cells #[.int .i64 0, .int .i64 0, .int .u32 0] 36))
  have hsz : (((w.alloc (.cells (rc x f).toArray 34)).alloc (.cells (rc (fun _ => 0) (fun _ => 0)).toArray 34)).alloc (.cells #[.int .i64 0, .int .i64 0, .int .u32 0] 36)).heap.size = w.heap.size + 3 := by simp
  generalize (((w.alloc (.cells (rc x f).toArray 34)).alloc (.cells (rc (fun _ => 0) (fun _ => 0)).toArray 34)).alloc (.cells #[.int .i64 0, .int .i64 0, .int .u32 0] 36)) = W at *
  go_wp2_with (first
    | ((with_reducible refine at_load 34 ?_); refine wpList_load_wbox (by rfl) 34 _ rfl w.heap.size rfl (rc x f) 34 _ BR Try.underlying34 rfl (by rw [rc_len]; exact ar_info) ?_)
    | (go_at_call 14; (with_reducible refine (qk _).mono ?_)))
  rintro e W2 rfl n2
  have n2' := New.trans n1 n2
  have BR2 := Lib.hid (BR.new n2)
  have B42 := Lib.hid (B4.new n2)
  have B52 := Lib.hid (B5.new n2)
  have h2 := Lib.hid (h1.new n2)
  have hs2 := n2.size
  rw [hsz] at hs2
  have BRo := BR2.out
  clear n1 n2 BR B4 B5 h1 hsz s1 qk
  go_wp2_with (first
    | ((with_reducible refine at_load 34 ?_); refine wpList_load_box rfl 34 _ rfl w.heap.size rfl (rc x f) 34 _ BRo Try.underlying34 rfl (by rw [rc_len]; exact ar_info) ?_)
    | ((with_reducible refine at_build 61 ?_); refine wpList_build rfl 61 _ rfl #[(0, bus db), (1, .agg (rc x f).toArray)] (by kernel_rfl) (.agg (cc (bus db) x f 0).toArray) (cc_build db x f _) ?_)
    | ((with_reducible refine at_store 61 ?_); refine wpList_store_box rfl 61 _ _ rfl W2.heap.size (cc (bus db) x f 0) (cc .nilIface (fun _ => 0) (fun _ => 0) 0) 61 rfl rfl (Box.here W2 _ _ _ rfl) rfl (by rw [cc_len]; exact co_size) (cc_one db x f 0) ?_))
  intro W3 BC F3
  have hn3 : New W2 W3 := F3.new ((New.refl W2).alloc _ _) (Nat.le_refl _)
  have hdb := h2.out.1.lt
  have C3 : Co W3 W2.heap.size db x f 0 := ⟨BC, by omega⟩
  have BR3 := BR2.out.new hn3
  have B43 := B42.out.new hn3
  have B53 := B52.out.new hn3
  have h3 := h2.out.new hn3
  have q4 := hq W3 W2.heap.size 0 C3 h3
  have hnw : New w W3 := New.trans n2' hn3
  have hs3 := hn3.size
  clear hq F3 BC BR2 B42 B52 h2 BRo hn3 n2'
  go_wp2_with fail
  refine q4.mono ?_
  rintro e W4 ⟨rfl, ⟨q', C4⟩, h4, b4⟩
  have BR4 := BR3.but b4 (fun e => e.elim (fun e => Box.ne BR3 C3.1 (by decide) e) (h3.not BR3 (by decide) (by decide)))
  have B44 := B43.but b4 (fun e => e.elim (fun e => Box.ne B43 C3.1 (by decide) e) (h3.not B43 (by decide) (by decide)))
  have B54 := B53.but b4 (fun e => e.elim (fun e => Box.ne B53 C3.1 (by decide) e) (h3.not B53 (by decide) (by decide)))
  have bw4 : But (SB db v) w W4 := (But.of_new _ hnw).trans' b4 (fun i hi e => e.elim (fun e => absurd (e ▸ hi) (by omega)) id)
  have hs4 := b4.size
  clear q4 BR3 B43 B53 h3 C3 b4 hnw
  generalize W2.heap.size = cb at *
  go_wp2_with ((with_reducible refine at_store 36 ?_); refine wpList_store_box rfl 36 _ _ rfl W4.heap.size [.int .i64 0, .int .i64 0, .int .u32 0] [.int .i64 0, .int .i64 0, .int .u32 0] 36 rfl rfl (Box.here W4 _ _ _ rfl) rfl ev_size (by intro u hu; simp at hu; rcases hu with rfl | rfl | rfl <;> rfl) ?_)
  intro W5 BE F5
  have hn5 : New W4 W5 := F5.new ((New.refl W4).alloc _ _) (Nat.le_refl _)
  have BR := BR4.new hn5
  have B4 := B44.new hn5
  have B5 := B54.new hn5
  have h5 := h4.new hn5
  have C5 := C4.new hn5
  have bw := bw4.trans' (But.of_new (SB db v) hn5) (fun _ _ e => e)
  have hs5 := hn5.size
  obtain ⟨d0, d1, d2⟩ := BE.three
  have c17 := BR.at (rc_x x f (i := 17) (by omega))
  clear hn5 F5 BR4 B44 B54 h4 bw4 C4
  have hs6 := cell_lt d0
  generalize W4.heap.size = eb at *
  have bits := and16 (x 17) b17 (by omega)
  rw [show x 17 / 16 % 2 * 16 = 0 by omega] at bits
  go_upto_region 9 with fail
  have BE6 := BE
  have h6 := h5
  have B46 := B4
  have B56 := B5
  have C6 := C5
  have bw6 := bw
  clear BE h5 B4 B5 C5 BR bw d0 d1 d2 c17
  generalize W5 = W at *
  have hcb := cell_lt C6.busc
  have hS : (fun w' : World => Co w' cb db A.x A.f q' ∧ Box w' eb #[.int .i64 0, .int .i64 0, .int .u32 0] 36) W.drew := ⟨C6.new (New.refl _).drew, BE6.new (New.refl _).drew⟩
  have B4 := B46.new (New.refl W).drew
  have B5 := B56.new (New.refl W).drew
  go_wp2_with fail
  refine wp_region_held_drew (S := (fun w' : World => Co w' cb db A.x A.f q' ∧ Box w' eb #[.int .i64 0, .int .i64 0, .int .u32 0] 36)) (by kernel_rfl) hS (fun _ => ?_)
  refine wpAnyH_take (i := 0) (v := ?_) rfl (by kernel_rfl) (by kernel_rfl) (by kernel_rfl) (fun _ _ _ h => h) (Or.inl ⟨by rfl, ?_⟩) hS ?_
  rotate_left
  · intro w hSw
    go_simp
    with_reducible rfl
  simp only [Act.put, List.setIfInBounds_toArray, List.set_cons_zero, List.set_cons_succ, List.getElem_toArray, List.getElem_cons_zero, List.getElem_cons_succ]
  refine wpAnyH_take (i := 1) (v := .agg (rc A.x A.f).toArray) rfl (by kernel_rfl) (by kernel_rfl) (by kernel_rfl) (fun _ _ _ h => h) (yieldsIf_load_mid (by rfl) 34 _ rfl cb 1 rfl (rc A.x A.f) _ (fun _ e => e.1.regs) Try.underlying34 rfl (by rw [rc_len]; exact ar_info)) hS ?_
  simp only [Act.put, List.setIfInBounds_toArray, List.set_cons_zero, List.set_cons_succ, List.getElem_toArray, List.getElem_cons_zero, List.getElem_cons_succ]
  refine wpAnyH_take (i := 2) (v := .agg #[.int .i64 0, .int .i64 0, .int .u32 0]) rfl (by kernel_rfl) (by kernel_rfl) (by kernel_rfl) (fun _ _ _ h => h) (yieldsIf_load_box (by rfl) 36 _ rfl eb rfl [.int .i64 0, .int .i64 0, .int .u32 0] _ _ (fun _ e => e.2) Try.underlying36 rfl ev_size) hS ?_
  simp only [Act.put, List.setIfInBounds_toArray, List.set_cons_zero, List.set_cons_succ, List.getElem_toArray, List.getElem_cons_zero, List.getElem_cons_succ]
  refine wpAnyH_ready (rs := [3]) (by kernel_rfl) (by simp) (AllReadyH.cons rfl (fun K hK => ?_) AllReadyH.nil)
  rw [if_pos (by rfl)]
  refine wp_store_bx 34 _ _ rfl (w.heap.size + 1) (rc A.x A.f) (rc (fun _ => 0) (fun _ => 0)) 34 rfl rfl B4 rfl (by rw [rc_len]; exact ar_info) (rc_one _ _) ?_
  intro W6 B46 F6
  have hS6 : Co W6 cb db A.x A.f q' ∧ Box W6 eb #[.int .i64 0, .int .i64 0, .int .u32 0] 36 := ⟨hS.1.far B4 (by decide) F6, hS.2.far F6 (by omega)⟩
  have B56 := B5.far F6 (by omega)
  refine hK.out _ _ hS6 (fun _ => ?_)
  clear hK K
  simp only [Act.put, List.setIfInBounds_toArray, List.set_cons_zero, List.set_cons_succ, List.getElem_toArray, List.getElem_cons_zero, List.getElem_cons_succ]
  refine wpAnyH_ready (rs := [4]) (by kernel_rfl) (by simp) (AllReadyH.cons rfl (fun K hK => ?_) AllReadyH.nil)
  rw [if_pos (by rfl)]
  refine wp_store_bx 36 _ _ rfl (w.heap.size + 2) [.int .i64 0, .int .i64 0, .int .u32 0] [.int .i64 0, .int .i64 0, .int .u32 0] 36 rfl rfl B56 rfl ev_size (by intro u hu; simp at hu; rcases hu with rfl | rfl | rfl <;> rfl) ?_
  intro W7 B57 F7
  have B47 := B46.far F7 (by omega)
  refine hK.out _ _ ⟨hS6.1.far B56 (by decide) F7, hS6.2.far F7 (by omega)⟩ (fun _ => ?_)
  clear hK K
  simp only [Act.put, List.setIfInBounds_toArray, List.set_cons_zero, List.set_cons_succ, List.getElem_toArray, List.getElem_cons_zero, List.getElem_cons_succ]
  refine wpAnyH_done (by kernel_rfl) ?_ _
  have hb : Bd W7 db v A.L (fea x a) (adds s A.n) := ((h6.new (New.refl _).drew).far B4 (by decide) (by decide) F6).far B56 (by decide) (by decide) F7
  have hw : But (SB db v) w W7 := ((bw6.trans' (But.of_new (SB db v) (New.refl _).drew) (fun _ _ e => e)).far F6 (by omega)).far F7 (by omega)
  have r4 : (loadVar 34 ⟨w.heap.size + 1, 0, none⟩).run Try.prog W7 = .ok (.agg (rc A.x A.f).toArray) W7 := run_loadVar_mid W7 _ 0 _ _ _ B47.range Try.underlying34 rfl (by rw [rc_len]; exact ar_info)
  have r5 : (loadVar 36 ⟨w.heap.size + 1 + 1, 0, none⟩).run Try.prog W7 = .ok (.agg #[.int .i64 0, .int .i64 0, .int .u32 0]) W7 := run_loadVar_mid W7 _ 0 _ [.int .i64 0, .int .i64 0, .int .u32 0] _ (Box.range B57) Try.underlying36 rfl ev_size
  clear hS hS6 B4 B5 B46 B56 B57 B47 F6 F7 h6 bw6 BE6 C6
  go_wp2
  exact bodyPost_ret (v := .tuple #[.agg (rc A.x A.f).toArray, .agg #[.int .i64 0, .int .i64 0, .int .u32 0]]) (by simp [results, Try.results7, asAddr, r4, r5]) rfl ⟨rfl, hb, hw⟩
set_option maxHeartbeats 2000000 in
theorem step_one (h : Bd w db v L a s) (hx : Bx x) (hf : Bf f) (hL : Oct L) (h17 : x 17 < 32) (hk : (exA x f L).k = 0) (hfl : 16 ≤ x 17) :
    Calls Try.prog 7 #[bus db, .agg (rc x f).toArray] w fun e w' => e = .returned (.tuple #[.agg (rc (exA x f L).x (exA x f L).f).toArray, .agg #[.int .i64 3, .int .i64 0, .int .u32 0]]) ∧
      Bd w' db v (exA x f L).L (fea x a) (adds s (exA x f L).n) ∧ But (SB db v) w w' := by
  have hk4 : (exA x f L).k ≠ 4 := by rw [hk]; decide
  have hq := fun w1 cb q (hc : Co w1 cb db x f q) (hb : Bd w1 db v L a s) => attempt_ok hc hb (exA x f L) hk4 fun w2 hc2 hb2 => exec hc2 hb2 hx hf hL
  rw [hk] at hq
  have b17 := (hx 17 (by omega)).1
  have qk : ∀ w, Calls Try.prog 14 #[.agg (rc x f).toArray] w fun e w' => e = .returned .nilIface ∧ New w w' := fun w => by
    have := check_any x f w (hx 17 (by omega)).1
    unfold cke at this; rw [if_pos h17] at this; exact this
  generalize exA x f L = A at *
  have hnil : ∀ w, (binOp .eql 55 (bus db) .nilIface).run Try.prog w = .ok (.bool false) w := fun w => by kernel_rfl
  have hguard : ∀ w, (eqGuard .eql 55 (.tmp 8) (.const .nilIface) (bus db) .nilIface).run Try.prog w = .ok () w := fun w => by kernel_rfl
  go_enter Try.func7, Try.ntmps7
  go_upto_region 1 with fail
  have n1 := ((New.refl w).alloc (rc x f).toArray 34).alloc (rc (fun _ => 0) (fun _ => 0)).toArray 34
  have n1 := n1.alloc #[.int .i64 0, .int .i64 0, .int .u32 0] 36
  have BR := ((Box.here w w.heap.size (rc x f).toArray 34 rfl).alloc (.cells (rc (fun _ => 0) (fun _ => 0)).toArray 34)).alloc (.cells #[.int .i64 0, .int .i64 0, .int .u32 0] 36)
  have B4 := (Box.here (w.alloc (.cells (rc x f).toArray 34)) (w.heap.size + 1) (rc (fun _ => 0) (fun _ => 0)).toArray 34 (by simp)).alloc (.cells #[.int .i64 0, .int .i64 0, .int .u32 0] 36)
  have B5 := Box.here ((w.alloc (.cells (rc x f).toArray 34)).alloc (.cells (rc (fun _ => 0) (fun _ => 0)).toArray 34)) (w.heap.size + 2) #[.int .i64 0, .int .i64 0, .int .u32 0] 36 (by simp)
  have h1 := h.new n1
  have s1 := n1.size
  change Code.wp _ _ _ _ (((w.alloc (.cells (rc x f).toArray 34)).alloc (.cells (rc (fun _ => 0) (fun _ => 0)).toArray 34)).alloc (.cells #[.int .i64 0, .int .i64 0, .int .u32 0] 36))
  have hsz : (((w.alloc (.cells (rc x f).toArray 34)).alloc (.cells (rc (fun _ => 0) (fun _ => 0)).toArray 34)).alloc (.cells #[.int .i64 0, .int .i64 0, .int .u32 0] 36)).heap.size = w.heap.size + 3 := by simp
  generalize (((w.alloc (.cells (rc x f).toArray 34)).alloc (.cells (rc (fun _ => 0) (fun _ => 0)).toArray 34)).alloc (.cells #[.int .i64 0, .int .i64 0, .int .u32 0] 36)) = W at *
  go_wp2_with (first
    | ((with_reducible refine at_load 34 ?_); refine wpList_load_wbox (by rfl) 34 _ rfl w.heap.size rfl (rc x f) 34 _ BR Try.underlying34 rfl (by rw [rc_len]; exact ar_info) ?_)
    | (go_at_call 14; (with_reducible refine (qk _).mono ?_)))
  rintro e W2 rfl n2
  have n2' := New.trans n1 n2
  have BR2 := Lib.hid (BR.new n2)
  have B42 := Lib.hid (B4.new n2)
  have B52 := Lib.hid (B5.new n2)
  have h2 := Lib.hid (h1.new n2)
  have hs2 := n2.size
  rw [hsz] at hs2
  have BRo := BR2.out
  clear n1 n2 BR B4 B5 h1 hsz s1 qk
  go_wp2_with (first
    | ((with_reducible refine at_load 34 ?_); refine wpList_load_box rfl 34 _ rfl w.heap.size rfl (rc x f) 34 _ BRo Try.underlying34 rfl (by rw [rc_len]; exact ar_info) ?_)
    | ((with_reducible refine at_build 61 ?_); refine wpList_build rfl 61 _ rfl #[(0, bus db), (1, .agg (rc x f).toArray)] (by kernel_rfl) (.agg (cc (bus db) x f 0).toArray) (cc_build db x f _) ?_)
    | ((with_reducible refine at_store 61 ?_); refine wpList_store_box rfl 61 _ _ rfl W2.heap.size (cc (bus db) x f 0) (cc .nilIface (fun _ => 0) (fun _ => 0) 0) 61 rfl rfl (Box.here W2 _ _ _ rfl) rfl (by rw [cc_len]; exact co_size) (cc_one db x f 0) ?_))
  intro W3 BC F3
  have hn3 : New W2 W3 := F3.new ((New.refl W2).alloc _ _) (Nat.le_refl _)
  have hdb := h2.out.1.lt
  have C3 : Co W3 W2.heap.size db x f 0 := ⟨BC, by omega⟩
  have BR3 := BR2.out.new hn3
  have B43 := B42.out.new hn3
  have B53 := B52.out.new hn3
  have h3 := h2.out.new hn3
  have q4 := hq W3 W2.heap.size 0 C3 h3
  have hnw : New w W3 := New.trans n2' hn3
  have hs3 := hn3.size
  clear hq F3 BC BR2 B42 B52 h2 BRo hn3 n2'
  go_wp2_with fail
  refine q4.mono ?_
  rintro e W4 ⟨rfl, ⟨q', C4⟩, h4, b4⟩
  have BR4 := BR3.but b4 (fun e => e.elim (fun e => Box.ne BR3 C3.1 (by decide) e) (h3.not BR3 (by decide) (by decide)))
  have B44 := B43.but b4 (fun e => e.elim (fun e => Box.ne B43 C3.1 (by decide) e) (h3.not B43 (by decide) (by decide)))
  have B54 := B53.but b4 (fun e => e.elim (fun e => Box.ne B53 C3.1 (by decide) e) (h3.not B53 (by decide) (by decide)))
  have bw4 : But (SB db v) w W4 := (But.of_new _ hnw).trans' b4 (fun i hi e => e.elim (fun e => absurd (e ▸ hi) (by omega)) id)
  have hs4 := b4.size
  clear q4 BR3 B43 B53 h3 C3 b4 hnw
  generalize W2.heap.size = cb at *
  go_wp2_with ((with_reducible refine at_store 36 ?_); refine wpList_store_box rfl 36 _ _ rfl W4.heap.size [.int .i64 0, .int .i64 0, .int .u32 0] [.int .i64 0, .int .i64 0, .int .u32 0] 36 rfl rfl (Box.here W4 _ _ _ rfl) rfl ev_size (by intro u hu; simp at hu; rcases hu with rfl | rfl | rfl <;> rfl) ?_)
  intro W5 BE F5
  have hn5 : New W4 W5 := F5.new ((New.refl W4).alloc _ _) (Nat.le_refl _)
  have BR := BR4.new hn5
  have B4 := B44.new hn5
  have B5 := B54.new hn5
  have h5 := h4.new hn5
  have C5 := C4.new hn5
  have bw := bw4.trans' (But.of_new (SB db v) hn5) (fun _ _ e => e)
  have hs5 := hn5.size
  obtain ⟨d0, d1, d2⟩ := BE.three
  have c17 := BR.at (rc_x x f (i := 17) (by omega))
  clear hn5 F5 BR4 B44 B54 h4 bw4 C4
  have hs6 := cell_lt d0
  generalize W4.heap.size = eb at *
  have u0 := BE.unfrozen 0
  have bits := and16 (x 17) b17 (by omega)
  rw [show x 17 / 16 % 2 * 16 = 16 by omega] at bits
  go_upto_region 9 with fail
  change Code.wp _ _ _ _ (W5.setCell ⟨eb, 0, none⟩ (.int .i64 3))
  have BE6 := BE.set 0 (.int .i64 3)
  change Box _ eb #[.int .i64 3, .int .i64 0, .int .u32 0] 36 at BE6
  have F6 := Far.set W5 eb 0 (.int .i64 3)
  have h6 := h5.far BE (by decide) (by decide) F6
  have B46 := B4.far F6 (by omega)
  have B56 := B5.far F6 (by omega)
  have C6 := C5.far BE (by decide) F6
  have bw6 := bw.far F6 (by omega)
  have hs7 := F6.size
  clear F6 BE h5 B4 B5 C5 BR bw d0 d1 d2 u0 c17
  generalize W5.setCell ⟨eb, 0, none⟩ (.int .i64 3) = W at *
  have hcb := cell_lt C6.busc
  have hS : (fun w' : World => Co w' cb db A.x A.f q' ∧ Box w' eb #[.int .i64 3, .int .i64 0, .int .u32 0] 36) W.drew := ⟨C6.new (New.refl _).drew, BE6.new (New.refl _).drew⟩
  have B4 := B46.new (New.refl W).drew
  have B5 := B56.new (New.refl W).drew
  go_wp2_with fail
  refine wp_region_held_drew (S := (fun w' : World => Co w' cb db A.x A.f q' ∧ Box w' eb #[.int .i64 3, .int .i64 0, .int .u32 0] 36)) (by kernel_rfl) hS (fun _ => ?_)
  refine wpAnyH_take (i := 0) (v := ?_) rfl (by kernel_rfl) (by kernel_rfl) (by kernel_rfl) (fun _ _ _ h => h) (Or.inl ⟨by rfl, ?_⟩) hS ?_
  rotate_left
  · intro w hSw
    go_simp
    with_reducible rfl
  simp only [Act.put, List.setIfInBounds_toArray, List.set_cons_zero, List.set_cons_succ, List.getElem_toArray, List.getElem_cons_zero, List.getElem_cons_succ]
  refine wpAnyH_take (i := 1) (v := .agg (rc A.x A.f).toArray) rfl (by kernel_rfl) (by kernel_rfl) (by kernel_rfl) (fun _ _ _ h => h) (yieldsIf_load_mid (by rfl) 34 _ rfl cb 1 rfl (rc A.x A.f) _ (fun _ e => e.1.regs) Try.underlying34 rfl (by rw [rc_len]; exact ar_info)) hS ?_
  simp only [Act.put, List.setIfInBounds_toArray, List.set_cons_zero, List.set_cons_succ, List.getElem_toArray, List.getElem_cons_zero, List.getElem_cons_succ]
  refine wpAnyH_take (i := 2) (v := .agg #[.int .i64 3, .int .i64 0, .int .u32 0]) rfl (by kernel_rfl) (by kernel_rfl) (by kernel_rfl) (fun _ _ _ h => h) (yieldsIf_load_box (by rfl) 36 _ rfl eb rfl [.int .i64 3, .int .i64 0, .int .u32 0] _ _ (fun _ e => e.2) Try.underlying36 rfl ev_size) hS ?_
  simp only [Act.put, List.setIfInBounds_toArray, List.set_cons_zero, List.set_cons_succ, List.getElem_toArray, List.getElem_cons_zero, List.getElem_cons_succ]
  refine wpAnyH_ready (rs := [3]) (by kernel_rfl) (by simp) (AllReadyH.cons rfl (fun K hK => ?_) AllReadyH.nil)
  rw [if_pos (by rfl)]
  refine wp_store_bx 34 _ _ rfl (w.heap.size + 1) (rc A.x A.f) (rc (fun _ => 0) (fun _ => 0)) 34 rfl rfl B4 rfl (by rw [rc_len]; exact ar_info) (rc_one _ _) ?_
  intro W6 B46 F6
  have hS6 : Co W6 cb db A.x A.f q' ∧ Box W6 eb #[.int .i64 3, .int .i64 0, .int .u32 0] 36 := ⟨hS.1.far B4 (by decide) F6, hS.2.far F6 (by omega)⟩
  have B56 := B5.far F6 (by omega)
  refine hK.out _ _ hS6 (fun _ => ?_)
  clear hK K
  simp only [Act.put, List.setIfInBounds_toArray, List.set_cons_zero, List.set_cons_succ, List.getElem_toArray, List.getElem_cons_zero, List.getElem_cons_succ]
  refine wpAnyH_ready (rs := [4]) (by kernel_rfl) (by simp) (AllReadyH.cons rfl (fun K hK => ?_) AllReadyH.nil)
  rw [if_pos (by rfl)]
  refine wp_store_bx 36 _ _ rfl (w.heap.size + 2) [.int .i64 3, .int .i64 0, .int .u32 0] [.int .i64 0, .int .i64 0, .int .u32 0] 36 rfl rfl B56 rfl ev_size (by intro u hu; simp at hu; rcases hu with rfl | rfl | rfl <;> rfl) ?_
  intro W7 B57 F7
  have B47 := B46.far F7 (by omega)
  refine hK.out _ _ ⟨hS6.1.far B56 (by decide) F7, hS6.2.far F7 (by omega)⟩ (fun _ => ?_)
  clear hK K
  simp only [Act.put, List.setIfInBounds_toArray, List.set_cons_zero, List.set_cons_succ, List.getElem_toArray, List.getElem_cons_zero, List.getElem_cons_succ]
  refine wpAnyH_done (by kernel_rfl) ?_ _
  have hb : Bd W7 db v A.L (fea x a) (adds s A.n) := ((h6.new (New.refl _).drew).far B4 (by decide) (by decide) F6).far B56 (by decide) (by decide) F7
  have hw : But (SB db v) w W7 := ((bw6.trans' (But.of_new (SB db v) (New.refl _).drew) (fun _ _ e => e)).far F6 (by omega)).far F7 (by omega)
  have r4 : (loadVar 34 ⟨w.heap.size + 1, 0, none⟩).run Try.prog W7 = .ok (.agg (rc A.x A.f).toArray) W7 := run_loadVar_mid W7 _ 0 _ _ _ B47.range Try.underlying34 rfl (by rw [rc_len]; exact ar_info)
  have r5 : (loadVar 36 ⟨w.heap.size + 1 + 1, 0, none⟩).run Try.prog W7 = .ok (.agg #[.int .i64 3, .int .i64 0, .int .u32 0]) W7 := run_loadVar_mid W7 _ 0 _ [.int .i64 3, .int .i64 0, .int .u32 0] _ (Box.range B57) Try.underlying36 rfl ev_size
  clear hS hS6 B4 B5 B46 B56 B57 B47 F6 F7 h6 bw6 BE6 C6
  go_wp2
  exact bodyPost_ret (v := .tuple #[.agg (rc A.x A.f).toArray, .agg #[.int .i64 3, .int .i64 0, .int .u32 0]]) (by simp [results, Try.results7, asAddr, r4, r5]) rfl ⟨rfl, hb, hw⟩
set_option maxHeartbeats 2000000 in
theorem step_called (h : Bd w db v L a s) (hx : Bx x) (hf : Bf f) (hL : Oct L) (h17 : x 17 < 32) (hk : (exA x f L).k = 1) :
    Calls Try.prog 7 #[bus db, .agg (rc x f).toArray] w fun e w' => e = .returned (.tuple #[.agg (rc (exA x f L).x (exA x f L).f).toArray, .agg #[.int .i64 1, .int .i64 0, .int .u32 0]]) ∧
      Bd w' db v (exA x f L).L (fea x a) (adds s (exA x f L).n) ∧ But (SB db v) w w' := by
  have hk4 : (exA x f L).k ≠ 4 := by rw [hk]; decide
  have hq := fun w1 cb q (hc : Co w1 cb db x f q) (hb : Bd w1 db v L a s) => attempt_ok hc hb (exA x f L) hk4 fun w2 hc2 hb2 => exec hc2 hb2 hx hf hL
  rw [hk] at hq
  have b17 := (hx 17 (by omega)).1
  have qk : ∀ w, Calls Try.prog 14 #[.agg (rc x f).toArray] w fun e w' => e = .returned .nilIface ∧ New w w' := fun w => by
    have := check_any x f w (hx 17 (by omega)).1
    unfold cke at this; rw [if_pos h17] at this; exact this
  generalize exA x f L = A at *
  have hnil : ∀ w, (binOp .eql 55 (bus db) .nilIface).run Try.prog w = .ok (.bool false) w := fun w => by kernel_rfl
  have hguard : ∀ w, (eqGuard .eql 55 (.tmp 8) (.const .nilIface) (bus db) .nilIface).run Try.prog w = .ok () w := fun w => by kernel_rfl
  go_enter Try.func7, Try.ntmps7
  go_upto_region 1 with fail
  have n1 := ((New.refl w).alloc (rc x f).toArray 34).alloc (rc (fun _ => 0) (fun _ => 0)).toArray 34
  have n1 := n1.alloc #[.int .i64 0, .int .i64 0, .int .u32 0] 36
  have BR := ((Box.here w w.heap.size (rc x f).toArray 34 rfl).alloc (.cells (rc (fun _ => 0) (fun _ => 0)).toArray 34)).alloc (.cells #[.int .i64 0, .int .i64 0, .int .u32 0] 36)
  have B4 := (Box.here (w.alloc (.cells (rc x f).toArray 34)) (w.heap.size + 1) (rc (fun _ => 0) (fun _ => 0)).toArray 34 (by simp)).alloc (.cells #[.int .i64 0, .int .i64 0, .int .u32 0] 36)
  have B5 := Box.here ((w.alloc (.cells (rc x f).toArray 34)).alloc (.cells (rc (fun _ => 0) (fun _ => 0)).toArray 34)) (w.heap.size + 2) #[.int .i64 0, .int .i64 0, .int .u32 0] 36 (by simp)
  have h1 := h.new n1
  have s1 := n1.size
  change Code.wp _ _ _ _ (((w.alloc (.cells (rc x f).toArray 34)).alloc (.cells (rc (fun _ => 0) (fun _ => 0)).toArray 34)).alloc (.cells #[.int .i64 0, .int .i64 0, .int .u32 0] 36))
  have hsz : (((w.alloc (.cells (rc x f).toArray 34)).alloc (.cells (rc (fun _ => 0) (fun _ => 0)).toArray 34)).alloc (.cells #[.int .i64 0, .int .i64 0, .int .u32 0] 36)).heap.size = w.heap.size + 3 := by simp
  generalize (((w.alloc (.cells (rc x f).toArray 34)).alloc (.cells (rc (fun _ => 0) (fun _ => 0)).toArray 34)).alloc (.cells #[.int .i64 0, .int .i64 0, .int .u32 0] 36)) = W at *
  go_wp2_with (first
    | ((with_reducible refine at_load 34 ?_); refine wpList_load_wbox (by rfl) 34 _ rfl w.heap.size rfl (rc x f) 34 _ BR Try.underlying34 rfl (by rw [rc_len]; exact ar_info) ?_)
    | (go_at_call 14; (with_reducible refine (qk _).mono ?_)))
  rintro e W2 rfl n2
  have n2' := New.trans n1 n2
  have BR2 := Lib.hid (BR.new n2)
  have B42 := Lib.hid (B4.new n2)
  have B52 := Lib.hid (B5.new n2)
  have h2 := Lib.hid (h1.new n2)
  have hs2 := n2.size
  rw [hsz] at hs2
  have BRo := BR2.out
  clear n1 n2 BR B4 B5 h1 hsz s1 qk
  go_wp2_with (first
    | ((with_reducible refine at_load 34 ?_); refine wpList_load_box rfl 34 _ rfl w.heap.size rfl (rc x f) 34 _ BRo Try.underlying34 rfl (by rw [rc_len]; exact ar_info) ?_)
    | ((with_reducible refine at_build 61 ?_); refine wpList_build rfl 61 _ rfl #[(0, bus db), (1, .agg (rc x f).toArray)] (by kernel_rfl) (.agg (cc (bus db) x f 0).toArray) (cc_build db x f _) ?_)
    | ((with_reducible refine at_store 61 ?_); refine wpList_store_box rfl 61 _ _ rfl W2.heap.size (cc (bus db) x f 0) (cc .nilIface (fun _ => 0) (fun _ => 0) 0) 61 rfl rfl (Box.here W2 _ _ _ rfl) rfl (by rw [cc_len]; exact co_size) (cc_one db x f 0) ?_))
  intro W3 BC F3
  have hn3 : New W2 W3 := F3.new ((New.refl W2).alloc _ _) (Nat.le_refl _)
  have hdb := h2.out.1.lt
  have C3 : Co W3 W2.heap.size db x f 0 := ⟨BC, by omega⟩
  have BR3 := BR2.out.new hn3
  have B43 := B42.out.new hn3
  have B53 := B52.out.new hn3
  have h3 := h2.out.new hn3
  have q4 := hq W3 W2.heap.size 0 C3 h3
  have hnw : New w W3 := New.trans n2' hn3
  have hs3 := hn3.size
  clear hq F3 BC BR2 B42 B52 h2 BRo hn3 n2'
  go_wp2_with fail
  refine q4.mono ?_
  rintro e W4 ⟨rfl, ⟨q', C4⟩, h4, b4⟩
  have BR4 := BR3.but b4 (fun e => e.elim (fun e => Box.ne BR3 C3.1 (by decide) e) (h3.not BR3 (by decide) (by decide)))
  have B44 := B43.but b4 (fun e => e.elim (fun e => Box.ne B43 C3.1 (by decide) e) (h3.not B43 (by decide) (by decide)))
  have B54 := B53.but b4 (fun e => e.elim (fun e => Box.ne B53 C3.1 (by decide) e) (h3.not B53 (by decide) (by decide)))
  have bw4 : But (SB db v) w W4 := (But.of_new _ hnw).trans' b4 (fun i hi e => e.elim (fun e => absurd (e ▸ hi) (by omega)) id)
  have hs4 := b4.size
  clear q4 BR3 B43 B53 h3 C3 b4 hnw
  generalize W2.heap.size = cb at *
  go_wp2_with ((with_reducible refine at_store 36 ?_); refine wpList_store_box rfl 36 _ _ rfl W4.heap.size [.int .i64 1, .int .i64 0, .int .u32 0] [.int .i64 0, .int .i64 0, .int .u32 0] 36 rfl rfl (Box.here W4 _ _ _ rfl) rfl ev_size (by intro u hu; simp at hu; rcases hu with rfl | rfl | rfl <;> rfl) ?_)
  intro W5 BE F5
  have hn5 : New W4 W5 := F5.new ((New.refl W4).alloc _ _) (Nat.le_refl _)
  have BR := BR4.new hn5
  have B4 := B44.new hn5
  have B5 := B54.new hn5
  have h5 := h4.new hn5
  have C5 := C4.new hn5
  have bw := bw4.trans' (But.of_new (SB db v) hn5) (fun _ _ e => e)
  have hs5 := hn5.size
  obtain ⟨d0, d1, d2⟩ := BE.three
  have c17 := BR.at (rc_x x f (i := 17) (by omega))
  clear hn5 F5 BR4 B44 B54 h4 bw4 C4
  have hs6 := cell_lt d0
  generalize W4.heap.size = eb at *
  go_upto_region 9 with fail
  have BE6 := BE
  have h6 := h5
  have B46 := B4
  have B56 := B5
  have C6 := C5
  have bw6 := bw
  clear BE h5 B4 B5 C5 BR bw d0 d1 d2 c17
  generalize W5 = W at *
  have hcb := cell_lt C6.busc
  have hS : (fun w' : World => Co w' cb db A.x A.f q' ∧ Box w' eb #[.int .i64 1, .int .i64 0, .int .u32 0] 36) W.drew := ⟨C6.new (New.refl _).drew, BE6.new (New.refl _).drew⟩
  have B4 := B46.new (New.refl W).drew
  have B5 := B56.new (New.refl W).drew
  go_wp2_with fail
  refine wp_region_held_drew (S := (fun w' : World => Co w' cb db A.x A.f q' ∧ Box w' eb #[.int .i64 1, .int .i64 0, .int .u32 0] 36)) (by kernel_rfl) hS (fun _ => ?_)
  refine wpAnyH_take (i := 0) (v := ?_) rfl (by kernel_rfl) (by kernel_rfl) (by kernel_rfl) (fun _ _ _ h => h) (Or.inl ⟨by rfl, ?_⟩) hS ?_
  rotate_left
  · intro w hSw
    go_simp
    with_reducible rfl
  simp only [Act.put, List.setIfInBounds_toArray, List.set_cons_zero, List.set_cons_succ, List.getElem_toArray, List.getElem_cons_zero, List.getElem_cons_succ]
  refine wpAnyH_take (i := 1) (v := .agg (rc A.x A.f).toArray) rfl (by kernel_rfl) (by kernel_rfl) (by kernel_rfl) (fun _ _ _ h => h) (yieldsIf_load_mid (by rfl) 34 _ rfl cb 1 rfl (rc A.x A.f) _ (fun _ e => e.1.regs) Try.underlying34 rfl (by rw [rc_len]; exact ar_info)) hS ?_
  simp only [Act.put, List.setIfInBounds_toArray, List.set_cons_zero, List.set_cons_succ, List.getElem_toArray, List.getElem_cons_zero, List.getElem_cons_succ]
  refine wpAnyH_take (i := 2) (v := .agg #[.int .i64 1, .int .i64 0, .int .u32 0]) rfl (by kernel_rfl) (by kernel_rfl) (by kernel_rfl) (fun _ _ _ h => h) (yieldsIf_load_box (by rfl) 36 _ rfl eb rfl [.int .i64 1, .int .i64 0, .int .u32 0] _ _ (fun _ e => e.2) Try.underlying36 rfl ev_size) hS ?_
  simp only [Act.put, List.setIfInBounds_toArray, List.set_cons_zero, List.set_cons_succ, List.getElem_toArray, List.getElem_cons_zero, List.getElem_cons_succ]
  refine wpAnyH_ready (rs := [3]) (by kernel_rfl) (by simp) (AllReadyH.cons rfl (fun K hK => ?_) AllReadyH.nil)
  rw [if_pos (by rfl)]
  refine wp_store_bx 34 _ _ rfl (w.heap.size + 1) (rc A.x A.f) (rc (fun _ => 0) (fun _ => 0)) 34 rfl rfl B4 rfl (by rw [rc_len]; exact ar_info) (rc_one _ _) ?_
  intro W6 B46 F6
  have hS6 : Co W6 cb db A.x A.f q' ∧ Box W6 eb #[.int .i64 1, .int .i64 0, .int .u32 0] 36 := ⟨hS.1.far B4 (by decide) F6, hS.2.far F6 (by omega)⟩
  have B56 := B5.far F6 (by omega)
  refine hK.out _ _ hS6 (fun _ => ?_)
  clear hK K
  simp only [Act.put, List.setIfInBounds_toArray, List.set_cons_zero, List.set_cons_succ, List.getElem_toArray, List.getElem_cons_zero, List.getElem_cons_succ]
  refine wpAnyH_ready (rs := [4]) (by kernel_rfl) (by simp) (AllReadyH.cons rfl (fun K hK => ?_) AllReadyH.nil)
  rw [if_pos (by rfl)]
  refine wp_store_bx 36 _ _ rfl (w.heap.size + 2) [.int .i64 1, .int .i64 0, .int .u32 0] [.int .i64 0, .int .i64 0, .int .u32 0] 36 rfl rfl B56 rfl ev_size (by intro u hu; simp at hu; rcases hu with rfl | rfl | rfl <;> rfl) ?_
  intro W7 B57 F7
  have B47 := B46.far F7 (by omega)
  refine hK.out _ _ ⟨hS6.1.far B56 (by decide) F7, hS6.2.far F7 (by omega)⟩ (fun _ => ?_)
  clear hK K
  simp only [Act.put, List.setIfInBounds_toArray, List.set_cons_zero, List.set_cons_succ, List.getElem_toArray, List.getElem_cons_zero, List.getElem_cons_succ]
  refine wpAnyH_done (by kernel_rfl) ?_ _
  have hb : Bd W7 db v A.L (fea x a) (adds s A.n) := ((h6.new (New.refl _).drew).far B4 (by decide) (by decide) F6).far B56 (by decide) (by decide) F7
  have hw : But (SB db v) w W7 := ((bw6.trans' (But.of_new (SB db v) (New.refl _).drew) (fun _ _ e => e)).far F6 (by omega)).far F7 (by omega)
  have r4 : (loadVar 34 ⟨w.heap.size + 1, 0, none⟩).run Try.prog W7 = .ok (.agg (rc A.x A.f).toArray) W7 := run_loadVar_mid W7 _ 0 _ _ _ B47.range Try.underlying34 rfl (by rw [rc_len]; exact ar_info)
  have r5 : (loadVar 36 ⟨w.heap.size + 1 + 1, 0, none⟩).run Try.prog W7 = .ok (.agg #[.int .i64 1, .int .i64 0, .int .u32 0]) W7 := run_loadVar_mid W7 _ 0 _ [.int .i64 1, .int .i64 0, .int .u32 0] _ (Box.range B57) Try.underlying36 rfl ev_size
  clear hS hS6 B4 B5 B46 B56 B57 B47 F6 F7 h6 bw6 BE6 C6
  go_wp2
  exact bodyPost_ret (v := .tuple #[.agg (rc A.x A.f).toArray, .agg #[.int .i64 1, .int .i64 0, .int .u32 0]]) (by simp [results, Try.results7, asAddr, r4, r5]) rfl ⟨rfl, hb, hw⟩
set_option maxHeartbeats 2000000 in
theorem step_broke (h : Bd w db v L a s) (hx : Bx x) (hf : Bf f) (hL : Oct L) (h17 : x 17 < 32) (hk : (exA x f L).k = 2) :
    Calls Try.prog 7 #[bus db, .agg (rc x f).toArray] w fun e w' => e = .returned (.tuple #[.agg (rc (exA x f L).x (exA x f L).f).toArray, .agg #[.int .i64 2, .int .i64 0, .int .u32 0]]) ∧
      Bd w' db v (exA x f L).L (fea x a) (adds s (exA x f L).n) ∧ But (SB db v) w w' := by
  have hk4 : (exA x f L).k ≠ 4 := by rw [hk]; decide
  have hq := fun w1 cb q (hc : Co w1 cb db x f q) (hb : Bd w1 db v L a s) => attempt_ok hc hb (exA x f L) hk4 fun w2 hc2 hb2 => exec hc2 hb2 hx hf hL
  rw [hk] at hq
  have b17 := (hx 17 (by omega)).1
  have qk : ∀ w, Calls Try.prog 14 #[.agg (rc x f).toArray] w fun e w' => e = .returned .nilIface ∧ New w w' := fun w => by
    have := check_any x f w (hx 17 (by omega)).1
    unfold cke at this; rw [if_pos h17] at this; exact this
  generalize exA x f L = A at *
  have hnil : ∀ w, (binOp .eql 55 (bus db) .nilIface).run Try.prog w = .ok (.bool false) w := fun w => by kernel_rfl
  have hguard : ∀ w, (eqGuard .eql 55 (.tmp 8) (.const .nilIface) (bus db) .nilIface).run Try.prog w = .ok () w := fun w => by kernel_rfl
  go_enter Try.func7, Try.ntmps7
  go_upto_region 1 with fail
  have n1 := ((New.refl w).alloc (rc x f).toArray 34).alloc (rc (fun _ => 0) (fun _ => 0)).toArray 34
  have n1 := n1.alloc #[.int .i64 0, .int .i64 0, .int .u32 0] 36
  have BR := ((Box.here w w.heap.size (rc x f).toArray 34 rfl).alloc (.cells (rc (fun _ => 0) (fun _ => 0)).toArray 34)).alloc (.cells #[.int .i64 0, .int .i64 0, .int .u32 0] 36)
  have B4 := (Box.here (w.alloc (.cells (rc x f).toArray 34)) (w.heap.size + 1) (rc (fun _ => 0) (fun _ => 0)).toArray 34 (by simp)).alloc (.cells #[.int .i64 0, .int .i64 0, .int .u32 0] 36)
  have B5 := Box.here ((w.alloc (.cells (rc x f).toArray 34)).alloc (.cells (rc (fun _ => 0) (fun _ => 0)).toArray 34)) (w.heap.size + 2) #[.int .i64 0, .int .i64 0, .int .u32 0] 36 (by simp)
  have h1 := h.new n1
  have s1 := n1.size
  change Code.wp _ _ _ _ (((w.alloc (.cells (rc x f).toArray 34)).alloc (.cells (rc (fun _ => 0) (fun _ => 0)).toArray 34)).alloc (.cells #[.int .i64 0, .int .i64 0, .int .u32 0] 36))
  have hsz : (((w.alloc (.cells (rc x f).toArray 34)).alloc (.cells (rc (fun _ => 0) (fun _ => 0)).toArray 34)).alloc (.cells #[.int .i64 0, .int .i64 0, .int .u32 0] 36)).heap.size = w.heap.size + 3 := by simp
  generalize (((w.alloc (.cells (rc x f).toArray 34)).alloc (.cells (rc (fun _ => 0) (fun _ => 0)).toArray 34)).alloc (.cells #[.int .i64 0, .int .i64 0, .int .u32 0] 36)) = W at *
  go_wp2_with (first
    | ((with_reducible refine at_load 34 ?_); refine wpList_load_wbox (by rfl) 34 _ rfl w.heap.size rfl (rc x f) 34 _ BR Try.underlying34 rfl (by rw [rc_len]; exact ar_info) ?_)
    | (go_at_call 14; (with_reducible refine (qk _).mono ?_)))
  rintro e W2 rfl n2
  have n2' := New.trans n1 n2
  have BR2 := Lib.hid (BR.new n2)
  have B42 := Lib.hid (B4.new n2)
  have B52 := Lib.hid (B5.new n2)
  have h2 := Lib.hid (h1.new n2)
  have hs2 := n2.size
  rw [hsz] at hs2
  have BRo := BR2.out
  clear n1 n2 BR B4 B5 h1 hsz s1 qk
  go_wp2_with (first
    | ((with_reducible refine at_load 34 ?_); refine wpList_load_box rfl 34 _ rfl w.heap.size rfl (rc x f) 34 _ BRo Try.underlying34 rfl (by rw [rc_len]; exact ar_info) ?_)
    | ((with_reducible refine at_build 61 ?_); refine wpList_build rfl 61 _ rfl #[(0, bus db), (1, .agg (rc x f).toArray)] (by kernel_rfl) (.agg (cc (bus db) x f 0).toArray) (cc_build db x f _) ?_)
    | ((with_reducible refine at_store 61 ?_); refine wpList_store_box rfl 61 _ _ rfl W2.heap.size (cc (bus db) x f 0) (cc .nilIface (fun _ => 0) (fun _ => 0) 0) 61 rfl rfl (Box.here W2 _ _ _ rfl) rfl (by rw [cc_len]; exact co_size) (cc_one db x f 0) ?_))
  intro W3 BC F3
  have hn3 : New W2 W3 := F3.new ((New.refl W2).alloc _ _) (Nat.le_refl _)
  have hdb := h2.out.1.lt
  have C3 : Co W3 W2.heap.size db x f 0 := ⟨BC, by omega⟩
  have BR3 := BR2.out.new hn3
  have B43 := B42.out.new hn3
  have B53 := B52.out.new hn3
  have h3 := h2.out.new hn3
  have q4 := hq W3 W2.heap.size 0 C3 h3
  have hnw : New w W3 := New.trans n2' hn3
  have hs3 := hn3.size
  clear hq F3 BC BR2 B42 B52 h2 BRo hn3 n2'
  go_wp2_with fail
  refine q4.mono ?_
  rintro e W4 ⟨rfl, ⟨q', C4⟩, h4, b4⟩
  have BR4 := BR3.but b4 (fun e => e.elim (fun e => Box.ne BR3 C3.1 (by decide) e) (h3.not BR3 (by decide) (by decide)))
  have B44 := B43.but b4 (fun e => e.elim (fun e => Box.ne B43 C3.1 (by decide) e) (h3.not B43 (by decide) (by decide)))
  have B54 := B53.but b4 (fun e => e.elim (fun e => Box.ne B53 C3.1 (by decide) e) (h3.not B53 (by decide) (by decide)))
  have bw4 : But (SB db v) w W4 := (But.of_new _ hnw).trans' b4 (fun i hi e => e.elim (fun e => absurd (e ▸ hi) (by omega)) id)
  have hs4 := b4.size
  clear q4 BR3 B43 B53 h3 C3 b4 hnw
  generalize W2.heap.size = cb at *
  go_wp2_with ((with_reducible refine at_store 36 ?_); refine wpList_store_box rfl 36 _ _ rfl W4.heap.size [.int .i64 2, .int .i64 0, .int .u32 0] [.int .i64 0, .int .i64 0, .int .u32 0] 36 rfl rfl (Box.here W4 _ _ _ rfl) rfl ev_size (by intro u hu; simp at hu; rcases hu with rfl | rfl | rfl <;> rfl) ?_)
  intro W5 BE F5
  have hn5 : New W4 W5 := F5.new ((New.refl W4).alloc _ _) (Nat.le_refl _)
  have BR := BR4.new hn5
  have B4 := B44.new hn5
  have B5 := B54.new hn5
  have h5 := h4.new hn5
  have C5 := C4.new hn5
  have bw := bw4.trans' (But.of_new (SB db v) hn5) (fun _ _ e => e)
  have hs5 := hn5.size
  obtain ⟨d0, d1, d2⟩ := BE.three
  have c17 := BR.at (rc_x x f (i := 17) (by omega))
  clear hn5 F5 BR4 B44 B54 h4 bw4 C4
  have hs6 := cell_lt d0
  generalize W4.heap.size = eb at *
  go_upto_region 9 with fail
  have BE6 := BE
  have h6 := h5
  have B46 := B4
  have B56 := B5
  have C6 := C5
  have bw6 := bw
  clear BE h5 B4 B5 C5 BR bw d0 d1 d2 c17
  generalize W5 = W at *
  have hcb := cell_lt C6.busc
  have hS : (fun w' : World => Co w' cb db A.x A.f q' ∧ Box w' eb #[.int .i64 2, .int .i64 0, .int .u32 0] 36) W.drew := ⟨C6.new (New.refl _).drew, BE6.new (New.refl _).drew⟩
  have B4 := B46.new (New.refl W).drew
  have B5 := B56.new (New.refl W).drew
  go_wp2_with fail
  refine wp_region_held_drew (S := (fun w' : World => Co w' cb db A.x A.f q' ∧ Box w' eb #[.int .i64 2, .int .i64 0, .int .u32 0] 36)) (by kernel_rfl) hS (fun _ => ?_)
  refine wpAnyH_take (i := 0) (v := ?_) rfl (by kernel_rfl) (by kernel_rfl) (by kernel_rfl) (fun _ _ _ h => h) (Or.inl ⟨by rfl, ?_⟩) hS ?_
  rotate_left
  · intro w hSw
    go_simp
    with_reducible rfl
  simp only [Act.put, List.setIfInBounds_toArray, List.set_cons_zero, List.set_cons_succ, List.getElem_toArray, List.getElem_cons_zero, List.getElem_cons_succ]
  refine wpAnyH_take (i := 1) (v := .agg (rc A.x A.f).toArray) rfl (by kernel_rfl) (by kernel_rfl) (by kernel_rfl) (fun _ _ _ h => h) (yieldsIf_load_mid (by rfl) 34 _ rfl cb 1 rfl (rc A.x A.f) _ (fun _ e => e.1.regs) Try.underlying34 rfl (by rw [rc_len]; exact ar_info)) hS ?_
  simp only [Act.put, List.setIfInBounds_toArray, List.set_cons_zero, List.set_cons_succ, List.getElem_toArray, List.getElem_cons_zero, List.getElem_cons_succ]
  refine wpAnyH_take (i := 2) (v := .agg #[.int .i64 2, .int .i64 0, .int .u32 0]) rfl (by kernel_rfl) (by kernel_rfl) (by kernel_rfl) (fun _ _ _ h => h) (yieldsIf_load_box (by rfl) 36 _ rfl eb rfl [.int .i64 2, .int .i64 0, .int .u32 0] _ _ (fun _ e => e.2) Try.underlying36 rfl ev_size) hS ?_
  simp only [Act.put, List.setIfInBounds_toArray, List.set_cons_zero, List.set_cons_succ, List.getElem_toArray, List.getElem_cons_zero, List.getElem_cons_succ]
  refine wpAnyH_ready (rs := [3]) (by kernel_rfl) (by simp) (AllReadyH.cons rfl (fun K hK => ?_) AllReadyH.nil)
  rw [if_pos (by rfl)]
  refine wp_store_bx 34 _ _ rfl (w.heap.size + 1) (rc A.x A.f) (rc (fun _ => 0) (fun _ => 0)) 34 rfl rfl B4 rfl (by rw [rc_len]; exact ar_info) (rc_one _ _) ?_
  intro W6 B46 F6
  have hS6 : Co W6 cb db A.x A.f q' ∧ Box W6 eb #[.int .i64 2, .int .i64 0, .int .u32 0] 36 := ⟨hS.1.far B4 (by decide) F6, hS.2.far F6 (by omega)⟩
  have B56 := B5.far F6 (by omega)
  refine hK.out _ _ hS6 (fun _ => ?_)
  clear hK K
  simp only [Act.put, List.setIfInBounds_toArray, List.set_cons_zero, List.set_cons_succ, List.getElem_toArray, List.getElem_cons_zero, List.getElem_cons_succ]
  refine wpAnyH_ready (rs := [4]) (by kernel_rfl) (by simp) (AllReadyH.cons rfl (fun K hK => ?_) AllReadyH.nil)
  rw [if_pos (by rfl)]
  refine wp_store_bx 36 _ _ rfl (w.heap.size + 2) [.int .i64 2, .int .i64 0, .int .u32 0] [.int .i64 0, .int .i64 0, .int .u32 0] 36 rfl rfl B56 rfl ev_size (by intro u hu; simp at hu; rcases hu with rfl | rfl | rfl <;> rfl) ?_
  intro W7 B57 F7
  have B47 := B46.far F7 (by omega)
  refine hK.out _ _ ⟨hS6.1.far B56 (by decide) F7, hS6.2.far F7 (by omega)⟩ (fun _ => ?_)
  clear hK K
  simp only [Act.put, List.setIfInBounds_toArray, List.set_cons_zero, List.set_cons_succ, List.getElem_toArray, List.getElem_cons_zero, List.getElem_cons_succ]
  refine wpAnyH_done (by kernel_rfl) ?_ _
  have hb : Bd W7 db v A.L (fea x a) (adds s A.n) := ((h6.new (New.refl _).drew).far B4 (by decide) (by decide) F6).far B56 (by decide) (by decide) F7
  have hw : But (SB db v) w W7 := ((bw6.trans' (But.of_new (SB db v) (New.refl _).drew) (fun _ _ e => e)).far F6 (by omega)).far F7 (by omega)
  have r4 : (loadVar 34 ⟨w.heap.size + 1, 0, none⟩).run Try.prog W7 = .ok (.agg (rc A.x A.f).toArray) W7 := run_loadVar_mid W7 _ 0 _ _ _ B47.range Try.underlying34 rfl (by rw [rc_len]; exact ar_info)
  have r5 : (loadVar 36 ⟨w.heap.size + 1 + 1, 0, none⟩).run Try.prog W7 = .ok (.agg #[.int .i64 2, .int .i64 0, .int .u32 0]) W7 := run_loadVar_mid W7 _ 0 _ [.int .i64 2, .int .i64 0, .int .u32 0] _ (Box.range B57) Try.underlying36 rfl ev_size
  clear hS hS6 B4 B5 B46 B56 B57 B47 F6 F7 h6 bw6 BE6 C6
  go_wp2
  exact bodyPost_ret (v := .tuple #[.agg (rc A.x A.f).toArray, .agg #[.int .i64 2, .int .i64 0, .int .u32 0]]) (by simp [results, Try.results7, asAddr, r4, r5]) rfl ⟨rfl, hb, hw⟩
end
end Go.Proofs.Ytbkhmeongekdiaa
