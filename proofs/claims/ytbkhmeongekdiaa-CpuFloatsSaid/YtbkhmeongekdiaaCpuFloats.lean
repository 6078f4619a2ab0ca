/- Eight bytes are loaded as a float, and stored again, as they were, whatever they are; nothing else is changed; the statement holds for every eight bytes, all registers and every number of a float. -/
import Derived.Test.YtbkhmeongekdiaaRows
import Derived.Test.YtbkhmeongekdiaaCpSu
import Derived.Test.YtbkhmeongekdiaaCpFl
import Derived.Test.YtbkhmeongekdiaaRgF
import Derived.Test.YtbkhmeongekdiaaIsD
import Derived.StillTailTactics
import Derived.Test.YtbkhmeongekdiaaPost
import Derived.WalkKit
import Derived.ProofKit
import Derived.OpenShut
import Derived.ShutString
import Derived.ChangeOld
import Derived.Below
namespace Go.Proofs.Ytbkhmeongekdiaa.cpuFloats
open Go.ChangeShapes Go.WideShapes Go.ChangeAt Go.RowKit
open Go.ChangeMaps (open_string shut_string)
set_option linter.unusedVariables false

theorem own : ownKnob Try.prog.godebug = none := by kernel_rfl
theorem laidOut : laidOutB Try.prog = true := by kernel_rfl

/-- WHAT THE WALK IS TOLD OF A SLICE OF INTEGERS THAT CAME IN: it is nil; or it leads to a row of 'cap' cells, the numbers 'zs' (the first 'len' are its elements, the rest its spare room), each fitting its kind. -/
def IsRow (k : IntKind) (w : World) (a : Option Addr) (len cap : Nat) (zs : List Int) : Prop :=
  (a = none ∧ len = 0 ∧ cap = 0 ∧ zs = []) ∨
  ∃ x, a = some x ∧ len ≤ cap ∧ cap ≤ maxLen ∧ zs.length = cap ∧ (∀ i, i < zs.length → w.cell? (x.add i) = some (.int k (zs.getD i 0))) ∧ ∀ n ∈ zs, (Lit.int k n).wf = true

/-! ### STEP 1: THE WALK: the Go text returns true, AND WRITES NOTHING THAT WAS THERE: 'Below w.heap.size w w'' (Derived/Below.lean: '.refl', '.alloc', '.drew', '.setCell' at a new block, '.trans'). Open each 'IsRow' by 'rcases' AHEAD of 'go_enter'; part every test ahead of the walk. -/
set_option maxHeartbeats 8000000 in
set_option maxRecDepth 100000 in
theorem walk (a0 : Int) (v1 : Value) (a2 : Int) (w : World) (w0 : (Lit.int .u64 a0).wf = true) (w1 : Flat [some .u32, some .u32, some .u32, some .u32, some .u32, some .u32, some .u32, some .u32, some .u32, some .u32, some .u32, some .u32, some .u32, some .u32, some .u32, some .u32, some .u32, some .u32, some .u64, some .u64, some .u64, some .u64] v1) (w2 : (Lit.int .i64 a2).wf = true) :
    Calls Try.prog 5 #[.int .u64 a0, v1, .int .i64 a2] w fun e w' => e = .returned (.bool true) ∧ Below w.heap.size w w' := by
  obtain ⟨x, f, rfl, hx, hf⟩ := flat_rc w1
  have ba := cu64_bd w0
  clear w0 w1 w2
  have hmk : (IntKind.u64.wrap a2).tmod 4 = a2 % 4 := rmod4 a2
  obtain ⟨K, hK⟩ : ∃ K : Nat, a2 % 4 = K := ⟨(a2 % 4).toNat, by omega⟩
  have hK4 : K < 4 := by omega
  rw [hK] at hmk
  have k31 : icv 31 K 5 0 = innum 31 K 5 0 ∧ ice 31 K 5 0 = 0 := by unfold icv ice; rw [if_pos (show InOk 31 K 5 0 by unfold InOk; omega), if_pos (show InOk 31 K 5 0 by unfold InOk; omega)]; exact ⟨rfl, rfl⟩
  have k32 : icv 32 K 5 8 = innum 32 K 5 8 ∧ ice 32 K 5 8 = 0 := by unfold icv ice; rw [if_pos (show InOk 32 K 5 8 by unfold InOk; omega), if_pos (show InOk 32 K 5 8 by unfold InOk; omega)]; exact ⟨rfl, rfl⟩
  have q31 := fun w => irencode_any 31 K 5 0 w
  have q32 := fun w => irencode_any 32 K 5 8 w
  rw [k31.1, k31.2] at q31
  rw [k32.1, k32.2] at q32
  obtain ⟨j0, j1, j2, j3, j4, j5⟩ := innum_is 31 K 5 0 (by unfold InOk; omega)
  obtain ⟨l0, l1, l2, l3, l4, l5⟩ := innum_is 32 K 5 8 (by unfold InOk; omega)
  generalize innum 31 K 5 0 = C31 at *
  generalize innum 32 K 5 8 = C32 at *
  have J := Lib.hid (And.intro j0 (And.intro j1 (And.intro j2 (And.intro j3 (And.intro j4 j5)))))
  have LL := Lib.hid (And.intro l0 (And.intro l1 (And.intro l2 (And.intro l3 (And.intro l4 l5)))))
  clear j0 j1 j2 j3 j4 j5 l0 l1 l2 l3 l4 l5 k31 k32
  have B1 : Box (w.alloc (.cells (rc x f).toArray 28)) w.heap.size (rc x f).toArray 28 := Box.here w _ _ _ rfl
  have n1 : New w (w.alloc (.cells (rc x f).toArray 28)) := (New.refl w).alloc _ _
  have hsz : (w.alloc (.cells (rc x f).toArray 28)).heap.size = w.heap.size + 1 := by simp
  go_enter Try.func5, Try.ntmps5
  go_upto_region 1 with fail
  change Code.wp _ _ _ _ (w.alloc (.cells (rc x f).toArray 28))
  generalize w.alloc (.cells (rc x f).toArray 28) = W1 at *
  go_upto_region 2 with fail
  go_wp2_with fail
  refine (q31 _).mono ?_
  rintro e W2 ⟨rfl, n2⟩
  have B2 := B1.new n2
  have n3 := New.trans n1 n2
  have hs := n2.size
  rw [hsz] at hs
  clear B1 n1 n2 q31 hsz
  go_wp2_with fail
  refine (q32 _).mono ?_
  rintro e W3 ⟨rfl, n2⟩
  have B3 := B2.new n2
  have n4 := New.trans n3 n2
  have hs := Nat.le_trans hs n2.size
  clear B2 n3 n2 q32
  have hlw : ∀ v ∈ l8 C31 C32 (a0 % 4294967296) (a0 / 4294967296), 0 ≤ v ∧ v ≤ 4294967295 := by
    have h1 := J.out
    have h2 := LL.out
    intro v hv
    simp only [List.mem_cons, List.not_mem_nil, or_false] at hv
    omega
  have hlo : (0 : Int) ≤ a0 % 4294967296 ∧ a0 % 4294967296 ≤ 4294967295 := by omega
  have hhi : (0 : Int) ≤ a0 / 4294967296 ∧ a0 / 4294967296 ≤ 4294967295 := by omega
  have hwhole : a0 % 4294967296 + a0 / 4294967296 * 4294967296 = a0 := by omega
  have hO := Lib.hid (wdl_oct (l8 C31 C32 (a0 % 4294967296) (a0 / 4294967296)) hlw 64)
  have ql := laid_8 C31 C32 (a0 % 4294967296) (a0 / 4294967296) hlw
  go_wp2_with fail
  refine (ql _).mono ?_
  rintro e W4 ⟨rfl, n2, v0, D4⟩
  have n34 := n2
  have B4 := B3.new n34
  have n5 := New.trans n4 n34
  generalize hdb : W3.heap.size + 1 = db at *
  have hs4 := n34.size
  have hdl := D4.1.lt
  clear B3 n4 n2 n34 ql hlw
  go_wp2_with (first
    | ((with_reducible refine at_load 28 ?_); refine wpList_load_box rfl 28 _ rfl w.heap.size rfl (rc x f) 28 _ B4 Try.underlying28 rfl (by rw [rc_len]; exact rr_info) ?_)
    | ((with_reducible refine at_store 34 ?_); refine wpList_store_box rfl 34 _ _ rfl W4.heap.size (rc x f) R0 34 rfl rfl (Box.here _ _ _ _ rfl) (by rw [rc_len, rc_len]) (by rw [rc_len]; exact ar_info) (rc_one _ _) ?_))
  intro W5 B5 F5
  have hn5 : New W4 W5 := F5.new ((New.refl W4).alloc _ _) (Nat.le_refl _)
  have D5 := D4.new hn5
  have n6 : New w W5 := New.trans n5 hn5
  have hx5 := B5.lt
  clear B4 n5 F5 hn5 D4
  generalize W4.heap.size = xb at *
  have b17 := hx 17 (by omega)
  have c17 := B5.at (rc_x x f (i := 17) (by omega))
  have c16 := B5.at (rc_x x f (i := 16) (by omega))
  have c5 := B5.at (rc_x x f (i := 5) (by omega))
  have fr := B5.unfrozen 17
  have fr2 := B5.unfrozen 16
  have fr3 := B5.unfrozen 5
  have F1 := Far.set W5 xb 17 (.int .u32 (x 17 % 16))
  have F2 := F1.trans (Far.set _ xb 16 (.int .u32 0))
  have F3 := F2.trans (Far.set _ xb 5 (.int .u32 16))
  have D6 := D5.far B5 (by decide) (by decide) F3
  have B6 := ((B5.setL 17 (.int .u32 (x 17 % 16))).setL 16 (.int .u32 0)).setL 5 (.int .u32 16)
  rw [rc_set_x x f 17 _ (by omega), rc_set_x _ f 16 _ (by omega), rc_set_x _ f 5 _ (by omega)] at B6
  have n7 : New w (((W5.setCell ⟨xb, 17, none⟩ (.int .u32 (x 17 % 16))).setCell ⟨xb, 16, none⟩ (.int .u32 0)).setCell ⟨xb, 5, none⟩ (.int .u32 16)) := F3.new n6 (by omega)
  have hXx := bx_upd (bx_upd (bx_upd hx 17 (v := x 17 % 16) (by omega)) 16 (v := 0) (by omega)) 5 (v := 16) (by omega)
  have X17 : upd (upd (upd x 17 (x 17 % 16)) 16 0) 5 16 17 < 16 := by unfold upd; rw [if_neg (by omega), if_neg (by omega), if_pos rfl]; omega
  have X16 : upd (upd (upd x 17 (x 17 % 16)) 16 0) 5 16 16 = 0 := by unfold upd; rw [if_neg (by omega), if_pos rfl]
  have X5 : upd (upd (upd x 17 (x 17 % 16)) 16 0) 5 16 5 = 16 := by unfold upd; rw [if_pos rfl]
  have hX := Lib.hid hXx
  clear hXx hx F1 F2 F3 n6 D5
  have B6 := Lib.hid B6
  have D6 := Lib.hid D6
  clear B5
  go_upto_region 7 with fail
  change Code.wp _ _ _ _ (((W5.setCell ⟨xb, 17, none⟩ (.int .u32 (x 17 % 16))).setCell ⟨xb, 16, none⟩ (.int .u32 0)).setCell ⟨xb, 5, none⟩ (.int .u32 16))
  generalize (((W5.setCell ⟨xb, 17, none⟩ (.int .u32 (x 17 % 16))).setCell ⟨xb, 16, none⟩ (.int .u32 0)).setCell ⟨xb, 5, none⟩ (.int .u32 16)) = W at *
  generalize upd (upd (upd x 17 (x 17 % 16)) 16 0) 5 16 = y at *
  clear c17 c16 c5 fr fr2 fr3 b17
  have mi : ∀ (db : Nat) (w : World), (Instr.makeInterface 29 (ptr db)).run Try.prog w = .ok (bus db) w := fun db w => by kernel_rfl
  have qs := step_any D6.out hX.out hf hO.out
  have A1 : stA y f (wds (l8 C31 C32 (a0 % 4294967296) (a0 / 4294967296))) = okA (nx y) (upd f K (a0 % 4294967296 + a0 / 4294967296 * 4294967296)) (wds (l8 C31 C32 (a0 % 4294967296) (a0 / 4294967296))) := by
    have j := J.out
    exact fl_one j.1 (by omega) j.2.2.1 j.2.2.2.1 j.2.2.2.2.1 j.2.2.2.2.2 hK4 hlo hhi X17 X16 X5
  rw [A1, hwhole] at qs
  clear A1
  change Calls _ _ _ _ fun e w' => e = .returned (.tuple #[.agg (rc (nx y) (upd f K a0)).toArray, .agg #[.int .i64 0, .int .i64 0, .int .u32 0]]) ∧ Bd w' db v0 (wds (l8 C31 C32 (a0 % 4294967296) (a0 / 4294967296))) (fes y 0) 0 ∧ But (SB db v0) W w' at qs
  have BX := B6.out
  go_wp2_with ((with_reducible refine at_load 34 ?_); refine wpList_load_box rfl 34 _ rfl xb rfl (rc y f) 34 _ BX Try.underlying34 rfl (by rw [rc_len]; exact ar_info) ?_)
  refine qs.mono ?_
  rintro e W8 ⟨rfl, D8, k8⟩
  have nW : New w W8 := But.free n7 k8 D6.out (by omega)
  have X8 := Lib.hid (BX.but k8 (D6.out.not BX (by decide) (by decide)))
  have D8 := Lib.hid D8
  clear qs BX B6 D6 n7 k8
  go_wp2_with ((with_reducible refine at_store 34 ?_); refine wpList_store_box rfl 34 _ _ rfl W8.heap.size (rc (nx y) (upd f K a0)) R0 34 rfl rfl ((Box.here W8 _ _ 34 rfl).alloc _) (by rw [rc_len, rc_len]) (by rw [rc_len]; exact ar_info) (rc_one _ _) ?_)
  intro U1 BR1 F1
  have BE1 := (Box.here (W8.alloc (.cells R0.toArray 34)) (W8.heap.size + 1) E0.toArray 36 (by simp)).far F1 (by omega)
  have nu1 : New W8 U1 := F1.new (((New.refl W8).alloc _ _).alloc _ _) (Nat.le_refl _)
  clear F1
  go_wp2_with ((with_reducible refine at_store 36 ?_); refine wpList_store_box rfl 36 _ _ rfl (W8.heap.size + 1) [.int .i64 0, .int .i64 0, .int .u32 0] E0 36 rfl rfl BE1 rfl ev_size (by intro u hu; simp at hu; rcases hu with rfl | rfl | rfl <;> rfl) ?_)
  intro V1 CE1 G1
  have CR1 := BR1.far G1 (by omega)
  have nv1 : New W8 V1 := G1.new nu1 (by omega)
  have m1 := New.trans nW nv1
  have lt1 := CE1.lt
  have X8 := Lib.hid (X8.out.new nv1)
  have D8 := Lib.hid (D8.out.new nv1)
  clear BR1 BE1 nu1 G1 nv1 nW
  have CR1 := Lib.hid CR1
  have CE1 := Lib.hid CE1
  generalize W8.heap.size = rb1 at *
  have nX : Bx (nx y) := bx_nx hX.out
  have nF : Bf (upd f K a0) := bf_upd hf K ba
  have qs := step_any D8.out nX nF hO.out
  have A2 : stA (nx y) (upd f K a0) (wds (l8 C31 C32 (a0 % 4294967296) (a0 / 4294967296))) = ⟨nx (nx y), upd f K a0, r8 C31 C32 (a0 % 4294967296) (a0 / 4294967296), 2, 0, 0, 0⟩ := by
    have j := LL.out
    exact fl_two j.1 (by omega) j.2.2.1 j.2.2.2.1 j.2.2.2.2.1 j.2.2.2.2.2 hK4 hlo hhi (by unfold nx upd; rw [if_neg (by omega)]; exact X17) (by unfold nx upd; rw [if_pos rfl, X16]; rfl) (by unfold nx upd; rw [if_neg (by omega)]; exact X5) (by unfold upd; rw [if_pos rfl, hwhole])
  rw [A2] at qs
  clear A2
  change Calls _ _ _ _ fun e w' => e = .returned (.tuple #[.agg (rc (nx (nx y)) (upd f K a0)).toArray, .agg #[.int .i64 0, .int .i64 0, .int .u32 0]]) ∧ Bd w' db v0 (r8 C31 C32 (a0 % 4294967296) (a0 / 4294967296)) (fes (nx y) (fes y 0)) (adds 0 2) ∧ But (SB db v0) V1 w' at qs
  rw [show adds 0 2 = 2 by kernel_rfl] at qs
  have BX := CR1.out
  go_wp2_with ((with_reducible refine at_load 34 ?_); refine wpList_load_box rfl 34 _ rfl rb1 rfl (rc (nx y) (upd f K a0)) 34 _ BX Try.underlying34 rfl (by rw [rc_len]; exact ar_info) ?_)
  refine qs.mono ?_
  rintro e W9 ⟨rfl, D9, k9⟩
  have nW : New w W9 := But.free m1 k9 D8.out (by omega)
  have X9 := Lib.hid (X8.out.but k9 (D8.out.not X8.out (by decide) (by decide)))
  have E9 := Lib.hid (CE1.out.but k9 (D8.out.not CE1.out (by decide) (by decide)))
  have D9 := Lib.hid D9
  clear qs BX X8 D8 m1 k9 CR1 CE1
  go_wp2_with ((with_reducible refine at_store 34 ?_); refine wpList_store_box rfl 34 _ _ rfl W9.heap.size (rc (nx (nx y)) (upd f K a0)) R0 34 rfl rfl ((Box.here W9 _ _ 34 rfl).alloc _) (by rw [rc_len, rc_len]) (by rw [rc_len]; exact ar_info) (rc_one _ _) ?_)
  intro U2 BR2 F2
  have BE2 := (Box.here (W9.alloc (.cells R0.toArray 34)) (W9.heap.size + 1) E0.toArray 36 (by simp)).far F2 (by omega)
  have nu2 : New W9 U2 := F2.new (((New.refl W9).alloc _ _).alloc _ _) (Nat.le_refl _)
  clear F2
  go_wp2_with ((with_reducible refine at_store 36 ?_); refine wpList_store_box rfl 36 _ _ rfl (W9.heap.size + 1) [.int .i64 0, .int .i64 0, .int .u32 0] E0 36 rfl rfl BE2 rfl ev_size (by intro u hu; simp at hu; rcases hu with rfl | rfl | rfl <;> rfl) ?_)
  intro V2 CE2 G2
  have CR2 := BR2.far G2 (by omega)
  have nv2 : New W9 V2 := G2.new nu2 (by omega)
  have m2 := New.trans nW nv2
  have lt2 := CE2.lt
  have X9 := Lib.hid (X9.out.new nv2)
  have D9 := Lib.hid (D9.out.new nv2)
  have E9 := Lib.hid (E9.out.new nv2)
  clear BR2 BE2 nu2 G2 nv2 nW
  have CR2 := Lib.hid CR2
  have CE2 := Lib.hid CE2
  generalize W9.heap.size = rb2 at *
  have hv : rc (nx (nx y)) (upd f K a0) = rc (upd y 16 8) (upd f K a0) := by
    refine congrArg (fun z => rc z (upd f K a0)) ?_
    funext i
    unfold nx
    by_cases h : i = 16
    · subst h; unfold upd; rw [if_pos rfl, if_pos rfl, if_pos rfl, X16]; rfl
    · unfold upd; rw [if_neg h, if_neg h, if_neg h]
  rw [hv] at CR2
  clear hv
  have BX := X9.out
  have lxb := BX.lt
  go_wp2_with (first
    | ((with_reducible refine at_load 34 ?_); refine wpList_load_box rfl 34 _ rfl xb rfl (rc y f) 34 _ BX Try.underlying34 rfl (by rw [rc_len]; exact ar_info) ?_)
    | ((with_reducible refine at_store 34 ?_); refine wpList_store_box rfl 34 _ _ rfl V2.heap.size (rc y f) R0 34 rfl rfl (Box.here _ _ _ _ rfl) (by rw [rc_len, rc_len]) (by rw [rc_len]; exact ar_info) (rc_one _ _) ?_))
  intro Wa Ba Fa
  have na : New V2 Wa := Fa.new ((New.refl V2).alloc _ _) (Nat.le_refl _)
  have la := m2.size
  have Da := D9.out.new na
  have Ra := CR2.out.new na
  have Ea := E9.out.new na
  have Ga := CE2.out.new na
  have ma := New.trans m2 na
  have lD := D9.out.1.lt
  have lR := CR2.out.lt
  have lE := E9.out.lt
  have lG := CE2.out.lt
  clear BX X9 D9 CR2 E9 CE2 m2 na Fa
  generalize V2.heap.size = wb at *
  have k0 : (0 : Int) ≤ (K : Int) := by omega
  have k4 : (K : Int) < 4 := by omega
  have cK := Ba.at (rc_f y f (k := K) hK4)
  have c16 := Ba.at (rc_x y f (i := 16) (by omega))
  have frK := Ba.unfrozen (18 + K)
  have fr16 := Ba.unfrozen 16
  have F1 := Far.set Wa wb (18 + K) (.int .u64 a0)
  have F2 := F1.trans (Far.set _ wb 16 (.int .u32 8))
  have Bb := (Ba.setL (18 + K) (.int .u64 a0)).setL 16 (.int .u32 8)
  rw [rc_set_f y f K a0 hK4, rc_set_x _ _ 16 _ (by omega)] at Bb
  have Db := Da.far Ba (by decide) (by decide) F2
  have Rb := Ra.far F2 (by omega)
  have Eb := Ea.far F2 (by omega)
  have Gb := Ga.far F2 (by omega)
  have mb := F2.new ma (by omega)
  clear Da Ra Ea Ga ma F1 F2 Ba
  have Bb := Lib.hid Bb
  have Db := Lib.hid Db
  have Rb := Lib.hid Rb
  have Eb := Lib.hid Eb
  have Gb := Lib.hid Gb
  have mb := Lib.hid mb
  go_upto_region 11 with fail
  change Code.wp _ _ _ _ ((Wa.setCell ⟨wb, 18 + K, none⟩ (.int .u64 a0)).setCell ⟨wb, 16, none⟩ (.int .u32 8))
  generalize ((Wa.setCell ⟨wb, 18 + K, none⟩ (.int .u64 a0)).setCell ⟨wb, 16, none⟩ (.int .u32 8)) = Wf at *
  clear cK c16 frK fr16
  obtain ⟨g, cap, cur, hv0, hbg, hr⟩ := Db.out.2.1.row (by rw [r8_len]; omega)
  subst hv0
  have nd := (New.refl Wf).drew
  have hr2 : RowB Wf.drew g cap cur (r8 C31 C32 (a0 % 4294967296) (a0 / 4294967296)) := hr
  have hcap := hr.2.1
  have hmax := hr.2.2.1
  rw [r8_len] at hcap
  unfold maxLen at hmax
  have s24 := str_of (hr2.part 24 8 (cap - 24) (by rw [r8_len]; omega))
  have s16 := str_of (hr2.part 16 8 (cap - 16) (by rw [r8_len]; omega))
  rw [r8_parts] at s24
  obtain ⟨d0, d1, d2⟩ := (Db.out.1.new nd).three
  change Wf.drew.cell? ⟨db, 0, none⟩ = some (.slice (some ⟨g, 0, none⟩) 32 cap) at d0
  have e0 := (Eb.out.new nd).three.1
  have g0 := (Gb.out.new nd).three.1
  have BR := Lib.hid (Rb.out.new nd)
  have BB := Lib.hid (Bb.out.new nd)
  have he := fun w => rc_equal (upd y 16 8) (upd f K a0) w
  generalize strOfNums (cut (r8 C31 C32 (a0 % 4294967296) (a0 / 4294967296)) 16 8) = st at *
  have M := Lib.hid (New.trans mb.out nd)
  clear hr hr2 d1 Db Eb Gb Rb Bb nd mb hO hX hf ba J LL X16 X17 X5 nX nF hlo hhi hwhole
  have hc1 : (24 : Int) ≤ (cap : Int) := by omega
  have hc2 : (32 : Int) ≤ (cap : Int) := by omega
  have cn1 : ¬ cap = 24 := by omega
  have cn2 : ¬ cap = 16 := by omega
  refine wp_region_still_tail 44 (by kernel_rfl) (by kernel_rfl) ?_
  simp only [List.take_succ_cons, List.take_zero, List.drop_succ_cons, List.drop_zero]
  iterate 9 still_step
  refine at_sload 34 ?_
  refine wpStill_load_box (by rfl) 34 _ rfl rb2 rfl (rc (upd y 16 8) (upd f K a0)) 34 _ BR.out Try.underlying34 rfl (by rw [rc_len]; exact ar_info) ?_
  simp only [Act.put, List.setIfInBounds_toArray, List.set_cons_zero, List.set_cons_succ]
  refine at_sload 34 ?_
  refine wpStill_load_box (by rfl) 34 _ rfl wb rfl (rc (upd y 16 8) (upd f K a0)) 34 _ BB.out Try.underlying34 rfl (by rw [rc_len]; exact ar_info) ?_
  simp only [Act.put, List.setIfInBounds_toArray, List.set_cons_zero, List.set_cons_succ]
  repeat still_step
  refine wpStill_nil ?_
  change wpList _ _ _ _ _ Wf.drew
  clear BR BB he s24 s16 d0 d2 e0 g0 hcap hmax hc1 hc2
  generalize Wf.drew = Wg at *
  have qs := fun w => csure_any w
  go_wp2_with fail
  refine (qs _).mono ?_
  rintro e Wh ⟨rfl, nh⟩
  go_wp2
  go_ret
  exact ⟨rfl, New.trans M.out nh⟩

/-! ### THE ROW's STEP: WRITTEN OUT: LEAVE IT -/
set_option maxRecDepth 100000 in
theorem lifted (os : Os) (started : os.Started) (H : Type) (enc : TypeId × Value → H) :
    ReturnsInHanded {} Try.checked os 5 .any (Rows.cpuFloatsSpec.pre6 enc Try.prog Try.f5 Rows.cpuFloatsRow.domain false) (Rows.cpuFloatsSpec.post enc Try.prog Try.f5 false true false false) := by
  refine returnsInHanded_of_change (C := Try.checked) own started (by kernel_rfl) Try.func5
    (ChangeSpec.witness6 (enc := enc) (C := Try.checked) false ⟨#[], #[.int .u64 0, .agg #[.int .u32 0, .int .u32 0, .int .u32 0, .int .u32 0, .int .u32 0, .int .u32 0, .int .u32 0, .int .u32 0, .int .u32 0, .int .u32 0, .int .u32 0, .int .u32 0, .int .u32 0, .int .u32 0, .int .u32 0, .int .u32 0, .int .u32 0, .int .u32 0, .int .u64 0, .int .u64 0, .int .u64 0, .int .u64 0], .int .i64 0], []⟩ 8 (by kernel_rfl) (by kernel_rfl) (by kernel_rfl) (by kernel_rfl)) ?_
  intro W base args ds gs before hval0 hW hcnd _
  have hval : ∀ (j : Nat) t v, Try.f5.params[j]? = some t → args[j]? = some v → Value.okWide Try.prog W .any base t v := hval0
  have hW' := hW
  obtain ⟨p, q, hA0, hV, rfl, hfz, hnd⟩ := hW
  have hA : DataW.TrodAll enc Try.prog W 0 (fun _ => true) true Try.f5.params.toList args.toList ds p := hA0
  rw [Try.params5] at hA hval
  obtain ⟨v0, vs0, d0, ds0, p0, q0, hargs, rfl, rfl, h0, r0⟩ := trodAll_cons hA
  obtain ⟨v1, vs1, d1, ds1, p1, q1, rfl, rfl, rfl, h1, r1⟩ := trodAll_cons r0
  obtain ⟨v2, vs2, d2, ds2, p2, q2, rfl, rfl, rfl, h2, r2⟩ := trodAll_cons r1
  obtain ⟨rfl, rfl, rfl⟩ := trodAll_nil r2
  obtain rfl : args = #[v0, v1, v2] := by cases args; simp_all
  obtain ⟨rfl, rfl⟩ := trodVars_none hV
  obtain ⟨a0, rfl, rfl, rfl, w0⟩ := open_int Try.underlying25 (hval 0 25 v0 rfl rfl) h0
  have k1 := h1
  have lt1 : ∀ x ∈ p1, x.block < W.heap.size := by obtain ⟨m, hm⟩ := k1; exact DataW.trod_lt m _ _ _ hm
  have w1 : Flat [some .u32, some .u32, some .u32, some .u32, some .u32, some .u32, some .u32, some .u32, some .u32, some .u32, some .u32, some .u32, some .u32, some .u32, some .u32, some .u32, some .u32, some .u32, some .u64, some .u64, some .u64, some .u64] v1 := flat_of_ty (ks := [some .u32, some .u32, some .u32, some .u32, some .u32, some .u32, some .u32, some .u32, some .u32, some .u32, some .u32, some .u32, some .u32, some .u32, some .u32, some .u32, some .u32, some .u32, some .u64, some .u64, some .u64, some .u64]) Try.underlying28 (by
    obtain ⟨ks, hk, e⟩ : ∃ ks, FlatTy Try.prog 28 ks ∧ ks = [some .u32, some .u32, some .u32, some .u32, some .u32, some .u32, some .u32, some .u32, some .u32, some .u32, some .u32, some .u32, some .u32, some .u32, some .u32, some .u32, some .u32, some .u32, some .u64, some .u64, some .u64, some .u64] := ⟨_, (.struct Try.underlying28 (.cons rfl (.array Try.underlying24 (.int Try.underlying23) (by kernel_rfl)) (by kernel_rfl) (.cons rfl (.int Try.underlying23) (by kernel_rfl) (.cons rfl (.int Try.underlying23) (by kernel_rfl) (.cons rfl (.array Try.underlying26 (.int Try.underlying25) (by kernel_rfl)) (by kernel_rfl) .nil))))), rfl⟩
    rw [← e]; exact hk) (by kernel_rfl) (hval 1 28 v1 rfl rfl) h1
  obtain ⟨a2, rfl, rfl, rfl, w2⟩ := open_int Try.underlying3 (hval 2 3 v2 rfl rfl) h2
  clear hA0 hval0
  refine (walk a0 v1 a2 W w0 w1 w2).mono fun e W' ⟨he, bel⟩ => ?_
  subst he
  exact ⟨_, rfl, _, _, _, [], _, [], hW', trodAll_mk1 (shut_bool Try.underlying4 _), (trodAll_cons_mk (shut_int Try.underlying25 w0) (trodAll_cons_mk (Below.trod laidOut (by kernel_rfl) (of_decide_eq_true (by kernel_rfl)) k1 bel lt1) (trodAll_cons_mk (shut_int Try.underlying3 w2) trodAll_mk0))), rfl, bel.frame _, fun h => by cases h⟩

theorem over : Rows.cpuFloatsRow.holds Try.pinned (OpenSpec.ofChange Rows.cpuFloatsSpec) :=
  OpenClaim.holds_of_wide 5 Try.f5 rfl rfl rfl rfl rfl rfl rfl ⟨rfl, rfl, rfl, rfl, rfl⟩ rfl rfl rfl rfl rfl (by kernel_rfl) Try.func5 (by kernel_rfl)
    (of_decide_eq_true (by kernel_rfl)) (by unfold Func.isWrapper; first | (rw [if_pos (by decide +kernel)]; kernel_rfl) | (rw [if_neg (by decide +kernel)]; exact ⟨rfl, rfl⟩))
    (fun os started H enc _ => lifted os started H enc)

/-- ████ THE STATEMENT ████ -/
theorem proved : Rows.CpuFloatsSaid := over
#print axioms proved
end Go.Proofs.Ytbkhmeongekdiaa.cpuFloats
