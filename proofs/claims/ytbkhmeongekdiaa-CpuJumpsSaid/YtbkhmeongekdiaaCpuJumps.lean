/- A jump goes as many instructions on as it says from the next one, back as well; Call tells where it came from, and Jr goes there again; the statement holds for every number and all registers. -/
import Derived.Test.YtbkhmeongekdiaaRows
import Derived.Test.YtbkhmeongekdiaaCpSu
import Derived.Test.YtbkhmeongekdiaaCpRg
import Derived.Test.YtbkhmeongekdiaaRgF
import Derived.Test.YtbkhmeongekdiaaRgQ
import Derived.Test.YtbkhmeongekdiaaIsD
import Derived.Test.YtbkhmeongekdiaaPost
import Derived.WalkKit
import Derived.ProofKit
import Derived.OpenShut
import Derived.ShutString
import Derived.ChangeOld
import Derived.Below
namespace Go.Proofs.Ytbkhmeongekdiaa.cpuJumps
open Go.ChangeShapes Go.WideShapes Go.ChangeAt Go.RowKit
open Go.ChangeMaps (open_string shut_string)
set_option linter.unusedVariables false

theorem own : ownKnob Try.prog.godebug = none := by kernel_rfl
theorem laidOut : laidOutB Try.prog = true := by kernel_rfl

/-- WHAT THE WALK IS TOLD OF A SLICE OF INTEGERS THAT CAME IN: it is nil; or it leads to a row of 'cap' cells, the numbers 'zs' (the first 'len' are its elements, the rest its spare room), each fitting its kind. -/
def IsRow (k : IntKind) (w : World) (a : Option Addr) (len cap : Nat) (zs : List Int) : Prop :=
  (a = none ∧ len = 0 ∧ cap = 0 ∧ zs = []) ∨
  ∃ x, a = some x ∧ len ≤ cap ∧ cap ≤ maxLen ∧ zs.length = cap ∧ (∀ i, i < zs.length → w.cell? (x.add i) = some (.int k (zs.getD i 0))) ∧ ∀ n ∈ zs, (Lit.int k n).wf = true

/-! ### STEP 1: THE WALK: the Go text returns true, AND WRITES NOTHING THAT WAS THERE: 'Below w.heap.size w w'' (Derived/Below.lean: '.refl', '.alloc', '.drew', '.setCell' at a new block, '.trans'). Open each 'IsRow' by 'rcases' AHEAD of 'go_enter'; part every test ahead of the walk. -/
set_option maxHeartbeats 8000000 in
set_option maxRecDepth 100000 in
theorem walk (a0 : Int) (v1 : Value) (w : World) (w0 : (Lit.int .i64 a0).wf = true) (w1 : Flat [some .u32, some .u32, some .u32, some .u32, some .u32, some .u32, some .u32, some .u32, some .u32, some .u32, some .u32, some .u32, some .u32, some .u32, some .u32, some .u32, some .u32, some .u32, some .u64, some .u64, some .u64, some .u64] v1) :
    Calls Try.prog 4 #[.int .i64 a0, v1] w fun e w' => e = .returned (.bool true) ∧ Below w.heap.size w w' := by
  obtain ⟨x, f, rfl, hx, hf⟩ := flat_rc w1
  have bx := hx
  clear w1
  have hm := half_wr a0
  have hm0 : (-32768 : Int) ≤ a0 % 65536 - 32768 := by omega
  have hm1 : a0 % 65536 - 32768 ≤ 32767 := by omega
  generalize a0 % 65536 - 32768 = m at *
  have k27 : icv 27 0 0 m = innum 27 0 0 m ∧ ice 27 0 0 m = 0 := by unfold icv ice; rw [if_pos (show InOk 27 0 0 m by unfold InOk; omega), if_pos (show InOk 27 0 0 m by unfold InOk; omega)]; exact ⟨rfl, rfl⟩
  have k21 : icv 21 0 0 m = innum 21 0 0 m ∧ ice 21 0 0 m = 0 := by unfold icv ice; rw [if_pos (show InOk 21 0 0 m by unfold InOk; omega), if_pos (show InOk 21 0 0 m by unfold InOk; omega)]; exact ⟨rfl, rfl⟩
  have k28 : icv 28 14 0 0 = innum 28 14 0 0 ∧ ice 28 14 0 0 = 0 := by unfold icv ice; rw [if_pos (show InOk 28 14 0 0 by unfold InOk; omega), if_pos (show InOk 28 14 0 0 by unfold InOk; omega)]; exact ⟨rfl, rfl⟩
  have q27 := fun w => irencode_any 27 0 0 m w
  have q21 := fun w => irencode_any 21 0 0 m w
  have q28 := fun w => irencode_any 28 14 0 0 w
  rw [k27.1, k27.2] at q27
  rw [k21.1, k21.2] at q21
  rw [k28.1, k28.2] at q28
  obtain ⟨j0, j1, j2, j3, j4, j5⟩ := innum_is 27 0 0 m (by unfold InOk; omega)
  obtain ⟨l0, l1, l2, l3, l4, l5⟩ := innum_is 21 0 0 m (by unfold InOk; omega)
  obtain ⟨r0, r1, r2, r3, r4, r5⟩ := innum_is 28 14 0 0 (by unfold InOk; omega)
  generalize innum 27 0 0 m = C27 at *
  generalize innum 21 0 0 m = C21 at *
  generalize innum 28 14 0 0 = C28 at *
  have J := Lib.hid (And.intro j0 (And.intro j1 (And.intro j2 (And.intro j3 (And.intro j4 j5)))))
  have LL := Lib.hid (And.intro l0 (And.intro l1 (And.intro l2 (And.intro l3 (And.intro l4 l5)))))
  have R := Lib.hid (And.intro r0 (And.intro r1 (And.intro r2 (And.intro r3 (And.intro r4 r5)))))
  clear j0 j1 j2 j3 j4 j5 l0 l1 l2 l3 l4 l5 r0 r1 r2 r3 r4 r5 k27 k21 k28
  have B1 : Box (w.alloc (.cells (rc x f).toArray 28)) w.heap.size (rc x f).toArray 28 := Box.here w _ _ _ rfl
  have n1 : New w (w.alloc (.cells (rc x f).toArray 28)) := (New.refl w).alloc _ _
  have hsz : (w.alloc (.cells (rc x f).toArray 28)).heap.size = w.heap.size + 1 := by simp
  go_enter Try.func4, Try.ntmps4
  go_upto_region 1 with fail
  change Code.wp _ _ _ _ (w.alloc (.cells (rc x f).toArray 28))
  generalize w.alloc (.cells (rc x f).toArray 28) = W1 at *
  go_upto_region 2 with fail
  go_wp2_with fail
  refine (q27 _).mono ?_
  rintro e W2 ⟨rfl, n2⟩
  have B2 := B1.new n2
  have n3 := New.trans n1 n2
  have hs := n2.size
  rw [hsz] at hs
  clear B1 n1 n2 q27 hsz
  generalize wrap64 (wrap64 ((IntKind.u64.wrap a0).tmod 65536) - 32768) = M at *
  subst hm
  go_wp2_with fail
  refine (q21 _).mono ?_
  rintro e W3 ⟨rfl, n2⟩
  have B3 := B2.new n2
  have n4 := New.trans n3 n2
  have hs := Nat.le_trans hs n2.size
  clear B2 n3 n2 q21
  go_wp2_with fail
  refine (q28 _).mono ?_
  rintro e W4 ⟨rfl, n2⟩
  have B4 := B3.new n2
  have n5 := New.trans n4 n2
  have hs := Nat.le_trans hs n2.size
  clear B3 n4 n2 q28
  go_wp2_with (first
    | ((with_reducible refine at_load 28 ?_); refine wpList_load_box rfl 28 _ rfl w.heap.size rfl (rc x f) 28 _ B4 Try.underlying28 rfl (by rw [rc_len]; exact rr_info) ?_)
    | ((with_reducible refine at_store 34 ?_); refine wpList_store_box rfl 34 _ _ rfl W4.heap.size (rc x f) (rc (fun _ => 0) (fun _ => 0)) 34 rfl rfl (Box.here _ _ _ _ rfl) (by rw [rc_len, rc_len]) (by rw [rc_len]; exact ar_info) (rc_one _ _) ?_))
  intro W5 B5 f5
  have n6 : New w W5 := f5.new (n5.alloc _ _) (by omega)
  have hx5 := B5.lt
  clear B4 n5 f5
  have b17 := hx 17 (by omega)
  have c17 := B5.at (rc_x x f (i := 17) (by omega))
  have fr := B5.unfrozen 17
  have c16 := B5.at (rc_x x f (i := 16) (by omega))
  have fr2 := B5.unfrozen 16
  have B6 := (B5.setL 17 (.int .u32 (x 17 % 16))).setL 16 (.int .u32 0)
  rw [rc_set_x x f 17 _ (by omega), rc_set_x _ f 16 _ (by omega)] at B6
  have n7 : New w ((W5.setCell ⟨W4.heap.size, 17, none⟩ (.int .u32 (x 17 % 16))).setCell ⟨W4.heap.size, 16, none⟩ (.int .u32 0)) := (n6.setCell (by simp; omega) _).setCell (by simp; omega) _
  have hXx := bx_upd (bx_upd hx 17 (v := x 17 % 16) (by omega)) 16 (v := 0) (by omega)
  have X17 : upd (upd x 17 (x 17 % 16)) 16 0 17 < 16 := by unfold upd; rw [if_neg (by omega), if_pos rfl]; omega
  have X16 : upd (upd x 17 (x 17 % 16)) 16 0 16 = 0 := by unfold upd; rw [if_pos rfl]
  have hX := Lib.hid hXx
  have hs6 : w.heap.size + 1 ≤ W4.heap.size := hs
  clear hXx hx
  have B6 := Lib.hid B6
  clear B5 n6
  go_upto_region 7 with fail
  change Code.wp _ _ _ _ ((W5.setCell ⟨W4.heap.size, 17, none⟩ (.int .u32 (x 17 % 16))).setCell ⟨W4.heap.size, 16, none⟩ (.int .u32 0))
  generalize ((W5.setCell ⟨W4.heap.size, 17, none⟩ (.int .u32 (x 17 % 16))).setCell ⟨W4.heap.size, 16, none⟩ (.int .u32 0)) = W at *
  generalize upd (upd x 17 (x 17 % 16)) 16 0 = y at *
  generalize W4.heap.size = xb at *
  have hb27 : (0 : Int) ≤ C27 ∧ C27 ≤ 4294967295 := by have := J.out; omega
  have hb21 : (0 : Int) ≤ C21 ∧ C21 ≤ 4294967295 := by have := LL.out; omega
  have hb28 : (0 : Int) ≤ C28 ∧ C28 ≤ 4294967295 := by have := R.out; omega
  clear c17 c16 fr fr2 b17 hs bx hx5
  have Q27 := fun db v w (h : Bd w db v (wds [C27]) 0 0) => step_any h hX.out hf (oct_one C27 hb27.1 hb27.2)
  have Q21 := fun db v w (h : Bd w db v (wds [C21]) 0 0) => step_any h hX.out hf (oct_one C21 hb21.1 hb21.2)
  have A27 : stA y f (wds [C27]) = okA (upd (upd (nx y) 14 (m32 (y 16 + 4))) 16 (frw y M)) f (wds [C27]) := by
    have j := J.out
    rw [st_one _ hb27.1 hb27.2 y f X17 X16, in_op y f _ j.2.2.1 (by omega) j.2.2.2.1 j.2.2.2.2.1 j.2.2.2.2.2]
    rfl
  have A21 : stA y f (wds [C21]) = okA (upd (nx y) 16 (frw y M)) f (wds [C21]) := by
    have j := LL.out
    rw [st_one _ hb21.1 hb21.2 y f X17 X16, in_op y f _ j.2.2.1 (by omega) j.2.2.2.1 j.2.2.2.2.1 j.2.2.2.2.2]
    rfl
  rw [A27] at Q27
  rw [A21] at Q21
  clear A27 A21
  change ∀ db v w, Bd w db v (wds [C27]) 0 0 → Calls _ _ _ w fun e w' => e = .returned (.tuple #[.agg (rc (upd (upd (nx y) 14 (m32 (y 16 + 4))) 16 (frw y M)) f).toArray, .agg #[.int .i64 0, .int .i64 0, .int .u32 0]]) ∧ _ ∧ But (SB db v) w w' at Q27
  change ∀ db v w, Bd w db v (wds [C21]) 0 0 → Calls _ _ _ w fun e w' => e = .returned (.tuple #[.agg (rc (upd (nx y) 16 (frw y M)) f).toArray, .agg #[.int .i64 0, .int .i64 0, .int .u32 0]]) ∧ _ ∧ But (SB db v) w w' at Q21
  have BX := B6.out
  refine step_region C27 hb27 xb y f (upd (upd (nx y) 14 (m32 (y 16 + 4))) 16 (frw y M)) f 0 0 0 BX (by kernel_rfl) (by kernel_rfl) (by kernel_rfl) (by kernel_rfl) (by kernel_rfl) (by kernel_rfl) (by kernel_rfl) (by kernel_rfl) (by kernel_rfl) (fun db v w h => (Q27 db v w h).mono fun e w' h => ⟨h.1, h.2.2⟩) ?_
  intro g7 W7 yb ye nY g9 g10 ybl yel BY EY
  simp only [frL, Act.put, List.setIfInBounds_toArray, List.set_cons_zero, List.set_cons_succ, g9, g10]
  clear g9 g10
  have BX7 := BX.new nY
  have m7 := New.trans n7 nY
  have hxb := BX.lt
  have s7 := nY.size
  clear Q27 BX B6 nY n7
  go_upto_region 8 with fail
  refine step_region C21 hb21 xb y f (upd (nx y) 16 (frw y M)) f 0 0 0 BX7 (by kernel_rfl) (by kernel_rfl) (by kernel_rfl) (by kernel_rfl) (by kernel_rfl) (by kernel_rfl) (by kernel_rfl) (by kernel_rfl) (by kernel_rfl) (fun db v w h => (Q21 db v w h).mono fun e w' h => ⟨h.1, h.2.2⟩) ?_
  intro g8 W8 zb ze nZ g9 g10 zbl zel BZ EZ
  simp only [frL, Act.put, List.setIfInBounds_toArray, List.set_cons_zero, List.set_cons_succ, g9, g10]
  clear g9 g10
  have BX8 := BX7.new nZ
  have BY8 := BY.new nZ
  have EY8 := EY.new nZ
  have m8 := New.trans m7 nZ
  have s8 := nZ.size
  clear Q21 BX7 BY EY nZ m7
  have n14 : (upd (upd (nx y) 14 (m32 (y 16 + 4))) 16 (frw y M)) 14 = 4 := by unfold upd; rw [if_neg (by omega), if_pos rfl, X16]; rfl
  have n17 : (upd (upd (nx y) 14 (m32 (y 16 + 4))) 16 (frw y M)) 17 < 16 := by unfold nx upd; rw [if_neg (by omega), if_neg (by omega), if_neg (by omega)]; exact X17
  have n16 : (upd (upd (nx y) 14 (m32 (y 16 + 4))) 16 (frw y M)) 16 = frw y M := by unfold upd; rw [if_pos rfl]
  have z16 : (upd (nx y) 16 (frw y M)) 16 = frw y M := by unfold upd; rw [if_pos rfl]
  have zlo : ∀ i, i < 16 → (upd (nx y) 16 (frw y M)) i = y i := fun i hi => by unfold nx upd; rw [if_neg (by omega), if_neg (by omega)]
  have fb : 0 ≤ frw y M ∧ frw y M ≤ 4294967295 := m32_bd _
  have fr : frw y M = m32 (4 + 4 * M) := by unfold frw m32; rw [X16]; omega
  have hXY := bx_upd (bx_upd (bx_nx hX.out) 14 (v := m32 (y 16 + 4)) (m32_bd _)) 16 fb
  generalize hYX : (upd (upd (nx y) 14 (m32 (y 16 + 4))) 16 (frw y M)) = yx at *
  generalize hZX : upd (nx y) 16 (frw y M) = zx at *
  generalize frw y M = T at *
  have hYX := Lib.hid hYX
  have hZX := Lib.hid hZX
  have hsx : xb < W8.heap.size := BX8.lt
  go_wp2_with (first
    | ((with_reducible refine at_load 34 ?_); refine wpList_load_box rfl 34 _ rfl yb rfl (rc yx f) 34 _ BY8 Try.underlying34 rfl (by rw [rc_len]; exact ar_info) ?_)
    | ((with_reducible refine at_store 34 ?_); refine wpList_store_box rfl 34 _ _ rfl W8.heap.size (rc yx f) R0 34 rfl rfl (Box.here _ _ _ _ rfl) (by rw [rc_len, rc_len]) (by rw [rc_len]; exact ar_info) (rc_one _ _) ?_))
  intro W9 B9 F9
  have n9 : New W8 W9 := F9.new ((New.refl W8).alloc _ _) (Nat.le_refl _)
  have BX9 := BX8.new n9
  have BY9 := BY8.new n9
  have EY9 := EY8.new n9
  have BZ9 := BZ.new n9
  have EZ9 := EZ.new n9
  have m9 := New.trans m8 n9
  have s9 := m8.size
  have lx := BX8.lt
  have lyb := BY8.lt
  have lye := EY8.lt
  have lzb := BZ.lt
  have lze := EZ.lt
  clear BX8 BY8 EY8 BZ EZ m8 n9 F9
  generalize W8.heap.size = kb at *
  have c16 := B9.at (rc_x yx f (i := 16) (by omega))
  have fr16 := B9.unfrozen 16
  have B10 := B9.setL 16 (.int .u32 0)
  rw [rc_set_x yx f 16 _ (by omega)] at B10
  have f10 := Far.set W9 kb 16 (.int .u32 0)
  have BX10 := BX9.far f10 (by omega)
  have BY10 := BY9.far f10 (by omega)
  have EY10 := EY9.far f10 (by omega)
  have BZ10 := BZ9.far f10 (by omega)
  have EZ10 := EZ9.far f10 (by omega)
  have m10 : New w (W9.setCell ⟨kb, 16, none⟩ (.int .u32 0)) := m9.setCell (by show w.heap.size ≤ kb; omega) _
  clear B9 BX9 BY9 EY9 BZ9 EZ9 m9 f10
  go_upto_region 11 with fail
  change Code.wp _ _ _ _ (W9.setCell ⟨kb, 16, none⟩ (.int .u32 0))
  generalize (W9.setCell ⟨kb, 16, none⟩ (.int .u32 0)) = Wa at *
  clear c16 fr16
  have hXK := bx_upd hXY 16 (v := 0) (by omega)
  have k14 : upd yx 16 0 14 = 4 := by unfold upd; rw [if_neg (by omega)]; exact n14
  have k17 : upd yx 16 0 17 < 16 := by unfold upd; rw [if_neg (by omega)]; exact n17
  have k16 : upd yx 16 0 16 = 0 := by unfold upd; rw [if_pos rfl]
  generalize upd yx 16 0 = v at *
  have Q28 := fun db vv w (h : Bd w db vv (wds [C28]) 0 0) => step_any h hXK hf (oct_one C28 hb28.1 hb28.2)
  have A28 : stA v f (wds [C28]) = okA (upd (nx v) 16 (v 14)) f (wds [C28]) := by
    have j := R.out
    rw [st_one _ hb28.1 hb28.2 v f k17 k16, in_op v f _ j.2.2.1 (by omega) j.2.2.2.1 j.2.2.2.2.1 j.2.2.2.2.2]
    rfl
  rw [A28, k14] at Q28
  clear A28
  change ∀ db vv w, Bd w db vv (wds [C28]) 0 0 → Calls _ _ _ w fun e w' => e = .returned (.tuple #[.agg (rc (upd (nx v) 16 4) f).toArray, .agg #[.int .i64 0, .int .i64 0, .int .u32 0]]) ∧ _ ∧ But (SB db vv) w w' at Q28
  refine step_region C28 hb28 kb v f (upd (nx v) 16 4) f 0 0 0 B10 (by kernel_rfl) (by kernel_rfl) (by kernel_rfl) (by kernel_rfl) (by kernel_rfl) (by kernel_rfl) (by kernel_rfl) (by kernel_rfl) (by kernel_rfl) (fun db v w h => (Q28 db v w h).mono fun e w' h => ⟨h.1, h.2.2⟩) ?_
  intro gb Wb ub ue nU g9 g10 ubl uel BU EU
  simp only [frL, Act.put, List.setIfInBounds_toArray, List.set_cons_zero, List.set_cons_succ, g9, g10]
  clear g9 g10
  have BX11 := BX10.new nU
  have BY11 := BY10.new nU
  have EY11 := EY10.new nU
  have BZ11 := BZ10.new nU
  have EZ11 := EZ10.new nU
  have m11 := New.trans m10 nU
  clear BX10 BY10 EY10 BZ10 EZ10 m10 nU B10 Q28
  have qof := fun w => rof_any (4 + 4 * M) w (by omega) (by omega)
  rw [← fr] at qof
  go_wp2_with fail
  refine (qof _).mono ?_
  rintro e Wc ⟨rfl, rfl⟩
  clear qof
  have hzr : nls .u32 16 zx = nls .u32 16 y := nls_congr zlo
  have RZ := BZ11.regs16
  rw [hzr] at RZ
  have RX := BX11.regs16
  have he := fun w => eq16 y w
  have qs := fun w => csure_any w
  have e1 := EY11.three.1
  have e2 := EZ11.three.1
  have e3 := EU.three.1
  have e4 := BY11.at (rc_x yx f (i := 16) (by omega))
  have e5 := BZ11.at (rc_x zx f (i := 16) (by omega))
  have e6 := BY11.at (rc_x yx f (i := 14) (by omega))
  have e7 : Wb.cell? ⟨ub, 16, none⟩ = some (.int .u32 4) := BU.at (rc_x _ f (i := 16) (by omega))
  rw [n16] at e4
  rw [z16] at e5
  rw [n14] at e6
  have Mm := Lib.hid m11
  clear BX11 BY11 EY11 BZ11 EZ11 m11 BU EU n14 n16 n17 z16 zlo fr k14 k16 k17 hzr X16 X17 hYX hZX hXY hXK
  go_wp2_with (first
    | ((with_reducible refine at_load 24 ?_); refine wpList_load_wmid (by rfl) 24 _ rfl zb 0 rfl (nls .u32 16 y) _ RZ Try.underlying24 rfl (by rw [nls_len]; exact aw16_info) ?_)
    | ((with_reducible refine at_load 24 ?_); refine wpList_load_wmid (by rfl) 24 _ rfl xb 0 rfl (nls .u32 16 y) _ RX Try.underlying24 rfl (by rw [nls_len]; exact aw16_info) ?_)
    | (go_at_call 10; (with_reducible refine (qs _).mono ?_)))
  rintro e Wd ⟨rfl, nd⟩
  go_wp2
  go_ret
  exact ⟨rfl, New.trans Mm.out nd⟩

/-! ### THE ROW's STEP: WRITTEN OUT: LEAVE IT -/
set_option maxRecDepth 100000 in
theorem lifted (os : Os) (started : os.Started) (H : Type) (enc : TypeId × Value → H) :
    ReturnsInHanded {} Try.checked os 4 .any (Rows.cpuJumpsSpec.pre6 enc Try.prog Try.f4 Rows.cpuJumpsRow.domain false) (Rows.cpuJumpsSpec.post enc Try.prog Try.f4 false true false false) := by
  refine returnsInHanded_of_change (C := Try.checked) own started (by kernel_rfl) Try.func4
    (ChangeSpec.witness6 (enc := enc) (C := Try.checked) false ⟨#[], #[.int .i64 0, .agg #[.int .u32 0, .int .u32 0, .int .u32 0, .int .u32 0, .int .u32 0, .int .u32 0, .int .u32 0, .int .u32 0, .int .u32 0, .int .u32 0, .int .u32 0, .int .u32 0, .int .u32 0, .int .u32 0, .int .u32 0, .int .u32 0, .int .u32 0, .int .u32 0, .int .u64 0, .int .u64 0, .int .u64 0, .int .u64 0]], []⟩ 8 (by kernel_rfl) (by kernel_rfl) (by kernel_rfl) (by kernel_rfl)) ?_
  intro W base args ds gs before hval0 hW hcnd _
  have hval : ∀ (j : Nat) t v, Try.f4.params[j]? = some t → args[j]? = some v → Value.okWide Try.prog W .any base t v := hval0
  have hW' := hW
  obtain ⟨p, q, hA0, hV, rfl, hfz, hnd⟩ := hW
  have hA : DataW.TrodAll enc Try.prog W 0 (fun _ => true) true Try.f4.params.toList args.toList ds p := hA0
  rw [Try.params4] at hA hval
  obtain ⟨v0, vs0, d0, ds0, p0, q0, hargs, rfl, rfl, h0, r0⟩ := trodAll_cons hA
  obtain ⟨v1, vs1, d1, ds1, p1, q1, rfl, rfl, rfl, h1, r1⟩ := trodAll_cons r0
  obtain ⟨rfl, rfl, rfl⟩ := trodAll_nil r1
  obtain rfl : args = #[v0, v1] := by cases args; simp_all
  obtain ⟨rfl, rfl⟩ := trodVars_none hV
  obtain ⟨a0, rfl, rfl, rfl, w0⟩ := open_int Try.underlying3 (hval 0 3 v0 rfl rfl) h0
  have k1 := h1
  have lt1 : ∀ x ∈ p1, x.block < W.heap.size := by obtain ⟨m, hm⟩ := k1; exact DataW.trod_lt m _ _ _ hm
  have w1 : Flat [some .u32, some .u32, some .u32, some .u32, some .u32, some .u32, some .u32, some .u32, some .u32, some .u32, some .u32, some .u32, some .u32, some .u32, some .u32, some .u32, some .u32, some .u32, some .u64, some .u64, some .u64, some .u64] v1 := flat_of_ty (ks := [some .u32, some .u32, some .u32, some .u32, some .u32, some .u32, some .u32, some .u32, some .u32, some .u32, some .u32, some .u32, some .u32, some .u32, some .u32, some .u32, some .u32, some .u32, some .u64, some .u64, some .u64, some .u64]) Try.underlying28 (by
    obtain ⟨ks, hk, e⟩ : ∃ ks, FlatTy Try.prog 28 ks ∧ ks = [some .u32, some .u32, some .u32, some .u32, some .u32, some .u32, some .u32, some .u32, some .u32, some .u32, some .u32, some .u32, some .u32, some .u32, some .u32, some .u32, some .u32, some .u32, some .u64, some .u64, some .u64, some .u64] := ⟨_, (.struct Try.underlying28 (.cons rfl (.array Try.underlying24 (.int Try.underlying23) (by kernel_rfl)) (by kernel_rfl) (.cons rfl (.int Try.underlying23) (by kernel_rfl) (.cons rfl (.int Try.underlying23) (by kernel_rfl) (.cons rfl (.array Try.underlying26 (.int Try.underlying25) (by kernel_rfl)) (by kernel_rfl) .nil))))), rfl⟩
    rw [← e]; exact hk) (by kernel_rfl) (hval 1 28 v1 rfl rfl) h1
  clear hA0 hval0
  refine (walk a0 v1 W w0 w1).mono fun e W' ⟨he, bel⟩ => ?_
  subst he
  exact ⟨_, rfl, _, _, _, [], _, [], hW', trodAll_mk1 (shut_bool Try.underlying4 _), (trodAll_cons_mk (shut_int Try.underlying3 w0) (trodAll_cons_mk (Below.trod laidOut (by kernel_rfl) (of_decide_eq_true (by kernel_rfl)) k1 bel lt1) trodAll_mk0)), rfl, bel.frame _, fun h => by cases h⟩

theorem over : Rows.cpuJumpsRow.holds Try.pinned (OpenSpec.ofChange Rows.cpuJumpsSpec) :=
  OpenClaim.holds_of_wide 4 Try.f4 rfl rfl rfl rfl rfl rfl rfl ⟨rfl, rfl, rfl, rfl, rfl⟩ rfl rfl rfl rfl rfl (by kernel_rfl) Try.func4 (by kernel_rfl)
    (of_decide_eq_true (by kernel_rfl)) (by unfold Func.isWrapper; first | (rw [if_pos (by decide +kernel)]; kernel_rfl) | (rw [if_neg (by decide +kernel)]; exact ⟨rfl, rfl⟩))
    (fun os started H enc _ => lifted os started H enc)

/-- ████ THE STATEMENT ████ -/
theorem proved : Rows.CpuJumpsSaid := over
#print axioms proved
end Go.Proofs.Ytbkhmeongekdiaa.cpuJumps
