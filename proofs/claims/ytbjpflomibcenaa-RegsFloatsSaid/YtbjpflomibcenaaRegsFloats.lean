/- The two words of a float are its halves, the lower one ahead: set one behind the other they make any float, and no other word of the registers is changed; the statement holds for every registers, every number and every float by its bits. -/
import Derived.Test.YtbjpflomibcenaaRows
import Derived.Test.YtbjpflomibcenaaRgH
import Derived.Test.YtbjpflomibcenaaRgF
import Derived.Test.YtbjpflomibcenaaFlatTy
import Derived.Deep.Cut
import Derived.Test.YtbjpflomibcenaaPost
import Derived.WalkKit
import Derived.ProofKit
import Derived.OpenShut
import Derived.ShutString
import Derived.ChangeOld
import Derived.Below
namespace Go.Proofs.Ytbjpflomibcenaa.regsFloats
open Go.ChangeShapes Go.WideShapes Go.ChangeAt Go.RowKit
open Go.ChangeMaps (open_string shut_string)
set_option linter.unusedVariables false

theorem own : ownKnob Try.prog.godebug = none := by kernel_rfl
theorem laidOut : laidOutB Try.prog = true := by kernel_rfl

/-- WHAT THE WALK IS TOLD OF A SLICE OF INTEGERS THAT CAME IN: it is nil; or it leads to a row of 'cap' cells, the numbers 'zs' (the first 'len' are its elements, the rest its spare room), each fitting its kind. -/
def IsRow (k : IntKind) (w : World) (a : Option Addr) (len cap : Nat) (zs : List Int) : Prop :=
  (a = none ∧ len = 0 ∧ cap = 0 ∧ zs = []) ∨
  ∃ x, a = some x ∧ len ≤ cap ∧ cap ≤ maxLen ∧ zs.length = cap ∧ (∀ i, i < zs.length → w.cell? (x.add i) = some (.int k (zs.getD i 0))) ∧ ∀ n ∈ zs, (Lit.int k n).wf = true

/-! ### STEP 1: THE WALK: the Go text returns true, AND WRITES NOTHING THAT WAS THERE: 'Below w.heap.size w w'' (Derived/Below.lean: '.refl', '.alloc', '.drew', '.setCell' at a new block, '.trans'). Open each 'IsRow' by 'rcases' AHEAD of 'go_enter'; part every test ahead of the walk. -/
set_option maxHeartbeats 8000000 in
set_option maxRecDepth 100000 in
theorem walk (v0 : Value) (a1 : Int) (a2 : Int) (w : World) (w0 : Flat [some .u32, some .u32, some .u32, some .u32, some .u32, some .u32, some .u32, some .u32, some .u32, some .u32, some .u32, some .u32, some .u32, some .u32, some .u32, some .u32, some .u32, some .u32, some .u64, some .u64, some .u64, some .u64] v0) (w1 : (Lit.int .i64 a1).wf = true) (w2 : (Lit.int .u64 a2).wf = true) :
    Calls Try.prog 4 #[v0, .int .i64 a1, .int .u64 a2] w fun e w' => e = .returned (.bool true) ∧ Below w.heap.size w w' := by
  obtain ⟨x, f, rfl, hx, hf⟩ := flat_rc w0
  have b2 := u64_bd w2
  clear w0 w1 w2
  have B1 : Box (w.alloc (.cells (rc x f).toArray 27)) w.heap.size (rc x f).toArray 27 := Box.here w _ _ _ rfl
  have n1 : New w (w.alloc (.cells (rc x f).toArray 27)) := (New.refl w).alloc _ _
  have hsz : (w.alloc (.cells (rc x f).toArray 27)).heap.size = w.heap.size + 1 := by simp
  go_enter Try.func4, Try.ntmps4
  go_upto_region 1 with fail
  generalize w.alloc (.cells (rc x f).toArray 27) = W1 at *
  go_wp2_with (first
    | ((with_reducible refine at_load 27 ?_); refine wpList_load_box rfl 27 _ rfl w.heap.size rfl (rc x f) 27 _ B1 Try.underlying27 rfl (by rw [rc_len]; exact rr_info) ?_)
    | ((with_reducible refine at_store 28 ?_); refine wpList_store_box rfl 28 _ _ rfl (w.heap.size + 1) (rc x f) (rc (fun _ => 0) (fun _ => 0)) 28 rfl rfl (Box.here _ _ _ _ hsz.symm) (by rw [rc_len, rc_len]) (by rw [rc_len]; exact ar_info) (rc_one _ _) ?_))
  intro W2 h2 f2
  have n2 : New w W2 := f2.new (n1.alloc _ _) (by omega)
  clear B1 n1 f2 hsz
  have c17 := h2.at (rc_x x f (i := 17) (by omega))
  have fr := h2.unfrozen 17
  have q17 := (hx 17 (by omega)).1
  have hl2 := h2.lt
  have H2 := Lib.hid h2
  clear h2
  go_upto_region 4 with fail
  obtain ⟨K, hK, hK4⟩ := rmod_by a1 4 (by omega) (by omega)
  have hK : wrap64 ((IntKind.u64.wrap a1).tmod 4) = (K : Int) := hK
  rw [hK]
  obtain ⟨hx0, h17⟩ := x17_bd hx
  have B3 := H2.out.setL 17 (.int .u32 (x 17 % 32))
  rw [rc_set_x x f 17 _ (by omega)] at B3
  have n3 : New w (W2.setCell ⟨w.heap.size + 1, 17, none⟩ (.int .u32 (x 17 % 32))) := n2.setCell (by simp) _
  have hs3 : w.heap.size + 1 < (W2.setCell ⟨w.heap.size + 1, 17, none⟩ (.int .u32 (x 17 % 32))).heap.size := B3.lt
  generalize W2.setCell ⟨w.heap.size + 1, 17, none⟩ (.int .u32 (x 17 % 32)) = W3 at *
  generalize upd x 17 (x 17 % 32) = y at *
  clear c17 fr q17 hl2 H2 n2 hx hK W2
  have l0 : 0 ≤ a2 % 4294967296 ∧ a2 % 4294967296 ≤ 4294967295 := by omega
  have l1 : 0 ≤ a2 / 4294967296 ∧ a2 / 4294967296 ≤ 4294967295 := by omega
  have q1 := fun w => set_fl hx0 hf h17 K hK4 (a2 % 4294967296) l0 w
  have fk := hf K hK4
  have hf2 := updf_bd hf K (f K / 4294967296 * 4294967296 + a2 % 4294967296) (by omega)
  have q2 := fun w => set_fh hx0 hf2 h17 K hK4 (a2 / 4294967296) l1 w
  have e2 : upd (upd f K (f K / 4294967296 * 4294967296 + a2 % 4294967296)) K (upd f K (f K / 4294967296 * 4294967296 + a2 % 4294967296) K % 4294967296 + a2 / 4294967296 * 4294967296) = upd f K a2 := by
    rw [upd_upd, upd_here]; congr 1; omega
  rw [e2] at q2
  have hf3 := updf_bd hf K a2 b2
  have q3 := fun w => get_fl (x := y) hf3 K hK4 w
  have q4 := fun w => get_fh (x := y) hf3 K hK4 w
  rw [upd_here] at q3 q4
  have hq := fun w => rc_equal y (upd f K a2) w
  have hset := rc_set_f y f K a2 hK4
  have hfl := fun (g : Nat → Int) => rc_f y g hK4
  generalize upd f K (f K / 4294967296 * 4294967296 + a2 % 4294967296) = F1 at *
  generalize upd f K a2 = F2 at *
  clear e2 fk hf2 hf3 hx0 hf h17 l0 l1
  obtain ⟨b20, b21⟩ := b2
  have k0 : (0 : Int) ≤ (K : Int) := by omega
  have k4 : (K : Int) < 4 := by omega
  go_wp2_with ((with_reducible refine at_load 28 ?_); refine wpList_load_box rfl 28 _ rfl (w.heap.size + 1) rfl (rc y f) 28 _ (B3) Try.underlying28 rfl (by rw [rc_len]; exact ar_info) ?_)
  refine (q1 _).mono ?_
  rintro e W4 ⟨rfl, n4⟩
  go_wp2_with ((with_reducible refine at_store 28 ?_); refine wpList_store_box rfl 28 _ _ rfl (W4.heap.size) (rc y F1) (rc (fun _ => 0) (fun _ => 0)) 28 rfl rfl (Box.here _ _ _ _ rfl) (by rw [rc_len, rc_len]) (by rw [rc_len]; exact ar_info) (rc_one _ _) ?_)
  intro W5 B5 f5
  have A5 := ((B3.new n4).alloc (.cells (rc (fun _ => 0) fun _ => 0).toArray 28)).far f5 (by have := (B3.new n4).lt; omega)
  have n5 : New w W5 := f5.new ((n3.trans n4).alloc _ _) (n3.trans n4).size
  generalize W4.heap.size = c1 at *
  clear B3 n3 n4 f5 hs3
  go_wp2_with ((with_reducible refine at_load 28 ?_); refine wpList_load_box rfl 28 _ rfl (c1) rfl (rc y F1) 28 _ (B5) Try.underlying28 rfl (by rw [rc_len]; exact ar_info) ?_)
  refine (q2 _).mono ?_
  rintro e W6 ⟨rfl, n6⟩
  go_wp2_with ((with_reducible refine at_store 28 ?_); refine wpList_store_box rfl 28 _ _ rfl (W6.heap.size) (rc y F2) (rc (fun _ => 0) (fun _ => 0)) 28 rfl rfl (Box.here _ _ _ _ rfl) (by rw [rc_len, rc_len]) (by rw [rc_len]; exact ar_info) (rc_one _ _) ?_)
  intro W7 B7 f7
  have A7 := ((A5.new n6).alloc (.cells (rc (fun _ => 0) fun _ => 0).toArray 28)).far f7 (by have := (A5.new n6).lt; omega)
  have n7 : New w W7 := f7.new ((n5.trans n6).alloc _ _) (n5.trans n6).size
  generalize W6.heap.size = c2 at *
  clear A5 B5 n5 n6 f7
  go_wp2_with ((with_reducible refine at_load 28 ?_); refine wpList_load_box rfl 28 _ rfl (c2) rfl (rc y F2) 28 _ (B7) Try.underlying28 rfl (by rw [rc_len]; exact ar_info) ?_)
  refine (q3 _).mono ?_
  rintro e W8 ⟨rfl, n8⟩
  have A8 := A7.new n8
  have B8 := B7.new n8
  have N8 := n7.trans n8
  clear A7 B7 n7 n8
  go_wp2_with ((with_reducible refine at_load 28 ?_); refine wpList_load_box rfl 28 _ rfl (c2) rfl (rc y F2) 28 _ (B8) Try.underlying28 rfl (by rw [rc_len]; exact ar_info) ?_)
  refine (q4 _).mono ?_
  rintro e W9 ⟨rfl, n9⟩
  have A9 := A8.new n9
  have B9 := B8.new n9
  have N9 := N8.trans n9
  clear A8 B8 N8 n9 q1 q2 q3 q4
  go_wp2_with (first | ((with_reducible refine at_load 28 ?_); refine wpList_load_box rfl 28 _ rfl (w.heap.size + 1) rfl (rc y f) 28 _ (A9) Try.underlying28 rfl (by rw [rc_len]; exact ar_info) ?_) | ((with_reducible refine at_store 28 ?_); refine wpList_store_box rfl 28 _ _ rfl (W9.heap.size) (rc y f) (rc (fun _ => 0) (fun _ => 0)) 28 rfl rfl (Box.here _ _ _ _ rfl) (by rw [rc_len, rc_len]) (by rw [rc_len]; exact ar_info) (rc_one _ _) ?_))
  intro W10 C10 f10
  have B10 := (B9.alloc (.cells (rc (fun _ => 0) fun _ => 0).toArray 28)).far f10 (by have := B9.lt; omega)
  have n10 : New w W10 := f10.new (N9.alloc _ _) N9.size
  have hne : c2 ≠ W9.heap.size := by have := B9.lt; omega
  have hle := N9.size
  generalize W9.heap.size = c3 at *
  clear A9 B9 N9 f10
  have cK := C10.at (hfl f)
  have fr := C10.unfrozen (18 + K)
  have hl3 := C10.lt
  have H10 := Lib.hid C10
  clear C10 hfl
  go_upto_region 10 with fail
  have C11 := H10.out.setL (18 + K) (.int .u64 a2)
  rw [hset] at C11
  have B11 := B10.other (p := ⟨c3, 18 + K, none⟩) (by simp; omega) (.int .u64 a2)
  have n11 : New w (W10.setCell ⟨c3, 18 + K, none⟩ (.int .u64 a2)) := n10.setCell (by simpa using hle) _
  generalize W10.setCell ⟨c3, 18 + K, none⟩ (.int .u64 a2) = W11 at *
  clear cK fr hl3 H10 B10 n10 hset
  go_wp2_with (first | ((with_reducible refine at_load 28 ?_); refine wpList_load_wbox rfl 28 _ rfl (c2) rfl (rc y F2) 28 _ (B11) Try.underlying28 rfl (by rw [rc_len]; exact ar_info) ?_) | ((with_reducible refine at_load 28 ?_); refine wpList_load_wbox rfl 28 _ rfl (c3) rfl (rc y F2) 28 _ (C11) Try.underlying28 rfl (by rw [rc_len]; exact ar_info) ?_))
  refine (rsure_any _).mono ?_
  rintro e W12 ⟨rfl, n12⟩
  go_wp2
  go_ret
  exact ⟨rfl, n11.trans n12⟩

/-! ### THE ROW's STEP: WRITTEN OUT: LEAVE IT -/
set_option maxRecDepth 100000 in
theorem lifted (os : Os) (started : os.Started) (H : Type) (enc : TypeId × Value → H) :
    ReturnsInHanded {} Try.checked os 4 .any (Rows.regsFloatsSpec.pre6 enc Try.prog Try.f4 Rows.regsFloatsRow.domain false) (Rows.regsFloatsSpec.post enc Try.prog Try.f4 false true false false) := by
  refine returnsInHanded_of_change (C := Try.checked) own started (by kernel_rfl) Try.func4
    (ChangeSpec.witness6 (enc := enc) (C := Try.checked) false ⟨#[], #[.agg #[.int .u32 0, .int .u32 0, .int .u32 0, .int .u32 0, .int .u32 0, .int .u32 0, .int .u32 0, .int .u32 0, .int .u32 0, .int .u32 0, .int .u32 0, .int .u32 0, .int .u32 0, .int .u32 0, .int .u32 0, .int .u32 0, .int .u32 0, .int .u32 0, .int .u64 0, .int .u64 0, .int .u64 0, .int .u64 0], .int .i64 0, .int .u64 0], []⟩ 8 (by kernel_rfl) (by kernel_rfl) (by kernel_rfl) (by kernel_rfl)) ?_
  intro W base args ds gs before hval0 hW hcnd _
  have hval : ∀ (j : Nat) t v, Try.f4.params[j]? = some t → args[j]? = some v → Value.okWide Try.prog W .any base t v := hval0
  have hW' := hW
  obtain ⟨p, q, hA0, hV, rfl, hfz, hnd⟩ := hW
  have hA : DataW.TrodAll enc Try.prog W 0 (fun _ => true) true Try.f4.params.toList args.toList ds p := hA0
  rw [Try.params4] at hA hval
  obtain ⟨v0, vs0, d0, ds0, p0, q0, hargs, rfl, rfl, h0, r0⟩ := trodAll_cons hA
  obtain ⟨v1, vs1, d1, ds1, p1, q1, rfl, rfl, rfl, h1, r1⟩ := trodAll_cons r0
  obtain ⟨v2, vs2, d2, ds2, p2, q2, rfl, rfl, rfl, h2, r2⟩ := trodAll_cons r1
  obtain ⟨rfl, rfl, rfl⟩ := trodAll_nil r2
  obtain rfl : args = #[v0, v1, v2] := by cases args; simp_all
  obtain ⟨rfl, rfl⟩ := trodVars_none hV
  have k0 := h0
  have lt0 : ∀ x ∈ p0, x.block < W.heap.size := by obtain ⟨m, hm⟩ := k0; exact DataW.trod_lt m _ _ _ hm
  have w0 : Flat [some .u32, some .u32, some .u32, some .u32, some .u32, some .u32, some .u32, some .u32, some .u32, some .u32, some .u32, some .u32, some .u32, some .u32, some .u32, some .u32, some .u32, some .u32, some .u64, some .u64, some .u64, some .u64] v0 := flat_of_ty (ks := [some .u32, some .u32, some .u32, some .u32, some .u32, some .u32, some .u32, some .u32, some .u32, some .u32, some .u32, some .u32, some .u32, some .u32, some .u32, some .u32, some .u32, some .u32, some .u64, some .u64, some .u64, some .u64]) Try.underlying27 (by
    obtain ⟨ks, hk, e⟩ : ∃ ks, FlatTy Try.prog 27 ks ∧ ks = [some .u32, some .u32, some .u32, some .u32, some .u32, some .u32, some .u32, some .u32, some .u32, some .u32, some .u32, some .u32, some .u32, some .u32, some .u32, some .u32, some .u32, some .u32, some .u64, some .u64, some .u64, some .u64] := ⟨_, (.struct Try.underlying27 (.cons rfl (.array Try.underlying23 (.int Try.underlying22) (by kernel_rfl)) (by kernel_rfl) (.cons rfl (.int Try.underlying22) (by kernel_rfl) (.cons rfl (.int Try.underlying22) (by kernel_rfl) (.cons rfl (.array Try.underlying25 (.int Try.underlying24) (by kernel_rfl)) (by kernel_rfl) .nil))))), rfl⟩
    rw [← e]; exact hk) (by kernel_rfl) (hval 0 27 v0 rfl rfl) h0
  obtain ⟨a1, rfl, rfl, rfl, w1⟩ := open_int Try.underlying3 (hval 1 3 v1 rfl rfl) h1
  obtain ⟨a2, rfl, rfl, rfl, w2⟩ := open_int Try.underlying24 (hval 2 24 v2 rfl rfl) h2
  clear hA0 hval0
  refine (walk v0 a1 a2 W w0 w1 w2).mono fun e W' ⟨he, bel⟩ => ?_
  subst he
  exact ⟨_, rfl, _, _, _, [], _, [], hW', trodAll_mk1 (shut_bool Try.underlying4 _), (trodAll_cons_mk (Below.trod laidOut (by kernel_rfl) (of_decide_eq_true (by kernel_rfl)) k0 bel lt0) (trodAll_cons_mk (shut_int Try.underlying3 w1) (trodAll_cons_mk (shut_int Try.underlying24 w2) trodAll_mk0))), rfl, bel.frame _, fun h => by cases h⟩

theorem over : Rows.regsFloatsRow.holds Try.pinned (OpenSpec.ofChange Rows.regsFloatsSpec) :=
  OpenClaim.holds_of_wide 4 Try.f4 rfl rfl rfl rfl rfl rfl rfl ⟨rfl, rfl, rfl, rfl, rfl⟩ rfl rfl rfl rfl rfl (by kernel_rfl) Try.func4 (by kernel_rfl)
    (of_decide_eq_true (by kernel_rfl)) (by unfold Func.isWrapper; first | (rw [if_pos (by decide +kernel)]; kernel_rfl) | (rw [if_neg (by decide +kernel)]; exact ⟨rfl, rfl⟩))
    (fun os started H enc _ => lifted os started H enc)

/-- ████ THE STATEMENT ████ -/
theorem proved : Rows.RegsFloatsSaid := over
#print axioms proved
end Go.Proofs.Ytbjpflomibcenaa.regsFloats
