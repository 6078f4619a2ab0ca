/- Registers come back from their bytes, which are 104; a word that was set is got, and no other word is changed by it; the statement holds for every registers, every number of a word and every number of 32 bits. -/
import Derived.Test.YtbjpflomibcenaaRows
import Derived.Test.YtbjpflomibcenaaRgH
import Derived.Test.YtbjpflomibcenaaRgF
import Derived.Test.YtbjpflomibcenaaFlatTy
import Derived.Deep.Cut
import Derived.Test.YtbjpflomibcenaaPost
import Derived.WalkKit
import Derived.ProofKit
import Derived.OpenShut
import Derived.ShutString
import Derived.ChangeOld
import Derived.Below
namespace Go.Proofs.Ytbjpflomibcenaa.regsBack
open Go.ChangeShapes Go.WideShapes Go.ChangeAt Go.RowKit
open Go.ChangeMaps (open_string shut_string)
set_option linter.unusedVariables false

theorem own : ownKnob Try.prog.godebug = none := by kernel_rfl
theorem laidOut : laidOutB Try.prog = true := by kernel_rfl

/-- WHAT THE WALK IS TOLD OF A SLICE OF INTEGERS THAT CAME IN: it is nil; or it leads to a row of 'cap' cells, the numbers 'zs' (the first 'len' are its elements, the rest its spare room), each fitting its kind. -/
def IsRow (k : IntKind) (w : World) (a : Option Addr) (len cap : Nat) (zs : List Int) : Prop :=
  (a = none ∧ len = 0 ∧ cap = 0 ∧ zs = []) ∨
  ∃ x, a = some x ∧ len ≤ cap ∧ cap ≤ maxLen ∧ zs.length = cap ∧ (∀ i, i < zs.length → w.cell? (x.add i) = some (.int k (zs.getD i 0))) ∧ ∀ n ∈ zs, (Lit.int k n).wf = true

/-! ### STEP 1: THE WALK: the Go text returns true, AND WRITES NOTHING THAT WAS THERE: 'Below w.heap.size w w'' (Derived/Below.lean: '.refl', '.alloc', '.drew', '.setCell' at a new block, '.trans'). Open each 'IsRow' by 'rcases' AHEAD of 'go_enter'; part every test ahead of the walk. -/
set_option maxHeartbeats 8000000 in
set_option maxRecDepth 100000 in
theorem walk (v0 : Value) (a1 : Int) (a2 : Int) (w : World) (w0 : Flat [some .u32, some .u32, some .u32, some .u32, some .u32, some .u32, some .u32, some .u32, some .u32, some .u32, some .u32, some .u32, some .u32, some .u32, some .u32, some .u32, some .u32, some .u32, some .u64, some .u64, some .u64, some .u64] v0) (w1 : (Lit.int .i64 a1).wf = true) (w2 : (Lit.int .u32 a2).wf = true) :
    Calls Try.prog 3 #[v0, .int .i64 a1, .int .u32 a2] w fun e w' => e = .returned (.bool true) ∧ Below w.heap.size w w' := by
  obtain ⟨x, f, rfl, hx, hf⟩ := flat_rc w0
  have b2 := u32_bd w2
  clear w0 w1 w2
  have B1 : Box (w.alloc (.cells (rc x f).toArray 27)) w.heap.size (rc x f).toArray 27 := Box.here w _ _ _ rfl
  have n1 : New w (w.alloc (.cells (rc x f).toArray 27)) := (New.refl w).alloc _ _
  have hsz : (w.alloc (.cells (rc x f).toArray 27)).heap.size = w.heap.size + 1 := by simp
  go_enter Try.func3, Try.ntmps3
  go_upto_region 1 with fail
  generalize w.alloc (.cells (rc x f).toArray 27) = W1 at *
  go_wp2_with (first
    | ((with_reducible refine at_load 27 ?_); refine wpList_load_box rfl 27 _ rfl w.heap.size rfl (rc x f) 27 _ B1 Try.underlying27 rfl (by rw [rc_len]; exact rr_info) ?_)
    | ((with_reducible refine at_store 28 ?_); refine wpList_store_box rfl 28 _ _ rfl (w.heap.size + 1) (rc x f) (rc (fun _ => 0) (fun _ => 0)) 28 rfl rfl (Box.here _ _ _ _ hsz.symm) (by rw [rc_len, rc_len]) (by rw [rc_len]; exact ar_info) (rc_one _ _) ?_))
  intro W2 h2 f2
  have n2 : New w W2 := f2.new (n1.alloc _ _) (by omega)
  clear B1 n1 f2 hsz
  have c17 := h2.at (rc_x x f (i := 17) (by omega))
  have fr := h2.unfrozen 17
  have q17 := (hx 17 (by omega)).1
  have hl2 := h2.lt
  have H2 := Lib.hid h2
  clear h2
  go_upto_region 3 with fail
  obtain ⟨hx0, h17⟩ := x17_bd hx
  have B3 := H2.out.setL 17 (.int .u32 (x 17 % 32))
  rw [rc_set_x x f 17 _ (by omega)] at B3
  have n3 : New w (W2.setCell ⟨w.heap.size + 1, 17, none⟩ (.int .u32 (x 17 % 32))) := n2.setCell (by simp) _
  generalize W2.setCell ⟨w.heap.size + 1, 17, none⟩ (.int .u32 (x 17 % 32)) = W3 at *
  generalize upd x 17 (x 17 % 32) = y at *
  clear c17 fr q17 hl2 H2 n2 hx W2
  have q1 := fun w => encode_ok y f hx0 hf h17 w
  have hq := fun w => rc_equal y f w
  go_wp2_with ((with_reducible refine at_load 28 ?_); refine wpList_load_box rfl 28 _ rfl (w.heap.size + 1) rfl (rc y f) 28 _ (B3) Try.underlying28 rfl (by rw [rc_len]; exact ar_info) ?_)
  refine (q1 _).mono ?_
  rintro e W4 ⟨bb, rfl, B4, hle4, n4⟩
  have A4 := B3.new n4
  have N4 := n3.trans n4
  clear B3 n3 n4 q1
  have q2 := dec_back hx0 hf h17 bb W4 B4
  go_wp2_with fail
  refine q2.mono ?_
  rintro e W5 ⟨rfl, n5⟩
  go_wp2_with ((with_reducible refine at_store 28 ?_); refine wpList_store_box rfl 28 _ _ rfl (W5.heap.size) (rc y f) (rc (fun _ => 0) (fun _ => 0)) 28 rfl rfl (Box.here _ _ _ _ rfl) (by rw [rc_len, rc_len]) (by rw [rc_len]; exact ar_info) (rc_one _ _) ?_)
  intro W6 B6 f6
  have A6 := ((A4.new n5).alloc (.cells (rc (fun _ => 0) fun _ => 0).toArray 28)).far f6 (by have := (A4.new n5).lt; omega)
  have n6 : New w W6 := f6.new ((N4.trans n5).alloc _ _) (N4.trans n5).size
  generalize W5.heap.size = c1 at *
  clear A4 N4 n5 f6 B4 hle4 q2
  obtain ⟨K, hK, hK26⟩ := rmod_by a1 26 (by omega) (by omega)
  have hK : wrap64 ((IntKind.u64.wrap a1).tmod 26) = (K : Int) := hK
  go_upto_region 8 with (first | ((with_reducible refine at_load 28 ?_); refine wpList_load_wbox rfl 28 _ rfl (c1) rfl (rc y f) 28 _ (B6) Try.underlying28 rfl (by rw [rc_len]; exact ar_info) ?_) | ((with_reducible refine at_load 28 ?_); refine wpList_load_wbox rfl 28 _ rfl (w.heap.size + 1) rfl (rc y f) 28 _ (A6) Try.underlying28 rfl (by rw [rc_len]; exact ar_info) ?_))
  simp only [hK]
  clear hK hq
  have k0 : (0 : Int) ≤ (K : Int) := by omega
  have k26 : (K : Int) < 26 := by omega
  have SEP : ∃ V : Int, (0 ≤ V ∧ V ≤ 4294967295) ∧ (K = 17 → V < 32) ∧ V = if K = 17 then a2 % 32 else a2 := ⟨_, by split <;> omega, fun h => by rw [if_pos h]; omega, rfl⟩
  obtain ⟨V, hV, hV17, eV⟩ := SEP
  have hq := fun w => set_w hx0 hf h17 K hK26 V hV hV17 w
  have hw := fun i hi => wd_with y f K V i hK26 hi hf hV
  have hF := wf_bd f K V hK26 hf hV
  generalize wx y K V = Y at *
  generalize wf f K V = F at *
  by_cases c : K = 17
  case' pos =>
    rw [if_pos c] at eV
    have d : ((K : Int) == 17) = true := by simp; omega
    go_upto_region 10 with fail
    rw [← eV]
    clear d
  case' neg =>
    rw [if_neg c] at eV
    have d : ((K : Int) == 17) = false := by simp; omega
    go_upto_region 10 with fail
    rw [← eV]
    clear d
  all_goals
    clear c eV b2 hV17 hx0 h17
    obtain ⟨v0, v1⟩ := hV
    go_wp2_with ((with_reducible refine at_load 28 ?_); refine wpList_load_box rfl 28 _ rfl (w.heap.size + 1) rfl (rc y f) 28 _ (A6) Try.underlying28 rfl (by rw [rc_len]; exact ar_info) ?_)
    refine (hq _).mono ?_
    rintro e W7 ⟨rfl, n7⟩
    go_wp2_with ((with_reducible refine at_store 28 ?_); refine wpList_store_box rfl 28 _ _ rfl (W7.heap.size) (rc Y F) (rc (fun _ => 0) (fun _ => 0)) 28 rfl rfl (Box.here _ _ _ _ rfl) (by rw [rc_len, rc_len]) (by rw [rc_len]; exact ar_info) (rc_one _ _) ?_)
    intro W8 B8 f8
    have A8 := ((A6.new n7).alloc (.cells (rc (fun _ => 0) fun _ => 0).toArray 28)).far f8 (by have := (A6.new n7).lt; omega)
    have n8 : New w W8 := f8.new ((n6.trans n7).alloc _ _) (n6.trans n7).size
    generalize W7.heap.size = c2 at *
    clear A6 B6 n6 n7 f8 hq
    have HA := Lib.hid A8
    have HB := Lib.hid B8
    have HW := Lib.hid hw
    clear A8 B8 hw
    go_wp2
    go_loopg [15] 26 (fun k i wr => ∃ j : Nat, j + k = 26 ∧ i = .int .i64 (j : Int) ∧ Box wr (w.heap.size + 1) (rc y f).toArray 28 ∧ Box wr c2 (rc Y F).toArray 28 ∧ New w wr)
    case atStart => exact ⟨0, rfl, rfl, HA.out, HB.out, n8⟩
    case round =>
      obtain ⟨j, hj, rfl, hA, hB, hnx⟩ := hrel
      by_cases hlt : j < 26
      · have g1 := fun w => get_w (x := y) hf j hlt w
        have g2 := fun w => get_w (x := Y) hF j hlt w
        rw [HW.out j hlt] at g2
        generalize wd y f j = old at *
        have j0 : (0 : Int) ≤ (j : Int) := by omega
        have j26 : (j : Int) < 26 := by omega
        have J := Lib.hid hj
        clear hj HA HB n8 HW hF hf
        go_wp2_with ((with_reducible refine at_load 28 ?_); refine wpList_load_box rfl 28 _ rfl (w.heap.size + 1) rfl (rc y f) 28 _ (hA) Try.underlying28 rfl (by rw [rc_len]; exact ar_info) ?_)
        refine (g1 _).mono ?_
        rintro e W9 ⟨rfl, n9⟩
        have A9 := hA.new n9
        have B9 := hB.new n9
        have N9 := hnx.trans n9
        clear hA hB hnx n9 g1
        go_wp2_with ((with_reducible refine at_load 28 ?_); refine wpList_load_box rfl 28 _ rfl (c2) rfl (rc Y F) 28 _ (B9) Try.underlying28 rfl (by rw [rc_len]; exact ar_info) ?_)
        refine (g2 _).mono ?_
        rintro e W10 ⟨rfl, n10⟩
        have A10 := Lib.hid (A9.new n10)
        have B10 := Lib.hid (B9.new n10)
        have N10 := N9.trans n10
        clear A9 B9 N9 n10 g2
        by_cases cj : j = K
        · rw [if_pos cj]
          have d1 : ((j : Int) == (K : Int)) = true := by simp; omega
          have d2 : ((j : Int) != (K : Int)) = false := by simp; omega
          go_wp2
          go_roundg (26 - (j + 1))
          case measure => have := J.out; omega
          case rel => exact ⟨j + 1, by have := J.out; omega, by rw [cj]; go_num, A10.out, B10.out, N10⟩
        · rw [if_neg cj]
          have d1 : ((j : Int) == (K : Int)) = false := by simp; omega
          have d2 : ((j : Int) != (K : Int)) = true := by simp; omega
          go_wp2
          go_roundg (26 - (j + 1))
          case measure => have := J.out; omega
          case rel => exact ⟨j + 1, by have := J.out; omega, by go_num, A10.out, B10.out, N10⟩
      · obtain rfl : j = 26 := by omega
        clear hj hlt HA HB n8 HW hF hf hA hB
        go_wp2_with fail
        refine (rsure_any _).mono ?_
        rintro e W12 ⟨rfl, n12⟩
        go_wp2
        go_ret
        exact ⟨rfl, hnx.trans n12⟩

/-! ### THE ROW's STEP: WRITTEN OUT: LEAVE IT -/
set_option maxRecDepth 100000 in
theorem lifted (os : Os) (started : os.Started) (H : Type) (enc : TypeId × Value → H) :
    ReturnsInHanded {} Try.checked os 3 .any (Rows.regsBackSpec.pre6 enc Try.prog Try.f3 Rows.regsBackRow.domain false) (Rows.regsBackSpec.post enc Try.prog Try.f3 false true false false) := by
  refine returnsInHanded_of_change (C := Try.checked) own started (by kernel_rfl) Try.func3
    (ChangeSpec.witness6 (enc := enc) (C := Try.checked) false ⟨#[], #[.agg #[.int .u32 0, .int .u32 0, .int .u32 0, .int .u32 0, .int .u32 0, .int .u32 0, .int .u32 0, .int .u32 0, .int .u32 0, .int .u32 0, .int .u32 0, .int .u32 0, .int .u32 0, .int .u32 0, .int .u32 0, .int .u32 0, .int .u32 0, .int .u32 0, .int .u64 0, .int .u64 0, .int .u64 0, .int .u64 0], .int .i64 0, .int .u32 0], []⟩ 8 (by kernel_rfl) (by kernel_rfl) (by kernel_rfl) (by kernel_rfl)) ?_
  intro W base args ds gs before hval0 hW hcnd _
  have hval : ∀ (j : Nat) t v, Try.f3.params[j]? = some t → args[j]? = some v → Value.okWide Try.prog W .any base t v := hval0
  have hW' := hW
  obtain ⟨p, q, hA0, hV, rfl, hfz, hnd⟩ := hW
  have hA : DataW.TrodAll enc Try.prog W 0 (fun _ => true) true Try.f3.params.toList args.toList ds p := hA0
  rw [Try.params3] at hA hval
  obtain ⟨v0, vs0, d0, ds0, p0, q0, hargs, rfl, rfl, h0, r0⟩ := trodAll_cons hA
  obtain ⟨v1, vs1, d1, ds1, p1, q1, rfl, rfl, rfl, h1, r1⟩ := trodAll_cons r0
  obtain ⟨v2, vs2, d2, ds2, p2, q2, rfl, rfl, rfl, h2, r2⟩ := trodAll_cons r1
  obtain ⟨rfl, rfl, rfl⟩ := trodAll_nil r2
  obtain rfl : args = #[v0, v1, v2] := by cases args; simp_all
  obtain ⟨rfl, rfl⟩ := trodVars_none hV
  have k0 := h0
  have lt0 : ∀ x ∈ p0, x.block < W.heap.size := by obtain ⟨m, hm⟩ := k0; exact DataW.trod_lt m _ _ _ hm
  have w0 : Flat [some .u32, some .u32, some .u32, some .u32, some .u32, some .u32, some .u32, some .u32, some .u32, some .u32, some .u32, some .u32, some .u32, some .u32, some .u32, some .u32, some .u32, some .u32, some .u64, some .u64, some .u64, some .u64] v0 := flat_of_ty (ks := [some .u32, some .u32, some .u32, some .u32, some .u32, some .u32, some .u32, some .u32, some .u32, some .u32, some .u32, some .u32, some .u32, some .u32, some .u32, some .u32, some .u32, some .u32, some .u64, some .u64, some .u64, some .u64]) Try.underlying27 (by
    obtain ⟨ks, hk, e⟩ : ∃ ks, FlatTy Try.prog 27 ks ∧ ks = [some .u32, some .u32, some .u32, some .u32, some .u32, some .u32, some .u32, some .u32, some .u32, some .u32, some .u32, some .u32, some .u32, some .u32, some .u32, some .u32, some .u32, some .u32, some .u64, some .u64, some .u64, some .u64] := ⟨_, (.struct Try.underlying27 (.cons rfl (.array Try.underlying23 (.int Try.underlying22) (by kernel_rfl)) (by kernel_rfl) (.cons rfl (.int Try.underlying22) (by kernel_rfl) (.cons rfl (.int Try.underlying22) (by kernel_rfl) (.cons rfl (.array Try.underlying25 (.int Try.underlying24) (by kernel_rfl)) (by kernel_rfl) .nil))))), rfl⟩
    rw [← e]; exact hk) (by kernel_rfl) (hval 0 27 v0 rfl rfl) h0
  obtain ⟨a1, rfl, rfl, rfl, w1⟩ := open_int Try.underlying3 (hval 1 3 v1 rfl rfl) h1
  obtain ⟨a2, rfl, rfl, rfl, w2⟩ := open_int Try.underlying22 (hval 2 22 v2 rfl rfl) h2
  clear hA0 hval0
  refine (walk v0 a1 a2 W w0 w1 w2).mono fun e W' ⟨he, bel⟩ => ?_
  subst he
  exact ⟨_, rfl, _, _, _, [], _, [], hW', trodAll_mk1 (shut_bool Try.underlying4 _), (trodAll_cons_mk (Below.trod laidOut (by kernel_rfl) (of_decide_eq_true (by kernel_rfl)) k0 bel lt0) (trodAll_cons_mk (shut_int Try.underlying3 w1) (trodAll_cons_mk (shut_int Try.underlying22 w2) trodAll_mk0))), rfl, bel.frame _, fun h => by cases h⟩

theorem over : Rows.regsBackRow.holds Try.pinned (OpenSpec.ofChange Rows.regsBackSpec) :=
  OpenClaim.holds_of_wide 3 Try.f3 rfl rfl rfl rfl rfl rfl rfl ⟨rfl, rfl, rfl, rfl, rfl⟩ rfl rfl rfl rfl rfl (by kernel_rfl) Try.func3 (by kernel_rfl)
    (of_decide_eq_true (by kernel_rfl)) (by unfold Func.isWrapper; first | (rw [if_pos (by decide +kernel)]; kernel_rfl) | (rw [if_neg (by decide +kernel)]; exact ⟨rfl, rfl⟩))
    (fun os started H enc _ => lifted os started H enc)

/-- ████ THE STATEMENT ████ -/
theorem proved : Rows.RegsBackSaid := over
#print axioms proved
end Go.Proofs.Ytbjpflomibcenaa.regsBack
