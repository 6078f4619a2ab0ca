/- Any registers as bytes, the registers of any bytes, whether registers may be, and any word of them, or the errors, are the document's own; the statement holds for every registers, every slice of bytes and every number of a word, where the library's one variable holds what its own text lays, which the card ties. -/
import Derived.Test.YtbjpflomibcenaaDoorRows
import Derived.Test.YtbjpflomibcenaaDoorRgZ
import Derived.Test.YtbjpflomibcenaaDoorRgF
import Derived.Test.YtbjpflomibcenaaDoorFlatTy
import Derived.Deep.Cut
import Derived.Test.YtbjpflomibcenaaDoorCards
import Derived.Test.YtbjpflomibcenaaDoorTie
import Derived.LaidMore
import Derived.LaidLaws
import Derived.LaidHandle
import Derived.Test.YtbjpflomibcenaaDoorLay
import Derived.Test.YtbjpflomibcenaaDoorPost
import Derived.WalkKit
import Derived.ProofKit
import Derived.OpenShut
import Derived.ShutString
import Derived.ChangeOld
import Derived.Below
namespace Go.Proofs.YtbjpflomibcenaaDoor.regsForms
open Go.ChangeShapes Go.WideShapes Go.ChangeAt Go.RowKit
open Go.ChangeMaps (open_string shut_string)
set_option linter.unusedVariables false

theorem own : ownKnob Tryd.prog.godebug = none := by kernel_rfl
theorem laidOut : laidOutB Tryd.prog = true := by kernel_rfl

/-- WHAT THE WALK IS TOLD OF A SLICE OF INTEGERS THAT CAME IN: it is nil; or it leads to a row of 'cap' cells, the numbers 'zs' (the first 'len' are its elements, the rest its spare room), each fitting its kind. -/
def IsRow (k : IntKind) (w : World) (a : Option Addr) (len cap : Nat) (zs : List Int) : Prop :=
  (a = none ∧ len = 0 ∧ cap = 0 ∧ zs = []) ∨
  ∃ x, a = some x ∧ len ≤ cap ∧ cap ≤ maxLen ∧ zs.length = cap ∧ (∀ i, i < zs.length → w.cell? (x.add i) = some (.int k (zs.getD i 0))) ∧ ∀ n ∈ zs, (Lit.int k n).wf = true

/-! ### STEP 1: THE WALK: the Go text returns true, AND WRITES NOTHING THAT WAS THERE: 'Below w.heap.size w w'' (Derived/Below.lean: '.refl', '.alloc', '.drew', '.setCell' at a new block, '.trans'). Open each 'IsRow' by 'rcases' AHEAD of 'go_enter'; part every test ahead of the walk. -/
set_option maxHeartbeats 8000000 in
set_option maxRecDepth 100000 in
theorem walk (v0 : Value) (a1 : Option Addr) (len1 cap1 : Nat) (z1 : List Int) (a2 : Int) (w : World) (w0 : Flat [some .u32, some .u32, some .u32, some .u32, some .u32, some .u32, some .u32, some .u32, some .u32, some .u32, some .u32, some .u32, some .u32, some .u32, some .u32, some .u32, some .u32, some .u32, some .u64, some .u64, some .u64, some .u64] v0) (w1 : IsRow .u8 w a1 len1 cap1 z1) (w2 : (Lit.int .i64 a2).wf = true) (hl : Laid w) :
    Calls Tryd.prog 3 #[v0, .slice a1 len1 cap1, .int .i64 a2] w fun e w' => e = .returned (.bool true) ∧ Below w.heap.size w w' := by
  obtain ⟨x, f, rfl, hx, hf⟩ := flat_rc w0
  obtain ⟨Y, F, E, hdec⟩ := decode_both a1 len1 cap1 z1 w w1
  have hm : len1 ≤ maxLen := by
    rcases w1 with ⟨_, h, _⟩ | ⟨x, _, h1, h2, _⟩
    · unfold maxLen; omega
    · omega
  clear w0 w1 w2
  have q1 := fun w => encode_str hx hf w
  have q2 := fun w => rencode_str hx hf w
  have q5 := fun w => get_any x f hf a2 w
  have q6 := fun w => check_any x f w (hx 17 (by omega)).1
  generalize cke (x 17) = C at *
  generalize strOfNums (enb x f) = S at *
  have hq := fun w => rc_equal Y F w
  have B1 : Box (w.alloc (.cells (rc x f).toArray 27)) w.heap.size (rc x f).toArray 27 := Box.here w _ _ _ rfl
  have n1 : New w (w.alloc (.cells (rc x f).toArray 27)) := (New.refl w).alloc _ _
  have hsz : (w.alloc (.cells (rc x f).toArray 27)).heap.size = w.heap.size + 1 := by simp
  go_enter Tryd.func3, Tryd.ntmps3
  go_upto_region 1 with fail
  generalize w.alloc (.cells (rc x f).toArray 27) = W1 at *
  go_wp2_with (first | ((with_reducible refine at_load 27 ?_); refine wpList_load_box rfl 27 _ rfl (w.heap.size) rfl (rc x f) 27 _ (B1) Tryd.underlying27 rfl (by rw [rc_len]; exact rr_info) ?_) | ((with_reducible refine at_store 29 ?_); refine wpList_store_box rfl 29 _ _ rfl (w.heap.size + 1) (rc x f) (rc (fun _ => 0) (fun _ => 0)) 29 rfl rfl (Box.here _ _ _ _ hsz.symm) (by rw [rc_len, rc_len]) (by rw [rc_len]; exact ar_info) (rc_one _ _) ?_))
  intro W2 C2 f2
  have B2 := (B1.alloc (.cells (rc (fun _ => 0) fun _ => 0).toArray 29)).far f2 (by omega)
  have n2 : New w W2 := f2.new (n1.alloc _ _) (by omega)
  clear B1 n1 f2 hsz
  go_wp2_with ((with_reducible refine at_load 29 ?_); refine wpList_load_box rfl 29 _ rfl (w.heap.size + 1) rfl (rc x f) 29 _ (C2) Tryd.underlying29 rfl (by rw [rc_len]; exact ar_info) ?_)
  refine (q1 _).mono ?_
  rintro e W3 ⟨p1, rfl, s1, n3⟩
  have B3 := B2.new n3
  have C3 := C2.new n3
  have N3 := n2.trans n3
  clear B2 C2 n2 n3 q1
  go_wp2_with ((with_reducible refine at_load 27 ?_); refine wpList_load_box rfl 27 _ rfl (w.heap.size) rfl (rc x f) 27 _ (B3) Tryd.underlying27 rfl (by rw [rc_len]; exact rr_info) ?_)
  refine (q2 _).mono ?_
  rintro e W4 ⟨p2, rfl, s2, n4⟩
  have B4 := B3.new n4
  have C4 := C3.new n4
  have N4 := N3.trans n4
  have s1 := s1.new n4
  clear B3 C3 N3 n4 q2
  have q3 := (hdec W4 N4).1
  go_wp2_with fail
  refine q3.mono ?_
  rintro e W5 ⟨rfl, n5⟩
  go_wp2_with ((with_reducible refine at_store 29 ?_); refine wpList_store_box rfl 29 _ _ rfl (W5.heap.size) (rc Y F) (rc (fun _ => 0) (fun _ => 0)) 29 rfl rfl (Box.here _ _ _ _ rfl) (by rw [rc_len, rc_len]) (by rw [rc_len]; exact ar_info) (rc_one _ _) ?_)
  intro W6 D6 f6
  have B6 := ((B4.new n5).alloc (.cells (rc (fun _ => 0) fun _ => 0).toArray 29)).far f6 (by have := (B4.new n5).lt; omega)
  have C6 := ((C4.new n5).alloc (.cells (rc (fun _ => 0) fun _ => 0).toArray 29)).far f6 (by have := (C4.new n5).lt; omega)
  have n46 : New W4 W6 := f6.new (n5.alloc _ _) n5.size
  have n6 : New w W6 := N4.trans n46
  have s1 := s1.new n46
  have s2 := s2.new n46
  generalize W5.heap.size = c1 at *
  clear B4 C4 N4 n5 f6 n46 q3
  have q4 := (hdec W6 n6).2
  go_wp2_with fail
  refine q4.mono ?_
  rintro e W7 ⟨rfl, n7⟩
  go_wp2_with ((with_reducible refine at_store 27 ?_); refine wpList_store_box rfl 27 _ _ rfl (W7.heap.size) (rc Y F) (rc (fun _ => 0) (fun _ => 0)) 27 rfl rfl (Box.here _ _ _ _ rfl) (by rw [rc_len, rc_len]) (by rw [rc_len]; exact rr_info) (rc_one _ _) ?_)
  intro W8 E8 f8
  have B8 := ((B6.new n7).alloc (.cells (rc (fun _ => 0) fun _ => 0).toArray 27)).far f8 (by have := (B6.new n7).lt; omega)
  have C8 := ((C6.new n7).alloc (.cells (rc (fun _ => 0) fun _ => 0).toArray 27)).far f8 (by have := (C6.new n7).lt; omega)
  have D8 := ((D6.new n7).alloc (.cells (rc (fun _ => 0) fun _ => 0).toArray 27)).far f8 (by have := (D6.new n7).lt; omega)
  have n68 : New W6 W8 := f8.new (n7.alloc _ _) n7.size
  have n8 : New w W8 := n6.trans n68
  have s1 := s1.new n68
  have s2 := s2.new n68
  generalize W7.heap.size = c2 at *
  clear B6 C6 D6 n6 n7 f8 n68 q4 hdec
  go_wp2_with ((with_reducible refine at_load 29 ?_); refine wpList_load_box rfl 29 _ rfl (w.heap.size + 1) rfl (rc x f) 29 _ (C8) Tryd.underlying29 rfl (by rw [rc_len]; exact ar_info) ?_)
  refine (q5 _).mono ?_
  rintro e W9 ⟨rfl, n9⟩
  have B9 := B8.new n9
  have C9 := C8.new n9
  have D9 := D8.new n9
  have E9 := E8.new n9
  have N9 := n8.trans n9
  have s1 := s1.new n9
  have s2 := s2.new n9
  clear B8 C8 D8 E8 n8 n9 q5
  have r1 := s1 W9 (New.refl _)
  have r2 := s2 W9 (New.refl _)
  clear s1 s2
  go_wp2_with fail
  refine (num_er C _ (hl.new N9)).mono ?_
  rintro e W10 ⟨rfl, n10⟩
  have B10 := B9.new n10
  have C10 := C9.new n10
  have D10 := D9.new n10
  have E10 := E9.new n10
  have N10 := N9.trans n10
  clear B9 C9 D9 E9 N9 n10 r1 r2
  go_wp2_with (first | ((with_reducible refine at_load 29 ?_); refine wpList_load_wbox rfl 29 _ rfl (c1) rfl (rc Y F) 29 _ (D10) Tryd.underlying29 rfl (by rw [rc_len]; exact ar_info) ?_) | ((with_reducible refine at_load 27 ?_); refine wpList_load_wbox rfl 27 _ rfl (c2) rfl (rc Y F) 27 _ (E10) Tryd.underlying27 rfl (by rw [rc_len]; exact rr_info) ?_))
  refine (num_er E _ (hl.new N10)).mono ?_
  rintro e W11 ⟨rfl, n11⟩
  have B11 := B10.new n11
  have C11 := C10.new n11
  have N11 := N10.trans n11
  clear B10 C10 D10 E10 N10 n11
  go_wp2_with ((with_reducible refine at_load 29 ?_); refine wpList_load_wbox rfl 29 _ rfl (w.heap.size + 1) rfl (rc x f) 29 _ (C11) Tryd.underlying29 rfl (by rw [rc_len]; exact ar_info) ?_)
  refine (q6 _).mono ?_
  rintro e W12 ⟨rfl, n12⟩
  have B12 := B11.new n12
  have N12 := N11.trans n12
  clear B11 C11 N11 n12 q6
  by_cases c0 : C = 0
  case' pos =>
    subst c0
    rw [erN_zero]
  case' neg =>
    rw [erN_pos c0]
    have d0 : (C == 0) = false := by simpa using c0
  all_goals
    by_cases ok : okw a2
    · obtain ⟨k, hk, rfl⟩ : ∃ k : Nat, k < 26 ∧ a2 = (k : Int) := ⟨a2.toNat, by unfold okw at ok; omega, by unfold okw at ok; omega⟩
      have e1 : gtv x f (k : Int) = wd x f k := by unfold gtv; rw [if_pos ok]; rfl
      have e2 : gte (k : Int) = 0 := by unfold gte; rw [if_pos ok]
      have q7 := fun w => rword_any x f hf k hk w
      rw [e1, e2, erN_zero]
      generalize wd x f k = v at *
      have k0 : (0 : Int) ≤ (k : Int) := by omega
      have k1 : (k : Int) < 26 := by omega
      have k2 : ¬ 25 < (k : Int) := by omega
      have k3 : ¬ (k : Int) < 0 := by omega
      clear ok hx hf e1 e2 hq hl
      go_wp2_with ((with_reducible refine at_load 27 ?_); refine wpList_load_wbox rfl 27 _ rfl (w.heap.size) rfl (rc x f) 27 _ (B12) Tryd.underlying27 rfl (by rw [rc_len]; exact rr_info) ?_)
      refine (q7 _).mono ?_
      rintro e W13 ⟨rfl, n13⟩
      have N13 := N12.trans n13
      clear B12 N12 n13 q7
      go_wp2_with fail
      refine (rsure_any _).mono ?_
      rintro e W14 ⟨rfl, n14⟩
      go_wp2
      go_ret
      exact ⟨rfl, N13.trans n14⟩
    · have e1 : gtv x f a2 = 0 := by unfold gtv; rw [if_neg ok]
      have e2 : gte a2 = 22 := by unfold gte; rw [if_neg ok]
      rw [e1, e2]
      have hl12 := hl.new N12
      clear hx hf e1 e2 hq hl
      by_cases cn : a2 < 0
      case' neg =>
        have k2 : 25 < a2 := by unfold okw at ok; omega
        have k3 : decide (a2 < 0) = false := decide_eq_false cn
        have k4 : decide (25 < a2) = true := decide_eq_true k2
      all_goals
        clear ok
        go_wp2_with fail
        refine (num_er 22 _ hl12).mono ?_
        rintro e W13 ⟨rfl, n13⟩
        have N13 := N12.trans n13
        clear B12 N12 n13 hl12
        go_wp2_with fail
        refine (rsure_any _).mono ?_
        rintro e W14 ⟨rfl, n14⟩
        go_wp2
        go_ret
        exact ⟨rfl, N13.trans n14⟩

/-! ### THE ROW's STEP: WRITTEN OUT: LEAVE IT -/
theorem door_met (os : Os) (args : Array Value) : laidMetH Tryd.prog Rows.regsFormsRow.laid ((World.doorLaid Tryd.prog 400 os).forCall (fun _ _ => 0) ⟨#[], args, []⟩).memory :=
  laidMetH_of_parts3 (fuel := 8) (laidMet_of_run' 8 (by kernel_rfl) (by kernel_rfl)) (by kernel_rfl) (by kernel_rfl)
set_option maxRecDepth 100000 in
theorem lifted (os : Os) (started : os.Started) (H : Type) (enc : TypeId × Value → H) :
    ReturnsInHanded {} Tryd.checked os 3 .any (fun w args => (Rows.regsFormsSpec.pre enc Tryd.prog Tryd.f3 [] false w args ∧ laidMetH Tryd.prog Rows.regsFormsRow.laid w) ∧ sizedMet enc Tryd.prog Tryd.f3 (OpenSpec.ofChange Rows.regsFormsSpec) false w args) (Rows.regsFormsSpec.post enc Tryd.prog Tryd.f3 false true false false) := by
  refine returnsInHanded_of_change_and (C := Tryd.checked) (X := fun w _ => laidMetH Tryd.prog Rows.regsFormsRow.laid w) (fun _ _ _ hh h => h.of_heap hh) own started (by kernel_rfl) Tryd.func3
    (ChangeSpec.witness_shaped (enc := enc) (C := Tryd.checked) (os := os) (X := fun w _ => laidMetH Tryd.prog Rows.regsFormsRow.laid w) false (World.doorLaid Tryd.prog 400 os) #[.agg #[.int .u32 0, .int .u32 0, .int .u32 0, .int .u32 0, .int .u32 0, .int .u32 0, .int .u32 0, .int .u32 0, .int .u32 0, .int .u32 0, .int .u32 0, .int .u32 0, .int .u32 0, .int .u32 0, .int .u32 0, .int .u32 0, .int .u32 0, .int .u32 0, .int .u64 0, .int .u64 0, .int .u64 0, .int .u64 0], .slice none 0 0, .int .i64 0] 8 rfl (World.shaped_of_RefB (by kernel_rfl) (by kernel_rfl)) (by kernel_rfl) (by kernel_rfl) (by kernel_rfl) (door_met os _)) ?_
  intro W base args ds gs before hval0 hW _ _ hL _
  have hL' : laidMet Tryd.prog [] W ∧ handlesMet Tryd.prog [("errors.errorType", Rows.laid_errors_errorType)] W := hL
  have hval : ∀ (j : Nat) t v, Tryd.f3.params[j]? = some t → args[j]? = some v → Value.okWide Tryd.prog W .any base t v := hval0
  have hW' := hW
  obtain ⟨p, q, hA0, hV, rfl, hfz, hnd⟩ := hW
  have hA : DataW.TrodAll enc Tryd.prog W 0 (fun _ => true) true Tryd.f3.params.toList args.toList ds p := hA0
  rw [Tryd.params3] at hA hval
  obtain ⟨v0, vs0, d0, ds0, p0, q0, hargs, rfl, rfl, h0, r0⟩ := trodAll_cons hA
  obtain ⟨v1, vs1, d1, ds1, p1, q1, rfl, rfl, rfl, h1, r1⟩ := trodAll_cons r0
  obtain ⟨v2, vs2, d2, ds2, p2, q2, rfl, rfl, rfl, h2, r2⟩ := trodAll_cons r1
  obtain ⟨rfl, rfl, rfl⟩ := trodAll_nil r2
  obtain rfl : args = #[v0, v1, v2] := by cases args; simp_all
  obtain ⟨rfl, rfl⟩ := trodVars_none hV
  have k0 := h0
  have lt0 : ∀ x ∈ p0, x.block < W.heap.size := by obtain ⟨m, hm⟩ := k0; exact DataW.trod_lt m _ _ _ hm
  have w0 : Flat [some .u32, some .u32, some .u32, some .u32, some .u32, some .u32, some .u32, some .u32, some .u32, some .u32, some .u32, some .u32, some .u32, some .u32, some .u32, some .u32, some .u32, some .u32, some .u64, some .u64, some .u64, some .u64] v0 := flat_of_ty (ks := [some .u32, some .u32, some .u32, some .u32, some .u32, some .u32, some .u32, some .u32, some .u32, some .u32, some .u32, some .u32, some .u32, some .u32, some .u32, some .u32, some .u32, some .u32, some .u64, some .u64, some .u64, some .u64]) Tryd.underlying27 (by
    obtain ⟨ks, hk, e⟩ : ∃ ks, FlatTy Tryd.prog 27 ks ∧ ks = [some .u32, some .u32, some .u32, some .u32, some .u32, some .u32, some .u32, some .u32, some .u32, some .u32, some .u32, some .u32, some .u32, some .u32, some .u32, some .u32, some .u32, some .u32, some .u64, some .u64, some .u64, some .u64] := ⟨_, (.struct Tryd.underlying27 (.cons rfl (.array Tryd.underlying23 (.int Tryd.underlying22) (by kernel_rfl)) (by kernel_rfl) (.cons rfl (.int Tryd.underlying22) (by kernel_rfl) (.cons rfl (.int Tryd.underlying22) (by kernel_rfl) (.cons rfl (.array Tryd.underlying25 (.int Tryd.underlying24) (by kernel_rfl)) (by kernel_rfl) .nil))))), rfl⟩
    rw [← e]; exact hk) (by kernel_rfl) (hval 0 27 v0 rfl rfl) h0
  obtain ⟨a1, len1, cap1, rfl⟩ := okWide_slice Tryd.underlying28 (hval 1 28 v1 rfl rfl)
  have k1 := h1
  have lt1 : ∀ x ∈ p1, x.block < W.heap.size := by obtain ⟨m, hm⟩ := k1; exact DataW.trod_lt m _ _ _ hm
  obtain ⟨z1, w1⟩ : ∃ zs, IsRow .u8 W a1 len1 cap1 zs := by
    obtain ⟨fuel, hf⟩ := h1
    rcases open_ints Tryd.underlying28 Tryd.underlying5 (by kernel_rfl) hf with ⟨hcs, _⟩ | ⟨x, l, c, zs, hcs, _, hl, hm, hz, _, hcell, hwz⟩
    · simp [Value.cells] at hcs
      obtain ⟨rfl, rfl, rfl⟩ := hcs
      exact ⟨[], .inl ⟨rfl, rfl, rfl, rfl⟩⟩
    · simp [Value.cells] at hcs
      obtain ⟨rfl, rfl, rfl⟩ := hcs
      exact ⟨zs, .inr ⟨_, rfl, hl, hm, by simpa using hz, hcell, hwz⟩⟩
  obtain ⟨a2, rfl, rfl, rfl, w2⟩ := open_int Tryd.underlying3 (hval 2 3 v2 rfl rfl) h2
  clear hA0 hval0
  refine (walk v0 a1 len1 cap1 z1 a2 W w0 w1 w2 (handle_of_hs hL'.2)).mono fun e W' ⟨he, bel⟩ => ?_
  subst he
  exact ⟨_, rfl, _, _, _, [], _, [], hW', trodAll_mk1 (shut_bool Tryd.underlying4 _), (trodAll_cons_mk (Below.trod laidOut (by kernel_rfl) (of_decide_eq_true (by kernel_rfl)) k0 bel lt0) (trodAll_cons_mk (Below.trod laidOut (by kernel_rfl) (of_decide_eq_true (by kernel_rfl)) k1 bel lt1) (trodAll_cons_mk (shut_int Tryd.underlying3 w2) trodAll_mk0))), rfl, bel.frame _, fun h => by cases h⟩

theorem over : Rows.regsFormsRow.holds Tryd.pinned (OpenSpec.ofChange Rows.regsFormsSpec) :=
  OpenClaim.holds_of_wide 3 Tryd.f3 rfl rfl rfl rfl rfl rfl rfl ⟨rfl, rfl, rfl, rfl, rfl⟩ rfl rfl rfl rfl rfl (by kernel_rfl) Tryd.func3 (by kernel_rfl)
    (of_decide_eq_true (by kernel_rfl)) (by unfold Func.isWrapper; first | (rw [if_pos (by decide +kernel)]; kernel_rfl) | (rw [if_neg (by decide +kernel)]; exact ⟨rfl, rfl⟩))
    (fun os started H enc _ => lifted os started H enc)

theorem proved : Rows.RegsFormsSaid := over
theorem card : Rows.RegsFormsCardSaid :=
  Claim7.holds_tied_plain_at .later [] [.handle] true (true, "b84bb25fee77fca413e60526f86825a40f48ccc0955e0bf72313f5aea59f9997") true
    over (fun _ h => by cases h) (by kernel_rfl) (fun _ h => by cases h) regsForms_row_tie rfl ⟨rfl, rfl⟩ (by kernel_rfl) rfl
    (fun f fn hf hfn => by
      obtain rfl : f = 3 := Option.some.inj ((show Tryd.prog.funcNamed "halter/halterlaw10.RegsForms" = some 3 by kernel_rfl).symm.trans hf) |>.symm
      obtain rfl : fn = Tryd.f3 := (Option.some.inj (Tryd.func3.symm.trans hfn)).symm
      exact ⟨by kernel_rfl, fun j t ht => by
        rw [Tryd.params3] at ht
        have hm : t ∈ [27, 28, 3] := by have := Array.mem_of_getElem? ht; simpa using this
        have hall : ([27, 28, 3].all fun u => !Tryd.prog.wantsStandIn u) = true := by kernel_rfl
        exact (show Tryd.prog.wantsStandIn t = false by simpa using List.all_eq_true.1 hall t hm)⟩)
    (by kernel_rfl)
#print axioms card
end Go.Proofs.YtbjpflomibcenaaDoor.regsForms
