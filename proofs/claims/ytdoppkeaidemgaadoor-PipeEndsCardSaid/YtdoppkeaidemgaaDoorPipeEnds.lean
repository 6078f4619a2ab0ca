/- Where nobody writes any more what is in a pipe can still be read, and then nothing, without waiting; where nobody reads it has no bytes, and nothing can be written; the statement holds for every input, where the listed variable holds what the library's own text lays, which the card ties. -/
import Derived.Test.YtdoppkeaidemgaaDoorRows
import Derived.Test.YtdoppkeaidemgaaDoorPiD
import Derived.Test.YtdoppkeaidemgaaDoorPiE
import Derived.Test.YtdoppkeaidemgaaDoorLay
import Derived.Test.YtdoppkeaidemgaaDoorCards
import Derived.Test.YtdoppkeaidemgaaDoorTie
import Derived.LaidMore
import Derived.LaidLaws
import Derived.LaidHandle
import Derived.Test.YtdoppkeaidemgaaDoorLay
import Derived.Test.YtdoppkeaidemgaaDoorPost
import Derived.WalkKit
import Derived.ProofKit
import Derived.OpenShut
import Derived.ShutString
import Derived.ChangeOld
import Derived.Below
namespace Go.Proofs.YtdoppkeaidemgaaDoor.pipeEnds
open Go.ChangeShapes Go.WideShapes Go.ChangeAt Go.RowKit
open Go.ChangeMaps (open_string shut_string)
set_option linter.unusedVariables false

theorem own : ownKnob Tryd.prog.godebug = none := by kernel_rfl
theorem laidOut : laidOutB Tryd.prog = true := by kernel_rfl

/-- WHAT THE WALK IS TOLD OF A SLICE OF INTEGERS THAT CAME IN: it is nil; or it leads to a row of 'cap' cells, the numbers 'zs' (the first 'len' are its elements, the rest its spare room), each fitting its kind. -/
def IsRow (k : IntKind) (w : World) (a : Option Addr) (len cap : Nat) (zs : List Int) : Prop :=
  (a = none ∧ len = 0 ∧ cap = 0 ∧ zs = []) ∨
  ∃ x, a = some x ∧ len ≤ cap ∧ cap ≤ maxLen ∧ zs.length = cap ∧ (∀ i, i < zs.length → w.cell? (x.add i) = some (.int k (zs.getD i 0))) ∧ ∀ n ∈ zs, (Lit.int k n).wf = true

theorem isrow_byts {w : World} {a : Option Addr} {len cap : Nat} {z : List Int} (h : IsRow .u8 w a len cap z) : ∃ l : List Int, l.length = len ∧ Byts w (.slice a len cap) l ∧ Oct l := by
  rcases h with ⟨rfl, rfl, rfl, rfl⟩ | ⟨x, rfl, h1, h2, h3, h4, h5⟩
  · exact ⟨[], rfl, Byts.nil w, Oct.nil⟩
  · have hl : (z.take len).length = len := by rw [List.length_take]; omega
    refine ⟨z.take len, hl, ⟨some x, cap, by rw [hl], ⟨by rw [hl]; omega, by omega⟩, fun i hi => ⟨x, rfl, ?_⟩⟩, fun n hn => ?_⟩
    · rw [hl] at hi
      rw [h4 i (by omega), getD_eq _ _ (by omega), getD_eq _ _ (by omega), List.getElem_take]
    · exact u8_bd (h5 n (List.mem_of_mem_take hn))
/-! ### STEP 1: THE WALK: the Go text returns true, AND WRITES NOTHING THAT WAS THERE: 'Below w.heap.size w w'' (Derived/Below.lean: '.refl', '.alloc', '.drew', '.setCell' at a new block, '.trans'). Open each 'IsRow' by 'rcases' AHEAD of 'go_enter'; part every test ahead of the walk. -/
set_option maxHeartbeats 8000000 in
set_option maxRecDepth 100000 in
theorem walk (a0 : Option Addr) (len0 cap0 : Nat) (z0 : List Int) (w : World) (w0 : IsRow .u8 w a0 len0 cap0 z0) (hl : Laid w) :
    Calls Tryd.prog 5 #[.slice a0 len0 cap0] w fun e w' => e = .returned (.bool true) ∧ Below w.heap.size w w' := by
  obtain ⟨b, hbl, BB, bO⟩ := isrow_byts w0
  clear w0
  subst hbl
  have cS := fun W (q : Laid W) => psure_any W q
  by_cases hb : 64 < b.length
  · have hb' : (64 : Int) < (b.length : Int) := by omega
    have c := cS w hl
    generalize b.length = bl at *
    go_enter Tryd.func5, Tryd.ntmps5
    go_wp2_with fail
    refine c.mono ?_
    rintro e w1 ⟨rfl, n1⟩
    go_wp2
    go_ret
    exact ⟨rfl, n1⟩
  · have hb' : ¬ (64 : Int) < (b.length : Int) := by omega
    have hb2 : b.length ≤ 64 := by omega
    have HB := Lib.hid hb2
    have F3 := Lib.hid (pe3 hb2)
    have F4 := Lib.hid (pe4 hb2)
    have F5 := Lib.hid (pe5 hb2)
    have F7 := Lib.hid (pe7 hb2)
    clear hb2
    have BB := Lib.hid BB
    have c := popen_any (p := Pp.zero) (Byts.nil w) false
    go_enter Tryd.func5, Tryd.ntmps5
    go_wp2_with fail
    refine c.mono ?_
    rintro e w1 ⟨v1, rfl, b1, -, m1⟩
    rw [pe1.1, pe1.2, er0]
    rw [pe1.2] at b1
    unfold PpV
    obtain ⟨q1, c1, rfl⟩ := b1.shape
    change Byts w1 (.slice q1 0 c1) [] at b1
    dsimp only [List.length_nil, Pp.zero]
    have N1 := (New.trans (New.refl w) m1).alloc #[.slice q1 (0) c1, .int .i64 1, .int .i64 0] 26
    have a1 := (New.refl w1).alloc #[.slice q1 (0) c1, .int .i64 1, .int .i64 0] 26
    have k1 := m1.trans a1
    have c := popen_any (p := ⟨[], 1, 0⟩) (b1.new a1) true
    clear m1 k1 a1
    go_wp2_with fail
    refine c.mono ?_
    rintro e w2 ⟨v2, rfl, b2, -, m2⟩
    rw [pe2.1, pe2.2, er0]
    rw [pe2.2] at b2
    unfold PpV
    obtain ⟨q2, c2, rfl⟩ := b2.shape
    change Byts w2 (.slice q2 0 c2) [] at b2
    dsimp only [List.length_nil, Pp.zero]
    have N2 := (New.trans N1 m2).alloc #[.slice q2 (0) c2, .int .i64 1, .int .i64 1] 26
    have a2 := (New.refl w2).alloc #[.slice q2 (0) c2, .int .i64 1, .int .i64 1] 26
    have k2 := m2.trans a2
    have BI := Lib.hid (BB.out.new N2)
    have c := pwrite_any (p := ⟨[], 1, 1⟩) (b2.new a2) BI.out (by have := HB.out; omega)
    clear m2 k2 a2 N1 b1
    go_wp2_with fail
    refine c.mono ?_
    rintro e w3 ⟨v3, rfl, b3, -, m3⟩
    rw [F3.out.1, F3.out.2.1, F3.out.2.2, er0]
    rw [F3.out.2.2] at b3
    unfold PpV
    obtain ⟨q3, c3, rfl⟩ := b3.shape
    dsimp only
    have N3 := (New.trans N2 m3).alloc #[.slice q3 (b.length) c3, .int .i64 1, .int .i64 1] 26
    have a3 := (New.refl w3).alloc #[.slice q3 (b.length) c3, .int .i64 1, .int .i64 1] 26
    have k3 := m3.trans a3
    have bx3 := Box.here w3 w3.heap.size #[.slice q3 b.length c3, .int .i64 1, .int .i64 1] 26 rfl
    have c := pclose_any (p := ⟨b, 1, 1⟩) (b3.new a3) true
    have y3 := b3.new a3
    clear m3 k3 a3 N2 b2 b3
    go_wp2_with fail
    refine c.mono ?_
    rintro e w4 ⟨v4, rfl, b4, -, m4⟩
    rw [F4.out.1, F4.out.2, er0]
    rw [F4.out.2] at b4
    unfold PpV
    obtain ⟨q4, c4, rfl⟩ := b4.shape
    dsimp only
    have N4 := (New.trans N3 m4).alloc #[.slice q4 (b.length) c4, .int .i64 1, .int .i64 0] 26
    have a4 := (New.refl w4).alloc #[.slice q4 (b.length) c4, .int .i64 1, .int .i64 0] 26
    have k4 := m4.trans a4
    have bx3 := bx3.new k4
    have y3 := y3.new k4
    have c := pread_any (p := ⟨b, 1, 0⟩) (b4.new a4) 64 (by omega)
    clear m4 k4 a4 N3
    go_wp2_with fail
    refine c.mono ?_
    rintro e w5 ⟨o5, v5, rfl, d5, b5, -, -, m5⟩
    rw [F5.out.1, F5.out.2.2, er0]
    rw [F5.out.2.1] at d5
    rw [F5.out.2.2] at b5
    unfold PpV
    obtain ⟨q5, c5, rfl⟩ := b5.shape
    change Byts w5 (.slice q5 0 c5) [] at b5
    dsimp only [List.length_nil, Pp.zero]
    have N5 := (New.trans N4 m5).alloc #[.slice q5 (0) c5, .int .i64 1, .int .i64 0] 26
    have a5 := (New.refl w5).alloc #[.slice q5 (0) c5, .int .i64 1, .int .i64 0] 26
    have k5 := m5.trans a5
    have bx3 := bx3.new k5
    have y3 := y3.new k5
    have d5 := d5.new a5
    have c := pread_any (p := ⟨[], 1, 0⟩) (b5.new a5) 64 (by omega)
    clear m5 k5 a5 N4 b4
    go_wp2_with fail
    refine c.mono ?_
    rintro e w6 ⟨o6, v6, rfl, d6, b6, -, -, m6⟩
    rw [pe6.1, pe6.2.2, er0]
    rw [pe6.2.1] at d6
    rw [pe6.2.2] at b6
    unfold PpV
    obtain ⟨q6, c6, rfl⟩ := b6.shape
    change Byts w6 (.slice q6 0 c6) [] at b6
    dsimp only [List.length_nil, Pp.zero]
    have N6 := (New.trans N5 m6).alloc #[.slice q6 (0) c6, .int .i64 1, .int .i64 0] 26
    have a6 := (New.refl w6).alloc #[.slice q6 (0) c6, .int .i64 1, .int .i64 0] 26
    have k6 := m6.trans a6
    have bx3 := bx3.new k6
    have y3 := y3.new k6
    have d5 := d5.new k6
    obtain ⟨l3, x0, x1, x2, -, -, -⟩ := bx3.three'
    obtain ⟨oq, oc, rfl⟩ := d6.shape
    have c := pclose_any (p := ⟨b, 1, 1⟩) y3 false
    clear m6 k6 a6 N5 b5 b6
    go_wp2_with fail
    refine c.mono ?_
    rintro e w7 ⟨v7, rfl, b7, -, m7⟩
    rw [F7.out.1, F7.out.2, er0]
    rw [F7.out.2] at b7
    unfold PpV
    obtain ⟨q7, c7, rfl⟩ := b7.shape
    change Byts w7 (.slice q7 0 c7) [] at b7
    dsimp only [List.length_nil, Pp.zero]
    have N7 := (New.trans N6 m7).alloc #[.slice q7 (0) c7, .int .i64 0, .int .i64 1] 26
    have a7 := (New.refl w7).alloc #[.slice q7 (0) c7, .int .i64 0, .int .i64 1] 26
    have k7 := m7.trans a7
    have d5 := d5.new k7
    have bx7 := Box.here w7 w7.heap.size #[.slice q7 (0) c7, .int .i64 0, .int .i64 1] 26 rfl
    have BY : Byts ((w7.alloc (.cells #[.slice q7 (0) c7, .int .i64 0, .int .i64 1] 26)).alloc (.cells #[.int .u8 1] 5)) (.slice (some ⟨(w7.alloc (.cells #[.slice q7 (0) c7, .int .i64 0, .int .i64 1] 26)).heap.size, 0, none⟩) 1 1) [1] := byts_of_block (l := [1]) (heap_alloc_new _ _) (by simp [maxLen])
    rw [World.size_alloc] at BY
    have N7b := N7.alloc #[.int .u8 1] 5
    have k7b := (New.refl (w7.alloc (.cells #[.slice q7 (0) c7, .int .i64 0, .int .i64 1] 26))).alloc #[.int .u8 1] 5
    have bx7 := bx7.new k7b
    have d5 := d5.new k7b
    have c := pwrite_any (p := ⟨[], 0, 1⟩) (b7.new (a7.trans k7b)) BY (by simp)
    have C8 := Lib.hid c
    have bx7 := Lib.hid bx7
    have d5 := Lib.hid d5
    have k7b := Lib.hid k7b
    clear m7 k7 a7 N6 b7 bx3 y3 l3 x0 x1 x2 BY c
    go_wp2_with fail
    have c := C8.out
    have d5 := d5.out
    have bx7 := bx7.out
    clear C8
    refine c.mono ?_
    rintro e w8 ⟨v8, rfl, b8, -, m8⟩
    rw [pe8.1, pe8.2.1, pe8.2.2]
    rw [pe8.2.2] at b8
    unfold PpV
    obtain ⟨q8, c8, rfl⟩ := b8.shape
    change Byts w8 (.slice q8 0 c8) [] at b8
    dsimp only [List.length_nil, Pp.zero]
    have N8 := (New.trans N7b m8).alloc #[.slice q8 (0) c8, .int .i64 0, .int .i64 0] 26
    have a8 := (New.refl w8).alloc #[.slice q8 (0) c8, .int .i64 0, .int .i64 0] 26
    have k8 := m8.trans a8
    have d5 := d5.new k8
    have bx7 := bx7.new k8
    obtain ⟨l7, x0, x1, x2, -, -, -⟩ := bx7.three'
    have S1 := str_of d5
    have S2 := str_of (BB.out.new N8)
    have cN := num_er 32 _ (hl.new N8)
    rw [erN_pos (by omega)] at cN
    rw [erN_pos (show (32 : Int) ≠ 0 by omega)]
    clear k8 a8 m8 N7 N7b b8 bx7 d5 k7b d6 c hb hb' HB F3 F4 F5 F7 BB BI bO
    generalize strOfNums b = st at *
    generalize b.length = bl at *
    go_wp2_with fail
    refine cN.mono ?_
    rintro e w9 ⟨rfl, n9⟩
    have N9 := N8.trans n9
    clear S1 S2 cN x0 x1 x2
    go_wp2_with fail
    refine (cS _ (hl.new N9)).mono ?_
    rintro e w10 ⟨rfl, n10⟩
    go_wp2
    go_ret
    exact ⟨rfl, N9.trans n10⟩

/-! ### THE ROW's STEP: WRITTEN OUT: LEAVE IT -/
theorem door_met (os : Os) (args : Array Value) : laidMetH Tryd.prog Rows.pipeEndsRow.laid ((World.doorLaid Tryd.prog 400 os).forCall (fun _ _ => 0) ⟨#[], args, []⟩).memory :=
  laidMetH_of_parts3 (fuel := 8) (laidMet_of_run' 8 (by kernel_rfl) (by kernel_rfl)) (by kernel_rfl) (by kernel_rfl)
set_option maxRecDepth 100000 in
theorem lifted (os : Os) (started : os.Started) (H : Type) (enc : TypeId × Value → H) :
    ReturnsInHanded {} Tryd.checked os 5 .any (fun w args => (Rows.pipeEndsSpec.pre enc Tryd.prog Tryd.f5 [] false w args ∧ laidMetH Tryd.prog Rows.pipeEndsRow.laid w) ∧ sizedMet enc Tryd.prog Tryd.f5 (OpenSpec.ofChange Rows.pipeEndsSpec) false w args) (Rows.pipeEndsSpec.post enc Tryd.prog Tryd.f5 false true false false) := by
  refine returnsInHanded_of_change_and (C := Tryd.checked) (X := fun w _ => laidMetH Tryd.prog Rows.pipeEndsRow.laid w) (fun _ _ _ hh h => h.of_heap hh) own started (by kernel_rfl) Tryd.func5
    (ChangeSpec.witness_shaped (enc := enc) (C := Tryd.checked) (os := os) (X := fun w _ => laidMetH Tryd.prog Rows.pipeEndsRow.laid w) false (World.doorLaid Tryd.prog 400 os) #[.slice none 0 0] 8 rfl (World.shaped_of_RefB (by kernel_rfl) (by kernel_rfl)) (by kernel_rfl) (by kernel_rfl) (by kernel_rfl) (door_met os _)) ?_
  intro W base args ds gs before hval0 hW _ _ hL _
  have hL' : laidMet Tryd.prog [] W ∧ handlesMet Tryd.prog [("errors.errorType", Rows.laid_errors_errorType)] W := hL
  have hval : ∀ (j : Nat) t v, Tryd.f5.params[j]? = some t → args[j]? = some v → Value.okWide Tryd.prog W .any base t v := hval0
  have hW' := hW
  obtain ⟨p, q, hA0, hV, rfl, hfz, hnd⟩ := hW
  have hA : DataW.TrodAll enc Tryd.prog W 0 (fun _ => true) true Tryd.f5.params.toList args.toList ds p := hA0
  rw [Tryd.params5] at hA hval
  obtain ⟨v0, vs0, d0, ds0, p0, q0, hargs, rfl, rfl, h0, r0⟩ := trodAll_cons hA
  obtain ⟨rfl, rfl, rfl⟩ := trodAll_nil r0
  obtain rfl : args = #[v0] := by cases args; simp_all
  obtain ⟨rfl, rfl⟩ := trodVars_none hV
  obtain ⟨a0, len0, cap0, rfl⟩ := okWide_slice Tryd.underlying22 (hval 0 22 v0 rfl rfl)
  have k0 := h0
  have lt0 : ∀ x ∈ p0, x.block < W.heap.size := by obtain ⟨m, hm⟩ := k0; exact DataW.trod_lt m _ _ _ hm
  obtain ⟨z0, w0⟩ : ∃ zs, IsRow .u8 W a0 len0 cap0 zs := by
    obtain ⟨fuel, hf⟩ := h0
    rcases open_ints Tryd.underlying22 Tryd.underlying5 (by kernel_rfl) hf with ⟨hcs, _⟩ | ⟨x, l, c, zs, hcs, _, hl, hm, hz, _, hcell, hwz⟩
    · simp [Value.cells] at hcs
      obtain ⟨rfl, rfl, rfl⟩ := hcs
      exact ⟨[], .inl ⟨rfl, rfl, rfl, rfl⟩⟩
    · simp [Value.cells] at hcs
      obtain ⟨rfl, rfl, rfl⟩ := hcs
      exact ⟨zs, .inr ⟨_, rfl, hl, hm, by simpa using hz, hcell, hwz⟩⟩
  clear hA0 hval0
  refine (walk a0 len0 cap0 z0 W w0 (handle_of_hs hL'.2)).mono fun e W' ⟨he, bel⟩ => ?_
  subst he
  exact ⟨_, rfl, _, _, _, [], _, [], hW', trodAll_mk1 (shut_bool Tryd.underlying4 _), (trodAll_cons_mk (Below.trod laidOut (by kernel_rfl) (of_decide_eq_true (by kernel_rfl)) k0 bel lt0) trodAll_mk0), rfl, bel.frame _, fun h => by cases h⟩

theorem over : Rows.pipeEndsRow.holds Tryd.pinned (OpenSpec.ofChange Rows.pipeEndsSpec) :=
  OpenClaim.holds_of_wide 5 Tryd.f5 rfl rfl rfl rfl rfl rfl rfl ⟨rfl, rfl, rfl, rfl, rfl⟩ rfl rfl rfl rfl rfl (by kernel_rfl) Tryd.func5 (by kernel_rfl)
    (of_decide_eq_true (by kernel_rfl)) (by unfold Func.isWrapper; first | (rw [if_pos (by decide +kernel)]; kernel_rfl) | (rw [if_neg (by decide +kernel)]; exact ⟨rfl, rfl⟩))
    (fun os started H enc _ => lifted os started H enc)

theorem proved : Rows.PipeEndsSaid := over
theorem card : Rows.PipeEndsCardSaid :=
  Claim7.holds_tied_plain_at .later [] [.handle] true (true, "443cb5858d902024aab65cd81cef51599dcd275aa6e665fd74d71f010075fde0") true
    over (fun _ h => by cases h) (by kernel_rfl) (fun _ h => by cases h) pipeEnds_row_tie rfl ⟨rfl, rfl⟩ (by kernel_rfl) rfl
    (fun f fn hf hfn => by
      obtain rfl : f = 5 := Option.some.inj ((show Tryd.prog.funcNamed "halter/halterlaw18.PipeEnds" = some 5 by kernel_rfl).symm.trans hf) |>.symm
      obtain rfl : fn = Tryd.f5 := (Option.some.inj (Tryd.func5.symm.trans hfn)).symm
      exact ⟨by kernel_rfl, fun j t ht => by
        rw [Tryd.params5] at ht
        have hm : t ∈ [22] := by have := Array.mem_of_getElem? ht; simpa using this
        have hall : ([22].all fun u => !Tryd.prog.wantsStandIn u) = true := by kernel_rfl
        exact (show Tryd.prog.wantsStandIn t = false by simpa using List.all_eq_true.1 hall t hm)⟩)
    (by kernel_rfl)
#print axioms card
end Go.Proofs.YtdoppkeaidemgaaDoor.pipeEnds
