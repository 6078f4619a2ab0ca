/- Where any file stands by any way, or the error, is as the document answers; the statement holds for every input, where the listed variable holds what the library's own text lays, which the card ties. -/
import Derived.Test.YtpapicnkhjcjoaaDoorRows
import Derived.Test.YtpapicnkhjcjoaaDoorFiQ
import Derived.Test.YtpapicnkhjcjoaaDoorByIn
import Derived.Test.YtpapicnkhjcjoaaDoorFlatTy
import Derived.Test.YtpapicnkhjcjoaaDoorLay
import Derived.Deep.RegionHeld3
import Derived.Test.YtpapicnkhjcjoaaDoorCards
import Derived.Test.YtpapicnkhjcjoaaDoorTie
import Derived.LaidMore
import Derived.LaidLaws
import Derived.LaidHandle
import Derived.Test.YtpapicnkhjcjoaaDoorLay
import Derived.Test.YtpapicnkhjcjoaaDoorPost
import Derived.WalkKit
import Derived.ProofKit
import Derived.OpenShut
import Derived.ShutString
import Derived.ChangeOld
import Derived.Below
namespace Go.Proofs.YtpapicnkhjcjoaaDoor.fileSeeks
open Go.ChangeShapes Go.WideShapes Go.ChangeAt Go.RowKit
open Go.ChangeMaps (open_string shut_string)
set_option linter.unusedVariables false

theorem own : ownKnob Tryd.prog.godebug = none := by kernel_rfl
theorem laidOut : laidOutB Tryd.prog = true := by kernel_rfl

/-- WHAT THE WALK IS TOLD OF A SLICE OF INTEGERS THAT CAME IN: it is nil; or it leads to a row of 'cap' cells, the numbers 'zs' (the first 'len' are its elements, the rest its spare room), each fitting its kind. -/
def IsRow (k : IntKind) (w : World) (a : Option Addr) (len cap : Nat) (zs : List Int) : Prop :=
  (a = none ∧ len = 0 ∧ cap = 0 ∧ zs = []) ∨
  ∃ x, a = some x ∧ len ≤ cap ∧ cap ≤ maxLen ∧ zs.length = cap ∧ (∀ i, i < zs.length → w.cell? (x.add i) = some (.int k (zs.getD i 0))) ∧ ∀ n ∈ zs, (Lit.int k n).wf = true

/-! ### STEP 1: THE WALK: the Go text returns true, AND WRITES NOTHING THAT WAS THERE: 'Below w.heap.size w w'' (Derived/Below.lean: '.refl', '.alloc', '.drew', '.setCell' at a new block, '.trans'). Open each 'IsRow' by 'rcases' AHEAD of 'go_enter'; part every test ahead of the walk. -/
set_option maxHeartbeats 4000000 in
set_option maxRecDepth 100000 in
theorem walk (v0 : Value) (v1 : Value) (a2 : Int) (w : World) (w0 : FkVal [.num .i64, .num .i64, .num .i64, .bit, .bit, .str, .num .i64] w v0) (w1 : Flat [some .i64, some .i64] v1) (w2 : (Lit.int .i64 a2).wf = true) (hl : Laid w) :
    Calls Tryd.prog 4 #[v0, v1, .int .i64 a2] w fun e w' => e = .returned (.bool true) ∧ Below w.heap.size w w' := by
  obtain ⟨f, rfl⟩ := fl_in w0
  obtain ⟨x0, x1, rfl, ⟨off, rfl, ho⟩, ⟨way, rfl, -⟩⟩ := flat2 w1
  have ho := i64_bd ho
  clear w0 w1 w2
  obtain ⟨E, hE⟩ : ∃ E, E = (w.alloc (.cells #[.int .i64 f.k, .int .i64 f.id, .int .i64 f.off, .bool f.rd, .bool f.wt, .string (ba f.nm), .int .i64 f.rf] 45)).alloc (.cells #[.int .i64 off, .int .i64 way] 58) := ⟨_, rfl⟩
  have n0 : New w E := by rw [hE]; exact ((New.refl w).alloc _ _).alloc _ _
  have bA : Box E w.heap.size #[.int .i64 f.k, .int .i64 f.id, .int .i64 f.off, .bool f.rd, .bool f.wt, .string (ba f.nm), .int .i64 f.rf] 45 := by rw [hE]; exact (Box.here w _ _ _ rfl).alloc _
  have bB : Box E (w.heap.size + 1) #[.int .i64 off, .int .i64 way] 58 := by rw [hE]; exact Box.here _ _ _ _ (by rw [World.size_alloc])
  have hs := ba_size f.nm
  have c1 := fun W => fseek_any f off way a2 ho W
  have c2 := fun W => rfseek_any f off way a2 ho W
  have cN := fun W (k : New w W) => num_er (skE f off way a2) W (hl.new k)
  have cS := fun W (k : New w W) => fisure_any W (hl.new k)
  generalize skN f off way a2 = n1 at *
  generalize skE f off way a2 = e1 at *
  unfold FlV at *
  clear hl ho
  obtain ⟨k, id, fo, rd, wt, nm, rf⟩ := f
  dsimp only at *
  by_cases h1 : (1000 : Int) < ((ba nm).size : Int)
  · have cS := cS E n0
    clear c1 c2 cN bA bB hs
    go_enter Tryd.func4, Tryd.ntmps4
    go_wp2_with fail
    rw [← hE]
    refine cS.mono ?_
    rintro e w1 ⟨rfl, n1⟩
    go_wp2
    go_ret
    exact ⟨rfl, n0.trans n1⟩
  · obtain ⟨la, ⟨a0, a1, a2', a3, a4, a5, a6⟩, -⟩ := bA.seven
    obtain ⟨b0, b1⟩ := bB.two
    have BA := Lib.hid bA
    have BB := Lib.hid bB
    have CN := Lib.hid cN
    have CS := Lib.hid cS
    have C1 := Lib.hid c1
    have C2 := Lib.hid c2
    clear bA bB cN cS c1 c2 hs a0 a1 a2' a3 a4 a5 a6 b0 b1
    go_enter Tryd.func4, Tryd.ntmps4
    go_wp2_with fail
    rw [← hE]
    refine (C1.out _).mono ?_
    rintro e w1 ⟨rfl, n1⟩
    obtain ⟨la1, ⟨a0, a1, a2', a3, a4, a5, a6⟩, -⟩ := (BA.out.new n1).seven
    obtain ⟨b0, b1⟩ := (BB.out.new n1).two
    have n2 := n0.trans n1
    clear hE
    go_wp2_with fail
    refine (C2.out _).mono ?_
    rintro e w2 ⟨rfl, n3⟩
    have n4 := n2.trans n3
    clear a0 a1 a2' a3 a4 a5 a6 b0 b1 n3
    go_wp2_with fail
    refine (CN.out _ n4).mono ?_
    rintro e w3 ⟨rfl, n5⟩
    have n6 := n4.trans n5
    go_wp2_with fail
    refine (CS.out _ n6).mono ?_
    rintro e w4 ⟨rfl, n7⟩
    go_wp2
    go_ret
    exact ⟨rfl, n6.trans n7⟩

/-! ### THE ROW's STEP: WRITTEN OUT: LEAVE IT -/
theorem door_met (os : Os) (args : Array Value) : laidMetH Tryd.prog Rows.fileSeeksRow.laid ((World.doorLaid Tryd.prog 400 os).forCall (fun _ _ => 0) ⟨#[], args, []⟩).memory :=
  laidMetH_of_parts3 (fuel := 8) (laidMet_of_run' 8 (by kernel_rfl) (by kernel_rfl)) (by kernel_rfl) (by kernel_rfl)
set_option maxRecDepth 100000 in
theorem lifted (os : Os) (started : os.Started) (H : Type) (enc : TypeId × Value → H) :
    ReturnsInHanded {} Tryd.checked os 4 .any (fun w args => (Rows.fileSeeksSpec.pre enc Tryd.prog Tryd.f4 [] false w args ∧ laidMetH Tryd.prog Rows.fileSeeksRow.laid w) ∧ sizedMet enc Tryd.prog Tryd.f4 (OpenSpec.ofChange Rows.fileSeeksSpec) false w args) (Rows.fileSeeksSpec.post enc Tryd.prog Tryd.f4 false true false false) := by
  refine returnsInHanded_of_change_and (C := Tryd.checked) (X := fun w _ => laidMetH Tryd.prog Rows.fileSeeksRow.laid w) (fun _ _ _ hh h => h.of_heap hh) own started (by kernel_rfl) Tryd.func4
    (ChangeSpec.witness_shaped (enc := enc) (C := Tryd.checked) (os := os) (X := fun w _ => laidMetH Tryd.prog Rows.fileSeeksRow.laid w) false (World.doorLaid Tryd.prog 400 os) #[.agg #[.int .i64 0, .int .i64 0, .int .i64 0, .bool false, .bool false, .string ByteArray.empty, .int .i64 0], .agg #[.int .i64 0, .int .i64 0], .int .i64 0] 8 rfl (World.shaped_of_RefB (by kernel_rfl) (by kernel_rfl)) (by kernel_rfl) (by kernel_rfl) (by kernel_rfl) (door_met os _)) ?_
  intro W base args ds gs before hval0 hW _ _ hL _
  have hL' : laidMet Tryd.prog [] W ∧ handlesMet Tryd.prog [("errors.errorType", Rows.laid_errors_errorType)] W := hL
  have hval : ∀ (j : Nat) t v, Tryd.f4.params[j]? = some t → args[j]? = some v → Value.okWide Tryd.prog W .any base t v := hval0
  have hW' := hW
  obtain ⟨p, q, hA0, hV, rfl, hfz, hnd⟩ := hW
  have hA : DataW.TrodAll enc Tryd.prog W 0 (fun _ => true) true Tryd.f4.params.toList args.toList ds p := hA0
  rw [Tryd.params4] at hA hval
  obtain ⟨v0, vs0, d0, ds0, p0, q0, hargs, rfl, rfl, h0, r0⟩ := trodAll_cons hA
  obtain ⟨v1, vs1, d1, ds1, p1, q1, rfl, rfl, rfl, h1, r1⟩ := trodAll_cons r0
  obtain ⟨v2, vs2, d2, ds2, p2, q2, rfl, rfl, rfl, h2, r2⟩ := trodAll_cons r1
  obtain ⟨rfl, rfl, rfl⟩ := trodAll_nil r2
  obtain rfl : args = #[v0, v1, v2] := by cases args; simp_all
  obtain ⟨rfl, rfl⟩ := trodVars_none hV
  have k0 := h0
  have lt0 : ∀ x ∈ p0, x.block < W.heap.size := by obtain ⟨m, hm⟩ := k0; exact DataW.trod_lt m _ _ _ hm
  have w0 : FkVal [.num .i64, .num .i64, .num .i64, .bit, .bit, .str, .num .i64] W v0 := fkval_of Tryd.underlying45 (by kernel_rfl) (by kernel_rfl) rfl (fun i f c hf hc => by
    rcases i with _| _| _| _| _| _| _| _
    · (simp at hf hc; subst hf hc; exact Tryd.underlying3)
    · (simp at hf hc; subst hf hc; exact Tryd.underlying3)
    · (simp at hf hc; subst hf hc; exact Tryd.underlying3)
    · (simp at hf hc; subst hf hc; exact Tryd.underlying4)
    · (simp at hf hc; subst hf hc; exact Tryd.underlying4)
    · (simp at hf hc; subst hf hc; exact Tryd.underlying9)
    · (simp at hf hc; subst hf hc; exact Tryd.underlying3)
    · simp at hc) (hval 0 45 v0 rfl rfl) h0
  have k1 := h1
  have lt1 : ∀ x ∈ p1, x.block < W.heap.size := by obtain ⟨m, hm⟩ := k1; exact DataW.trod_lt m _ _ _ hm
  have w1 : Flat [some .i64, some .i64] v1 := flat_of_arr (ks := [some .i64, some .i64]) Tryd.underlying58 (by
    obtain ⟨ks, hk, e⟩ : ∃ ks, FlatTy Tryd.prog 58 ks ∧ ks = [some .i64, some .i64] := ⟨_, (.array Tryd.underlying58 (.int Tryd.underlying3) (by kernel_rfl)), rfl⟩
    rw [← e]; exact hk) (by kernel_rfl) (hval 1 58 v1 rfl rfl) h1
  obtain ⟨a2, rfl, rfl, rfl, w2⟩ := open_int Tryd.underlying3 (hval 2 3 v2 rfl rfl) h2
  clear hA0 hval0
  refine (walk v0 v1 a2 W w0 w1 w2 (handle_of_hs hL'.2)).mono fun e W' ⟨he, bel⟩ => ?_
  subst he
  exact ⟨_, rfl, _, _, _, [], _, [], hW', trodAll_mk1 (shut_bool Tryd.underlying4 _), (trodAll_cons_mk (Below.trod laidOut (by kernel_rfl) (of_decide_eq_true (by kernel_rfl)) k0 bel lt0) (trodAll_cons_mk (Below.trod laidOut (by kernel_rfl) (of_decide_eq_true (by kernel_rfl)) k1 bel lt1) (trodAll_cons_mk (shut_int Tryd.underlying3 w2) trodAll_mk0))), rfl, bel.frame _, fun h => by cases h⟩

theorem over : Rows.fileSeeksRow.holds Tryd.pinned (OpenSpec.ofChange Rows.fileSeeksSpec) :=
  OpenClaim.holds_of_wide 4 Tryd.f4 rfl rfl rfl rfl rfl rfl rfl ⟨rfl, rfl, rfl, rfl, rfl⟩ rfl rfl rfl rfl rfl (by kernel_rfl) Tryd.func4 (by kernel_rfl)
    (of_decide_eq_true (by kernel_rfl)) (by unfold Func.isWrapper; first | (rw [if_pos (by decide +kernel)]; kernel_rfl) | (rw [if_neg (by decide +kernel)]; exact ⟨rfl, rfl⟩))
    (fun os started H enc _ => lifted os started H enc)

theorem proved : Rows.FileSeeksSaid := over
theorem card : Rows.FileSeeksCardSaid :=
  Claim7.holds_tied_plain_at .later [] [.handle] true (true, "7bc24a7015f1fe19dee02ef661ab66c3b7e5de9c17027ab3694f025ea610cbc2") true
    over (fun _ h => by cases h) (by kernel_rfl) (fun _ h => by cases h) fileSeeks_row_tie rfl ⟨rfl, rfl⟩ (by kernel_rfl) rfl
    (fun f fn hf hfn => by
      obtain rfl : f = 4 := Option.some.inj ((show Tryd.prog.funcNamed "halter/halterlaw19.FileSeeks" = some 4 by kernel_rfl).symm.trans hf) |>.symm
      obtain rfl : fn = Tryd.f4 := (Option.some.inj (Tryd.func4.symm.trans hfn)).symm
      exact ⟨by kernel_rfl, fun j t ht => by
        rw [Tryd.params4] at ht
        have hm : t ∈ [45, 58, 3] := by have := Array.mem_of_getElem? ht; simpa using this
        have hall : ([45, 58, 3].all fun u => !Tryd.prog.wantsStandIn u) = true := by kernel_rfl
        exact (show Tryd.prog.wantsStandIn t = false by simpa using List.all_eq_true.1 hall t hm)⟩)
    (by kernel_rfl)
#print axioms card
end Go.Proofs.YtpapicnkhjcjoaaDoor.fileSeeks
