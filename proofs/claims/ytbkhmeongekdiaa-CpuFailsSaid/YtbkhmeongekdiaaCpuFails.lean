/- What fails changes no register, and asks for one instruction at most; nothing is stored but by instructions that store; the same again does the same; the statement holds for all words and all registers. -/
import Derived.Test.YtbkhmeongekdiaaRows
import Derived.Test.YtbkhmeongekdiaaCpFx
import Derived.Test.YtbkhmeongekdiaaRgF
import Derived.Test.YtbkhmeongekdiaaIsD
import Derived.StillTailTactics
import Derived.Test.YtbkhmeongekdiaaPost
import Derived.WalkKit
import Derived.ProofKit
import Derived.OpenShut
import Derived.ShutString
import Derived.ChangeOld
import Derived.Below
namespace Go.Proofs.Ytbkhmeongekdiaa.cpuFails
open Go.ChangeShapes Go.WideShapes Go.ChangeAt Go.RowKit
open Go.ChangeMaps (open_string shut_string)
set_option linter.unusedVariables false

theorem own : ownKnob Try.prog.godebug = none := by kernel_rfl
theorem laidOut : laidOutB Try.prog = true := by kernel_rfl

/-- WHAT THE WALK IS TOLD OF A SLICE OF INTEGERS THAT CAME IN: it is nil; or it leads to a row of 'cap' cells, the numbers 'zs' (the first 'len' are its elements, the rest its spare room), each fitting its kind. -/
def IsRow (k : IntKind) (w : World) (a : Option Addr) (len cap : Nat) (zs : List Int) : Prop :=
  (a = none ∧ len = 0 ∧ cap = 0 ∧ zs = []) ∨
  ∃ x, a = some x ∧ len ≤ cap ∧ cap ≤ maxLen ∧ zs.length = cap ∧ (∀ i, i < zs.length → w.cell? (x.add i) = some (.int k (zs.getD i 0))) ∧ ∀ n ∈ zs, (Lit.int k n).wf = true

/-! ### STEP 1: THE WALK: the Go text returns true, AND WRITES NOTHING THAT WAS THERE: 'Below w.heap.size w w'' (Derived/Below.lean: '.refl', '.alloc', '.drew', '.setCell' at a new block, '.trans'). Open each 'IsRow' by 'rcases' AHEAD of 'go_enter'; part every test ahead of the walk. -/
set_option maxHeartbeats 8000000 in
set_option maxRecDepth 100000 in
theorem walk (a0 : Option Addr) (len0 cap0 : Nat) (z0 : List Int) (v1 : Value) (w : World) (w0 : IsRow .u32 w a0 len0 cap0 z0) (w1 : Flat [some .u32, some .u32, some .u32, some .u32, some .u32, some .u32, some .u32, some .u32, some .u32, some .u32, some .u32, some .u32, some .u32, some .u32, some .u32, some .u32, some .u32, some .u32, some .u64, some .u64, some .u64, some .u64] v1) :
    Calls Try.prog 3 #[.slice a0 len0 cap0, v1] w fun e w' => e = .returned (.bool true) ∧ Below w.heap.size w w' := by
  obtain ⟨l, hlen, hw⟩ := w32_of w0
  subst hlen
  obtain ⟨x, f, rfl, hx, hf⟩ := flat_rc w1
  clear w0 w1
  have hO : Oct (wds l) := wdl_oct l hw.2.1 64
  have hlen := wds_len_le l
  have B1 : Box (w.alloc (.cells (rc x f).toArray 28)) w.heap.size (rc x f).toArray 28 := Box.here w _ _ _ rfl
  have n1 : New w (w.alloc (.cells (rc x f).toArray 28)) := (New.refl w).alloc _ _
  have hsz : (w.alloc (.cells (rc x f).toArray 28)).heap.size = w.heap.size + 1 := by simp
  have hw1 := hw.new n1
  go_enter Try.func3, Try.ntmps3
  go_upto_region 1 with fail
  change Code.wp _ _ _ _ (w.alloc (.cells (rc x f).toArray 28))
  generalize w.alloc (.cells (rc x f).toArray 28) = W1 at *
  go_wp2_with fail
  refine (laid_any l a0 cap0 W1 hw1).mono ?_
  rintro e W2 ⟨rfl, n2, v1, D1⟩
  have hw2 := hw1.new n2
  have B2 := B1.new n2
  have s2 := n2.size
  have m2 := New.trans n1 n2
  have hv1 : ∀ i, v1.ownBlock = some i → W1.heap.size + 1 ≤ i ∧ i < W2.heap.size := fun i e => World.ownsRow.lt D1.2.1 i e
  have hd1 := D1.1.lt
  go_wp2_with fail
  refine (laid_any l a0 cap0 W2 hw2).mono ?_
  rintro e W3 ⟨rfl, n3, v2, D2⟩
  have B3 := B2.new n3
  have D1 := D1.new n3
  have m3 := New.trans m2 n3
  have hv2 : ∀ i, v2.ownBlock = some i → W2.heap.size + 1 ≤ i ∧ i < W3.heap.size := fun i e => World.ownsRow.lt D2.2.1 i e
  have hd2 := D2.1.lt
  clear hw hw1 hw2 B1 B2 n1 n2 n3 m2
  rw [hsz] at *
  generalize W2.heap.size = db2 at *
  generalize hdb1 : w.heap.size + 1 = db1 at *
  have d0 := D1.1.three.1
  obtain ⟨p1, c1, hs1⟩ := D1.2.1.shape
  have Y1 := D1.2.1.byts
  have D1 := Lib.hid D1
  have D2 := Lib.hid D2
  have hv1 := Lib.hid hv1
  have hv2 := Lib.hid hv2
  have hO := Lib.hid hO
  rw [hs1] at d0 Y1
  go_wp2_with (refine wpList_append_bytes rfl _ _ rfl rfl W3.heap.size (.slice none 0 0) [] rfl (OwnB.nil _ _) _ (wds l) rfl Y1 (by show 0 + _ ≤ 1000000; omega) (Nat.le_refl _) ?_)
  intro b3 W4 o4 k4
  have n4 : New W3 W4 := k4 W3 (Nat.le_refl _) (New.refl _)
  have s4 := n4.size
  have D1 := Lib.hid (D1.out.new n4)
  have D2 := Lib.hid (D2.out.new n4)
  have B4 := B3.new n4
  have m4 := New.trans m3 n4
  obtain ⟨p3, c3, rfl⟩ := o4.shape
  have o4 := Lib.hid o4
  clear B3 n4 k4 m3 d0 Y1 hs1
  obtain ⟨A, hA⟩ : ∃ A, A = stA x f (wds l) := ⟨_, rfl⟩
  have hsh := sh_stA x f (wds l)
  have hout := stA_out x f (wds l)
  have hin := stA_in x f (wds l)
  rw [← hA] at hsh hout hin
  have hadd := adds0 hsh.2.1
  have hF := fes0 x
  have q1 := fun db v w (h : Bd w db v (wds l) 0 0) => step_any h hx hf hO.out
  rw [← hA, hadd] at q1
  generalize fes x 0 = F at *
  clear hA hadd
  have hsh := Lib.hid hsh
  have hout := Lib.hid hout
  have hin := Lib.hid hin
  go_wp2_with (first
    | ((with_reducible refine at_load 28 ?_); refine wpList_load_box rfl 28 _ rfl w.heap.size rfl (rc x f) 28 _ B4 Try.underlying28 rfl (by rw [rc_len]; exact rr_info) ?_)
    | ((with_reducible refine at_store 34 ?_); refine wpList_store_box rfl 34 _ _ rfl W4.heap.size (rc x f) R0 34 rfl rfl (Box.here _ _ _ _ rfl) (by rw [rc_len, rc_len]) (by rw [rc_len]; exact ar_info) (rc_one _ _) ?_))
  intro W5 BX F5
  have hn5 : New W4 W5 := F5.new ((New.refl W4).alloc _ _) (Nat.le_refl _)
  have D1 := Lib.hid (D1.out.new hn5)
  have D2 := Lib.hid (D2.out.new hn5)
  have B := B4.new hn5
  have ob := Lib.hid (o4.out.new hn5)
  have m5 := New.trans m4 hn5
  clear B4 o4 m4 F5 hn5
  generalize W4.heap.size = xb at *
  generalize W3.heap.size = ba at *
  have mi : ∀ (db : Nat) (w : World), (Instr.makeInterface 29 (ptr db)).run Try.prog w = .ok (bus db) w := fun db w => by kernel_rfl
  have q := q1 db1 v1 W5 D1.out
  go_wp2_with ((with_reducible refine at_load 34 ?_); refine wpList_load_box rfl 34 _ rfl xb rfl (rc x f) 34 _ BX Try.underlying34 rfl (by rw [rc_len]; exact ar_info) ?_)
  refine q.mono ?_
  rintro e W6 ⟨rfl, E1, k6⟩
  have g1 := hv1.out
  have g2 := hv2.out
  have D2 := Lib.hid (D2.out.off k6 (fun i hi _ e => by
    rcases e with e | e
    · omega
    · have := g1 i e; omega))
  have ob := Lib.hid (ob.out.off k6 (fun i hi _ e => by
    rcases e with e | e
    · omega
    · have := g1 i e; omega))
  have nW := But.free m5 k6 D1.out (by omega)
  have BX := Lib.hid (BX.but k6 (D1.out.not BX (by decide) (by decide)))
  have B := Lib.hid (B.but k6 (D1.out.not B (by decide) (by decide)))
  have E1 := Lib.hid E1
  clear D1 m5 k6 q g1 g2
  go_wp2_with ((with_reducible refine at_store 34 ?_); refine wpList_store_box rfl 34 _ _ rfl W6.heap.size (rc A.x A.f) R0 34 rfl rfl ((Box.here W6 _ _ 34 rfl).alloc _) (by rw [rc_len, rc_len]) (by rw [rc_len]; exact ar_info) (rc_one _ _) ?_)
  intro U1 BR1 F1
  have BE1 := (Box.here (W6.alloc (.cells R0.toArray 34)) (W6.heap.size + 1) E0.toArray 36 (by simp)).far F1 (by omega)
  have nu1 : New W6 U1 := F1.new (((New.refl W6).alloc _ _).alloc _ _) (Nat.le_refl _)
  clear F1
  go_wp2_with ((with_reducible refine at_store 36 ?_); refine wpList_store_box rfl 36 _ _ rfl (W6.heap.size + 1) [.int .i64 A.k, .int .i64 A.s, .int .u32 A.a] E0 36 rfl rfl BE1 rfl ev_size (by intro u hu; simp at hu; rcases hu with rfl | rfl | rfl <;> rfl) ?_)
  intro V1 CE1 G1
  have CR1 := BR1.far G1 (by omega)
  have nv1 : New W6 V1 := G1.new nu1 (by omega)
  have m1 := New.trans nW nv1
  have lt1 := CE1.lt
  have lv1 := nv1.size
  have E1 := Lib.hid (E1.out.new nv1)
  have D2 := Lib.hid (D2.out.new nv1)
  have ob := Lib.hid (ob.out.new nv1)
  have BX := Lib.hid (BX.out.new nv1)
  have B := Lib.hid (B.out.new nv1)
  clear BR1 BE1 nu1 G1 nv1 nW
  have CR1 := Lib.hid CR1
  have CE1 := Lib.hid CE1
  generalize W6.heap.size = rb1 at *
  have q := q1 db2 v2 V1 D2.out
  have BXo := BX.out
  go_wp2_with ((with_reducible refine at_load 34 ?_); refine wpList_load_box rfl 34 _ rfl xb rfl (rc x f) 34 _ BXo Try.underlying34 rfl (by rw [rc_len]; exact ar_info) ?_)
  refine q.mono ?_
  rintro e W7 ⟨rfl, E2, k7⟩
  have g1 := hv1.out
  have g2 := hv2.out
  have E1 := Lib.hid (E1.out.apart k7 (fun e => by
    rcases e with e | e
    · omega
    · have := g2 db1 e; omega) (fun g hg e => by
    have h1 := g1 g hg
    rcases e with e | e
    · omega
    · have := g2 g e; omega))
  have ob := Lib.hid (ob.out.off k7 (fun i hi _ e => by
    rcases e with e | e
    · omega
    · have := g2 i e; omega))
  have nW := But.free m1 k7 D2.out (by omega)
  have BX := Lib.hid (BX.out.but k7 (D2.out.not BX.out (by decide) (by decide)))
  have B := Lib.hid (B.out.but k7 (D2.out.not B.out (by decide) (by decide)))
  have CR1 := Lib.hid (CR1.out.but k7 (D2.out.not CR1.out (by decide) (by decide)))
  have CE1 := Lib.hid (CE1.out.but k7 (D2.out.not CE1.out (by decide) (by decide)))
  have E2 := Lib.hid E2
  clear D2 m1 k7 q g1 g2 BXo q1
  go_wp2_with ((with_reducible refine at_store 34 ?_); refine wpList_store_box rfl 34 _ _ rfl W7.heap.size (rc A.x A.f) R0 34 rfl rfl ((Box.here W7 _ _ 34 rfl).alloc _) (by rw [rc_len, rc_len]) (by rw [rc_len]; exact ar_info) (rc_one _ _) ?_)
  intro U2 BR2 F2
  have BE2 := (Box.here (W7.alloc (.cells R0.toArray 34)) (W7.heap.size + 1) E0.toArray 36 (by simp)).far F2 (by omega)
  have nu2 : New W7 U2 := F2.new (((New.refl W7).alloc _ _).alloc _ _) (Nat.le_refl _)
  clear F2
  go_wp2_with ((with_reducible refine at_store 36 ?_); refine wpList_store_box rfl 36 _ _ rfl (W7.heap.size + 1) [.int .i64 A.k, .int .i64 A.s, .int .u32 A.a] E0 36 rfl rfl BE2 rfl ev_size (by intro u hu; simp at hu; rcases hu with rfl | rfl | rfl <;> rfl) ?_)
  intro V2 CE2 G2
  have CR2 := BR2.far G2 (by omega)
  have nv2 : New W7 V2 := G2.new nu2 (by omega)
  have m2 := New.trans nW nv2
  have lt2 := CE2.lt
  have lv2 := nv2.size
  have E1 := Lib.hid (E1.out.new nv2)
  have E2 := Lib.hid (E2.out.new nv2)
  have ob := Lib.hid (ob.out.new nv2)
  have BX := Lib.hid (BX.out.new nv2)
  have B := Lib.hid (B.out.new nv2)
  have CR1 := Lib.hid (CR1.out.new nv2)
  have CE1 := Lib.hid (CE1.out.new nv2)
  clear BR2 BE2 nu2 G2 nv2 nW
  have CR2 := Lib.hid CR2
  have CE2 := Lib.hid CE2
  generalize W7.heap.size = rb2 at *
  clear hv1 hv2
  have nd := (New.refl V2).drew
  have s1 := str_of (E1.out.new nd).2.1.byts
  have s2 := str_of (E2.out.new nd).2.1.byts
  obtain ⟨d10, d11, d12⟩ := (E1.out.new nd).1.three
  have d20 := (E2.out.new nd).1.three.1
  obtain ⟨x0, x1, x2⟩ := Box.three (CE1.out.new nd)
  obtain ⟨y0, y1, y2⟩ := Box.three (CE2.out.new nd)
  have BY := Lib.hid (CR1.out.new nd)
  have BZ := Lib.hid (CR2.out.new nd)
  have BX := Lib.hid (BX.out.new nd)
  have B := Lib.hid (B.out.new nd)
  have ob := Lib.hid (ob.out.new nd)
  have M := Lib.hid (New.trans m2 nd)
  have he := fun w => rc_equal A.x A.f w
  have f1 : decide (1 < F) = false := by simp; omega
  have f2 : ¬ 1 < F := by omega
  have Yb := Lib.hid (E1.out.new nd).2.1.byts
  clear E1 E2 CR1 CR2 CE1 CE2 m2 nd
  go_wp2_with fail
  refine wp_region_still_lit (by kernel_rfl) (by kernel_rfl) ?_
  refine at_sload 34 ?_
  refine wpStill_load_box (by rfl) 34 _ rfl rb1 rfl (rc A.x A.f) 34 _ BY.out Try.underlying34 rfl (by rw [rc_len]; exact ar_info) ?_
  simp only [Act.put, List.setIfInBounds_toArray, List.set_cons_zero, List.set_cons_succ]
  refine at_sload 34 ?_
  refine wpStill_load_box (by rfl) 34 _ rfl rb2 rfl (rc A.x A.f) 34 _ BZ.out Try.underlying34 rfl (by rw [rc_len]; exact ar_info) ?_
  simp only [Act.put, List.setIfInBounds_toArray, List.set_cons_zero, List.set_cons_succ]
  repeat still_step
  refine wpStill_nil ?_
  change Exit.then _ _ _ _ V2.drew
  clear he f1 f2 s2 d20 d11 y0 y1 y2 BZ
  generalize V2.drew = Vd at *
  have hf' := hF
  clear hF s1 x1 x2 hf'
  have qs := fun w => csure_any w
  have b16 := hx 16 (by omega)
  have b17 := hx 17 (by omega)
  obtain ⟨pc, hpc⟩ : ∃ n : Nat, x 16 = n := ⟨(x 16).toNat, by omega⟩
  have nd := (New.refl Vd).drew
  have e10 := nd.keeps d10
  have e12 := nd.keeps d12
  have ex0 := nd.keeps x0
  have s1 := str_of (Yb.out.new nd)
  have s3 := str_of ((ob.out.new nd).byts)
  have B' := B.out.new nd
  have c17 := B'.at (rc_x x f (i := 17) (by omega))
  have c16 := B'.at (rc_x x f (i := 16) (by omega))
  rw [hpc] at c16 b16
  have ob' := Lib.hid (ob.out.new nd)
  have M' := Lib.hid (New.trans M.out nd)
  clear B' ob Yb M nd d12
  by_cases hI : x 17 ≤ 31 ∧ x 16 % 4 = 0 ∧ hsn (wds l) (x 16) 4
  case neg =>
    obtain ⟨hk, hn⟩ := hout.out hI
    obtain ⟨ex, ef⟩ := hsh.out.1 hk
    have BYo := BY.out
    rw [ex, ef] at BYo
    have BXo := BX.out
    rw [hk] at x0 ex0
    have he2 := fun w => rc_equal x f w
    go_wp2_with (first
      | ((with_reducible refine at_load 34 ?_); refine wpList_load_wbox (by rfl) 34 _ rfl rb1 rfl (rc x f) 34 _ BYo Try.underlying34 rfl (by rw [rc_len]; exact ar_info) ?_)
      | ((with_reducible refine at_load 34 ?_); refine wpList_load_wbox (by rfl) 34 _ rfl xb rfl (rc x f) 34 _ BXo Try.underlying34 rfl (by rw [rc_len]; exact ar_info) ?_))
    clear he2 BYo BXo ex ef BY BX x0 d10
    rw [hsh.out.2.2 hn] at s1
    rw [hn] at e12
    change Vd.drew.cell? ⟨db1, 2, none⟩ = some (.int .i64 0) at e12
    refine wp_region_still_lit (by kernel_rfl) (by kernel_rfl) ?_
    repeat still_step
    refine wpStill_nil ?_
    change Exit.then _ _ _ _ Vd.drew
    clear s1 s3 e10
    generalize Vd.drew = Ve at *
    by_cases j1 : x 17 ≤ 31
    case neg =>
      have j2 : decide (x 17 ≤ 31) = false := by simp; omega
      have j3 : 31 < x 17 := by omega
      go_wp2_with fail
      refine (qs _).mono ?_
      rintro e Wz ⟨rfl, nz⟩
      go_wp2
      go_ret
      exact ⟨rfl, New.trans M'.out nz⟩
    by_cases j2 : (pc : Int) % 4 = 0
    case neg =>
      have j3 : decide ((pc : Int) % 4 = 0) = false := by simp; omega
      go_wp2_with fail
      refine (qs _).mono ?_
      rintro e Wz ⟨rfl, nz⟩
      go_wp2
      go_ret
      exact ⟨rfl, New.trans M'.out nz⟩
    have j3 : ¬ (pc : Int) + 4 ≤ ((wds l).length : Int) := fun h => hI ⟨j1, by rw [hpc]; exact j2, by unfold hsn; rw [hpc]; omega⟩
    have j4 : decide ((pc : Int) + 4 ≤ ((wds l).length : Int)) = false := by simp; omega
    go_wp2_with fail
    refine (qs _).mono ?_
    rintro e Wz ⟨rfl, nz⟩
    go_wp2
    go_ret
    exact ⟨rfl, New.trans M'.out nz⟩
  obtain ⟨i1, i2, i3⟩ := hI
  by_cases hk : A.k = 4
  case pos =>
    by_cases hn : A.n = 0
    case pos =>
      obtain ⟨ex, ef⟩ := hsh.out.1 hk
      have BYo := BY.out
      rw [ex, ef] at BYo
      have BXo := BX.out
      rw [hk] at x0 ex0
      have he2 := fun w => rc_equal x f w
      go_wp2_with (first
        | ((with_reducible refine at_load 34 ?_); refine wpList_load_wbox (by rfl) 34 _ rfl rb1 rfl (rc x f) 34 _ BYo Try.underlying34 rfl (by rw [rc_len]; exact ar_info) ?_)
        | ((with_reducible refine at_load 34 ?_); refine wpList_load_wbox (by rfl) 34 _ rfl xb rfl (rc x f) 34 _ BXo Try.underlying34 rfl (by rw [rc_len]; exact ar_info) ?_))
      clear he2 BYo BXo ex ef BY BX x0 d10
      rw [hsh.out.2.2 hn] at s1
      rw [hn] at e12
      change Vd.drew.cell? ⟨db1, 2, none⟩ = some (.int .i64 0) at e12
      refine wp_region_still_lit (by kernel_rfl) (by kernel_rfl) ?_
      repeat still_step
      refine wpStill_nil ?_
      change Exit.then _ _ _ _ Vd.drew
      clear s1 s3 e10
      generalize Vd.drew = Ve at *
      have i1' := i1
      have i4 : (pc : Int) + 4 ≤ ((wds l).length : Int) := by unfold hsn at i3; rw [hpc] at i3; omega
      have i5 : (pc : Int) % 4 = 0 := by rw [← hpc]; exact i2
      obtain ⟨g, cap, cur, hs3, hbg, hr⟩ := ob'.out.row (by omega)
      cases hs3
      have hr2 := Lib.hid hr
      have hcap := hr.2.1
      have hmx := hr.2.2.1
      unfold maxLen at hmx
      have i6 : IntKind.u32.wrap ((pc : Int) + 4) = (pc : Int) + 4 := by show ((pc : Int) + 4) % 4294967296 = _; omega
      have i7 : ((pc : Int) + 4) % 4294967296 = (pc : Int) + 4 := by omega
      have i8 : ¬ c3 = pc := by omega
      have i9 : (pc : Int) + 4 ≤ (c3 : Int) := by omega
      have i10 : ((pc : Int) + 4).toNat = pc + 4 := by omega
      have hOc := oct_get hO.out
      have qL := rload_4 ((wds l).getD pc 0) ((wds l).getD (pc + 1) 0) ((wds l).getD (pc + 2) 0) ((wds l).getD (pc + 3) 0) ⟨g, pc, none⟩ (c3 - pc) Ve (hOc pc).1 (hOc pc).2 (hOc (pc + 1)).1 (hOc (pc + 1)).2 (hOc (pc + 2)).1 (hOc (pc + 2)).2 (hOc (pc + 3)).1 (hOc (pc + 3)).2 (hr.cell pc (by omega)) (hr.cell (pc + 1) (by omega)) (hr.cell (pc + 2) (by omega)) (hr.cell (pc + 3) (by omega))
      rw [← gtn_4 (wds l) pc (by unfold hsn; omega)] at qL
      have hg := gtn_bd hO.out pc 4
      have qD := fun w => irdecode_any (gtn (wds l) pc 4) w hg.1 hg.2
      have hni := hin.out ⟨i1, i2, i3⟩
      rw [hpc] at hni
      have hnn := n_inA (x := x) (f := f) (L := wds l) (gtn (wds l) pc 4)
      rw [← hni] at hnn
      have hnn := Lib.hid hnn
      have hni := Lib.hid hni
      clear hOc hr
      generalize gtn (wds l) pc 4 = v at *
      go_wp2_with fail
      refine qL.mono ?_
      rintro e W8 ⟨rfl, rfl⟩
      go_wp2_with fail
      refine (qD _).mono ?_
      rintro e W9 ⟨rfl, n9⟩
      have e12 := n9.keeps e12
      have l12 : db1 < W9.heap.size := cell_lt e12
      have l13 : db1 < W9.heap.size + 1 := by omega
      have l14 : ¬ db1 = W9.heap.size := by omega
      have l15 : ¬ W9.heap.size = db1 := by omega
      have M' := Lib.hid (New.trans M'.out n9)
      clear qL qD n9 c16 c17 ex0 hg i6 i7 i8 i9 i10 i4 i5
      go_wp2_with fail
      refine (qs _).mono ?_
      rintro e Wz ⟨rfl, nz⟩
      go_wp2
      go_ret
      exact ⟨rfl, New.trans (M'.out.alloc _ _) nz⟩
    case neg =>
      obtain ⟨ex, ef⟩ := hsh.out.1 hk
      have BYo := BY.out
      rw [ex, ef] at BYo
      have BXo := BX.out
      rw [hk] at x0 ex0
      have he2 := fun w => rc_equal x f w
      go_wp2_with (first
        | ((with_reducible refine at_load 34 ?_); refine wpList_load_wbox (by rfl) 34 _ rfl rb1 rfl (rc x f) 34 _ BYo Try.underlying34 rfl (by rw [rc_len]; exact ar_info) ?_)
        | ((with_reducible refine at_load 34 ?_); refine wpList_load_wbox (by rfl) 34 _ rfl xb rfl (rc x f) 34 _ BXo Try.underlying34 rfl (by rw [rc_len]; exact ar_info) ?_))
      clear he2 BYo BXo ex ef BY BX x0 d10
      have n0 : decide ((A.n : Int) = 0) = false := by simp; omega
      refine wp_region_still_lit (by kernel_rfl) (by kernel_rfl) ?_
      repeat still_step
      refine wpStill_nil ?_
      change Exit.then _ _ _ _ Vd.drew
      clear s1 s3 e10
      generalize Vd.drew = Ve at *
      have i1' := i1
      have i4 : (pc : Int) + 4 ≤ ((wds l).length : Int) := by unfold hsn at i3; rw [hpc] at i3; omega
      have i5 : (pc : Int) % 4 = 0 := by rw [← hpc]; exact i2
      obtain ⟨g, cap, cur, hs3, hbg, hr⟩ := ob'.out.row (by omega)
      cases hs3
      have hr2 := Lib.hid hr
      have hcap := hr.2.1
      have hmx := hr.2.2.1
      unfold maxLen at hmx
      have i6 : IntKind.u32.wrap ((pc : Int) + 4) = (pc : Int) + 4 := by show ((pc : Int) + 4) % 4294967296 = _; omega
      have i7 : ((pc : Int) + 4) % 4294967296 = (pc : Int) + 4 := by omega
      have i8 : ¬ c3 = pc := by omega
      have i9 : (pc : Int) + 4 ≤ (c3 : Int) := by omega
      have i10 : ((pc : Int) + 4).toNat = pc + 4 := by omega
      have hOc := oct_get hO.out
      have qL := rload_4 ((wds l).getD pc 0) ((wds l).getD (pc + 1) 0) ((wds l).getD (pc + 2) 0) ((wds l).getD (pc + 3) 0) ⟨g, pc, none⟩ (c3 - pc) Ve (hOc pc).1 (hOc pc).2 (hOc (pc + 1)).1 (hOc (pc + 1)).2 (hOc (pc + 2)).1 (hOc (pc + 2)).2 (hOc (pc + 3)).1 (hOc (pc + 3)).2 (hr.cell pc (by omega)) (hr.cell (pc + 1) (by omega)) (hr.cell (pc + 2) (by omega)) (hr.cell (pc + 3) (by omega))
      rw [← gtn_4 (wds l) pc (by unfold hsn; omega)] at qL
      have hg := gtn_bd hO.out pc 4
      have qD := fun w => irdecode_any (gtn (wds l) pc 4) w hg.1 hg.2
      have hni := hin.out ⟨i1, i2, i3⟩
      rw [hpc] at hni
      have hnn := n_inA (x := x) (f := f) (L := wds l) (gtn (wds l) pc 4)
      rw [← hni] at hnn
      have hnn := Lib.hid hnn
      have hni := Lib.hid hni
      clear hOc hr
      generalize gtn (wds l) pc 4 = v at *
      go_wp2_with fail
      refine qL.mono ?_
      rintro e W8 ⟨rfl, rfl⟩
      go_wp2_with fail
      refine (qD _).mono ?_
      rintro e W9 ⟨rfl, n9⟩
      have e12 := n9.keeps e12
      have l12 : db1 < W9.heap.size := cell_lt e12
      have l13 : db1 < W9.heap.size + 1 := by omega
      have l14 : ¬ db1 = W9.heap.size := by omega
      have l15 : ¬ W9.heap.size = db1 := by omega
      have M' := Lib.hid (New.trans M'.out n9)
      clear qL qD n9 c16 c17 ex0 hg i6 i7 i8 i9 i10 i4 i5
      have hv : v / 16777216 = 19 ∨ v / 16777216 = 20 ∨ v / 16777216 = 32 := by
        have h := hnn.out
        by_cases a1 : v / 16777216 = 19
        · exact .inl a1
        by_cases a2 : v / 16777216 = 20
        · exact .inr (.inl a2)
        by_cases a3 : v / 16777216 = 32
        · exact .inr (.inr a3)
        exact absurd (h a1 a2 a3) hn
      have hid : idn v (v / 16777216) = v / 16777216 := by unfold idn; rw [if_pos (by omega)]
      rw [hid]
      clear hid hnn hni
      rcases hv with hv | hv | hv
      all_goals
        rw [hv]
        go_wp2_with fail
        refine (qs _).mono ?_
        rintro e Wz ⟨rfl, nz⟩
        go_wp2
        go_ret
        exact ⟨rfl, New.trans (M'.out.alloc _ _) nz⟩
  case neg =>
    by_cases hn : A.n = 0
    case pos =>
      have k4 : decide (A.k = 4) = false := by simp [hk]
      go_wp2_with fail
      clear k4 BY BX x0 d10
      rw [hsh.out.2.2 hn] at s1
      rw [hn] at e12
      change Vd.drew.cell? ⟨db1, 2, none⟩ = some (.int .i64 0) at e12
      refine wp_region_still_lit (by kernel_rfl) (by kernel_rfl) ?_
      repeat still_step
      refine wpStill_nil ?_
      change Exit.then _ _ _ _ Vd.drew
      clear s1 s3 e10
      generalize Vd.drew = Ve at *
      have i1' := i1
      have i4 : (pc : Int) + 4 ≤ ((wds l).length : Int) := by unfold hsn at i3; rw [hpc] at i3; omega
      have i5 : (pc : Int) % 4 = 0 := by rw [← hpc]; exact i2
      obtain ⟨g, cap, cur, hs3, hbg, hr⟩ := ob'.out.row (by omega)
      cases hs3
      have hr2 := Lib.hid hr
      have hcap := hr.2.1
      have hmx := hr.2.2.1
      unfold maxLen at hmx
      have i6 : IntKind.u32.wrap ((pc : Int) + 4) = (pc : Int) + 4 := by show ((pc : Int) + 4) % 4294967296 = _; omega
      have i7 : ((pc : Int) + 4) % 4294967296 = (pc : Int) + 4 := by omega
      have i8 : ¬ c3 = pc := by omega
      have i9 : (pc : Int) + 4 ≤ (c3 : Int) := by omega
      have i10 : ((pc : Int) + 4).toNat = pc + 4 := by omega
      have hOc := oct_get hO.out
      have qL := rload_4 ((wds l).getD pc 0) ((wds l).getD (pc + 1) 0) ((wds l).getD (pc + 2) 0) ((wds l).getD (pc + 3) 0) ⟨g, pc, none⟩ (c3 - pc) Ve (hOc pc).1 (hOc pc).2 (hOc (pc + 1)).1 (hOc (pc + 1)).2 (hOc (pc + 2)).1 (hOc (pc + 2)).2 (hOc (pc + 3)).1 (hOc (pc + 3)).2 (hr.cell pc (by omega)) (hr.cell (pc + 1) (by omega)) (hr.cell (pc + 2) (by omega)) (hr.cell (pc + 3) (by omega))
      rw [← gtn_4 (wds l) pc (by unfold hsn; omega)] at qL
      have hg := gtn_bd hO.out pc 4
      have qD := fun w => irdecode_any (gtn (wds l) pc 4) w hg.1 hg.2
      have hni := hin.out ⟨i1, i2, i3⟩
      rw [hpc] at hni
      have hnn := n_inA (x := x) (f := f) (L := wds l) (gtn (wds l) pc 4)
      rw [← hni] at hnn
      have hnn := Lib.hid hnn
      have hni := Lib.hid hni
      clear hOc hr
      generalize gtn (wds l) pc 4 = v at *
      go_wp2_with fail
      refine qL.mono ?_
      rintro e W8 ⟨rfl, rfl⟩
      go_wp2_with fail
      refine (qD _).mono ?_
      rintro e W9 ⟨rfl, n9⟩
      have e12 := n9.keeps e12
      have l12 : db1 < W9.heap.size := cell_lt e12
      have l13 : db1 < W9.heap.size + 1 := by omega
      have l14 : ¬ db1 = W9.heap.size := by omega
      have l15 : ¬ W9.heap.size = db1 := by omega
      have M' := Lib.hid (New.trans M'.out n9)
      clear qL qD n9 c16 c17 ex0 hg i6 i7 i8 i9 i10 i4 i5
      go_wp2_with fail
      refine (qs _).mono ?_
      rintro e Wz ⟨rfl, nz⟩
      go_wp2
      go_ret
      exact ⟨rfl, New.trans (M'.out.alloc _ _) nz⟩
    case neg =>
      have k4 : decide (A.k = 4) = false := by simp [hk]
      go_wp2_with fail
      clear k4 BY BX x0 d10
      have n0 : decide ((A.n : Int) = 0) = false := by simp; omega
      refine wp_region_still_lit (by kernel_rfl) (by kernel_rfl) ?_
      repeat still_step
      refine wpStill_nil ?_
      change Exit.then _ _ _ _ Vd.drew
      clear s1 s3 e10
      generalize Vd.drew = Ve at *
      have i1' := i1
      have i4 : (pc : Int) + 4 ≤ ((wds l).length : Int) := by unfold hsn at i3; rw [hpc] at i3; omega
      have i5 : (pc : Int) % 4 = 0 := by rw [← hpc]; exact i2
      obtain ⟨g, cap, cur, hs3, hbg, hr⟩ := ob'.out.row (by omega)
      cases hs3
      have hr2 := Lib.hid hr
      have hcap := hr.2.1
      have hmx := hr.2.2.1
      unfold maxLen at hmx
      have i6 : IntKind.u32.wrap ((pc : Int) + 4) = (pc : Int) + 4 := by show ((pc : Int) + 4) % 4294967296 = _; omega
      have i7 : ((pc : Int) + 4) % 4294967296 = (pc : Int) + 4 := by omega
      have i8 : ¬ c3 = pc := by omega
      have i9 : (pc : Int) + 4 ≤ (c3 : Int) := by omega
      have i10 : ((pc : Int) + 4).toNat = pc + 4 := by omega
      have hOc := oct_get hO.out
      have qL := rload_4 ((wds l).getD pc 0) ((wds l).getD (pc + 1) 0) ((wds l).getD (pc + 2) 0) ((wds l).getD (pc + 3) 0) ⟨g, pc, none⟩ (c3 - pc) Ve (hOc pc).1 (hOc pc).2 (hOc (pc + 1)).1 (hOc (pc + 1)).2 (hOc (pc + 2)).1 (hOc (pc + 2)).2 (hOc (pc + 3)).1 (hOc (pc + 3)).2 (hr.cell pc (by omega)) (hr.cell (pc + 1) (by omega)) (hr.cell (pc + 2) (by omega)) (hr.cell (pc + 3) (by omega))
      rw [← gtn_4 (wds l) pc (by unfold hsn; omega)] at qL
      have hg := gtn_bd hO.out pc 4
      have qD := fun w => irdecode_any (gtn (wds l) pc 4) w hg.1 hg.2
      have hni := hin.out ⟨i1, i2, i3⟩
      rw [hpc] at hni
      have hnn := n_inA (x := x) (f := f) (L := wds l) (gtn (wds l) pc 4)
      rw [← hni] at hnn
      have hnn := Lib.hid hnn
      have hni := Lib.hid hni
      clear hOc hr
      generalize gtn (wds l) pc 4 = v at *
      go_wp2_with fail
      refine qL.mono ?_
      rintro e W8 ⟨rfl, rfl⟩
      go_wp2_with fail
      refine (qD _).mono ?_
      rintro e W9 ⟨rfl, n9⟩
      have e12 := n9.keeps e12
      have l12 : db1 < W9.heap.size := cell_lt e12
      have l13 : db1 < W9.heap.size + 1 := by omega
      have l14 : ¬ db1 = W9.heap.size := by omega
      have l15 : ¬ W9.heap.size = db1 := by omega
      have M' := Lib.hid (New.trans M'.out n9)
      clear qL qD n9 c16 c17 ex0 hg i6 i7 i8 i9 i10 i4 i5
      have hv : v / 16777216 = 19 ∨ v / 16777216 = 20 ∨ v / 16777216 = 32 := by
        have h := hnn.out
        by_cases a1 : v / 16777216 = 19
        · exact .inl a1
        by_cases a2 : v / 16777216 = 20
        · exact .inr (.inl a2)
        by_cases a3 : v / 16777216 = 32
        · exact .inr (.inr a3)
        exact absurd (h a1 a2 a3) hn
      have hid : idn v (v / 16777216) = v / 16777216 := by unfold idn; rw [if_pos (by omega)]
      rw [hid]
      clear hid hnn hni
      rcases hv with hv | hv | hv
      all_goals
        rw [hv]
        go_wp2_with fail
        refine (qs _).mono ?_
        rintro e Wz ⟨rfl, nz⟩
        go_wp2
        go_ret
        exact ⟨rfl, New.trans (M'.out.alloc _ _) nz⟩

/-! ### THE ROW's STEP: WRITTEN OUT: LEAVE IT -/
set_option maxRecDepth 100000 in
theorem lifted (os : Os) (started : os.Started) (H : Type) (enc : TypeId × Value → H) :
    ReturnsInHanded {} Try.checked os 3 .any (Rows.cpuFailsSpec.pre6 enc Try.prog Try.f3 Rows.cpuFailsRow.domain false) (Rows.cpuFailsSpec.post enc Try.prog Try.f3 false true false false) := by
  refine returnsInHanded_of_change (C := Try.checked) own started (by kernel_rfl) Try.func3
    (ChangeSpec.witness6 (enc := enc) (C := Try.checked) false ⟨#[], #[.slice none 0 0, .agg #[.int .u32 0, .int .u32 0, .int .u32 0, .int .u32 0, .int .u32 0, .int .u32 0, .int .u32 0, .int .u32 0, .int .u32 0, .int .u32 0, .int .u32 0, .int .u32 0, .int .u32 0, .int .u32 0, .int .u32 0, .int .u32 0, .int .u32 0, .int .u32 0, .int .u64 0, .int .u64 0, .int .u64 0, .int .u64 0]], []⟩ 8 (by kernel_rfl) (by kernel_rfl) (by kernel_rfl) (by kernel_rfl)) ?_
  intro W base args ds gs before hval0 hW hcnd _
  have hval : ∀ (j : Nat) t v, Try.f3.params[j]? = some t → args[j]? = some v → Value.okWide Try.prog W .any base t v := hval0
  have hW' := hW
  obtain ⟨p, q, hA0, hV, rfl, hfz, hnd⟩ := hW
  have hA : DataW.TrodAll enc Try.prog W 0 (fun _ => true) true Try.f3.params.toList args.toList ds p := hA0
  rw [Try.params3] at hA hval
  obtain ⟨v0, vs0, d0, ds0, p0, q0, hargs, rfl, rfl, h0, r0⟩ := trodAll_cons hA
  obtain ⟨v1, vs1, d1, ds1, p1, q1, rfl, rfl, rfl, h1, r1⟩ := trodAll_cons r0
  obtain ⟨rfl, rfl, rfl⟩ := trodAll_nil r1
  obtain rfl : args = #[v0, v1] := by cases args; simp_all
  obtain ⟨rfl, rfl⟩ := trodVars_none hV
  obtain ⟨a0, len0, cap0, rfl⟩ := okWide_slice Try.underlying22 (hval 0 22 v0 rfl rfl)
  have k0 := h0
  have lt0 : ∀ x ∈ p0, x.block < W.heap.size := by obtain ⟨m, hm⟩ := k0; exact DataW.trod_lt m _ _ _ hm
  obtain ⟨z0, w0⟩ : ∃ zs, IsRow .u32 W a0 len0 cap0 zs := by
    obtain ⟨fuel, hf⟩ := h0
    rcases open_ints Try.underlying22 Try.underlying23 (by kernel_rfl) hf with ⟨hcs, _⟩ | ⟨x, l, c, zs, hcs, _, hl, hm, hz, _, hcell, hwz⟩
    · simp [Value.cells] at hcs
      obtain ⟨rfl, rfl, rfl⟩ := hcs
      exact ⟨[], .inl ⟨rfl, rfl, rfl, rfl⟩⟩
    · simp [Value.cells] at hcs
      obtain ⟨rfl, rfl, rfl⟩ := hcs
      exact ⟨zs, .inr ⟨_, rfl, hl, hm, by simpa using hz, hcell, hwz⟩⟩
  have k1 := h1
  have lt1 : ∀ x ∈ p1, x.block < W.heap.size := by obtain ⟨m, hm⟩ := k1; exact DataW.trod_lt m _ _ _ hm
  have w1 : Flat [some .u32, some .u32, some .u32, some .u32, some .u32, some .u32, some .u32, some .u32, some .u32, some .u32, some .u32, some .u32, some .u32, some .u32, some .u32, some .u32, some .u32, some .u32, some .u64, some .u64, some .u64, some .u64] v1 := flat_of_ty (ks := [some .u32, some .u32, some .u32, some .u32, some .u32, some .u32, some .u32, some .u32, some .u32, some .u32, some .u32, some .u32, some .u32, some .u32, some .u32, some .u32, some .u32, some .u32, some .u64, some .u64, some .u64, some .u64]) Try.underlying28 (by
    obtain ⟨ks, hk, e⟩ : ∃ ks, FlatTy Try.prog 28 ks ∧ ks = [some .u32, some .u32, some .u32, some .u32, some .u32, some .u32, some .u32, some .u32, some .u32, some .u32, some .u32, some .u32, some .u32, some .u32, some .u32, some .u32, some .u32, some .u32, some .u64, some .u64, some .u64, some .u64] := ⟨_, (.struct Try.underlying28 (.cons rfl (.array Try.underlying24 (.int Try.underlying23) (by kernel_rfl)) (by kernel_rfl) (.cons rfl (.int Try.underlying23) (by kernel_rfl) (.cons rfl (.int Try.underlying23) (by kernel_rfl) (.cons rfl (.array Try.underlying26 (.int Try.underlying25) (by kernel_rfl)) (by kernel_rfl) .nil))))), rfl⟩
    rw [← e]; exact hk) (by kernel_rfl) (hval 1 28 v1 rfl rfl) h1
  clear hA0 hval0
  refine (walk a0 len0 cap0 z0 v1 W w0 w1).mono fun e W' ⟨he, bel⟩ => ?_
  subst he
  exact ⟨_, rfl, _, _, _, [], _, [], hW', trodAll_mk1 (shut_bool Try.underlying4 _), (trodAll_cons_mk (Below.trod laidOut (by kernel_rfl) (of_decide_eq_true (by kernel_rfl)) k0 bel lt0) (trodAll_cons_mk (Below.trod laidOut (by kernel_rfl) (of_decide_eq_true (by kernel_rfl)) k1 bel lt1) trodAll_mk0)), rfl, bel.frame _, fun h => by cases h⟩

theorem over : Rows.cpuFailsRow.holds Try.pinned (OpenSpec.ofChange Rows.cpuFailsSpec) :=
  OpenClaim.holds_of_wide 3 Try.f3 rfl rfl rfl rfl rfl rfl rfl ⟨rfl, rfl, rfl, rfl, rfl⟩ rfl rfl rfl rfl rfl (by kernel_rfl) Try.func3 (by kernel_rfl)
    (of_decide_eq_true (by kernel_rfl)) (by unfold Func.isWrapper; first | (rw [if_pos (by decide +kernel)]; kernel_rfl) | (rw [if_neg (by decide +kernel)]; exact ⟨rfl, rfl⟩))
    (fun os started H enc _ => lifted os started H enc)

/-- ████ THE STATEMENT ████ -/
theorem proved : Rows.CpuFailsSaid := over
#print axioms proved
end Go.Proofs.Ytbkhmeongekdiaa.cpuFails
