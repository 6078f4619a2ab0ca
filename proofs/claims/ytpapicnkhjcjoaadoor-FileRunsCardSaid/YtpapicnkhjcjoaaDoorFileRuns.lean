/- Whatever is done to a table of open files, each answer, and all files then, or the errors, are as the document answers; nothing of a nil one; the statement holds for every input, where the listed variable holds what the library's own text lays, which the card ties. -/
import Derived.Test.YtpapicnkhjcjoaaDoorRows
import Derived.Test.YtpapicnkhjcjoaaDoorFiS
import Derived.Test.YtpapicnkhjcjoaaDoorFkTy
import Derived.Test.YtpapicnkhjcjoaaDoorLay
import Derived.Deep.LoopGhost
import Derived.Deep.RegionHeld3
import Derived.Deep.CutRange
import Derived.Deep.CutBlock
import Derived.Test.YtpapicnkhjcjoaaDoorCards
import Derived.Test.YtpapicnkhjcjoaaDoorTie
import Derived.LaidMore
import Derived.LaidLaws
import Derived.LaidHandle
import Derived.Test.YtpapicnkhjcjoaaDoorLay
import Derived.Test.YtpapicnkhjcjoaaDoorPost
import Derived.WalkKit
import Derived.ProofKit
import Derived.OpenShut
import Derived.ShutString
import Derived.ChangeOld
import Derived.Below
namespace Go.Proofs.YtpapicnkhjcjoaaDoor.fileRuns
open Go.ChangeShapes Go.WideShapes Go.ChangeAt Go.RowKit
open Go.ChangeMaps (open_string shut_string)
set_option linter.unusedVariables false

theorem own : ownKnob Tryd.prog.godebug = none := by kernel_rfl
theorem laidOut : laidOutB Tryd.prog = true := by kernel_rfl

/-- WHAT THE WALK IS TOLD OF A SLICE OF INTEGERS THAT CAME IN: it is nil; or it leads to a row of 'cap' cells, the numbers 'zs' (the first 'len' are its elements, the rest its spare room), each fitting its kind. -/
def IsRow (k : IntKind) (w : World) (a : Option Addr) (len cap : Nat) (zs : List Int) : Prop :=
  (a = none ∧ len = 0 ∧ cap = 0 ∧ zs = []) ∨
  ∃ x, a = some x ∧ len ≤ cap ∧ cap ≤ maxLen ∧ zs.length = cap ∧ (∀ i, i < zs.length → w.cell? (x.add i) = some (.int k (zs.getD i 0))) ∧ ∀ n ∈ zs, (Lit.int k n).wf = true

theorem cut7 (a : Int) : ∃ x : Nat, wrap64 ((IntKind.u64.wrap a).tmod 7) = (x : Int) ∧ x < 7 := by
  rw [IntKind.wrap_u64, Int.tmod_eq_emod_of_nonneg (by omega)]
  have h := Int.emod_lt_of_pos (a % 18446744073709551616) (show (0 : Int) < 7 by omega)
  have h' := Int.emod_nonneg (a % 18446744073709551616) (show (7 : Int) ≠ 0 by omega)
  refine ⟨(a % 18446744073709551616 % 7).toNat, ?_, by omega⟩
  unfold wrap64; omega
/-! ### STEP 1: THE WALK: the Go text returns true, AND WRITES NOTHING THAT WAS THERE: 'Below w.heap.size w w'' (Derived/Below.lean: '.refl', '.alloc', '.drew', '.setCell' at a new block, '.trans'). Open each 'IsRow' by 'rcases' AHEAD of 'go_enter'; part every test ahead of the walk. -/
set_option maxHeartbeats 8000000 in
set_option maxRecDepth 100000 in
theorem walk (a0 : Int) (a1 : Option Addr) (len1 cap1 : Nat) (w : World) (w0 : (Lit.int .i64 a0).wf = true) (w1 : FkRows [.num .i64, .num .i64, .num .i64, .num .i64, .num .i64, .num .i64, .bit, .bit, .str, .num .i64] w a1 len1) (hl : Laid w) :
    Calls Tryd.prog 3 #[.int .i64 a0, .slice a1 len1 cap1] w fun e w' => e = .returned (.bool true) ∧ Below w.heap.size w w' := by
  have HL := Lib.hid w1.2
  have hmx := w1.1
  unfold maxLen at hmx
  have y0 := i64_bd w0
  clear w0 w1
  have LD := Lib.hid hl
  have c1 := fun W => fopen_nil Fl.zero W
  have c2 := fun W => fget_nil 0 W
  have c3 := fun W => funref_nil 0 W
  have c4 := fun W => fref_nil 0 W
  have c5 := fun W => fmove_nil 0 0 W
  have c6 := fun W => flist_nil W
  have cN := fun W (k : New w W) => num_er 22 W (hl.new k)
  unfold FlV Fl.zero at c1 c2 c3
  rw [erN_pos (show (22 : Int) ≠ 0 by omega)] at cN
  simp only [erN_pos (show (22 : Int) ≠ 0 by omega)] at c1 c2 c3 c4 c5
  have C4 := Lib.hid c4
  have C5 := Lib.hid c5
  have C6 := Lib.hid c6
  have CN := Lib.hid cN
  clear hl c4 c5 c6 cN
  go_enter Tryd.func3, Tryd.ntmps3
  go_wp2_with fail
  refine (c1 _).mono ?_
  rintro e w1 ⟨rfl, n1⟩
  go_wp2_with fail
  refine (c2 _).mono ?_
  rintro e w2 ⟨rfl, n2⟩
  have n3 := (n1.trans n2).alloc #[.int .i64 0, .int .i64 0, .int .i64 0, .bool false, .bool false, .string (ba []), .int .i64 0] 29
  clear n1 n2 c1 c2
  go_wp2_with fail
  refine (c3 _).mono ?_
  rintro e w3 ⟨rfl, n4⟩
  have n5 := (n3.trans n4).alloc #[.int .i64 0, .int .i64 0, .int .i64 0, .bool false, .bool false, .string (ba []), .int .i64 0] 29
  clear n3 n4 c3
  go_wp2_with fail
  refine (CN.out _ n5).mono ?_
  rintro e w4 ⟨rfl, n6⟩
  have n7 := n5.trans n6
  clear n5 n6
  go_wp2_with fail
  refine (CN.out _ n7).mono ?_
  rintro e w5 ⟨rfl, n6⟩
  have n8 := n7.trans n6
  clear n7 n6
  go_wp2_with fail
  refine (CN.out _ n8).mono ?_
  rintro e w6 ⟨rfl, n6⟩
  have n9 := n8.trans n6
  clear n8 n6
  go_wp2_with fail
  refine (C4.out _).mono ?_
  rintro e w7 ⟨rfl, n6⟩
  have n10 := n9.trans n6
  clear n9 n6
  go_wp2_with fail
  refine (CN.out _ n10).mono ?_
  rintro e w8 ⟨rfl, n6⟩
  have n11 := n10.trans n6
  clear n10 n6
  go_wp2_with fail
  refine (C5.out _).mono ?_
  rintro e w9 ⟨rfl, n6⟩
  have n12 := n11.trans n6
  clear n11 n6
  go_wp2_with fail
  refine (CN.out _ n12).mono ?_
  rintro e w10 ⟨rfl, n6⟩
  have n13 := n12.trans n6
  clear n12 n6
  go_wp2_with fail
  refine (C6.out _).mono ?_
  rintro e w11 ⟨v, rfl, hv, n6⟩
  have n14 := n13.trans n6
  obtain ⟨pv, cv, rfl⟩ := hv.shape
  clear n13 n6 hv
  by_cases hm : a0 < 1 ∨ 32 < a0
  · have c := fnew_no a0 w11 hm
    rw [erN_pos (show (22 : Int) ≠ 0 by omega)] at c
    rcases hm with hm | hm
    all_goals
      go_wp2_with fail
      refine c.mono ?_
      rintro e w12 ⟨rfl, n6⟩
      have n15 := n14.trans n6
      clear n14 n6 c
      go_wp2_with fail
      refine (CN.out _ n15).mono ?_
      rintro e w13 ⟨rfl, n6⟩
      have n16 := n15.trans n6
      clear n15 n6
      have c := fisure_any _ (LD.out.new n16)
      go_wp2_with fail
      refine c.mono ?_
      rintro e w14 ⟨rfl, n6⟩
      go_wp2
      go_ret
      exact ⟨rfl, n16.trans n6⟩
  · have hm1 : ¬ a0 < 1 := fun c => hm (.inl c)
    have hm2 : ¬ 32 < a0 := fun c => hm (.inr c)
    have c := ftx_new a0 w11 (by omega)
    clear hm
    go_wp2_with fail
    refine c.mono ?_
    rintro e w12 ⟨tb, rfl, F⟩
    have F0 : Ftx (fun _ => False) w w12 tb a0 [] := by
      obtain ⟨S, h1, h2, h3, h4⟩ := F
      exact ⟨S, h1, fun g hg => ⟨Nat.le_trans n14.size (h2 g hg).1, id⟩, n14.trans h3, h4⟩
    clear F c n14 C4 C5 C6
    have R0 := frx_start F0
    have R0 := Lib.hid R0
    clear F0
    go_wp2_with fail
    go_loopg [16] len1 (fun gk i wr => ∃ j : Nat, j + gk = len1 ∧ i = .int .i64 (j : Int) ∧ j ≤ 30 ∧ ∃ L xu, Frs w wr tb a0 L w12.heap.size xu)
    case atStart => exact ⟨0, by omega, rfl, by omega, _, _, R0.out⟩
    case round =>
      obtain ⟨j, hj, rfl, hj3, L, xu, hR⟩ := hrel
      have J := Lib.hid hj
      have HR := Lib.hid hR
      have hj3 := Lib.hid hj3
      clear hj hR R0
      by_cases hjl : j < len1 ∧ j < 30
      · obtain ⟨hjl, hj30⟩ := hjl
        have t2 : decide ((j : Int) < 30) = true := decide_eq_true (by omega)
        have t3 : decide (j < 30) = true := decide_eq_true hj30
        have t4 : decide ((j : Int) < (len1 : Int)) = true := decide_eq_true (by omega)
        have t5 : decide (j < len1) = true := decide_eq_true hjl
        obtain ⟨x, rfl, hx⟩ := HL.out j hjl
        have fk := fun f c h => hx f c h
        obtain ⟨v0, C0, kd, rfl, -⟩ := hx 0 _ rfl
        obtain ⟨v1, C1, nn, rfl, hnn⟩ := hx 1 _ rfl
        obtain ⟨v2, C2, of, rfl, hof⟩ := hx 2 _ rfl
        obtain ⟨v3, C3, h3⟩ := hx 3 _ rfl
        obtain ⟨v4, C4, h4⟩ := hx 4 _ rfl
        obtain ⟨v5, C5, h5⟩ := hx 5 _ rfl
        obtain ⟨v6, C6, h6⟩ := hx 6 _ rfl
        obtain ⟨v7, C7, h7⟩ := hx 7 _ rfl
        obtain ⟨v8, C8, h8⟩ := hx 8 _ rfl
        obtain ⟨v9, C9, h9⟩ := hx 9 _ rfl
        obtain ⟨f, rfl, rfl, rfl, rfl, rfl, rfl, rfl⟩ := fl_of h3 h4 h5 h6 h7 h8 h9
        have hlen : ([Fk.num .i64, .num .i64, .num .i64, .num .i64, .num .i64, .num .i64, .bit, .bit, .str, .num .i64] : List Fk).length = 10 := rfl
        rw [hlen] at C0 C1 C2 C3 C4 C5 C6 C7 C8 C9
        have kw := HR.out.world
        have C0 := kw.keeps C0
        have C1 := kw.keeps C1
        have C2 := kw.keeps C2
        have C3 := kw.keeps C3
        have C4 := kw.keeps C4
        have C5 := kw.keeps C5
        have C6 := kw.keeps C6
        have C7 := kw.keeps C7
        have C8 := kw.keeps C8
        have C9 := kw.keeps C9
        rw [Nat.add_zero] at C0
        rw [fld_add x (j * 10) 1 (by omega)] at C1
        rw [fld_add x (j * 10) 2 (by omega)] at C2
        rw [fld_add x (j * 10) 3 (by omega)] at C3
        rw [fld_add x (j * 10) 4 (by omega)] at C4
        rw [fld_add x (j * 10) 5 (by omega)] at C5
        rw [fld_add x (j * 10) 6 (by omega)] at C6
        rw [fld_add x (j * 10) 7 (by omega)] at C7
        rw [fld_add x (j * 10) 8 (by omega)] at C8
        rw [fld_add x (j * 10) 9 (by omega)] at C9
        have hof := i64_bd hof
        have hnn := i64_bd hnn
        clear fk hx h3 h4 h5 h6 h7 h8 h9 hlen kw
        obtain ⟨k, id, fo, rd, wt, nm, rf⟩ := f
        dsimp only at *
        by_cases h1 : (1000 : Int) < ((ba nm).size : Int)
        · have nS := (New.refl wr).alloc #[.int .i64 kd, .int .i64 nn, .int .i64 of, .int .i64 k, .int .i64 id, .int .i64 fo, .bool rd, .bool wt, .string (ba nm), .int .i64 rf] 47
          have R1 : Frs w (wr.alloc (.cells #[.int .i64 kd, .int .i64 nn, .int .i64 of, .int .i64 k, .int .i64 id, .int .i64 fo, .bool rd, .bool wt, .string (ba nm), .int .i64 rf] 47)) tb a0 L w12.heap.size xu := by
            obtain ⟨X, h⟩ := HR.out
            exact ⟨X, h.new nS⟩
          have R1 := Lib.hid R1
          clear nS
          go_wp2_with fail
          go_roundg (len1 - (j + 1))
          case measure => have := J.out; omega
          case rel => exact ⟨j + 1, by have := J.out; omega, by go_num, by have := hj3.out; omega, L, xu, R1.out⟩
        · obtain ⟨X, hX⟩ := HR.out
          have bx := hX.2.1
          obtain ⟨px, kx, rfl, -, -⟩ := hX.2.2.1.shape
          obtain ⟨z0, z1⟩ := bx.two
          have lz := bx.lt
          have HX := Lib.hid hX
          clear hX bx HR
          generalize hLl : (L.map itC).length = Ll at *
          obtain ⟨kk, hk, hk7⟩ := cut7 kd
          have hk2 : IntKind.i64.wrap ((IntKind.u64.wrap kd).tmod 7) = (kk : Int) := by rw [← hk, IntKind.wrap_i64]; simp only [wrap64]
          have EK := Lib.hid (And.intro hk hk2)
          clear hk hk2
          go_upto_block 2 with fail
          simp only [EK.out.1]
          obtain ⟨W3, hW3⟩ : ∃ W3, W3 = (wr.alloc (.cells #[.int .i64 kd, .int .i64 nn, .int .i64 of, .int .i64 k, .int .i64 id, .int .i64 fo, .bool rd, .bool wt, .string (ba nm), .int .i64 rf] 47)).alloc (.cells #[.int .i64 a0, .slice px Ll kx] 44) := ⟨_, rfl⟩
          rw [← hW3]
          have n3 : New wr W3 := by rw [hW3]; exact ((New.refl wr).alloc _ _).alloc _ _
          have bS : Box W3 wr.heap.size #[.int .i64 kd, .int .i64 nn, .int .i64 of, .int .i64 k, .int .i64 id, .int .i64 fo, .bool rd, .bool wt, .string (ba nm), .int .i64 rf] 47 := by rw [hW3]; exact (Box.here wr _ _ _ rfl).alloc _
          have bY : Box W3 (wr.heap.size + 1) #[.int .i64 a0, .slice px Ll kx] 44 := by rw [hW3]; exact Box.here _ _ _ _ (by rw [World.size_alloc])
          have F0 := HX.out
          have nexy : w12.heap.size ≠ wr.heap.size + 1 := by omega
          have nexs : wr.heap.size ≠ w12.heap.size := by omega
          obtain ⟨Y, F3, Dx3, Dy3, S3, B3⟩ : ∃ Y, Ftx Y w W3 tb a0 L ∧ Dox Y w W3 a0 L w12.heap.size (.slice px Ll kx) ∧ Dox Y w W3 a0 L (wr.heap.size + 1) (.slice px Ll kx) ∧ Sox Y W3 wr.heap.size #[.int .i64 kd, .int .i64 nn, .int .i64 of, .int .i64 k, .int .i64 id, .int .i64 fo, .bool rd, .bool wt, .string (ba nm), .int .i64 rf] ∧ ∀ g, Y g → w.heap.size ≤ g := by
            obtain ⟨g1, g2, g3, g4, g5, g6⟩ := F0
            have nw := g1.world
            exact ⟨_, g1.take n3, ⟨⟨g2.new n3, .inl g4⟩, g3.new n3, fun g hg => .inl (g5 g hg)⟩, ⟨⟨bY, .inr ⟨by omega, bY.lt⟩⟩, g3.new n3, fun g hg => .inl (g5 g hg)⟩, ⟨bS, .inr ⟨Nat.le_refl _, bS.lt⟩⟩, fun g hg => by
              rcases hg with c | c
              · exact g6 g c
              · have := nw.size; omega⟩
          clear F0 HX hW3 bS bY C0 C1 C2 C3 C4 C5 C6 C7 C8 C9 z0 z1 lz
          have NW := Lib.hid n3
          go_cut [19, 20, 21, 22, 23, 24, 25, 26, 27, 28, 29, 30, 31] from 138 to 230 (fun bv gv p21 p22 p23 p24 p25 p26 p27 p28 p29 p30 p31 wx => ∃ (Y' : Nat → Prop) (Er : Int) (L' : Ft) (yu : Value) (LX : Ft) (xu2 : Value), bv = .int .i64 Er ∧ gv = .int .i64 Er ∧ Ftx Y' w wx tb a0 L' ∧ Dox Y' w wx a0 LX w12.heap.size xu2 ∧ Dox Y' w wx a0 L' (wr.heap.size + 1) yu ∧ Sox Y' wx wr.heap.size #[.int .i64 kd, .int .i64 nn, .int .i64 of, .int .i64 k, .int .i64 id, .int .i64 fo, .bool rd, .bool wt, .string (ba nm), .int .i64 rf] ∧ ∀ g, Y' g → w.heap.size ≤ g)
          case first =>
            have F3 := Lib.hid F3
            have Dx3 := Lib.hid Dx3
            have Dy3 := Lib.hid Dy3
            have S3 := Lib.hid S3
            have B3 := Lib.hid B3
            have hk8 : kk = 0 ∨ kk = 1 ∨ kk = 2 ∨ kk = 3 ∨ kk = 4 ∨ kk = 5 ∨ kk = 6 := by omega
            rcases hk8 with rfl | rfl | rfl | rfl | rfl | rfl | rfl
            · as_aux_lemma =>
              have s5 := S3.out.1.cell 3
              have s6 := S3.out.1.cell 4
              have s7 := S3.out.1.cell 5
              have s8 := S3.out.1.cell 6
              have s9 := S3.out.1.cell 7
              have s10 := S3.out.1.cell 8
              have s11 := S3.out.1.cell 9
              have ll : L.length ≤ 100000 := by have := F3.out.inv.1; omega
              have c := ftx_open F3.out ⟨k, id, fo, rd, wt, nm, rf⟩
              unfold FlV at c
              dsimp only at c
              go_wp2_with fail
              refine c.mono ?_
              rintro e w4 ⟨rfl, F4, kb4⟩
              have Dx4 := Dx3.out.but kb4
              have Dy4 := Dy3.out.but kb4
              have S4 := S3.out.but kb4
              clear c kb4 s5 s6 s7 s8 s9 s10 s11
              have s5 := S4.1.cell 3
              have s6 := S4.1.cell 4
              have s7 := S4.1.cell 5
              have s8 := S4.1.cell 6
              have s9 := S4.1.cell 7
              have s10 := S4.1.cell 8
              have s11 := S4.1.cell 9
              obtain ⟨z0, z1⟩ := Dx4.1.1.two
              have c := rfopen_any (most := a0) Dx4.2.1 F4.world.size ll ⟨k, id, fo, rd, wt, nm, rf⟩
              unfold DtV FlV at c
              dsimp only at c
              generalize foN a0 L ⟨k, id, fo, rd, wt, nm, rf⟩ = fn at *
              generalize foE a0 L ⟨k, id, fo, rd, wt, nm, rf⟩ = er at *
              generalize foL a0 L ⟨k, id, fo, rd, wt, nm, rf⟩ = L2 at *
              go_wp2_with fail
              refine c.mono ?_
              rintro e w6 ⟨u', rfl, o6, q6, n6⟩
              have O6 := Lib.hid (And.intro o6 (And.intro q6 n6))
              obtain ⟨p6, k6, rfl, -, -⟩ := o6.shape
              clear c o6 q6 s5 s6 s7 s8 s9 s10 s11 z0 z1
              generalize (L2.map itC).length = l2 at *
              go_wp2_with fail
              obtain ⟨W8, hW8⟩ : ∃ W8, W8 = w6.alloc (.cells #[.int .i64 a0, .slice p6 l2 k6] 44) := ⟨_, rfl⟩
              have n8 : New w6 W8 := by rw [hW8]; exact (New.refl w6).alloc _ _
              have bZ : Box W8 w6.heap.size #[.int .i64 a0, .slice p6 l2 k6] 44 := by rw [hW8]; exact Box.here _ _ _ _ rfl
              rw [← hW8]
              have nw8 := Lib.hid (n6.trans n8)
              have N68 := Lib.hid n8
              have cn := fun W (q : New W8 W) => num_er er W (LD.out.new (F4.world.trans (nw8.out.trans q)))
              have CN2 := Lib.hid cn
              have nd : New W8 W8.drew := (New.refl W8).drew
              have bYY := fun w' (q : New W8 w') => (Dy4.1.1.new nw8.out).new q
              have BYY := Lib.hid bYY
              obtain ⟨x0, x1⟩ := bZ.two
              have lz6 := bZ.lt
              have ly6 := (Dy4.1.1.new n6).lt
              have KEEP : ∀ w', But (fun g => g = wr.heap.size + 1) W8 w' → w'.cell? ⟨w6.heap.size, 0, none⟩ = some (.int .i64 a0) ∧ w'.cell? ⟨w6.heap.size, 1, none⟩ = some (.slice p6 l2 k6) := fun w' q => by
                have ka : ∀ o x, W8.cell? ⟨w6.heap.size, o, none⟩ = some x → w'.cell? ⟨w6.heap.size, o, none⟩ = some x := fun o x h => by rw [q.cell (p := ⟨w6.heap.size, o, none⟩) (cell_lt h) (by show ¬ (w6.heap.size = _); omega)]; exact h
                exact ⟨ka _ _ x0, ka _ _ x1⟩
              have KEEP := Lib.hid KEEP
              have ND : But (fun g => g = wr.heap.size + 1) W8 W8.drew := But.of_new _ nd
              have SET2 : ∀ w' x y, But (fun g => g = wr.heap.size + 1) w' ((w'.setCell ⟨wr.heap.size + 1, 0, none⟩ x).setCell ⟨wr.heap.size + 1, 1, none⟩ y) := fun w' x y => (But.set (S := fun g => g = wr.heap.size + 1) w' (p := ⟨wr.heap.size + 1, 0, none⟩) rfl x).trans (But.set (S := fun g => g = wr.heap.size + 1) _ (p := ⟨wr.heap.size + 1, 1, none⟩) rfl y)
              have SET2 := Lib.hid SET2
              clear hW8 cn bYY x0 x1 bZ n6 n8
              go_region_held3 (fun w' => w'.cell? ⟨w6.heap.size, 0, none⟩ = some (.int .i64 a0) ∧ w'.cell? ⟨w6.heap.size, 1, none⟩ = some (.slice p6 l2 k6))
                (first | exact KEEP.out _ HX | exact KEEP.out _ ND | exact KEEP.out _ (HX.trans (SET2.out _ _ _)))
                (first
                  | (go_at_call 9; (with_reducible refine (CN2.out _ nd).mono ?_); rintro e w9 ⟨rfl, n9⟩; have hnx : New W8 w9 := nd.trans n9; have HX : But (fun g => g = wr.heap.size + 1) W8 w9 := But.of_new _ hnx
                     obtain ⟨y0', y1'⟩ := (BYY.out _ hnx).two
                     have yf0 := (BYY.out _ hnx).unfrozen 0
                     have yf1 := (BYY.out _ hnx).unfrozen 1
                     have yl := (BYY.out _ hnx).lt))
              all_goals
                obtain ⟨o6, q6, n6⟩ := O6.out
                have n49 := nw8.out.trans hnx
                have n69 : New w6 w9 := N68.out.trans hnx
                obtain ⟨Y', F7, Dx7, Dy7, S7, B7⟩ := round_put F4 Dx4 Dy4 S4 B3.out nexy (by omega) (o6.new n69) q6 n49
                have END := Lib.hid (And.intro F7 (And.intro Dx7 (And.intro Dy7 (And.intro S7 B7))))
                clear F7 Dx7 Dy7 S7 B7 o6 q6 n6 n49 n69
                go_wp2_with fail
                go_meet
                case rel =>
                  obtain ⟨F7, Dx7, Dy7, S7, B7⟩ := END.out
                  exact ⟨Y', er, L2, _, L, _, rfl, rfl, F7, Dx7, Dy7, S7, B7⟩
            · as_aux_lemma =>
              have s5 := S3.out.1.cell 3
              have s6 := S3.out.1.cell 4
              have s7 := S3.out.1.cell 5
              have s8 := S3.out.1.cell 6
              have s9 := S3.out.1.cell 7
              have s10 := S3.out.1.cell 8
              have s11 := S3.out.1.cell 9
              have ll : L.length ≤ 100000 := by have := F3.out.inv.1; omega
              have c := ftx_open F3.out ⟨k, id, fo, rd, wt, nm, rf⟩
              unfold FlV at c
              dsimp only at c
              go_wp2_with fail
              refine c.mono ?_
              rintro e w4 ⟨rfl, F4, kb4⟩
              have Dx4 := Dx3.out.but kb4
              have Dy4 := Dy3.out.but kb4
              have S4 := S3.out.but kb4
              clear c kb4 s5 s6 s7 s8 s9 s10 s11
              have s5 := S4.1.cell 3
              have s6 := S4.1.cell 4
              have s7 := S4.1.cell 5
              have s8 := S4.1.cell 6
              have s9 := S4.1.cell 7
              have s10 := S4.1.cell 8
              have s11 := S4.1.cell 9
              obtain ⟨z0, z1⟩ := Dx4.1.1.two
              have c := rfopen_any (most := a0) Dx4.2.1 F4.world.size ll ⟨k, id, fo, rd, wt, nm, rf⟩
              unfold DtV FlV at c
              dsimp only at c
              generalize foN a0 L ⟨k, id, fo, rd, wt, nm, rf⟩ = fn at *
              generalize foE a0 L ⟨k, id, fo, rd, wt, nm, rf⟩ = er at *
              generalize foL a0 L ⟨k, id, fo, rd, wt, nm, rf⟩ = L2 at *
              go_wp2_with fail
              refine c.mono ?_
              rintro e w6 ⟨u', rfl, o6, q6, n6⟩
              have O6 := Lib.hid (And.intro o6 (And.intro q6 n6))
              obtain ⟨p6, k6, rfl, -, -⟩ := o6.shape
              clear c o6 q6 s5 s6 s7 s8 s9 s10 s11 z0 z1
              generalize (L2.map itC).length = l2 at *
              go_wp2_with fail
              obtain ⟨W8, hW8⟩ : ∃ W8, W8 = w6.alloc (.cells #[.int .i64 a0, .slice p6 l2 k6] 44) := ⟨_, rfl⟩
              have n8 : New w6 W8 := by rw [hW8]; exact (New.refl w6).alloc _ _
              have bZ : Box W8 w6.heap.size #[.int .i64 a0, .slice p6 l2 k6] 44 := by rw [hW8]; exact Box.here _ _ _ _ rfl
              rw [← hW8]
              have nw8 := Lib.hid (n6.trans n8)
              have N68 := Lib.hid n8
              have cn := fun W (q : New W8 W) => num_er er W (LD.out.new (F4.world.trans (nw8.out.trans q)))
              have CN2 := Lib.hid cn
              have nd : New W8 W8.drew := (New.refl W8).drew
              have bYY := fun w' (q : New W8 w') => (Dy4.1.1.new nw8.out).new q
              have BYY := Lib.hid bYY
              obtain ⟨x0, x1⟩ := bZ.two
              have lz6 := bZ.lt
              have ly6 := (Dy4.1.1.new n6).lt
              have KEEP : ∀ w', But (fun g => g = wr.heap.size + 1) W8 w' → w'.cell? ⟨w6.heap.size, 0, none⟩ = some (.int .i64 a0) ∧ w'.cell? ⟨w6.heap.size, 1, none⟩ = some (.slice p6 l2 k6) := fun w' q => by
                have ka : ∀ o x, W8.cell? ⟨w6.heap.size, o, none⟩ = some x → w'.cell? ⟨w6.heap.size, o, none⟩ = some x := fun o x h => by rw [q.cell (p := ⟨w6.heap.size, o, none⟩) (cell_lt h) (by show ¬ (w6.heap.size = _); omega)]; exact h
                exact ⟨ka _ _ x0, ka _ _ x1⟩
              have KEEP := Lib.hid KEEP
              have ND : But (fun g => g = wr.heap.size + 1) W8 W8.drew := But.of_new _ nd
              have SET2 : ∀ w' x y, But (fun g => g = wr.heap.size + 1) w' ((w'.setCell ⟨wr.heap.size + 1, 0, none⟩ x).setCell ⟨wr.heap.size + 1, 1, none⟩ y) := fun w' x y => (But.set (S := fun g => g = wr.heap.size + 1) w' (p := ⟨wr.heap.size + 1, 0, none⟩) rfl x).trans (But.set (S := fun g => g = wr.heap.size + 1) _ (p := ⟨wr.heap.size + 1, 1, none⟩) rfl y)
              have SET2 := Lib.hid SET2
              clear hW8 cn bYY x0 x1 bZ n6 n8
              go_region_held3 (fun w' => w'.cell? ⟨w6.heap.size, 0, none⟩ = some (.int .i64 a0) ∧ w'.cell? ⟨w6.heap.size, 1, none⟩ = some (.slice p6 l2 k6))
                (first | exact KEEP.out _ HX | exact KEEP.out _ ND | exact KEEP.out _ (HX.trans (SET2.out _ _ _)))
                (first
                  | (go_at_call 9; (with_reducible refine (CN2.out _ nd).mono ?_); rintro e w9 ⟨rfl, n9⟩; have hnx : New W8 w9 := nd.trans n9; have HX : But (fun g => g = wr.heap.size + 1) W8 w9 := But.of_new _ hnx
                     obtain ⟨y0', y1'⟩ := (BYY.out _ hnx).two
                     have yf0 := (BYY.out _ hnx).unfrozen 0
                     have yf1 := (BYY.out _ hnx).unfrozen 1
                     have yl := (BYY.out _ hnx).lt))
              all_goals
                obtain ⟨o6, q6, n6⟩ := O6.out
                have n49 := nw8.out.trans hnx
                have n69 : New w6 w9 := N68.out.trans hnx
                obtain ⟨Y', F7, Dx7, Dy7, S7, B7⟩ := round_put F4 Dx4 Dy4 S4 B3.out nexy (by omega) (o6.new n69) q6 n49
                have END := Lib.hid (And.intro F7 (And.intro Dx7 (And.intro Dy7 (And.intro S7 B7))))
                clear F7 Dx7 Dy7 S7 B7 o6 q6 n6 n49 n69
                go_wp2_with fail
                go_meet
                case rel =>
                  obtain ⟨F7, Dx7, Dy7, S7, B7⟩ := END.out
                  exact ⟨Y', er, L2, _, L, _, rfl, rfl, F7, Dx7, Dy7, S7, B7⟩
            · as_aux_lemma =>
              have s5 := S3.out.1.cell 3
              have s6 := S3.out.1.cell 4
              have s7 := S3.out.1.cell 5
              have s8 := S3.out.1.cell 6
              have s9 := S3.out.1.cell 7
              have s10 := S3.out.1.cell 8
              have s11 := S3.out.1.cell 9
              have ll : L.length ≤ 100000 := by have := F3.out.inv.1; omega
              have c := ftx_open F3.out ⟨k, id, fo, rd, wt, nm, rf⟩
              unfold FlV at c
              dsimp only at c
              go_wp2_with fail
              refine c.mono ?_
              rintro e w4 ⟨rfl, F4, kb4⟩
              have Dx4 := Dx3.out.but kb4
              have Dy4 := Dy3.out.but kb4
              have S4 := S3.out.but kb4
              clear c kb4 s5 s6 s7 s8 s9 s10 s11
              have s5 := S4.1.cell 3
              have s6 := S4.1.cell 4
              have s7 := S4.1.cell 5
              have s8 := S4.1.cell 6
              have s9 := S4.1.cell 7
              have s10 := S4.1.cell 8
              have s11 := S4.1.cell 9
              obtain ⟨z0, z1⟩ := Dx4.1.1.two
              have c := rfopen_any (most := a0) Dx4.2.1 F4.world.size ll ⟨k, id, fo, rd, wt, nm, rf⟩
              unfold DtV FlV at c
              dsimp only at c
              generalize foN a0 L ⟨k, id, fo, rd, wt, nm, rf⟩ = fn at *
              generalize foE a0 L ⟨k, id, fo, rd, wt, nm, rf⟩ = er at *
              generalize foL a0 L ⟨k, id, fo, rd, wt, nm, rf⟩ = L2 at *
              go_wp2_with fail
              refine c.mono ?_
              rintro e w6 ⟨u', rfl, o6, q6, n6⟩
              have O6 := Lib.hid (And.intro o6 (And.intro q6 n6))
              obtain ⟨p6, k6, rfl, -, -⟩ := o6.shape
              clear c o6 q6 s5 s6 s7 s8 s9 s10 s11 z0 z1
              generalize (L2.map itC).length = l2 at *
              go_wp2_with fail
              obtain ⟨W8, hW8⟩ : ∃ W8, W8 = w6.alloc (.cells #[.int .i64 a0, .slice p6 l2 k6] 44) := ⟨_, rfl⟩
              have n8 : New w6 W8 := by rw [hW8]; exact (New.refl w6).alloc _ _
              have bZ : Box W8 w6.heap.size #[.int .i64 a0, .slice p6 l2 k6] 44 := by rw [hW8]; exact Box.here _ _ _ _ rfl
              rw [← hW8]
              have nw8 := Lib.hid (n6.trans n8)
              have N68 := Lib.hid n8
              have cn := fun W (q : New W8 W) => num_er er W (LD.out.new (F4.world.trans (nw8.out.trans q)))
              have CN2 := Lib.hid cn
              have nd : New W8 W8.drew := (New.refl W8).drew
              have bYY := fun w' (q : New W8 w') => (Dy4.1.1.new nw8.out).new q
              have BYY := Lib.hid bYY
              obtain ⟨x0, x1⟩ := bZ.two
              have lz6 := bZ.lt
              have ly6 := (Dy4.1.1.new n6).lt
              have KEEP : ∀ w', But (fun g => g = wr.heap.size + 1) W8 w' → w'.cell? ⟨w6.heap.size, 0, none⟩ = some (.int .i64 a0) ∧ w'.cell? ⟨w6.heap.size, 1, none⟩ = some (.slice p6 l2 k6) := fun w' q => by
                have ka : ∀ o x, W8.cell? ⟨w6.heap.size, o, none⟩ = some x → w'.cell? ⟨w6.heap.size, o, none⟩ = some x := fun o x h => by rw [q.cell (p := ⟨w6.heap.size, o, none⟩) (cell_lt h) (by show ¬ (w6.heap.size = _); omega)]; exact h
                exact ⟨ka _ _ x0, ka _ _ x1⟩
              have KEEP := Lib.hid KEEP
              have ND : But (fun g => g = wr.heap.size + 1) W8 W8.drew := But.of_new _ nd
              have SET2 : ∀ w' x y, But (fun g => g = wr.heap.size + 1) w' ((w'.setCell ⟨wr.heap.size + 1, 0, none⟩ x).setCell ⟨wr.heap.size + 1, 1, none⟩ y) := fun w' x y => (But.set (S := fun g => g = wr.heap.size + 1) w' (p := ⟨wr.heap.size + 1, 0, none⟩) rfl x).trans (But.set (S := fun g => g = wr.heap.size + 1) _ (p := ⟨wr.heap.size + 1, 1, none⟩) rfl y)
              have SET2 := Lib.hid SET2
              clear hW8 cn bYY x0 x1 bZ n6 n8
              go_region_held3 (fun w' => w'.cell? ⟨w6.heap.size, 0, none⟩ = some (.int .i64 a0) ∧ w'.cell? ⟨w6.heap.size, 1, none⟩ = some (.slice p6 l2 k6))
                (first | exact KEEP.out _ HX | exact KEEP.out _ ND | exact KEEP.out _ (HX.trans (SET2.out _ _ _)))
                (first
                  | (go_at_call 9; (with_reducible refine (CN2.out _ nd).mono ?_); rintro e w9 ⟨rfl, n9⟩; have hnx : New W8 w9 := nd.trans n9; have HX : But (fun g => g = wr.heap.size + 1) W8 w9 := But.of_new _ hnx
                     obtain ⟨y0', y1'⟩ := (BYY.out _ hnx).two
                     have yf0 := (BYY.out _ hnx).unfrozen 0
                     have yf1 := (BYY.out _ hnx).unfrozen 1
                     have yl := (BYY.out _ hnx).lt))
              all_goals
                obtain ⟨o6, q6, n6⟩ := O6.out
                have n49 := nw8.out.trans hnx
                have n69 : New w6 w9 := N68.out.trans hnx
                obtain ⟨Y', F7, Dx7, Dy7, S7, B7⟩ := round_put F4 Dx4 Dy4 S4 B3.out nexy (by omega) (o6.new n69) q6 n49
                have END := Lib.hid (And.intro F7 (And.intro Dx7 (And.intro Dy7 (And.intro S7 B7))))
                clear F7 Dx7 Dy7 S7 B7 o6 q6 n6 n49 n69
                go_wp2_with fail
                go_meet
                case rel =>
                  obtain ⟨F7, Dx7, Dy7, S7, B7⟩ := END.out
                  exact ⟨Y', er, L2, _, L, _, rfl, rfl, F7, Dx7, Dy7, S7, B7⟩
            · as_aux_lemma =>
              have s1 : W3.cell? ⟨wr.heap.size, 1, none⟩ = some (.int .i64 nn) := S3.out.1.cell 1
              have ll : L.length ≤ 100000 := by have := F3.out.inv.1; omega
              have hf := fg_bound F3.out.inv.2 nn
              have c := ftx_ref F3.out nn
              go_wp2_with fail
              refine c.mono ?_
              rintro e w4 ⟨rfl, F4, kb4⟩
              have Dx4 := Dx3.out.but kb4
              have Dy4 := Dy3.out.but kb4
              have S4 := S3.out.but kb4
              have cn := num_er (frE L nn 1) w4 (LD.out.new F4.world)
              clear c kb4 s1
              go_wp2_with fail
              refine cn.mono ?_
              rintro e w5 ⟨rfl, n5⟩
              have F5 := F4.new n5
              have Dx5 := Dx4.new n5
              have Dy5 := Dy4.new n5
              have S5 := S4.new n5
              have s1 : w5.cell? ⟨wr.heap.size, 1, none⟩ = some (.int .i64 nn) := S5.1.cell 1
              obtain ⟨z0, z1⟩ := Dx5.1.1.two
              have c := rfref_any (most := a0) Dx5.2.1 F5.world.size ll nn 1 (by omega) hf
              unfold DtV FlV at c
              generalize frO L nn 1 = fo2 at c
              generalize frE L nn 1 = er at *
              generalize frL L nn 1 = L2 at *
              clear cn F4 Dx4 Dy4 S4 n5
              go_wp2_with fail
              refine c.mono ?_
              rintro e w6 ⟨u', rfl, o6, q6, n6⟩
              obtain ⟨Y', F7, Dx7, Dy7, S7, B7⟩ := round_put F5 Dx5 Dy5 S5 B3.out nexy (by omega) o6 q6 n6
              obtain ⟨y0', y1'⟩ := (Dy5.1.1.new n6).two
              have yf0 := (Dy5.1.1.new n6).unfrozen 0
              have yf1 := (Dy5.1.1.new n6).unfrozen 1
              have yl := (Dy5.1.1.new n6).lt
              obtain ⟨p6, k6, rfl, -, -⟩ := o6.shape
              have END := Lib.hid (And.intro F7 (And.intro Dx7 (And.intro Dy7 (And.intro S7 B7))))
              clear c F7 Dx7 Dy7 S7 B7 F5 Dx5 Dy5 S5 o6 q6 n6 s1 z0 z1
              generalize (L2.map itC).length = l2 at *
              go_wp2
              go_meet
              case rel =>
                obtain ⟨F7, Dx7, Dy7, S7, B7⟩ := END.out
                exact ⟨Y', er, L2, _, L, _, rfl, rfl, F7, Dx7, Dy7, S7, B7⟩
            · as_aux_lemma =>
              have s1 : W3.cell? ⟨wr.heap.size, 1, none⟩ = some (.int .i64 nn) := S3.out.1.cell 1
              have ll : L.length ≤ 100000 := by have := F3.out.inv.1; omega
              have hf := fg_bound F3.out.inv.2 nn
              have c := ftx_unref F3.out nn
              unfold FlV at c
              obtain ⟨fo2, hfo⟩ : ∃ x, x = frO L nn (-1) := ⟨_, rfl⟩
              obtain ⟨er, her⟩ : ∃ x, x = frE L nn (-1) := ⟨_, rfl⟩
              obtain ⟨L2, hL2⟩ : ∃ x, x = frL L nn (-1) := ⟨_, rfl⟩
              have HFO := Lib.hid hfo
              have HER := Lib.hid her
              have HLL := Lib.hid hL2
              rw [← hfo, ← her, ← hL2] at c
              obtain ⟨gb, hgb⟩ : ∃ x, x = decide (er = 0 ∧ fo2.rf = 0) := ⟨_, rfl⟩
              rw [← hgb] at c
              have HGB := Lib.hid hgb
              clear hfo her hL2 hgb
              go_wp2_with fail
              refine c.mono ?_
              rintro e w4 ⟨rfl, F4, kb4⟩
              have Dx4 := Dx3.out.but kb4
              have Dy4 := Dy3.out.but kb4
              have S4 := S3.out.but kb4
              have al := (New.refl w4).alloc #[.int .i64 fo2.k, .int .i64 fo2.id, .int .i64 fo2.off, .bool fo2.rd, .bool fo2.wt, .string (ba fo2.nm), .int .i64 fo2.rf] 29
              have b21 := Box.here w4 w4.heap.size #[.int .i64 fo2.k, .int .i64 fo2.id, .int .i64 fo2.off, .bool fo2.rd, .bool fo2.wt, .string (ba fo2.nm), .int .i64 fo2.rf] 29 rfl
              have Dx5 := Dx4.new al
              have Dy5 := Dy4.new al
              have S5 := S4.new al
              have F5 := F4.new al
              clear c kb4 s1 al
              go_upto_region 31 with fail
              generalize w4.alloc (.cells #[.int .i64 fo2.k, .int .i64 fo2.id, .int .i64 fo2.off, .bool fo2.rd, .bool fo2.wt, .string (ba fo2.nm), .int .i64 fo2.rf] 29) = W5 at *
              have s1 : W5.cell? ⟨wr.heap.size, 1, none⟩ = some (.int .i64 nn) := S5.1.cell 1
              obtain ⟨z0, z1⟩ := Dx5.1.1.two
              have c := rfref_any (most := a0) Dx5.2.1 F5.world.size ll nn (-1) (by omega) hf
              rw [← HFO.out, ← HER.out, ← HLL.out] at c
              unfold DtV FlV at c
              clear F4 Dx4 Dy4 S4
              go_wp2_with fail
              refine c.mono ?_
              rintro e w6 ⟨u', rfl, o6, q6, n6⟩
              obtain ⟨p6, k6, rfl, -, -⟩ := o6.shape
              have O6 := Lib.hid (And.intro o6 (And.intro q6 n6))
              clear c o6 q6 s1 z0 z1
              generalize (L2.map itC).length = l2 at *
              go_upto_region 32 with fail
              obtain ⟨W8, hW8⟩ : ∃ W8, W8 = (w6.alloc (.cells #[.int .i64 a0, .slice p6 l2 k6] 44)).alloc (.cells #[.int .i64 fo2.k, .int .i64 fo2.id, .int .i64 fo2.off, .bool fo2.rd, .bool fo2.wt, .string (ba fo2.nm), .int .i64 fo2.rf] 45) := ⟨_, rfl⟩
              have n8 : New w6 W8 := by rw [hW8]; exact ((New.refl w6).alloc _ _).alloc _ _
              have bZ : Box W8 w6.heap.size #[.int .i64 a0, .slice p6 l2 k6] 44 := by rw [hW8]; exact (Box.here _ _ _ _ rfl).alloc _
              have b25 : Box W8 (w6.heap.size + 1) #[.int .i64 fo2.k, .int .i64 fo2.id, .int .i64 fo2.off, .bool fo2.rd, .bool fo2.wt, .string (ba fo2.nm), .int .i64 fo2.rf] 45 := by rw [hW8]; exact Box.here _ _ _ _ (by rw [World.size_alloc])
              rw [← hW8]
              clear hW8
              obtain ⟨-, ⟨c0, c1, c2, c3, c4, c5, c6⟩, -⟩ := ((b21.new n6).new n8).seven
              obtain ⟨-, ⟨e0, e1, e2, e3, e4, e5, e6⟩, -⟩ := b25.seven
              clear b21 b25
              generalize fo2.rf = rf2 at *
              have nw8 := Lib.hid (n6.trans n8)
              have N68 := Lib.hid n8
              have F5 := Lib.hid F5
              have Dx5 := Lib.hid Dx5
              have Dy5 := Lib.hid Dy5
              have S5 := Lib.hid S5
              have BZ := Lib.hid bZ
              clear n6 n8 bZ hf
              have WAYS : (er = 0 ∧ rf2 = 0 ∧ gb = true) ∨ (er = 0 ∧ (rf2 == (0 : Int)) = false ∧ gb = false) ∨ ((er == (0 : Int)) = false ∧ gb = false) := by
                have h := HGB.out
                by_cases c1 : er = 0
                · by_cases c2 : rf2 = 0
                  · exact .inl ⟨c1, c2, by rw [h]; exact decide_eq_true ⟨c1, c2⟩⟩
                  · exact .inr (.inl ⟨c1, by simpa using c2, by rw [h]; exact decide_eq_false (fun d => c2 d.2)⟩)
                · exact .inr (.inr ⟨by simpa using c1, by rw [h]; exact decide_eq_false (fun d => c1 d.1)⟩)
              have WAYS := Lib.hid WAYS
              clear HGB
              generalize fo2.k = gk2 at *
              generalize fo2.id = gi2 at *
              generalize fo2.off = go2 at *
              generalize fo2.rd = gr2 at *
              generalize fo2.wt = gw2 at *
              generalize ba fo2.nm = gn2 at *
              clear HFO
              rcases WAYS.out with ⟨he, hr, hg⟩ | ⟨he, hr, hg⟩ | ⟨he, hg⟩
              · as_aux_lemma =>
                subst he hr hg
                clear WAYS
                go_upto_region 34 with fail
                have cn := fun W (q : New W8 W) => num_er 0 W (LD.out.new (F5.out.world.trans (nw8.out.trans q)))
                have CN2 := Lib.hid cn
                have nd : New W8 W8.drew := (New.refl W8).drew
                have bYY := fun w' (q : New W8 w') => (Dy5.out.1.1.new nw8.out).new q
                have BYY := Lib.hid bYY
                obtain ⟨x0, x1⟩ := BZ.out.two
                have lz6 := BZ.out.lt
                have ly6 : wr.heap.size + 1 < w6.heap.size := (Dy5.out.1.1.new O6.out.2.2).lt
                have KEEP : ∀ w', But (fun g => g = wr.heap.size + 1) W8 w' → w'.cell? ⟨w6.heap.size, 0, none⟩ = some (.int .i64 a0) ∧ w'.cell? ⟨w6.heap.size, 1, none⟩ = some (.slice p6 l2 k6) := fun w' q => by
                  have ka : ∀ o x, W8.cell? ⟨w6.heap.size, o, none⟩ = some x → w'.cell? ⟨w6.heap.size, o, none⟩ = some x := fun o x h => by rw [q.cell (p := ⟨w6.heap.size, o, none⟩) (cell_lt h) (by show ¬ (w6.heap.size = _); omega)]; exact h
                  exact ⟨ka _ _ x0, ka _ _ x1⟩
                have KEEP := Lib.hid KEEP
                have ND : But (fun g => g = wr.heap.size + 1) W8 W8.drew := But.of_new _ nd
                have SET2 : ∀ w' x y, But (fun g => g = wr.heap.size + 1) w' ((w'.setCell ⟨wr.heap.size + 1, 0, none⟩ x).setCell ⟨wr.heap.size + 1, 1, none⟩ y) := fun w' x y => (But.set (S := fun g => g = wr.heap.size + 1) w' (p := ⟨wr.heap.size + 1, 0, none⟩) rfl x).trans (But.set (S := fun g => g = wr.heap.size + 1) _ (p := ⟨wr.heap.size + 1, 1, none⟩) rfl y)
                have SET2 := Lib.hid SET2
                clear cn bYY x0 x1 c0 c1 c2 c3 c4 c5 c6 e0 e1 e2 e3 e4 e5 e6
                go_region_held3 (fun w' => w'.cell? ⟨w6.heap.size, 0, none⟩ = some (.int .i64 a0) ∧ w'.cell? ⟨w6.heap.size, 1, none⟩ = some (.slice p6 l2 k6))
                  (first | exact KEEP.out _ HX | exact KEEP.out _ ND | exact KEEP.out _ (HX.trans (SET2.out _ _ _)))
                  (first
                    | (go_at_call 9; (with_reducible refine (CN2.out _ nd).mono ?_); rintro e w9 ⟨rfl, n9⟩; have hnx : New W8 w9 := nd.trans n9; have HX : But (fun g => g = wr.heap.size + 1) W8 w9 := But.of_new _ hnx
                       obtain ⟨y0', y1'⟩ := (BYY.out _ hnx).two
                       have yf0 := (BYY.out _ hnx).unfrozen 0
                       have yf1 := (BYY.out _ hnx).unfrozen 1
                       have yl := (BYY.out _ hnx).lt))
                all_goals
                  obtain ⟨o6, q6, n6⟩ := O6.out
                  have n49 := nw8.out.trans hnx
                  have n69 : New w6 w9 := N68.out.trans hnx
                  obtain ⟨Y', F7, Dx7, Dy7, S7, B7⟩ := round_put F5.out Dx5.out Dy5.out S5.out B3.out nexy (by omega) (o6.new n69) q6 n49
                  have END := Lib.hid (And.intro F7 (And.intro Dx7 (And.intro Dy7 (And.intro S7 B7))))
                  clear F7 Dx7 Dy7 S7 B7 o6 q6 n6 n49 n69
                  go_wp2_with fail
                  go_meet
                  case rel =>
                    obtain ⟨F7, Dx7, Dy7, S7, B7⟩ := END.out
                    exact ⟨Y', 0, L2, _, L, _, rfl, rfl, F7, Dx7, Dy7, S7, B7⟩
              · as_aux_lemma =>
                subst he hg
                clear WAYS
                go_upto_region 34 with fail
                have cn := fun W (q : New W8 W) => num_er 0 W (LD.out.new (F5.out.world.trans (nw8.out.trans q)))
                have CN2 := Lib.hid cn
                have nd : New W8 W8.drew := (New.refl W8).drew
                have bYY := fun w' (q : New W8 w') => (Dy5.out.1.1.new nw8.out).new q
                have BYY := Lib.hid bYY
                obtain ⟨x0, x1⟩ := BZ.out.two
                have lz6 := BZ.out.lt
                have ly6 : wr.heap.size + 1 < w6.heap.size := (Dy5.out.1.1.new O6.out.2.2).lt
                have KEEP : ∀ w', But (fun g => g = wr.heap.size + 1) W8 w' → w'.cell? ⟨w6.heap.size, 0, none⟩ = some (.int .i64 a0) ∧ w'.cell? ⟨w6.heap.size, 1, none⟩ = some (.slice p6 l2 k6) := fun w' q => by
                  have ka : ∀ o x, W8.cell? ⟨w6.heap.size, o, none⟩ = some x → w'.cell? ⟨w6.heap.size, o, none⟩ = some x := fun o x h => by rw [q.cell (p := ⟨w6.heap.size, o, none⟩) (cell_lt h) (by show ¬ (w6.heap.size = _); omega)]; exact h
                  exact ⟨ka _ _ x0, ka _ _ x1⟩
                have KEEP := Lib.hid KEEP
                have ND : But (fun g => g = wr.heap.size + 1) W8 W8.drew := But.of_new _ nd
                have SET2 : ∀ w' x y, But (fun g => g = wr.heap.size + 1) w' ((w'.setCell ⟨wr.heap.size + 1, 0, none⟩ x).setCell ⟨wr.heap.size + 1, 1, none⟩ y) := fun w' x y => (But.set (S := fun g => g = wr.heap.size + 1) w' (p := ⟨wr.heap.size + 1, 0, none⟩) rfl x).trans (But.set (S := fun g => g = wr.heap.size + 1) _ (p := ⟨wr.heap.size + 1, 1, none⟩) rfl y)
                have SET2 := Lib.hid SET2
                clear cn bYY x0 x1 c0 c1 c2 c3 c4 c5 c6 e0 e1 e2 e3 e4 e5 e6
                go_region_held3 (fun w' => w'.cell? ⟨w6.heap.size, 0, none⟩ = some (.int .i64 a0) ∧ w'.cell? ⟨w6.heap.size, 1, none⟩ = some (.slice p6 l2 k6))
                  (first | exact KEEP.out _ HX | exact KEEP.out _ ND | exact KEEP.out _ (HX.trans (SET2.out _ _ _)))
                  (first
                    | (go_at_call 9; (with_reducible refine (CN2.out _ nd).mono ?_); rintro e w9 ⟨rfl, n9⟩; have hnx : New W8 w9 := nd.trans n9; have HX : But (fun g => g = wr.heap.size + 1) W8 w9 := But.of_new _ hnx
                       obtain ⟨y0', y1'⟩ := (BYY.out _ hnx).two
                       have yf0 := (BYY.out _ hnx).unfrozen 0
                       have yf1 := (BYY.out _ hnx).unfrozen 1
                       have yl := (BYY.out _ hnx).lt))
                all_goals
                  obtain ⟨o6, q6, n6⟩ := O6.out
                  have n49 := nw8.out.trans hnx
                  have n69 : New w6 w9 := N68.out.trans hnx
                  obtain ⟨Y', F7, Dx7, Dy7, S7, B7⟩ := round_put F5.out Dx5.out Dy5.out S5.out B3.out nexy (by omega) (o6.new n69) q6 n49
                  have END := Lib.hid (And.intro F7 (And.intro Dx7 (And.intro Dy7 (And.intro S7 B7))))
                  clear F7 Dx7 Dy7 S7 B7 o6 q6 n6 n49 n69
                  go_wp2_with fail
                  go_meet
                  case rel =>
                    obtain ⟨F7, Dx7, Dy7, S7, B7⟩ := END.out
                    exact ⟨Y', 0, L2, _, L, _, rfl, rfl, F7, Dx7, Dy7, S7, B7⟩
              · as_aux_lemma =>
                subst hg
                clear WAYS
                go_upto_region 34 with fail
                have cn := fun W (q : New W8 W) => num_er er W (LD.out.new (F5.out.world.trans (nw8.out.trans q)))
                have CN2 := Lib.hid cn
                have nd : New W8 W8.drew := (New.refl W8).drew
                have bYY := fun w' (q : New W8 w') => (Dy5.out.1.1.new nw8.out).new q
                have BYY := Lib.hid bYY
                obtain ⟨x0, x1⟩ := BZ.out.two
                have lz6 := BZ.out.lt
                have ly6 : wr.heap.size + 1 < w6.heap.size := (Dy5.out.1.1.new O6.out.2.2).lt
                have KEEP : ∀ w', But (fun g => g = wr.heap.size + 1) W8 w' → w'.cell? ⟨w6.heap.size, 0, none⟩ = some (.int .i64 a0) ∧ w'.cell? ⟨w6.heap.size, 1, none⟩ = some (.slice p6 l2 k6) := fun w' q => by
                  have ka : ∀ o x, W8.cell? ⟨w6.heap.size, o, none⟩ = some x → w'.cell? ⟨w6.heap.size, o, none⟩ = some x := fun o x h => by rw [q.cell (p := ⟨w6.heap.size, o, none⟩) (cell_lt h) (by show ¬ (w6.heap.size = _); omega)]; exact h
                  exact ⟨ka _ _ x0, ka _ _ x1⟩
                have KEEP := Lib.hid KEEP
                have ND : But (fun g => g = wr.heap.size + 1) W8 W8.drew := But.of_new _ nd
                have SET2 : ∀ w' x y, But (fun g => g = wr.heap.size + 1) w' ((w'.setCell ⟨wr.heap.size + 1, 0, none⟩ x).setCell ⟨wr.heap.size + 1, 1, none⟩ y) := fun w' x y => (But.set (S := fun g => g = wr.heap.size + 1) w' (p := ⟨wr.heap.size + 1, 0, none⟩) rfl x).trans (But.set (S := fun g => g = wr.heap.size + 1) _ (p := ⟨wr.heap.size + 1, 1, none⟩) rfl y)
                have SET2 := Lib.hid SET2
                clear cn bYY x0 x1 c0 c1 c2 c3 c4 c5 c6 e0 e1 e2 e3 e4 e5 e6
                go_region_held3 (fun w' => w'.cell? ⟨w6.heap.size, 0, none⟩ = some (.int .i64 a0) ∧ w'.cell? ⟨w6.heap.size, 1, none⟩ = some (.slice p6 l2 k6))
                  (first | exact KEEP.out _ HX | exact KEEP.out _ ND | exact KEEP.out _ (HX.trans (SET2.out _ _ _)))
                  (first
                    | (go_at_call 9; (with_reducible refine (CN2.out _ nd).mono ?_); rintro e w9 ⟨rfl, n9⟩; have hnx : New W8 w9 := nd.trans n9; have HX : But (fun g => g = wr.heap.size + 1) W8 w9 := But.of_new _ hnx
                       obtain ⟨y0', y1'⟩ := (BYY.out _ hnx).two
                       have yf0 := (BYY.out _ hnx).unfrozen 0
                       have yf1 := (BYY.out _ hnx).unfrozen 1
                       have yl := (BYY.out _ hnx).lt))
                all_goals
                  obtain ⟨o6, q6, n6⟩ := O6.out
                  have n49 := nw8.out.trans hnx
                  have n69 : New w6 w9 := N68.out.trans hnx
                  obtain ⟨Y', F7, Dx7, Dy7, S7, B7⟩ := round_put F5.out Dx5.out Dy5.out S5.out B3.out nexy (by omega) (o6.new n69) q6 n49
                  have END := Lib.hid (And.intro F7 (And.intro Dx7 (And.intro Dy7 (And.intro S7 B7))))
                  clear F7 Dx7 Dy7 S7 B7 o6 q6 n6 n49 n69
                  go_wp2_with fail
                  go_meet
                  case rel =>
                    obtain ⟨F7, Dx7, Dy7, S7, B7⟩ := END.out
                    exact ⟨Y', er, L2, _, L, _, rfl, rfl, F7, Dx7, Dy7, S7, B7⟩
            · as_aux_lemma =>
              have s1 : W3.cell? ⟨wr.heap.size, 1, none⟩ = some (.int .i64 nn) := S3.out.1.cell 1
              have ll : L.length ≤ 100000 := by have := F3.out.inv.1; omega
              have hf := fg_bound F3.out.inv.2 nn
              have c := ftx_unref F3.out nn
              unfold FlV at c
              obtain ⟨fo2, hfo⟩ : ∃ x, x = frO L nn (-1) := ⟨_, rfl⟩
              obtain ⟨er, her⟩ : ∃ x, x = frE L nn (-1) := ⟨_, rfl⟩
              obtain ⟨L2, hL2⟩ : ∃ x, x = frL L nn (-1) := ⟨_, rfl⟩
              have HFO := Lib.hid hfo
              have HER := Lib.hid her
              have HLL := Lib.hid hL2
              rw [← hfo, ← her, ← hL2] at c
              obtain ⟨gb, hgb⟩ : ∃ x, x = decide (er = 0 ∧ fo2.rf = 0) := ⟨_, rfl⟩
              rw [← hgb] at c
              have HGB := Lib.hid hgb
              clear hfo her hL2 hgb
              go_wp2_with fail
              refine c.mono ?_
              rintro e w4 ⟨rfl, F4, kb4⟩
              have Dx4 := Dx3.out.but kb4
              have Dy4 := Dy3.out.but kb4
              have S4 := S3.out.but kb4
              have al := (New.refl w4).alloc #[.int .i64 fo2.k, .int .i64 fo2.id, .int .i64 fo2.off, .bool fo2.rd, .bool fo2.wt, .string (ba fo2.nm), .int .i64 fo2.rf] 29
              have b21 := Box.here w4 w4.heap.size #[.int .i64 fo2.k, .int .i64 fo2.id, .int .i64 fo2.off, .bool fo2.rd, .bool fo2.wt, .string (ba fo2.nm), .int .i64 fo2.rf] 29 rfl
              have Dx5 := Dx4.new al
              have Dy5 := Dy4.new al
              have S5 := S4.new al
              have F5 := F4.new al
              clear c kb4 s1 al
              go_upto_region 31 with fail
              generalize w4.alloc (.cells #[.int .i64 fo2.k, .int .i64 fo2.id, .int .i64 fo2.off, .bool fo2.rd, .bool fo2.wt, .string (ba fo2.nm), .int .i64 fo2.rf] 29) = W5 at *
              have s1 : W5.cell? ⟨wr.heap.size, 1, none⟩ = some (.int .i64 nn) := S5.1.cell 1
              obtain ⟨z0, z1⟩ := Dx5.1.1.two
              have c := rfref_any (most := a0) Dx5.2.1 F5.world.size ll nn (-1) (by omega) hf
              rw [← HFO.out, ← HER.out, ← HLL.out] at c
              unfold DtV FlV at c
              clear F4 Dx4 Dy4 S4
              go_wp2_with fail
              refine c.mono ?_
              rintro e w6 ⟨u', rfl, o6, q6, n6⟩
              obtain ⟨p6, k6, rfl, -, -⟩ := o6.shape
              have O6 := Lib.hid (And.intro o6 (And.intro q6 n6))
              clear c o6 q6 s1 z0 z1
              generalize (L2.map itC).length = l2 at *
              go_upto_region 32 with fail
              obtain ⟨W8, hW8⟩ : ∃ W8, W8 = (w6.alloc (.cells #[.int .i64 a0, .slice p6 l2 k6] 44)).alloc (.cells #[.int .i64 fo2.k, .int .i64 fo2.id, .int .i64 fo2.off, .bool fo2.rd, .bool fo2.wt, .string (ba fo2.nm), .int .i64 fo2.rf] 45) := ⟨_, rfl⟩
              have n8 : New w6 W8 := by rw [hW8]; exact ((New.refl w6).alloc _ _).alloc _ _
              have bZ : Box W8 w6.heap.size #[.int .i64 a0, .slice p6 l2 k6] 44 := by rw [hW8]; exact (Box.here _ _ _ _ rfl).alloc _
              have b25 : Box W8 (w6.heap.size + 1) #[.int .i64 fo2.k, .int .i64 fo2.id, .int .i64 fo2.off, .bool fo2.rd, .bool fo2.wt, .string (ba fo2.nm), .int .i64 fo2.rf] 45 := by rw [hW8]; exact Box.here _ _ _ _ (by rw [World.size_alloc])
              rw [← hW8]
              clear hW8
              obtain ⟨-, ⟨c0, c1, c2, c3, c4, c5, c6⟩, -⟩ := ((b21.new n6).new n8).seven
              obtain ⟨-, ⟨e0, e1, e2, e3, e4, e5, e6⟩, -⟩ := b25.seven
              clear b21 b25
              generalize fo2.rf = rf2 at *
              have nw8 := Lib.hid (n6.trans n8)
              have N68 := Lib.hid n8
              have F5 := Lib.hid F5
              have Dx5 := Lib.hid Dx5
              have Dy5 := Lib.hid Dy5
              have S5 := Lib.hid S5
              have BZ := Lib.hid bZ
              clear n6 n8 bZ hf
              have WAYS : (er = 0 ∧ rf2 = 0 ∧ gb = true) ∨ (er = 0 ∧ (rf2 == (0 : Int)) = false ∧ gb = false) ∨ ((er == (0 : Int)) = false ∧ gb = false) := by
                have h := HGB.out
                by_cases c1 : er = 0
                · by_cases c2 : rf2 = 0
                  · exact .inl ⟨c1, c2, by rw [h]; exact decide_eq_true ⟨c1, c2⟩⟩
                  · exact .inr (.inl ⟨c1, by simpa using c2, by rw [h]; exact decide_eq_false (fun d => c2 d.2)⟩)
                · exact .inr (.inr ⟨by simpa using c1, by rw [h]; exact decide_eq_false (fun d => c1 d.1)⟩)
              have WAYS := Lib.hid WAYS
              clear HGB
              generalize fo2.k = gk2 at *
              generalize fo2.id = gi2 at *
              generalize fo2.off = go2 at *
              generalize fo2.rd = gr2 at *
              generalize fo2.wt = gw2 at *
              generalize ba fo2.nm = gn2 at *
              clear HFO
              rcases WAYS.out with ⟨he, hr, hg⟩ | ⟨he, hr, hg⟩ | ⟨he, hg⟩
              · as_aux_lemma =>
                subst he hr hg
                clear WAYS
                go_upto_region 34 with fail
                have cn := fun W (q : New W8 W) => num_er 0 W (LD.out.new (F5.out.world.trans (nw8.out.trans q)))
                have CN2 := Lib.hid cn
                have nd : New W8 W8.drew := (New.refl W8).drew
                have bYY := fun w' (q : New W8 w') => (Dy5.out.1.1.new nw8.out).new q
                have BYY := Lib.hid bYY
                obtain ⟨x0, x1⟩ := BZ.out.two
                have lz6 := BZ.out.lt
                have ly6 : wr.heap.size + 1 < w6.heap.size := (Dy5.out.1.1.new O6.out.2.2).lt
                have KEEP : ∀ w', But (fun g => g = wr.heap.size + 1) W8 w' → w'.cell? ⟨w6.heap.size, 0, none⟩ = some (.int .i64 a0) ∧ w'.cell? ⟨w6.heap.size, 1, none⟩ = some (.slice p6 l2 k6) := fun w' q => by
                  have ka : ∀ o x, W8.cell? ⟨w6.heap.size, o, none⟩ = some x → w'.cell? ⟨w6.heap.size, o, none⟩ = some x := fun o x h => by rw [q.cell (p := ⟨w6.heap.size, o, none⟩) (cell_lt h) (by show ¬ (w6.heap.size = _); omega)]; exact h
                  exact ⟨ka _ _ x0, ka _ _ x1⟩
                have KEEP := Lib.hid KEEP
                have ND : But (fun g => g = wr.heap.size + 1) W8 W8.drew := But.of_new _ nd
                have SET2 : ∀ w' x y, But (fun g => g = wr.heap.size + 1) w' ((w'.setCell ⟨wr.heap.size + 1, 0, none⟩ x).setCell ⟨wr.heap.size + 1, 1, none⟩ y) := fun w' x y => (But.set (S := fun g => g = wr.heap.size + 1) w' (p := ⟨wr.heap.size + 1, 0, none⟩) rfl x).trans (But.set (S := fun g => g = wr.heap.size + 1) _ (p := ⟨wr.heap.size + 1, 1, none⟩) rfl y)
                have SET2 := Lib.hid SET2
                clear cn bYY x0 x1 c0 c1 c2 c3 c4 c5 c6 e0 e1 e2 e3 e4 e5 e6
                go_region_held3 (fun w' => w'.cell? ⟨w6.heap.size, 0, none⟩ = some (.int .i64 a0) ∧ w'.cell? ⟨w6.heap.size, 1, none⟩ = some (.slice p6 l2 k6))
                  (first | exact KEEP.out _ HX | exact KEEP.out _ ND | exact KEEP.out _ (HX.trans (SET2.out _ _ _)))
                  (first
                    | (go_at_call 9; (with_reducible refine (CN2.out _ nd).mono ?_); rintro e w9 ⟨rfl, n9⟩; have hnx : New W8 w9 := nd.trans n9; have HX : But (fun g => g = wr.heap.size + 1) W8 w9 := But.of_new _ hnx
                       obtain ⟨y0', y1'⟩ := (BYY.out _ hnx).two
                       have yf0 := (BYY.out _ hnx).unfrozen 0
                       have yf1 := (BYY.out _ hnx).unfrozen 1
                       have yl := (BYY.out _ hnx).lt))
                all_goals
                  obtain ⟨o6, q6, n6⟩ := O6.out
                  have n49 := nw8.out.trans hnx
                  have n69 : New w6 w9 := N68.out.trans hnx
                  obtain ⟨Y', F7, Dx7, Dy7, S7, B7⟩ := round_put F5.out Dx5.out Dy5.out S5.out B3.out nexy (by omega) (o6.new n69) q6 n49
                  have END := Lib.hid (And.intro F7 (And.intro Dx7 (And.intro Dy7 (And.intro S7 B7))))
                  clear F7 Dx7 Dy7 S7 B7 o6 q6 n6 n49 n69
                  go_wp2_with fail
                  go_meet
                  case rel =>
                    obtain ⟨F7, Dx7, Dy7, S7, B7⟩ := END.out
                    exact ⟨Y', 0, L2, _, L, _, rfl, rfl, F7, Dx7, Dy7, S7, B7⟩
              · as_aux_lemma =>
                subst he hg
                clear WAYS
                go_upto_region 34 with fail
                have cn := fun W (q : New W8 W) => num_er 0 W (LD.out.new (F5.out.world.trans (nw8.out.trans q)))
                have CN2 := Lib.hid cn
                have nd : New W8 W8.drew := (New.refl W8).drew
                have bYY := fun w' (q : New W8 w') => (Dy5.out.1.1.new nw8.out).new q
                have BYY := Lib.hid bYY
                obtain ⟨x0, x1⟩ := BZ.out.two
                have lz6 := BZ.out.lt
                have ly6 : wr.heap.size + 1 < w6.heap.size := (Dy5.out.1.1.new O6.out.2.2).lt
                have KEEP : ∀ w', But (fun g => g = wr.heap.size + 1) W8 w' → w'.cell? ⟨w6.heap.size, 0, none⟩ = some (.int .i64 a0) ∧ w'.cell? ⟨w6.heap.size, 1, none⟩ = some (.slice p6 l2 k6) := fun w' q => by
                  have ka : ∀ o x, W8.cell? ⟨w6.heap.size, o, none⟩ = some x → w'.cell? ⟨w6.heap.size, o, none⟩ = some x := fun o x h => by rw [q.cell (p := ⟨w6.heap.size, o, none⟩) (cell_lt h) (by show ¬ (w6.heap.size = _); omega)]; exact h
                  exact ⟨ka _ _ x0, ka _ _ x1⟩
                have KEEP := Lib.hid KEEP
                have ND : But (fun g => g = wr.heap.size + 1) W8 W8.drew := But.of_new _ nd
                have SET2 : ∀ w' x y, But (fun g => g = wr.heap.size + 1) w' ((w'.setCell ⟨wr.heap.size + 1, 0, none⟩ x).setCell ⟨wr.heap.size + 1, 1, none⟩ y) := fun w' x y => (But.set (S := fun g => g = wr.heap.size + 1) w' (p := ⟨wr.heap.size + 1, 0, none⟩) rfl x).trans (But.set (S := fun g => g = wr.heap.size + 1) _ (p := ⟨wr.heap.size + 1, 1, none⟩) rfl y)
                have SET2 := Lib.hid SET2
                clear cn bYY x0 x1 c0 c1 c2 c3 c4 c5 c6 e0 e1 e2 e3 e4 e5 e6
                go_region_held3 (fun w' => w'.cell? ⟨w6.heap.size, 0, none⟩ = some (.int .i64 a0) ∧ w'.cell? ⟨w6.heap.size, 1, none⟩ = some (.slice p6 l2 k6))
                  (first | exact KEEP.out _ HX | exact KEEP.out _ ND | exact KEEP.out _ (HX.trans (SET2.out _ _ _)))
                  (first
                    | (go_at_call 9; (with_reducible refine (CN2.out _ nd).mono ?_); rintro e w9 ⟨rfl, n9⟩; have hnx : New W8 w9 := nd.trans n9; have HX : But (fun g => g = wr.heap.size + 1) W8 w9 := But.of_new _ hnx
                       obtain ⟨y0', y1'⟩ := (BYY.out _ hnx).two
                       have yf0 := (BYY.out _ hnx).unfrozen 0
                       have yf1 := (BYY.out _ hnx).unfrozen 1
                       have yl := (BYY.out _ hnx).lt))
                all_goals
                  obtain ⟨o6, q6, n6⟩ := O6.out
                  have n49 := nw8.out.trans hnx
                  have n69 : New w6 w9 := N68.out.trans hnx
                  obtain ⟨Y', F7, Dx7, Dy7, S7, B7⟩ := round_put F5.out Dx5.out Dy5.out S5.out B3.out nexy (by omega) (o6.new n69) q6 n49
                  have END := Lib.hid (And.intro F7 (And.intro Dx7 (And.intro Dy7 (And.intro S7 B7))))
                  clear F7 Dx7 Dy7 S7 B7 o6 q6 n6 n49 n69
                  go_wp2_with fail
                  go_meet
                  case rel =>
                    obtain ⟨F7, Dx7, Dy7, S7, B7⟩ := END.out
                    exact ⟨Y', 0, L2, _, L, _, rfl, rfl, F7, Dx7, Dy7, S7, B7⟩
              · as_aux_lemma =>
                subst hg
                clear WAYS
                go_upto_region 34 with fail
                have cn := fun W (q : New W8 W) => num_er er W (LD.out.new (F5.out.world.trans (nw8.out.trans q)))
                have CN2 := Lib.hid cn
                have nd : New W8 W8.drew := (New.refl W8).drew
                have bYY := fun w' (q : New W8 w') => (Dy5.out.1.1.new nw8.out).new q
                have BYY := Lib.hid bYY
                obtain ⟨x0, x1⟩ := BZ.out.two
                have lz6 := BZ.out.lt
                have ly6 : wr.heap.size + 1 < w6.heap.size := (Dy5.out.1.1.new O6.out.2.2).lt
                have KEEP : ∀ w', But (fun g => g = wr.heap.size + 1) W8 w' → w'.cell? ⟨w6.heap.size, 0, none⟩ = some (.int .i64 a0) ∧ w'.cell? ⟨w6.heap.size, 1, none⟩ = some (.slice p6 l2 k6) := fun w' q => by
                  have ka : ∀ o x, W8.cell? ⟨w6.heap.size, o, none⟩ = some x → w'.cell? ⟨w6.heap.size, o, none⟩ = some x := fun o x h => by rw [q.cell (p := ⟨w6.heap.size, o, none⟩) (cell_lt h) (by show ¬ (w6.heap.size = _); omega)]; exact h
                  exact ⟨ka _ _ x0, ka _ _ x1⟩
                have KEEP := Lib.hid KEEP
                have ND : But (fun g => g = wr.heap.size + 1) W8 W8.drew := But.of_new _ nd
                have SET2 : ∀ w' x y, But (fun g => g = wr.heap.size + 1) w' ((w'.setCell ⟨wr.heap.size + 1, 0, none⟩ x).setCell ⟨wr.heap.size + 1, 1, none⟩ y) := fun w' x y => (But.set (S := fun g => g = wr.heap.size + 1) w' (p := ⟨wr.heap.size + 1, 0, none⟩) rfl x).trans (But.set (S := fun g => g = wr.heap.size + 1) _ (p := ⟨wr.heap.size + 1, 1, none⟩) rfl y)
                have SET2 := Lib.hid SET2
                clear cn bYY x0 x1 c0 c1 c2 c3 c4 c5 c6 e0 e1 e2 e3 e4 e5 e6
                go_region_held3 (fun w' => w'.cell? ⟨w6.heap.size, 0, none⟩ = some (.int .i64 a0) ∧ w'.cell? ⟨w6.heap.size, 1, none⟩ = some (.slice p6 l2 k6))
                  (first | exact KEEP.out _ HX | exact KEEP.out _ ND | exact KEEP.out _ (HX.trans (SET2.out _ _ _)))
                  (first
                    | (go_at_call 9; (with_reducible refine (CN2.out _ nd).mono ?_); rintro e w9 ⟨rfl, n9⟩; have hnx : New W8 w9 := nd.trans n9; have HX : But (fun g => g = wr.heap.size + 1) W8 w9 := But.of_new _ hnx
                       obtain ⟨y0', y1'⟩ := (BYY.out _ hnx).two
                       have yf0 := (BYY.out _ hnx).unfrozen 0
                       have yf1 := (BYY.out _ hnx).unfrozen 1
                       have yl := (BYY.out _ hnx).lt))
                all_goals
                  obtain ⟨o6, q6, n6⟩ := O6.out
                  have n49 := nw8.out.trans hnx
                  have n69 : New w6 w9 := N68.out.trans hnx
                  obtain ⟨Y', F7, Dx7, Dy7, S7, B7⟩ := round_put F5.out Dx5.out Dy5.out S5.out B3.out nexy (by omega) (o6.new n69) q6 n49
                  have END := Lib.hid (And.intro F7 (And.intro Dx7 (And.intro Dy7 (And.intro S7 B7))))
                  clear F7 Dx7 Dy7 S7 B7 o6 q6 n6 n49 n69
                  go_wp2_with fail
                  go_meet
                  case rel =>
                    obtain ⟨F7, Dx7, Dy7, S7, B7⟩ := END.out
                    exact ⟨Y', er, L2, _, L, _, rfl, rfl, F7, Dx7, Dy7, S7, B7⟩
            · as_aux_lemma =>
              have s1 : W3.cell? ⟨wr.heap.size, 1, none⟩ = some (.int .i64 nn) := S3.out.1.cell 1
              have ll : L.length ≤ 100000 := by have := F3.out.inv.1; omega
              have hf := fg_bound F3.out.inv.2 nn
              have s2 : W3.cell? ⟨wr.heap.size, 2, none⟩ = some (.int .i64 of) := S3.out.1.cell 2
              have c := ftx_move F3.out nn of
              go_wp2_with fail
              refine c.mono ?_
              rintro e w4 ⟨rfl, F4, kb4⟩
              have Dx4 := Dx3.out.but kb4
              have Dy4 := Dy3.out.but kb4
              have S4 := S3.out.but kb4
              have cn := num_er (fmE L nn of) w4 (LD.out.new F4.world)
              clear c kb4 s1 s2
              go_wp2_with fail
              refine cn.mono ?_
              rintro e w5 ⟨rfl, n5⟩
              have F5 := F4.new n5
              have Dx5 := Dx4.new n5
              have Dy5 := Dy4.new n5
              have S5 := S4.new n5
              have s2 : w5.cell? ⟨wr.heap.size, 2, none⟩ = some (.int .i64 of) := S5.1.cell 2
              have s1 : w5.cell? ⟨wr.heap.size, 1, none⟩ = some (.int .i64 nn) := S5.1.cell 1
              obtain ⟨z0, z1⟩ := Dx5.1.1.two
              have c := rfmove_any (most := a0) Dx5.2.1 F5.world.size ll nn of
              unfold DtV at c
              generalize fmE L nn of = er at *
              generalize fmL L nn of = L2 at *
              clear cn F4 Dx4 Dy4 S4 n5
              go_wp2_with fail
              refine c.mono ?_
              rintro e w6 ⟨u', rfl, o6, q6, n6⟩
              obtain ⟨Y', F7, Dx7, Dy7, S7, B7⟩ := round_put F5 Dx5 Dy5 S5 B3.out nexy (by omega) o6 q6 n6
              obtain ⟨y0', y1'⟩ := (Dy5.1.1.new n6).two
              have yf0 := (Dy5.1.1.new n6).unfrozen 0
              have yf1 := (Dy5.1.1.new n6).unfrozen 1
              have yl := (Dy5.1.1.new n6).lt
              obtain ⟨p6, k6, rfl, -, -⟩ := o6.shape
              have END := Lib.hid (And.intro F7 (And.intro Dx7 (And.intro Dy7 (And.intro S7 B7))))
              clear c F7 Dx7 Dy7 S7 B7 F5 Dx5 Dy5 S5 o6 q6 n6 s1 s2 z0 z1
              generalize (L2.map itC).length = l2 at *
              go_wp2
              go_meet
              case rel =>
                obtain ⟨F7, Dx7, Dy7, S7, B7⟩ := END.out
                exact ⟨Y', er, L2, _, L, _, rfl, rfl, F7, Dx7, Dy7, S7, B7⟩
          case rest =>
            as_aux_lemma =>
            clear F3 Dx3 Dy3 S3 B3 n3
            obtain ⟨Y2, er, L2, yu, LX, xu2, rfl, rfl, F3, Dx, Dy, S3, B3⟩ := hcut
            have R5 := round_x F3 Dx Dy S3 B3 nexs
            obtain ⟨y0, y1⟩ := Dy.1.1.two
            obtain ⟨x0, x1⟩ := Dx.1.1.two
            have xf0 := Dx.1.1.unfrozen 0
            have xf1 := Dx.1.1.unfrozen 1
            have xl := Dx.1.1.lt
            obtain ⟨p7, k7, rfl, -, -⟩ := Dy.2.1.shape
            have hl2 : (L2.map itC).length = L2.length := List.length_map _
            generalize hln : (L2.map itC).length = ln2 at *
            have HL2 := Lib.hid hl2
            clear Y F3 Dx Dy S3 hln hl2
            go_upto_region 39 with fail
            obtain ⟨W4, hW4⟩ : ∃ W4, W4 = (wc.setCell ⟨w12.heap.size, 0, none⟩ (.int .i64 a0)).setCell ⟨w12.heap.size, 1, none⟩ (.slice p7 ln2 k7) := ⟨_, rfl⟩
            rw [← hW4]
            rw [← hW4] at R5
            clear hW4 y0 y1 x0 x1 xf0 xf1 xl
            obtain ⟨F4, D4, S4⟩ := R5
            have s1 : W4.cell? ⟨wr.heap.size, 1, none⟩ = some (.int .i64 nn) := S4.1.cell 1
            have ll : L2.length ≤ 100000 := by have := F4.inv.1; omega
            have c := ftx_get F4 nn
            obtain ⟨g, hg⟩ : ∃ g, g = fgF L2 nn := ⟨_, rfl⟩
            have HG := Lib.hid hg
            rw [← hg] at c
            clear hg
            obtain ⟨ge, hge⟩ : ∃ x, x = fgE L2 nn := ⟨_, rfl⟩
            have HGE := Lib.hid hge
            rw [← hge] at c
            clear hge
            unfold FlV at c
            go_wp2_with fail
            refine c.mono ?_
            rintro e w5 ⟨rfl, F5, kb5⟩
            have D5 := D4.but kb5
            have S5 := S4.but kb5
            have al := (New.refl w5).alloc #[.int .i64 g.k, .int .i64 g.id, .int .i64 g.off, .bool g.rd, .bool g.wt, .string (ba g.nm), .int .i64 g.rf] 29
            have b32 := Box.here w5 w5.heap.size #[.int .i64 g.k, .int .i64 g.id, .int .i64 g.off, .bool g.rd, .bool g.wt, .string (ba g.nm), .int .i64 g.rf] 29 rfl
            obtain ⟨Y6, hY6⟩ : ∃ Y : Nat → Prop, Y = (fun i => Y2 i ∨ (w5.heap.size ≤ i ∧ i < (w5.alloc (.cells #[.int .i64 g.k, .int .i64 g.id, .int .i64 g.off, .bool g.rd, .bool g.wt, .string (ba g.nm), .int .i64 g.rf] 29)).heap.size)) := ⟨_, rfl⟩
            have F6 : Ftx Y6 w (w5.alloc (.cells #[.int .i64 g.k, .int .i64 g.id, .int .i64 g.off, .bool g.rd, .bool g.wt, .string (ba g.nm), .int .i64 g.rf] 29)) tb a0 L2 := by rw [hY6]; exact F5.take al
            have D6 := (D5.new al).more (Y := Y6) (fun i c => by rw [hY6]; exact .inl c)
            have S6 := (S5.new al).more (Y := Y6) (fun i c => by rw [hY6]; exact .inl c)
            have x32 : Y6 w5.heap.size := by rw [hY6]; exact .inr ⟨Nat.le_refl _, b32.lt⟩
            have B6 : ∀ i, Y6 i → w.heap.size ≤ i := fun i hi => by
              rw [hY6] at hi
              rcases hi with c | c
              · exact B3 i c
              · exact Nat.le_trans F5.world.size c.1
            clear hY6
            have s1 : (w5.alloc (.cells #[.int .i64 g.k, .int .i64 g.id, .int .i64 g.off, .bool g.rd, .bool g.wt, .string (ba g.nm), .int .i64 g.rf] 29)).cell? ⟨wr.heap.size, 1, none⟩ = some (.int .i64 nn) := S6.1.cell 1
            obtain ⟨x0, x1⟩ := D6.1.1.two
            have c := rfget_any (w := w5.alloc (.cells #[.int .i64 g.k, .int .i64 g.id, .int .i64 g.off, .bool g.rd, .bool g.wt, .string (ba g.nm), .int .i64 g.rf] 29)) (most := a0) (show Its _ _ L2 from D6.2.1.rws) (by omega) nn
            rw [← HG.out, ← HGE.out] at c
            unfold DtV FlV at c
            clear F5 D5 S5 D4 S4 kb5
            clear s1 x0 x1
            have s1 : (w5.alloc (.cells #[.int .i64 g.k, .int .i64 g.id, .int .i64 g.off, .bool g.rd, .bool g.wt, .string (ba g.nm), .int .i64 g.rf] 29)).cell? ⟨wr.heap.size, 1, none⟩ = some (.int .i64 nn) := S6.1.cell 1
            obtain ⟨x0, x1⟩ := D6.1.1.two
            go_wp2_with fail
            refine c.mono ?_
            rintro e w7 ⟨rfl, n7⟩
            go_upto_region 41 with fail
            have al := (New.refl w7).alloc #[.int .i64 g.k, .int .i64 g.id, .int .i64 g.off, .bool g.rd, .bool g.wt, .string (ba g.nm), .int .i64 g.rf] 45
            have b34 := Box.here w7 w7.heap.size #[.int .i64 g.k, .int .i64 g.id, .int .i64 g.off, .bool g.rd, .bool g.wt, .string (ba g.nm), .int .i64 g.rf] 45 rfl
            have b32 := (b32.new n7).new al
            have D8 := ((D6.new n7).new al)
            obtain ⟨Y9, hY9⟩ : ∃ Y : Nat → Prop, Y = (fun i => Y6 i ∨ (w7.heap.size ≤ i ∧ i < (w7.alloc (.cells #[.int .i64 g.k, .int .i64 g.id, .int .i64 g.off, .bool g.rd, .bool g.wt, .string (ba g.nm), .int .i64 g.rf] 45)).heap.size)) := ⟨_, rfl⟩
            have F9 : Ftx Y9 w (w7.alloc (.cells #[.int .i64 g.k, .int .i64 g.id, .int .i64 g.off, .bool g.rd, .bool g.wt, .string (ba g.nm), .int .i64 g.rf] 45)) tb a0 L2 := by rw [hY9]; exact (F6.new n7).take al
            have D9 := D8.more (Y := Y9) (fun i c => by rw [hY9]; exact .inl c)
            have y32 : Y9 w5.heap.size := by rw [hY9]; exact .inl x32
            have y34 : Y9 w7.heap.size := by rw [hY9]; exact .inr ⟨Nat.le_refl _, b34.lt⟩
            have B9 : ∀ i, Y9 i → w.heap.size ≤ i := fun i hi => by
              rw [hY9] at hi
              rcases hi with c | c
              · exact B6 i c
              · exact Nat.le_trans (F6.new n7).world.size c.1
            clear D8 c s1 x0 x1 n7 al D6 S6 F6 B6 x32
            clear hY9
            generalize w7.alloc (.cells #[.int .i64 g.k, .int .i64 g.id, .int .i64 g.off, .bool g.rd, .bool g.wt, .string (ba g.nm), .int .i64 g.rf] 45) = W8 at *
            generalize w5.heap.size = p32 at *
            generalize w7.heap.size = p34 at *
            generalize g.k = gk0 at *
            generalize g.id = gid at *
            generalize g.off = gof at *
            generalize g.rd = grd at *
            generalize g.wt = gwt at *
            generalize ba g.nm = gnm at *
            generalize g.rf = grf at *
            have nd : New W8 W8.drew := (New.refl W8).drew
            have F9 := Lib.hid (F9.new nd)
            have D9 := Lib.hid D9
            have B9 := Lib.hid B9
            have cn := num_er ge W8.drew (LD.out.new F9.out.world)
            have KEEP : ∀ w', But (fun i => ¬ Y9 i) W8 w' → (w'.cell? ⟨w12.heap.size, 0, none⟩ = some (.int .i64 a0) ∧ w'.cell? ⟨w12.heap.size, 1, none⟩ = some (.slice p7 ln2 k7)) ∧ (w'.cell? ⟨p32, 0, none⟩ = some (.int .i64 gk0) ∧ w'.cell? ⟨p32, 1, none⟩ = some (.int .i64 gid) ∧ w'.cell? ⟨p32, 2, none⟩ = some (.int .i64 gof) ∧ w'.cell? ⟨p32, 3, none⟩ = some (.bool grd) ∧ w'.cell? ⟨p32, 4, none⟩ = some (.bool gwt) ∧ w'.cell? ⟨p32, 5, none⟩ = some (.string gnm) ∧ w'.cell? ⟨p32, 6, none⟩ = some (.int .i64 grf)) ∧ w'.cell? ⟨p34, 0, none⟩ = some (.int .i64 gk0) ∧ w'.cell? ⟨p34, 1, none⟩ = some (.int .i64 gid) ∧ w'.cell? ⟨p34, 2, none⟩ = some (.int .i64 gof) ∧ w'.cell? ⟨p34, 3, none⟩ = some (.bool grd) ∧ w'.cell? ⟨p34, 4, none⟩ = some (.bool gwt) ∧ w'.cell? ⟨p34, 5, none⟩ = some (.string gnm) ∧ w'.cell? ⟨p34, 6, none⟩ = some (.int .i64 grf) := fun w' q =>
              ⟨(D9.out.but q).1.1.two, (b32.but q (fun c => c y32)).seven.2.1, (b34.but q (fun c => c y34)).seven.2.1⟩
            have KEEP := Lib.hid KEEP
            have ND : But (fun i => ¬ Y9 i) W8 W8.drew := But.of_new _ nd
            clear b32 b34 y32 y34
            have g1 : (ge != ge) = false := by simp
            have g2 : (ge == ge) = true := by simp
            have g3 : decide (ge = ge) = true := by simp
            go_region_held3 (fun w' => (w'.cell? ⟨w12.heap.size, 0, none⟩ = some (.int .i64 a0) ∧ w'.cell? ⟨w12.heap.size, 1, none⟩ = some (.slice p7 ln2 k7)) ∧ (w'.cell? ⟨p32, 0, none⟩ = some (.int .i64 gk0) ∧ w'.cell? ⟨p32, 1, none⟩ = some (.int .i64 gid) ∧ w'.cell? ⟨p32, 2, none⟩ = some (.int .i64 gof) ∧ w'.cell? ⟨p32, 3, none⟩ = some (.bool grd) ∧ w'.cell? ⟨p32, 4, none⟩ = some (.bool gwt) ∧ w'.cell? ⟨p32, 5, none⟩ = some (.string gnm) ∧ w'.cell? ⟨p32, 6, none⟩ = some (.int .i64 grf)) ∧ w'.cell? ⟨p34, 0, none⟩ = some (.int .i64 gk0) ∧ w'.cell? ⟨p34, 1, none⟩ = some (.int .i64 gid) ∧ w'.cell? ⟨p34, 2, none⟩ = some (.int .i64 gof) ∧ w'.cell? ⟨p34, 3, none⟩ = some (.bool grd) ∧ w'.cell? ⟨p34, 4, none⟩ = some (.bool gwt) ∧ w'.cell? ⟨p34, 5, none⟩ = some (.string gnm) ∧ w'.cell? ⟨p34, 6, none⟩ = some (.int .i64 grf))
              (first | exact KEEP.out _ HY | exact KEEP.out _ HX | exact KEEP.out _ ND)
              (first
                | (go_at_call 9; (with_reducible refine cn.mono ?_); rintro e w9 ⟨rfl, n9⟩; have HX : But (fun i => ¬ Y9 i) W8 w9 := But.of_new _ (nd.trans n9); have FX := Lib.hid (F9.out.new n9))
                | (go_at_call 12; (with_reducible refine (ftx_list FX.out).mono ?_); rintro e w10 ⟨v, l, rfl, hv, hvl, -, ⟨FY, kb⟩, -⟩; have FY := Lib.hid FY; have HY : But (fun i => ¬ Y9 i) W8 w10 := HX.trans kb; obtain ⟨pv, cv, rfl⟩ := hv.shape; have hvl : l.length = ln2 := hvl.trans HL2.out.symm; rw [hvl]; clear hv kb hvl))
            all_goals
              have DY := Lib.hid (D9.out.but HY)
              go_wp2
              go_roundg (len1 - (j + 1))
              case measure => have := J.out; omega
              case rel => exact ⟨j + 1, by have := J.out; omega, by go_num, by omega, L2, _, Y9, FY.out, DY.out.1.1, DY.out.2.1, DY.out.1.2, DY.out.2.2, B9.out⟩
      · have c := fisure_any wr (LD.out.new HR.out.world)
        have HW := Lib.hid HR.out.world
        by_cases hjl2 : j < len1
        · have t2 : decide ((j : Int) < 30) = false := decide_eq_false (by omega)
          have t3 : decide (j < 30) = false := decide_eq_false (by omega)
          have t4 : decide ((j : Int) < (len1 : Int)) = true := decide_eq_true (by omega)
          have t5 : decide (j < len1) = true := decide_eq_true hjl2
          clear hjl
          go_wp2_with fail
          refine c.mono ?_
          rintro e w9 ⟨rfl, n9⟩
          go_wp2
          go_ret
          exact ⟨rfl, HW.out.trans n9⟩
        · have t4 : decide ((j : Int) < (len1 : Int)) = false := decide_eq_false (by omega)
          have t5 : decide (j < len1) = false := decide_eq_false hjl2
          clear hjl
          go_wp2_with fail
          refine c.mono ?_
          rintro e w9 ⟨rfl, n9⟩
          go_wp2
          go_ret
          exact ⟨rfl, HW.out.trans n9⟩

/-! ### THE ROW's STEP: WRITTEN OUT: LEAVE IT -/
theorem door_met (os : Os) (args : Array Value) : laidMetH Tryd.prog Rows.fileRunsRow.laid ((World.doorLaid Tryd.prog 400 os).forCall (fun _ _ => 0) ⟨#[], args, []⟩).memory :=
  laidMetH_of_parts3 (fuel := 8) (laidMet_of_run' 8 (by kernel_rfl) (by kernel_rfl)) (by kernel_rfl) (by kernel_rfl)
set_option maxRecDepth 100000 in
theorem lifted (os : Os) (started : os.Started) (H : Type) (enc : TypeId × Value → H) :
    ReturnsInHanded {} Tryd.checked os 3 .any (fun w args => (Rows.fileRunsSpec.pre enc Tryd.prog Tryd.f3 [] false w args ∧ laidMetH Tryd.prog Rows.fileRunsRow.laid w) ∧ sizedMet enc Tryd.prog Tryd.f3 (OpenSpec.ofChange Rows.fileRunsSpec) false w args) (Rows.fileRunsSpec.post enc Tryd.prog Tryd.f3 false true false false) := by
  refine returnsInHanded_of_change_and (C := Tryd.checked) (X := fun w _ => laidMetH Tryd.prog Rows.fileRunsRow.laid w) (fun _ _ _ hh h => h.of_heap hh) own started (by kernel_rfl) Tryd.func3
    (ChangeSpec.witness_shaped (enc := enc) (C := Tryd.checked) (os := os) (X := fun w _ => laidMetH Tryd.prog Rows.fileRunsRow.laid w) false (World.doorLaid Tryd.prog 400 os) #[.int .i64 0, .slice none 0 0] 8 rfl (World.shaped_of_RefB (by kernel_rfl) (by kernel_rfl)) (by kernel_rfl) (by kernel_rfl) (by kernel_rfl) (door_met os _)) ?_
  intro W base args ds gs before hval0 hW _ _ hL _
  have hL' : laidMet Tryd.prog [] W ∧ handlesMet Tryd.prog [("errors.errorType", Rows.laid_errors_errorType)] W := hL
  have hval : ∀ (j : Nat) t v, Tryd.f3.params[j]? = some t → args[j]? = some v → Value.okWide Tryd.prog W .any base t v := hval0
  have hW' := hW
  obtain ⟨p, q, hA0, hV, rfl, hfz, hnd⟩ := hW
  have hA : DataW.TrodAll enc Tryd.prog W 0 (fun _ => true) true Tryd.f3.params.toList args.toList ds p := hA0
  rw [Tryd.params3] at hA hval
  obtain ⟨v0, vs0, d0, ds0, p0, q0, hargs, rfl, rfl, h0, r0⟩ := trodAll_cons hA
  obtain ⟨v1, vs1, d1, ds1, p1, q1, rfl, rfl, rfl, h1, r1⟩ := trodAll_cons r0
  obtain ⟨rfl, rfl, rfl⟩ := trodAll_nil r1
  obtain rfl : args = #[v0, v1] := by cases args; simp_all
  obtain ⟨rfl, rfl⟩ := trodVars_none hV
  obtain ⟨a0, rfl, rfl, rfl, w0⟩ := open_int Tryd.underlying3 (hval 0 3 v0 rfl rfl) h0
  obtain ⟨a1, len1, cap1, rfl⟩ := okWide_slice Tryd.underlying22 (hval 1 22 v1 rfl rfl)
  have k1 := h1
  have lt1 : ∀ x ∈ p1, x.block < W.heap.size := by obtain ⟨m, hm⟩ := k1; exact DataW.trod_lt m _ _ _ hm
  have w1 : FkRows [.num .i64, .num .i64, .num .i64, .num .i64, .num .i64, .num .i64, .bit, .bit, .str, .num .i64] W a1 len1 := fkrows_tree Tryd.underlying22 (by
    obtain ⟨ks, hk, e⟩ : ∃ ks, FkTree Tryd.prog 47 ks ∧ ks = [.num .i64, .num .i64, .num .i64, .num .i64, .num .i64, .num .i64, .bit, .bit, .str, .num .i64] := ⟨_, (.struct Tryd.underlying47 (.cons rfl (.leaf (k := .num .i64) Tryd.underlying3) (by kernel_rfl) (.cons rfl (.leaf (k := .num .i64) Tryd.underlying3) (by kernel_rfl) (.cons rfl (.leaf (k := .num .i64) Tryd.underlying3) (by kernel_rfl) (.cons rfl (.struct Tryd.underlying45 (.cons rfl (.leaf (k := .num .i64) Tryd.underlying3) (by kernel_rfl) (.cons rfl (.leaf (k := .num .i64) Tryd.underlying3) (by kernel_rfl) (.cons rfl (.leaf (k := .num .i64) Tryd.underlying3) (by kernel_rfl) (.cons rfl (.leaf (k := .bit) Tryd.underlying4) (by kernel_rfl) (.cons rfl (.leaf (k := .bit) Tryd.underlying4) (by kernel_rfl) (.cons rfl (.leaf (k := .str) Tryd.underlying9) (by kernel_rfl) (.cons rfl (.leaf (k := .num .i64) Tryd.underlying3) (by kernel_rfl) .nil)))))))) (by kernel_rfl) .nil))))), rfl⟩
    rw [← e]; exact hk) (by kernel_rfl) h1
  clear hA0 hval0
  refine (walk a0 a1 len1 cap1 W w0 w1 (handle_of_hs hL'.2)).mono fun e W' ⟨he, bel⟩ => ?_
  subst he
  exact ⟨_, rfl, _, _, _, [], _, [], hW', trodAll_mk1 (shut_bool Tryd.underlying4 _), (trodAll_cons_mk (shut_int Tryd.underlying3 w0) (trodAll_cons_mk (Below.trod laidOut (by kernel_rfl) (of_decide_eq_true (by kernel_rfl)) k1 bel lt1) trodAll_mk0)), rfl, bel.frame _, fun h => by cases h⟩

theorem over : Rows.fileRunsRow.holds Tryd.pinned (OpenSpec.ofChange Rows.fileRunsSpec) :=
  OpenClaim.holds_of_wide 3 Tryd.f3 rfl rfl rfl rfl rfl rfl rfl ⟨rfl, rfl, rfl, rfl, rfl⟩ rfl rfl rfl rfl rfl (by kernel_rfl) Tryd.func3 (by kernel_rfl)
    (of_decide_eq_true (by kernel_rfl)) (by unfold Func.isWrapper; first | (rw [if_pos (by decide +kernel)]; kernel_rfl) | (rw [if_neg (by decide +kernel)]; exact ⟨rfl, rfl⟩))
    (fun os started H enc _ => lifted os started H enc)

theorem proved : Rows.FileRunsSaid := over
theorem card : Rows.FileRunsCardSaid :=
  Claim7.holds_tied_plain_at .later [] [.handle] true (true, "7bc24a7015f1fe19dee02ef661ab66c3b7e5de9c17027ab3694f025ea610cbc2") true
    over (fun _ h => by cases h) (by kernel_rfl) (fun _ h => by cases h) fileRuns_row_tie rfl ⟨rfl, rfl⟩ (by kernel_rfl) rfl
    (fun f fn hf hfn => by
      obtain rfl : f = 3 := Option.some.inj ((show Tryd.prog.funcNamed "halter/halterlaw19.FileRuns" = some 3 by kernel_rfl).symm.trans hf) |>.symm
      obtain rfl : fn = Tryd.f3 := (Option.some.inj (Tryd.func3.symm.trans hfn)).symm
      exact ⟨by kernel_rfl, fun j t ht => by
        rw [Tryd.params3] at ht
        have hm : t ∈ [3, 22] := by have := Array.mem_of_getElem? ht; simpa using this
        have hall : ([3, 22].all fun u => !Tryd.prog.wantsStandIn u) = true := by kernel_rfl
        exact (show Tryd.prog.wantsStandIn t = false by simpa using List.all_eq_true.1 hall t hm)⟩)
    (by kernel_rfl)
#print axioms card
end Go.Proofs.YtpapicnkhjcjoaaDoor.fileRuns
