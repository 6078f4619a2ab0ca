/- Whatever is done to a table, each answer, its pages and its frames then, and which frames are taken are what the document's own lists say, or the errors are, and nothing is to be had of a nil table; the statement holds for every input, where the library's variable errors.errorType holds what its own text lays, which the card ties. -/
import Derived.Test.YtajhlmiobibhjaaDoorRows
import Derived.Test.YtajhlmiobibhjaaDoorTdN
import Derived.Deep.QuietTactic
import Derived.BigQuiet
import Derived.Test.YtajhlmiobibhjaaDoorTbK
import Derived.Deep.LoopGhost
import Derived.Test.YtajhlmiobibhjaaDoorIntRows
import Derived.StillTailTactics
import Derived.Deep.RegionHeld3
import Derived.Deep.RegionWith
import Derived.Deep.Light
import Derived.Test.YtajhlmiobibhjaaDoorCards
import Derived.Test.YtajhlmiobibhjaaDoorTie
import Derived.LaidMore
import Derived.LaidLaws
import Derived.LaidHandle
import Derived.Test.YtajhlmiobibhjaaDoorLay
import Derived.Test.YtajhlmiobibhjaaDoorPost
import Derived.WalkKit
import Derived.ProofKit
import Derived.OpenShut
import Derived.ShutString
import Derived.ChangeOld
import Derived.Below
namespace Go.Proofs.YtajhlmiobibhjaaDoor.tableRuns
open Go.ChangeShapes Go.WideShapes Go.ChangeAt Go.RowKit
open Go.ChangeMaps (open_string shut_string)
set_option linter.unusedVariables false

theorem own : ownKnob Tryd.prog.godebug = none := by kernel_rfl
theorem laidOut : laidOutB Tryd.prog = true := by kernel_rfl

/-- WHAT THE WALK IS TOLD OF A SLICE OF INTEGERS THAT CAME IN: it is nil; or it leads to a row of 'cap' cells, the numbers 'zs' (the first 'len' are its elements, the rest its spare room), each fitting its kind. -/
def IsRow (k : IntKind) (w : World) (a : Option Addr) (len cap : Nat) (zs : List Int) : Prop :=
  (a = none ∧ len = 0 ∧ cap = 0 ∧ zs = []) ∨
  ∃ x, a = some x ∧ len ≤ cap ∧ cap ≤ maxLen ∧ zs.length = cap ∧ (∀ i, i < zs.length → w.cell? (x.add i) = some (.int k (zs.getD i 0))) ∧ ∀ n ∈ zs, (Lit.int k n).wf = true

/-! ### STEP 1: THE WALK: the Go text returns true, AND WRITES NOTHING THAT WAS THERE: 'Below w.heap.size w w'' (Derived/Below.lean: '.refl', '.alloc', '.drew', '.setCell' at a new block, '.trans'). Open each 'IsRow' by 'rcases' AHEAD of 'go_enter'; part every test ahead of the walk. -/
set_option maxHeartbeats 8000000 in
set_option maxRecDepth 100000 in
theorem walk (a0 : Int) (a1 : Option Addr) (len1 cap1 : Nat) (w : World) (w0 : (Lit.int .i64 a0).wf = true) (w1 : MixRows [some .i64, some .i64, some .i64, some .u8, none] w a1 len1) (hl : Laid w) :
    Calls Tryd.prog 3 #[.int .i64 a0, .slice a1 len1 cap1] w fun e w' => e = .returned (.bool true) ∧ Below w.heap.size w w' := by
  have hlt := hl.lt
  obtain ⟨hlm, hrow⟩ := w1
  obtain ⟨n, en, hn1, hn2⟩ := mod_in 9 1 a0 (by omega) (by omega) (by omega) (by omega)
  have M := fun W => made_any n W (by omega) (by omega)
  have Q := fun W => pmade_any n W (by omega) (by omega)
  unfold maxLen at hlm
  have HR := Lib.hid hrow
  clear hrow
  go_enter Tryd.func3, Tryd.ntmps3
  go_wp2_with fail
  have Z := tget_gone 0 (Gone.none w)
  rw [gotE_zero] at Z
  refine Z.mono ?_
  rintro e w1 ⟨rfl, N1⟩
  clear Z
  go_wp2_with fail
  refine (tfree_gone (Gone.none _)).mono ?_
  rintro e w2 ⟨rfl, n2⟩
  have N2 := (N1.alloc _ _).trans n2
  clear N1 n2
  go_wp2_with fail
  refine (num_err 22 _ (hl.new N2)).mono ?_
  rintro e w3 ⟨rfl, n3⟩
  have N3 := N2.trans n3
  clear N2 n3
  go_wp2_with fail
  refine (tset_gone 0 0 0 false (Gone.none _)).mono ?_
  rintro e w4 ⟨rfl, n4⟩
  have N4 := N3.trans n4
  clear N3 n4
  go_wp2_with fail
  refine (num_err 22 _ (hl.new N4)).mono ?_
  rintro e w5 ⟨rfl, n5⟩
  have N5 := N4.trans n5
  clear N4 n5
  go_wp2_with fail
  refine (tclear_gone 0 (Gone.none _)).mono ?_
  rintro e w6 ⟨rfl, n6⟩
  have N6 := N5.trans n6
  clear N5 n6
  go_wp2_with fail
  refine (num_err 22 _ (hl.new N6)).mono ?_
  rintro e w7 ⟨rfl, n7⟩
  have N7 := N6.trans n7
  clear N6 n7
  go_wp2_with fail
  refine (tpages_gone (Gone.none _)).mono ?_
  rintro e w8 ⟨rfl, n8⟩
  have N8 := N7.trans n8
  clear N7 n8
  go_wp2_with fail
  refine (tframes_gone (Gone.none _)).mono ?_
  rintro e w9 ⟨rfl, rfl⟩
  go_wp2_with fail
  simp only [en]
  clear en
  refine (M _).mono ?_
  rintro e wa ⟨rfl, h1, na⟩
  go_wp2_with fail
  refine (Q _).mono ?_
  rintro e wb ⟨rfl, h2, nb⟩
  have h1' := h1.new nb
  have Nb := N8.trans (na.trans nb)
  have sa := na.size
  have s8 := N8.size
  clear h1 na nb N8 M Q
  go_wp2_with fail
  refine (tnew_nil _ _).mono ?_
  rintro e wb' ⟨rfl, rfl⟩
  go_wp2_with fail
  refine (tnew_nil2 _ _).mono ?_
  rintro e wb' ⟨rfl, rfl⟩
  go_wp2_with fail
  refine (new_done h1' h2).mono ?_
  rintro e w3 ⟨tb, cs, rfl, ht, h3, b3, z3⟩
  have n3 := Nb.but b3 (fun i hi => by omega)
  have htb : w.heap.size ≤ tb := by have := Nb.size; omega
  clear h1' h2 Nb
  go_wp2_with fail
  refine (rnew_any n (by omega) (by omega) _).mono ?_
  rintro e w4 ⟨vO, vF, rfl, oO, oF, n4⟩
  have T4 : TS w4 n tb (w8.heap.size + 1) w8.heap.size (wa.heap.size + 1) wa.heap.size 0 ((List.replicate n 0).set 0 1) cs false [] [] [0] [0] := .inl ⟨rfl, h3.new n4, Rd.start n (by omega) z3⟩
  have hrb : w8.heap.size < w3.heap.size := Box.lt h3.fr.boxes.2
  have hqb : wa.heap.size < w3.heap.size := Box.lt h3.ph.boxes.2
  have htb3 : tb < w3.heap.size := Box.lt h3.tb
  have N4 := n3.trans n4
  have s4 := n4.size
  obtain ⟨pO, kO, cO, rfl⟩ := oO.ints.sl
  obtain ⟨pF, kF, cF, rfl⟩ := oF.ints.sl
  obtain ⟨base, hbase⟩ : ∃ base, base = w3.heap.size := ⟨_, rfl⟩
  rw [← hbase] at oO oF hrb hqb htb3 s4
  obtain ⟨rb, hrbe⟩ : ∃ rb, rb = w8.heap.size := ⟨_, rfl⟩
  obtain ⟨qb, hqbe⟩ : ∃ qb, qb = wa.heap.size := ⟨_, rfl⟩
  obtain ⟨fb, hfb⟩ : ∃ fb, fb = w8.heap.size + 1 := ⟨_, rfl⟩
  obtain ⟨mb, hmb⟩ : ∃ mb, mb = wa.heap.size + 1 := ⟨_, rfl⟩
  rw [← hfb, ← hmb, ← hrbe, ← hqbe] at T4
  rw [← hrbe] at s8 hrb
  rw [← hqbe] at hqb sa
  rw [← hfb, ← hmb]
  clear h3 b3 n3 n4 z3 ht hfb hmb
  go_wp2_with fail
  have m4 := ((New.refl w4).alloc #[.slice none 0 0, .slice none 0 0, .slice pO kO cO, .bool false] 47).alloc #[.int .i64 (n : Int), .slice pF kF cF] 49
  have P5 : Two base w4.heap.size (w4.heap.size + 1) ((w4.alloc (.cells #[.slice none 0 0, .slice none 0 0, .slice pO kO cO, .bool false] 47)).alloc (.cells #[.int .i64 (n : Int), .slice pF kF cF] 49)) n tb fb rb mb qb ((List.replicate n 0).set 0 1) cs false [] [] [0] [0] (.slice none 0 0) (.slice none 0 0) (.slice pO kO cO) (.slice pF kF cF) :=
    ⟨T4.new m4, (Box.here _ _ _ _ rfl).alloc _, Box.here _ _ _ _ (by simp), OwnI.nil _ _, Own.nil _ _, oO.new m4, oF.new m4⟩
  have N5 := N4.trans m4
  clear T4 oO oF m4 N4
  generalize (w4.alloc (.cells #[.slice none 0 0, .slice none 0 0, .slice pO kO cO, .bool false] 47)).alloc (.cells #[.int .i64 (n : Int), .slice pF kF cF] 49) = w5 at *
  refine (num_err 22 _ (hl.new N5)).mono ?_
  rintro e w6 ⟨rfl, n6⟩
  have P6 := P5.new n6
  have N6 := N5.trans n6
  clear P5 N5 n6
  go_wp2_with fail
  refine (num_err 22 _ (hl.new N6)).mono ?_
  rintro e w7 ⟨rfl, n7⟩
  have P7 := P6.new n7
  have N7 := N6.trans n7
  clear P6 N6 n7
  obtain ⟨xb, hxb⟩ : ∃ xb, xb = w4.heap.size := ⟨_, rfl⟩
  obtain ⟨yb, hyb⟩ : ∃ yb, yb = w4.heap.size + 1 := ⟨_, rfl⟩
  rw [← hyb, ← hxb] at P7
  have hxy : base ≤ xb ∧ yb = xb + 1 := by omega
  rw [← hyb, ← hxb]
  clear hyb hxb s4
  obtain ⟨hbx, rfl⟩ := hxy
  go_wp2_with fail
  go_loopg [23] 25 (fun k i wr => ∃ j : Nat, j + k = 25 ∧ i = .int .i64 (j : Int) ∧ j ≤ len1 ∧ (∃ rs bs gone L U O l vL vU vO vF, Two base xb (xb + 1) wr n tb fb rb mb qb rs bs gone L U O l vL vU vO vF ∧ l.length ≤ 1 + j) ∧ New w wr)
  case atStart => exact ⟨0, by omega, rfl, by omega, ⟨_, _, _, _, _, _, _, _, _, _, _, P7, by simp⟩, N7⟩
  case round =>
    clear P7 N7
    obtain ⟨j, hj, rfl, hjl, ⟨rs, bs, gone, L, U, O, l, vL, vU, vO, vF, hP, hll⟩, hN⟩ := hrel
    have J := Lib.hid hj
    by_cases c : j < len1 ∧ j < 25
    · obtain ⟨c1, c2⟩ := c
      obtain ⟨x, rfl, hcells⟩ := HR.out j c1
      obtain ⟨v0, q0, ⟨k0, rfl, wf0⟩⟩ := hcells 0 _ rfl
      obtain ⟨v1, q1, ⟨k1, rfl, wf1⟩⟩ := hcells 1 _ rfl
      obtain ⟨v2, q2, ⟨k2, rfl, wf2⟩⟩ := hcells 2 _ rfl
      obtain ⟨v3, q3, ⟨k3, rfl, wf3⟩⟩ := hcells 3 _ rfl
      obtain ⟨v4, q4, ⟨k4, rfl⟩⟩ := hcells 4 _ rfl
      have b3 := u8_bd wf3
      simp only [List.length_cons, List.length_nil, Nat.zero_add, Nat.reduceAdd, Nat.add_zero] at q0 q1 q2 q3 q4
      rw [add_field _ _ _ (by decide)] at q1 q2 q3 q4
      have d0 := (hN.cell (cell_lt q0)).trans q0
      have d1 := (hN.cell (cell_lt q1)).trans q1
      have d2 := (hN.cell (cell_lt q2)).trans q2
      have d3 := (hN.cell (cell_lt q3)).trans q3
      have d4 := (hN.cell (cell_lt q4)).trans q4
      have d3' : wr.cell? ⟨(x.add (j * 5)).block, (x.add (j * 5)).off + 2 + 1, none⟩ = some (.int .u8 k3) := d3
      have d4' : wr.cell? ⟨(x.add (j * 5)).block, (x.add (j * 5)).off + 2 + 2, none⟩ = some (.bool k4) := d4
      have xlt := cell_lt d1
      clear hcells wf0 wf1 wf2 wf3 hj q0 q1 q2 q3 q4
      obtain ⟨m, em, hm⟩ := mod_by k0 8 (by omega) (by omega)
      simp only [show ((8 : Nat) : Int) = 8 from rfl] at em
      go_upto_block 2 with fail
      go_cut [23, 24, 25] (fun iv pv nv wc => iv = .int .i64 (j : Int) ∧ pv = .int .i64 k1 ∧ (∃ rs bs gone L U O l vL vU vO vF, Two base xb (xb + 1) wc n tb fb rb mb qb rs bs gone L U O l vL vU vO vF ∧ l.length ≤ 2 + j) ∧ New w wc)
      case first =>
        obtain ⟨hT, hX, hY, oL, oU, oO, oF⟩ := hP
        obtain ⟨pL, kL, cL, rfl⟩ := oL.sl
        obtain ⟨pU, kU, cU, rfl⟩ := oU.sl
        obtain ⟨pO, kO, cO, rfl⟩ := oO.sl
        obtain ⟨pF, kF, cF, rfl⟩ := oF.sl
        obtain ⟨sx, ⟨x0, x1, x2, x3⟩, f0, f1, f2, f3⟩ := hX.four'
        obtain ⟨y0, y1⟩ := hY.two
        have f4 := hY.unfrozen 0
        have f5 := hY.unfrozen 1
        have sy := hY.lt
        by_cases m4 : m < 4
        · as_aux_lemma =>
          obtain ⟨er, K, U', O', l', hl', her, C1, C2⟩ := ts_set k1 k2 k3 k4 gone b3.1 (by omega) (by omega) hT
          have C3 := fun W (k : New wr W) => C1 base W _ _ _ _ (oL.new k) (oU.new k) (oO.new k) (oF.new k) (by have := k.size; omega)
          go_upto_region 25 with fail
          go_cut [26, 27, 28, 170] (fun zv wv bv tv wc => Got2 base wr n gone K U' O' l' er zv wv bv wc)
          case first =>
            as_aux_lemma =>
            clear em
            have nd : New wr wr.drew := (New.refl _).drew
            have nx : New wr (wr.alloc (.cells #[.slice none 0 0, .slice none 0 0, .slice none 0 0, .bool false] 47)).drew := ((New.refl wr).alloc #[.slice none 0 0, .slice none 0 0, .slice none 0 0, .bool false] 47).drew
            have ny : New wr (wr.alloc (.cells #[.int .i64 0, .slice none 0 0] 49)).drew := ((New.refl wr).alloc #[.int .i64 0, .slice none 0 0] 49).drew
            have nxy : New wr ((wr.alloc (.cells #[.slice none 0 0, .slice none 0 0, .slice none 0 0, .bool false] 47)).alloc (.cells #[.int .i64 0, .slice none 0 0] 49)).drew := (((New.refl wr).alloc #[.slice none 0 0, .slice none 0 0, .slice none 0 0, .bool false] 47).alloc #[.int .i64 0, .slice none 0 0] 49).drew
            have nyx : New wr ((wr.alloc (.cells #[.int .i64 0, .slice none 0 0] 49)).alloc (.cells #[.slice none 0 0, .slice none 0 0, .slice none 0 0, .bool false] 47)).drew := (((New.refl wr).alloc #[.int .i64 0, .slice none 0 0] 49).alloc #[.slice none 0 0, .slice none 0 0, .slice none 0 0, .bool false] 47).drew
            have KEEP : ∀ w', New wr w' → (w'.cell? ⟨xb, 0, none⟩ = some (.slice pL kL cL) ∧ w'.cell? ⟨xb, 1, none⟩ = some (.slice pU kU cU) ∧ w'.cell? ⟨xb, 2, none⟩ = some (.slice pO kO cO) ∧ w'.cell? ⟨xb, 3, none⟩ = some (.bool gone) ∧ w'.cell? ⟨xb + 1, 0, none⟩ = some (.int .i64 (n : Int)) ∧ w'.cell? ⟨xb + 1, 1, none⟩ = some (.slice pF kF cF) ∧ w'.cell? ⟨(x.add (j * 5)).block, (x.add (j * 5)).off + 2, none⟩ = some (.int .i64 k2) ∧ w'.cell? ⟨(x.add (j * 5)).block, (x.add (j * 5)).off + 2 + 1, none⟩ = some (.int .u8 k3) ∧ w'.cell? ⟨(x.add (j * 5)).block, (x.add (j * 5)).off + 2 + 2, none⟩ = some (.bool k4)) := fun w' k => ⟨k.keeps x0, k.keeps x1, k.keeps x2, k.keeps x3, k.keeps y0, k.keeps y1, k.keeps d2, k.keeps d3', k.keeps d4'⟩
            go_region_held3 (fun w' => w'.cell? ⟨xb, 0, none⟩ = some (.slice pL kL cL) ∧ w'.cell? ⟨xb, 1, none⟩ = some (.slice pU kU cU) ∧ w'.cell? ⟨xb, 2, none⟩ = some (.slice pO kO cO) ∧ w'.cell? ⟨xb, 3, none⟩ = some (.bool gone) ∧ w'.cell? ⟨xb + 1, 0, none⟩ = some (.int .i64 (n : Int)) ∧ w'.cell? ⟨xb + 1, 1, none⟩ = some (.slice pF kF cF) ∧ w'.cell? ⟨(x.add (j * 5)).block, (x.add (j * 5)).off + 2, none⟩ = some (.int .i64 k2) ∧ w'.cell? ⟨(x.add (j * 5)).block, (x.add (j * 5)).off + 2 + 1, none⟩ = some (.int .u8 k3) ∧ w'.cell? ⟨(x.add (j * 5)).block, (x.add (j * 5)).off + 2 + 2, none⟩ = some (.bool k4))
              ((first | exact KEEP _ (by repeat (first | with_reducible exact hnx | with_reducible exact nd | with_reducible exact (New.refl _) | with_reducible refine New.drew ?_ | with_reducible refine New.alloc ?_ _ _ | with_reducible refine New.setAt ?_ _ _ (by first | with_reducible exact Nat.le_refl _ | with_reducible exact Nat.le_succ _ | with_reducible exact hsz | with_reducible exact Nat.le_succ_of_le hsz) _))))
              (first | (go_at_call 15; (first | ((with_reducible refine (C3 wr.drew nd).mono ?_); rintro e we ⟨zL, zU, zO, zF, rfl, qL, qU, qO, qF, ne⟩; obtain ⟨pL', kL', cL', rfl⟩ := qL.sl; obtain ⟨pU', kU', cU', rfl⟩ := qU.sl; obtain ⟨pO', kO', cO', rfl⟩ := qO.sl; obtain ⟨pF', kF', cF', rfl⟩ := qF.sl; have hnx := New.trans nd ne; have hsz := hnx.size) | ((with_reducible refine (C3 (wr.alloc (.cells #[.slice none 0 0, .slice none 0 0, .slice none 0 0, .bool false] 47)).drew nx).mono ?_); rintro e we ⟨zL, zU, zO, zF, rfl, qL, qU, qO, qF, ne⟩; obtain ⟨pL', kL', cL', rfl⟩ := qL.sl; obtain ⟨pU', kU', cU', rfl⟩ := qU.sl; obtain ⟨pO', kO', cO', rfl⟩ := qO.sl; obtain ⟨pF', kF', cF', rfl⟩ := qF.sl; have hnx := New.trans nx ne; have hsz := hnx.size; have Z := (Box.here wr _ #[.slice none 0 0, .slice none 0 0, .slice none 0 0, .bool false] 47 rfl).new (New.trans (b := (wr.alloc (.cells #[.slice none 0 0, .slice none 0 0, .slice none 0 0, .bool false] 47)).drew) ((New.refl (wr.alloc (.cells #[.slice none 0 0, .slice none 0 0, .slice none 0 0, .bool false] 47))).drew) ne); obtain ⟨zs, ⟨z0, z1, z2, z3⟩, g0, g1, g2, g3⟩ := Z.four') | ((with_reducible refine (C3 (wr.alloc (.cells #[.int .i64 0, .slice none 0 0] 49)).drew ny).mono ?_); rintro e we ⟨zL, zU, zO, zF, rfl, qL, qU, qO, qF, ne⟩; obtain ⟨pL', kL', cL', rfl⟩ := qL.sl; obtain ⟨pU', kU', cU', rfl⟩ := qU.sl; obtain ⟨pO', kO', cO', rfl⟩ := qO.sl; obtain ⟨pF', kF', cF', rfl⟩ := qF.sl; have hnx := New.trans ny ne; have hsz := hnx.size; have Y := (Box.here wr _ #[.int .i64 0, .slice none 0 0] 49 rfl).new (New.trans (b := (wr.alloc (.cells #[.int .i64 0, .slice none 0 0] 49)).drew) ((New.refl (wr.alloc (.cells #[.int .i64 0, .slice none 0 0] 49))).drew) ne); obtain ⟨y0, y1⟩ := Y.two; have ys := Y.lt; have h0 := Y.unfrozen 0; have h1 := Y.unfrozen 1) | ((with_reducible refine (C3 ((wr.alloc (.cells #[.slice none 0 0, .slice none 0 0, .slice none 0 0, .bool false] 47)).alloc (.cells #[.int .i64 0, .slice none 0 0] 49)).drew nxy).mono ?_); rintro e we ⟨zL, zU, zO, zF, rfl, qL, qU, qO, qF, ne⟩; obtain ⟨pL', kL', cL', rfl⟩ := qL.sl; obtain ⟨pU', kU', cU', rfl⟩ := qU.sl; obtain ⟨pO', kO', cO', rfl⟩ := qO.sl; obtain ⟨pF', kF', cF', rfl⟩ := qF.sl; have hnx := New.trans nxy ne; have hsz := hnx.size; have Z := ((Box.here wr _ #[.slice none 0 0, .slice none 0 0, .slice none 0 0, .bool false] 47 rfl).alloc (.cells #[.int .i64 0, .slice none 0 0] 49)).new (New.trans (b := ((wr.alloc (.cells #[.slice none 0 0, .slice none 0 0, .slice none 0 0, .bool false] 47)).alloc (.cells #[.int .i64 0, .slice none 0 0] 49)).drew) ((New.refl ((wr.alloc (.cells #[.slice none 0 0, .slice none 0 0, .slice none 0 0, .bool false] 47)).alloc (.cells #[.int .i64 0, .slice none 0 0] 49))).drew) ne); obtain ⟨zs, ⟨z0, z1, z2, z3⟩, g0, g1, g2, g3⟩ := Z.four'; have Y := (Box.here (wr.alloc (.cells #[.slice none 0 0, .slice none 0 0, .slice none 0 0, .bool false] 47)) (wr.heap.size + 1) #[.int .i64 0, .slice none 0 0] 49 (by simp)).new (New.trans (b := ((wr.alloc (.cells #[.slice none 0 0, .slice none 0 0, .slice none 0 0, .bool false] 47)).alloc (.cells #[.int .i64 0, .slice none 0 0] 49)).drew) ((New.refl ((wr.alloc (.cells #[.slice none 0 0, .slice none 0 0, .slice none 0 0, .bool false] 47)).alloc (.cells #[.int .i64 0, .slice none 0 0] 49))).drew) ne); obtain ⟨y0, y1⟩ := Y.two; have ys := Y.lt; have h0 := Y.unfrozen 0; have h1 := Y.unfrozen 1) | ((with_reducible refine (C3 ((wr.alloc (.cells #[.int .i64 0, .slice none 0 0] 49)).alloc (.cells #[.slice none 0 0, .slice none 0 0, .slice none 0 0, .bool false] 47)).drew nyx).mono ?_); rintro e we ⟨zL, zU, zO, zF, rfl, qL, qU, qO, qF, ne⟩; obtain ⟨pL', kL', cL', rfl⟩ := qL.sl; obtain ⟨pU', kU', cU', rfl⟩ := qU.sl; obtain ⟨pO', kO', cO', rfl⟩ := qO.sl; obtain ⟨pF', kF', cF', rfl⟩ := qF.sl; have hnx := New.trans nyx ne; have hsz := hnx.size; have Y := ((Box.here wr _ #[.int .i64 0, .slice none 0 0] 49 rfl).alloc (.cells #[.slice none 0 0, .slice none 0 0, .slice none 0 0, .bool false] 47)).new (New.trans (b := ((wr.alloc (.cells #[.int .i64 0, .slice none 0 0] 49)).alloc (.cells #[.slice none 0 0, .slice none 0 0, .slice none 0 0, .bool false] 47)).drew) ((New.refl ((wr.alloc (.cells #[.int .i64 0, .slice none 0 0] 49)).alloc (.cells #[.slice none 0 0, .slice none 0 0, .slice none 0 0, .bool false] 47))).drew) ne); obtain ⟨y0, y1⟩ := Y.two; have ys := Y.lt; have h0 := Y.unfrozen 0; have h1 := Y.unfrozen 1; have Z := (Box.here (wr.alloc (.cells #[.int .i64 0, .slice none 0 0] 49)) (wr.heap.size + 1) #[.slice none 0 0, .slice none 0 0, .slice none 0 0, .bool false] 47 (by simp)).new (New.trans (b := ((wr.alloc (.cells #[.int .i64 0, .slice none 0 0] 49)).alloc (.cells #[.slice none 0 0, .slice none 0 0, .slice none 0 0, .bool false] 47)).drew) ((New.refl ((wr.alloc (.cells #[.int .i64 0, .slice none 0 0] 49)).alloc (.cells #[.slice none 0 0, .slice none 0 0, .slice none 0 0, .bool false] 47))).drew) ne); obtain ⟨zs, ⟨z0, z1, z2, z3⟩, g0, g1, g2, g3⟩ := Z.four'))))
            all_goals
              go_wp2_with fail
              go_meet
              case rel => first
                | (have _z := Z.lt; have _y := Y.lt; have G := got2_d (k := n) (gone := gone) er hnx (by first | exact Nat.le_refl _ | exact Nat.le_succ _) (by first | exact Nat.le_refl _ | exact Nat.le_succ _) (by first | exact Nat.ne_of_lt (Nat.lt_succ_self _) | exact Nat.ne_of_gt (Nat.lt_succ_self _)) Z Y qL qU qO qF; unfold set4 set2 at G; with_reducible exact G)
                | (have G := got2_c (k := n) (gone := gone) er hnx (Nat.le_refl _) Z qL qU qO qF; unfold set4 at G; with_reducible exact G)
                | (have G := got2_e (k := n) (gone := gone) er hnx (Nat.le_refl _) Y qL qU qO qF; unfold set2 at G; with_reducible exact G)
                | with_reducible exact got2_a er hnx qL qU qO qF
                | with_reducible exact got2_b er hnx qL qU qO qF
          case rest =>
            as_aux_lemma =>
            clear C1 C3 em
            obtain ⟨zb, wb, zL, zU, zO, zF, rfl, rfl, rfl, nn, Bz, Bw, hne, hz1, hz2, qL, qU, qO, qF⟩ := hcut
            obtain ⟨pL', kL', cL', rfl⟩ := qL.sl
            obtain ⟨pU', kU', cU', rfl⟩ := qU.sl
            obtain ⟨pO', kO', cO', rfl⟩ := qO.sl
            obtain ⟨pF', kF', cF', rfl⟩ := qF.sl
            have hX' := hX.new nn
            have hY' := hY.new nn
            have sxb := hX.lt
            have g2 := nn.keeps d2
            have g3 := nn.keeps d3'
            have g4 := nn.keeps d4'
            have hN' := hN.trans nn
            have hk3 : ∀ i, base ≤ i → ¬ S3 rb qb tb i := fun i hi => by rintro (e | e | e) <;> omega
            clear x0 x1 x2 x3 f0 f1 f2 f3 y0 y1 f4 f5 sx sy d0 d1 d2 d3 d4 d3' d4' hX hY oL oU oO oF hN
            go_wp2_with fail
            refine (C2 _ (hT.new nn)).mono ?_
            rintro e wf ⟨rfl, rs', bs', T', B'⟩
            have Xf := Box.but hX' B' (hk3 _ (by omega))
            have Yf := Box.but hY' B' (hk3 _ (by omega))
            have Zf := Box.but Bz B' (hk3 _ (by omega))
            have Wf := Box.but Bw B' (hk3 _ (by omega))
            have LL := qL.s3 B' hrb hqb htb3
            have LU := qU.s3 B' hrb hqb htb3
            have LO := qO.s3 B' hrb hqb htb3
            have LF := qF.s3 B' hrb hqb htb3
            have Nf := hN'.but B' (fun i hi => by rcases hi with e | e | e <;> omega)
            clear hT hX' hY' Bz Bw qL qU qO qF hN' nn B' C2 g2 g3 g4
            go_wp2_with fail
            refine (num_er _ _ (hl.new Nf)).mono ?_
            rintro e wg ⟨rfl, ng⟩
            have Tg := T'.new ng
            have Xg := Xf.new ng
            have Yg := Yf.new ng
            have Zg := Zf.new ng
            have Wg := Wf.new ng
            have ML := LL.new ng
            have MU := LU.new ng
            have MO := LO.new ng
            have MF := LF.new ng
            have Ng := Nf.trans ng
            clear T' Xf Yf Zf Wf LL LU LO LF Nf ng
            obtain ⟨sx, ⟨x0, x1, x2, x3⟩, f0, f1, f2, f3⟩ := Xg.four'
            obtain ⟨y0, y1⟩ := Yg.two
            have f4 := Yg.unfrozen 0
            have f5 := Yg.unfrozen 1
            obtain ⟨z0, z1, z2, z3⟩ := Zg.four
            obtain ⟨v0, v1⟩ := Wg.two
            have hbx' : w.heap.size ≤ xb := by omega
            have hbx2 : w.heap.size ≤ xb + 1 := by omega
            have hxx : xb ≠ xb + 1 := Nat.ne_of_lt (Nat.lt_succ_self xb)
            have hlj : l'.length ≤ 2 + j := by omega
            go_wp2_with fail
            go_region
            go_wp2_with fail
            go_meet
            case rel => exact ⟨rfl, rfl, ⟨_, _, _, _, _, _, _, _, _, _, _, (Two.setXY Tg Xg Yg hxx ML MU MO MF).new (New.refl _).drew, hlj⟩, ((Ng.set4 hbx' _ _ _ _).set2 hbx2 _ _).drew⟩
        by_cases m6 : m < 6
        · as_aux_lemma =>
          obtain ⟨er, K, her, C1, C2⟩ := ts_clear k1 hT
          go_wp2_with fail
          refine (C1 base wr _ _ _ oL oU oO (by omega)).mono ?_
          rintro e we ⟨zL, zU, zO, rfl, qL, qU, qO, ne⟩
          obtain ⟨pL', kL', cL', rfl⟩ := qL.sl
          obtain ⟨pU', kU', cU', rfl⟩ := qU.sl
          obtain ⟨pO', kO', cO', rfl⟩ := qO.sl
          clear x0 x1 x2 x3 f0 f1 f2 f3 y0 y1 f4 f5 C1 sx sy d0 d1 d2 d3 d4 d3' d4'
          go_wp2_with fail
          have mz := ne.alloc #[.slice pL' kL' cL', .slice pU' kU' cU', .slice pO' kO' cO', .bool gone] 47
          have mz' := (New.refl we).alloc #[.slice pL' kL' cL', .slice pU' kU' cU', .slice pO' kO' cO', .bool gone] 47
          have Zz := Box.here we we.heap.size #[.slice pL' kL' cL', .slice pU' kU' cU', .slice pO' kO' cO', .bool gone] 47 rfl
          have sz : wr.heap.size ≤ we.heap.size := ne.size
          have sxb := hX.lt
          have syb := hY.lt
          have hk3 : ∀ i, base ≤ i → ¬ S3 rb qb tb i := fun i hi => by rintro (e | e | e) <;> omega
          refine (C2 _ (hT.new mz)).mono ?_
          rintro e wf ⟨rfl, rs', bs', T', B'⟩
          have Xf := Box.but (hX.new mz) B' (hk3 _ (by omega))
          have Yf := Box.but (hY.new mz) B' (hk3 _ (by omega))
          have Zf := Box.but Zz B' (hk3 _ (by omega))
          have LL := (qL.new mz').s3 B' hrb hqb htb3
          have LU := (qU.new mz').s3 B' hrb hqb htb3
          have LO := (qO.new mz').s3 B' hrb hqb htb3
          have LF := (oF.new mz).s3 B' hrb hqb htb3
          have Nf := (hN.trans mz).but B' (fun i hi => by rcases hi with e | e | e <;> omega)
          clear hT hX hY Zz oL oU oO oF qL qU qO hN mz mz' B' C2 ne
          go_wp2_with fail
          refine (num_er _ _ (hl.new Nf)).mono ?_
          rintro e wg ⟨rfl, ng⟩
          have Tg := T'.new ng
          have Xg := Xf.new ng
          have Yg := Yf.new ng
          have Zg := Zf.new ng
          have ML := LL.new ng
          have MU := LU.new ng
          have MO := LO.new ng
          have MF := LF.new ng
          have Ng := Nf.trans ng
          clear T' Xf Yf Zf LL LU LO LF Nf ng
          obtain ⟨sx, ⟨x0, x1, x2, x3⟩, f0, f1, f2, f3⟩ := Xg.four'
          obtain ⟨z0, z1, z2, z3⟩ := Zg.four
          go_wp2_with fail
          go_meet
          case rel => exact ⟨rfl, rfl, ⟨_, _, _, _, _, _, _, _, _, _, _, Two.setX Tg Xg Yg (by omega) ML MU MO MF, by omega⟩, Ng.set4 (by omega) _ _ _ _⟩
        by_cases m7 : m = 6
        · as_aux_lemma =>
          obtain ⟨er, l', hl', her, A1, A2⟩ := ts_alloc (by omega) (by omega) hT
          go_wp2_with fail
          refine (A1 base wr _ oF (by omega)).mono ?_
          rintro e we ⟨vF', n', rfl, qF, ne⟩
          obtain ⟨pF', kF', cF', rfl⟩ := qF.sl
          clear x0 x1 x2 x3 f0 f1 f2 f3 y0 y1 f4 f5 A1 sx sy d0 d1 d2 d3 d4 d3' d4'
          go_wp2_with fail
          have mz := ne.alloc #[.int .i64 (n : Int), .slice pF' kF' cF'] 49
          have mz' := (New.refl we).alloc #[.int .i64 (n : Int), .slice pF' kF' cF'] 49
          have Zz := Box.here we we.heap.size #[.int .i64 (n : Int), .slice pF' kF' cF'] 49 rfl
          have sz : wr.heap.size ≤ we.heap.size := ne.size
          have sxb := hX.lt
          have syb := hY.lt
          have hk3 : ∀ i, base ≤ i → ¬ S3 rb qb tb i := fun i hi => by rintro (e | e | e) <;> omega
          refine (A2 _ (hT.new mz)).mono ?_
          rintro e wf ⟨nf, rfl, rs', bs', T', B'⟩
          have Xf := Box.but (hX.new mz) B' (hk3 _ (by omega))
          have Yf := Box.but (hY.new mz) B' (hk3 _ (by omega))
          have Zf := Box.but Zz B' (hk3 _ (by omega))
          have LL := (oL.new mz).s3 B' hrb hqb htb3
          have LU := (oU.new mz).s3 B' hrb hqb htb3
          have LO := (oO.new mz).s3 B' hrb hqb htb3
          have LF := (qF.new mz').s3 B' hrb hqb htb3
          have Nf := (hN.trans mz).but B' (fun i hi => by rcases hi with e | e | e <;> omega)
          clear hT hX hY Zz oL oU oO oF qF hN mz mz' B' A2 ne
          go_wp2_with fail
          refine (num_er _ _ (hl.new Nf)).mono ?_
          rintro e wg ⟨rfl, ng⟩
          have Tg := T'.new ng
          have Xg := Xf.new ng
          have Yg := Yf.new ng
          have Zg := Zf.new ng
          have ML := LL.new ng
          have MU := LU.new ng
          have MO := LO.new ng
          have MF := LF.new ng
          have Ng := Nf.trans ng
          clear T' Xf Yf Zf LL LU LO LF Nf ng
          obtain ⟨y0, y1⟩ := Yg.two
          have f4 := Yg.unfrozen 0
          have f5 := Yg.unfrozen 1
          have sy := Yg.lt
          obtain ⟨z0, z1⟩ := Zg.two
          have hbx2 : w.heap.size ≤ xb + 1 := by omega
          have hxx : xb + 1 ≠ xb := Nat.succ_ne_self xb
          have hlj : l'.length ≤ 2 + j := by omega
          go_wp2_with fail
          go_meet
          case rel => exact ⟨rfl, rfl, ⟨_, _, _, _, _, _, _, _, _, _, _, Two.setY Tg Xg Yg hxx ML MU MO MF, hlj⟩, Ng.set2 hbx2 _ _⟩
        · as_aux_lemma =>
          have hO : O.length ≤ 5000 := by have := hT.olen; omega
          have hlen := unr_len l O
          have hlj : (unr l O).length ≤ 2 + j := by omega
          have hl6 : l.length ≤ 1000000 := by omega
          have hk3 : ∀ i, base ≤ i → ¬ S3 rb qb tb i := fun i hi => by rintro (e | e | e) <;> omega
          have m8 : m = 7 := by omega
          clear x0 x1 x2 x3 f0 f1 f2 f3 y0 y1 f4 f5 sx sy d0 d1 d2 d3 d4 d3' d4'
          go_wp2_with fail
          refine (ts_free hT).mono ?_
          rintro e wf ⟨rfl, rs', bs', T', B'⟩
          have Xf := Box.but hX B' (hk3 _ hbx)
          have Yf := Box.but hY B' (hk3 _ (by omega))
          have LL := oL.s3 B' hrb hqb htb3
          have LU := oU.s3 B' hrb hqb htb3
          have LO := oO.s3 B' hrb hqb htb3
          have LF := oF.s3 B' hrb hqb htb3
          have Nf := hN.but B' (fun i hi => by rcases hi with e | e | e <;> omega)
          have sxf := Xf.lt
          clear hT hX hY oL oU oO oF hN B'
          obtain ⟨sx, ⟨x0, x1, x2, x3⟩, f0, f1, f2, f3⟩ := Xf.four'
          obtain ⟨y0, y1⟩ := Yf.two
          have f4 := Yf.unfrozen 0
          have f5 := Yf.unfrozen 1
          have sy := Yf.lt
          have hbx2 : w.heap.size ≤ xb + 1 := by omega
          have hbx1 : w.heap.size ≤ xb := by omega
          have hxx : xb ≠ xb + 1 := Nat.ne_of_lt (Nat.lt_succ_self xb)
          have hbs : base ≤ wf.heap.size := by omega
          have R3 := fun W (k : New wf W) => rfree_any (many := (n : Int)) (w := W) gone LL.sl LU.sl (LO.new k) (LF.new k) (Nat.le_trans hbs k.size) hO hl6
          have nd : New wf wf.drew := (New.refl _).drew
          go_wp2_with fail
          refine (R3 _ (by first | exact New.refl _ | exact nd)).mono ?_
          rintro e we ⟨vF', rfl, qF, ne⟩
          obtain ⟨pF', kF', cF', rfl⟩ := qF.sl
          have Tg := T'.new ne
          have Xg := Xf.new ne
          have Yg := Yf.new ne
          have Ng := Nf.trans ne
          clear x0 x1 x2 x3 f0 f1 f2 f3 y0 y1 f4 f5 sx sy R3 nd Xf Yf Nf T'
          obtain ⟨sx, ⟨x0, x1, x2, x3⟩, f0, f1, f2, f3⟩ := Xg.four'
          obtain ⟨y0, y1⟩ := Yg.two
          have f4 := Yg.unfrozen 0
          have f5 := Yg.unfrozen 1
          have sy := Yg.lt
          go_wp2_with fail
          go_meet
          case rel => exact ⟨rfl, rfl, ⟨_, _, _, _, _, _, _, _, _, _, _, Two.setXY Tg Xg Yg hxx (OwnI.nil _ _) (Own.nil _ _) (Own.nil _ _) qF, hlj⟩, (Ng.set4 hbx1 _ _ _ _).set2 hbx2 _ _⟩
      case rest =>
        as_aux_lemma =>
        clear hP hll hN d0 d1 d2 d3 d4 d3' d4' b3 em
        obtain ⟨rfl, rfl, ⟨rs, bs, gone, L, U, O, l, vL, vU, vO, vF, hP, hll⟩, hN⟩ := hcut
        obtain ⟨hT, hX, hY, oL, oU, oO, oF⟩ := hP
        obtain ⟨pL, kL, cL, rfl⟩ := oL.sl
        obtain ⟨pU, kU, cU, rfl⟩ := oU.sl
        obtain ⟨pO, cO, rfl⟩ := oO.ints.len
        obtain ⟨pF, kF, cF, rfl⟩ := oF.sl
        go_wp2_with fail
        obtain ⟨v, er, her, G1, G2⟩ := ts_get k1 hT
        obtain ⟨y1, y2, y3, y4, hV⟩ := gotE_form v
        rw [hV] at G2
        refine G2.mono ?_
        rintro e wd ⟨rfl, nd⟩
        obtain ⟨sx, ⟨a0, a1', a2', a3⟩, f0, f1, f2, f3⟩ := (hX.new nd).four'
        have Dd := Box.here wd wd.heap.size #[.int .i64 y1, .int .u8 y2, .bool y3] 25 rfl
        have md := nd.alloc #[.int .i64 y1, .int .u8 y2, .bool y3] 25
        have Td := hT.new md
        have Xd := hX.new md
        have Yd := hY.new md
        have LL := oL.new md
        have LU := oU.new md
        have LO := oO.new md
        have LF := oF.new md
        have Nd := hN.trans md
        clear hT hX hY oL oU oO oF hN nd md G2
        go_wp2_with fail
        clear sx a0 a1' a2' a3 f0 f1 f2 f3
        obtain ⟨db, hdb⟩ : ∃ db, db = wd.heap.size := ⟨_, rfl⟩
        generalize wd.alloc (.cells #[.int .i64 y1, .int .u8 y2, .bool y3] 25) = we at *
        rw [← hdb] at Dd
        rw [← hdb]
        refine (G1 base we _ _ _ LL LU LO).mono ?_
        rintro e wf ⟨rfl, nf⟩
        rw [hV]
        clear G1 hV
        have Df := Dd.new nf
        have Tf := Td.new nf
        have Xf := Xd.new nf
        have Yf := Yd.new nf
        have Nf := Nd.trans nf
        have KL := LL.new nf
        have KU := LU.new nf
        have KO := LO.new nf
        have KF := LF.new nf
        clear Dd Td Xd Yd Nd LL LU LO LF nf hdb
        go_wp2_with fail
        have mf := (New.refl wf).alloc #[.int .i64 y1, .int .u8 y2, .bool y3] 25
        have mf' := (New.refl wf).alloc #[.int .i64 y1, .int .u8 y2, .bool y3] 52
        obtain ⟨ob, hob⟩ : ∃ ob, ob = wf.heap.size := ⟨_, rfl⟩
        have Qg := Box.here wf wf.heap.size #[.int .i64 y1, .int .u8 y2, .bool y3] 52 rfl
        have Dg := Df.new mf'
        have Tg := Tf.new mf'
        have Xg := Xf.new mf'
        have Yg := Yf.new mf'
        have Ng := Nf.trans mf'
        have JL := KL.new mf'
        have JU := KU.new mf'
        have JO := KO.new mf'
        have JF := KF.new mf'
        clear Df Tf Xf Yf Nf KL KU KO KF mf mf'
        generalize wf.alloc (.cells #[.int .i64 y1, .int .u8 y2, .bool y3] 52) = wg at *
        rw [← hob] at Qg
        rw [← hob]
        clear hob
        have lg : Laid wg := hl.new Ng
        obtain ⟨da, dbb, dc⟩ := Dg.three
        obtain ⟨qa, qbb, qc⟩ := Qg.three
        obtain ⟨xl0, _, xc, _⟩ := Xg.four
        obtain ⟨ya, yb'⟩ := Yg.two
        have R1 := fun W (k : New wg W) => ts_frames (Tg.new k)
        have R2 := fun W (k : New wg W) => ts_taken (Tg.new k)
        have hlk : (ltk l n).length ≤ 1000000 := by have := ltk_len l n; omega
        have R3 := fun W (k : New wg W) => rtaken_any n (.slice pF kF cF) l W (JF.new k).ints (by omega) (by omega)
        go_region_held3 (fun w' => New wg w' ∧ Laid w' ∧ w'.cell? ⟨db, 0, none⟩ = some (.int .i64 y1) ∧ w'.cell? ⟨db, 1, none⟩ = some (.int .u8 y2) ∧ w'.cell? ⟨db, 2, none⟩ = some (.bool y3) ∧
            w'.cell? ⟨ob, 0, none⟩ = some (.int .i64 y1) ∧ w'.cell? ⟨ob, 1, none⟩ = some (.int .u8 y2) ∧ w'.cell? ⟨ob, 2, none⟩ = some (.bool y3) ∧ w'.cell? ⟨xb, 2, none⟩ = some (.slice pO O.length cO) ∧
            w'.cell? ⟨xb + 1, 0, none⟩ = some (.int .i64 (n : Int)) ∧ w'.cell? ⟨xb + 1, 1, none⟩ = some (.slice pF kF cF))
          (first
            | exact ⟨hnx, lg.new hnx, hnx.keeps da, hnx.keeps dbb, hnx.keeps dc, hnx.keeps qa, hnx.keeps qbb, hnx.keeps qc, hnx.keeps xc, hnx.keeps ya, hnx.keeps yb'⟩
            | (have hnx := (New.refl wg).drew; exact ⟨hnx, lg.new hnx, hnx.keeps da, hnx.keeps dbb, hnx.keeps dc, hnx.keeps qa, hnx.keeps qbb, hnx.keeps qc, hnx.keeps xc, hnx.keeps ya, hnx.keeps yb'⟩))
          (first
            | (go_at_call 6; (with_reducible refine (num_er _ _ (lg.new (by first | exact hnx | exact (New.refl _).drew | exact New.refl _))).mono ?_); rintro e wz ⟨rfl, hny⟩; have hnx : New wg wz := New.trans (by first | exact hnx | exact (New.refl _).drew | exact New.refl _) hny)
            | (go_at_call 10; (with_reducible refine (R1 _ (by first | exact hnx | exact (New.refl _).drew | exact New.refl _)).mono ?_); rintro e wz ⟨rfl, hny⟩; have hnx : New wg wz := New.trans (by first | exact hnx | exact (New.refl _).drew | exact New.refl _) hny)
            | (go_at_call 22; (with_reducible refine (R2 _ (by first | exact hnx | exact (New.refl _).drew | exact New.refl _)).mono ?_); rintro e wz ⟨v1, rfl, o1, hny⟩; have hnx : New wg wz := New.trans (by first | exact hnx | exact (New.refl _).drew | exact New.refl _) hny)
            | (go_at_call 23; (with_reducible refine (R3 _ (by first | exact hnx | exact (New.refl _).drew | exact New.refl _)).mono ?_); rintro e wz ⟨v2, rfl, o2, hny⟩; have o1' := o1.new hny; have hnx : New wg wz := New.trans (by first | exact hnx | exact (New.refl _).drew | exact New.refl _) hny)
            | (go_at_call 21; (with_reducible refine (ints_same7 _ _ _ _ (by exact o1'.ints) (by exact o2.ints) hlk).mono ?_); rintro e wz ⟨rfl, hny⟩; have hnx : New wg wz := New.trans (by first | exact hnx | exact (New.refl _).drew | exact New.refl _) hny))
        as_aux_lemma =>
        clear R1 R2 R3
        have hL1 := JL.1
        go_wp2_with fail
        refine (ts_pages (Tg.new hnx)).mono ?_
        rintro e wp ⟨v3, rfl, oP, np⟩
        have N9 := hnx.trans np
        have JL9 := JL.new N9
        obtain ⟨p9, c9, e9⟩ := JL9.its.len
        cases e9
        have PI := oP.ints
        obtain ⟨pP, cP, rfl⟩ := oP.ints.len
        rw [List.length_map]
        rw [List.length_map] at PI
        have xl := N9.keeps xl0
        clear xc ya yb' da dbb dc qa qbb qc xl0 np
        have hHP := Lib.hid PI
        have hHL := Lib.hid JL9.its
        clear PI JL9 oP
        generalize hLl : L.length = Ll at *
        go_wp2_with fail
        go_loopg [43] Ll (fun k i wr' => ∃ i' : Nat, i' + k = Ll ∧ i = .int .i64 (i' : Int) ∧ ∃ q, wr' = wp.drewN q)
        case atStart => exact ⟨0, by omega, rfl, 0, rfl⟩
        case round =>
          obtain ⟨i', hi', rfl, q, rfl⟩ := hrel
          have I := Lib.hid hi'
          clear hi'
          by_cases c : i' < Ll
          · have c1 : (i' : Int) < (Ll : Int) := by omega
            have c0 : (0 : Int) ≤ (i' : Int) := by omega
            have hiL : i' < L.length := by omega
            have hl0 : 0 < L.length := by omega
            go_wp2_with fail
            rcases hHP.out with ⟨_, hnil⟩ | ⟨bP, cP', eP, hb1, hb2, _, hcP⟩
            · exfalso
              have h0 := congrArg List.length hnil
              rw [List.length_map] at h0
              rw [h0] at hl0
              exact Nat.lt_irrefl 0 hl0
            unfold maxLen at hb2
            have hB : Ll ≤ 2 ^ 63 - 1 := by rw [← hLl]; exact Nat.le_trans (by rw [List.length_map] at hb1; exact hb1) hb2
            clear hb1 hb2
            simp only [Value.slice.injEq] at eP
            obtain ⟨rfl, _, rfl⟩ := eP
            obtain ⟨bL, cL', eL, _, _, _, hcL⟩ := hHL.out.some hl0
            simp only [Value.slice.injEq] at eL
            obtain ⟨rfl, _, rfl⟩ := eL
            have k0 := hcP i' (by rw [List.length_map]; exact hiL)
            have k1' := (hcL i' hiL).1
            have ee : (L.map (·.1)).getD i' 0 = (L[i']'hiL).1 := by simp [List.getD_eq_getElem?_getD, List.getElem?_map, List.getElem?_eq_getElem hiL]
            rw [ee] at k0
            generalize (L[i']'hiL).1 = pv at k0 k1'
            clear ee hcP hcL c hl0 hiL hLl hHP hHL
            go_quiet (fail)
            go_wp2_with fail
            go_roundg (Ll - (i' + 1))
            case measure => go_light; have := I.out; omega
            case rel => go_light; exact ⟨i' + 1, by have := I.out; omega, by go_num, _, rfl⟩
          · have hil : i' = Ll := by have := I.out; omega
            clear c I
            subst hil
            go_wp2_with fail
            have N := N9.trans ((New.refl wp).drewN q)
            go_roundg (25 - (j + 1))
            case measure => go_light; have := J.out; omega
            case rel =>
              go_light
              have hj1 : j + 1 ≤ len1 := c1
              exact ⟨j + 1, by have := J.out; omega, by go_num, hj1, ⟨rs, bs, gone, L, U, O, l, _, _, _, _, ⟨Tg.new N, Xg.new N, Yg.new N, JL.new N, JU.new N, JO.new N, JF.new N⟩, by omega⟩, Ng.trans N⟩
    · have hout : len1 ≤ j ∨ 25 ≤ j := by omega
      clear c HR hP hll
      by_cases c : j < len1
      · have c2 : decide ((j : Int) < 25) = false := by simp; omega
        clear hout
        go_wp2_with fail
        refine (tsure_any _).mono ?_
        rintro e w8 ⟨rfl, n8⟩
        go_wp2_with fail
        go_ret
        exact ⟨rfl, hN.trans n8⟩
      · have c2 : decide ((j : Int) < (len1 : Int)) = false := by simp; omega
        clear hout
        go_wp2_with fail
        refine (tsure_any _).mono ?_
        rintro e w8 ⟨rfl, n8⟩
        go_wp2_with fail
        go_ret
        exact ⟨rfl, hN.trans n8⟩

/-! ### THE ROW's STEP: WRITTEN OUT: LEAVE IT -/
theorem door_met (os : Os) (args : Array Value) : laidMetH Tryd.prog Rows.tableRunsRow.laid ((World.doorLaid Tryd.prog 400 os).forCall (fun _ _ => 0) ⟨#[], args, []⟩).memory :=
  laidMetH_of_parts3 (fuel := 8) (laidMet_of_run' 8 (by kernel_rfl) (by kernel_rfl)) (by kernel_rfl) (by kernel_rfl)
set_option maxRecDepth 100000 in
theorem lifted (os : Os) (started : os.Started) (H : Type) (enc : TypeId × Value → H) :
    ReturnsInHanded {} Tryd.checked os 3 .any (fun w args => (Rows.tableRunsSpec.pre enc Tryd.prog Tryd.f3 [] false w args ∧ laidMetH Tryd.prog Rows.tableRunsRow.laid w) ∧ sizedMet enc Tryd.prog Tryd.f3 (OpenSpec.ofChange Rows.tableRunsSpec) false w args) (Rows.tableRunsSpec.post enc Tryd.prog Tryd.f3 false true false false) := by
  refine returnsInHanded_of_change_and (C := Tryd.checked) (X := fun w _ => laidMetH Tryd.prog Rows.tableRunsRow.laid w) (fun _ _ _ hh h => h.of_heap hh) own started (by kernel_rfl) Tryd.func3
    (ChangeSpec.witness_shaped (enc := enc) (C := Tryd.checked) (os := os) (X := fun w _ => laidMetH Tryd.prog Rows.tableRunsRow.laid w) false (World.doorLaid Tryd.prog 400 os) #[.int .i64 0, .slice none 0 0] 8 rfl (World.shaped_of_RefB (by kernel_rfl) (by kernel_rfl)) (by kernel_rfl) (by kernel_rfl) (by kernel_rfl) (door_met os _)) ?_
  intro W base args ds gs before hval0 hW _ _ hL _
  have hL' : laidMet Tryd.prog [] W ∧ handlesMet Tryd.prog [("errors.errorType", Rows.laid_errors_errorType)] W := hL
  have hval : ∀ (j : Nat) t v, Tryd.f3.params[j]? = some t → args[j]? = some v → Value.okWide Tryd.prog W .any base t v := hval0
  have hW' := hW
  obtain ⟨p, q, hA0, hV, rfl, hfz, hnd⟩ := hW
  have hA : DataW.TrodAll enc Tryd.prog W 0 (fun _ => true) true Tryd.f3.params.toList args.toList ds p := hA0
  rw [Tryd.params3] at hA hval
  obtain ⟨v0, vs0, d0, ds0, p0, q0, hargs, rfl, rfl, h0, r0⟩ := trodAll_cons hA
  obtain ⟨v1, vs1, d1, ds1, p1, q1, rfl, rfl, rfl, h1, r1⟩ := trodAll_cons r0
  obtain ⟨rfl, rfl, rfl⟩ := trodAll_nil r1
  obtain rfl : args = #[v0, v1] := by cases args; simp_all
  obtain ⟨rfl, rfl⟩ := trodVars_none hV
  obtain ⟨a0, rfl, rfl, rfl, w0⟩ := open_int Tryd.underlying3 (hval 0 3 v0 rfl rfl) h0
  obtain ⟨a1, len1, cap1, rfl⟩ := okWide_slice Tryd.underlying22 (hval 1 22 v1 rfl rfl)
  have k1 := h1
  have lt1 : ∀ x ∈ p1, x.block < W.heap.size := by obtain ⟨m, hm⟩ := k1; exact DataW.trod_lt m _ _ _ hm
  have w1 : MixRows [some .i64, some .i64, some .i64, some .u8, none] W a1 len1 := mixrows_of Tryd.underlying22 (.struct Tryd.underlying54 (.cons rfl (.int Tryd.underlying3) (by kernel_rfl) (.cons rfl (.int Tryd.underlying3) (by kernel_rfl) (.cons rfl (.struct Tryd.underlying52 (.cons rfl (.int Tryd.underlying3) (by kernel_rfl) (.cons rfl (.int Tryd.underlying5) (by kernel_rfl) (.cons rfl (.bool Tryd.underlying4) (by kernel_rfl) .nil)))) (by kernel_rfl) .nil)))) (by kernel_rfl) h1
  clear hA0 hval0
  refine (walk a0 a1 len1 cap1 W w0 w1 (handle_of_hs hL'.2)).mono fun e W' ⟨he, bel⟩ => ?_
  subst he
  exact ⟨_, rfl, _, _, _, [], _, [], hW', trodAll_mk1 (shut_bool Tryd.underlying4 _), (trodAll_cons_mk (shut_int Tryd.underlying3 w0) (trodAll_cons_mk (Below.trod laidOut (by kernel_rfl) (of_decide_eq_true (by kernel_rfl)) k1 bel lt1) trodAll_mk0)), rfl, bel.frame _, fun h => by cases h⟩

theorem over : Rows.tableRunsRow.holds Tryd.pinned (OpenSpec.ofChange Rows.tableRunsSpec) :=
  OpenClaim.holds_of_wide 3 Tryd.f3 rfl rfl rfl rfl rfl rfl rfl ⟨rfl, rfl, rfl, rfl, rfl⟩ rfl rfl rfl rfl rfl (by kernel_rfl) Tryd.func3 (by kernel_rfl)
    (of_decide_eq_true (by kernel_rfl)) (by unfold Func.isWrapper; first | (rw [if_pos (by decide +kernel)]; kernel_rfl) | (rw [if_neg (by decide +kernel)]; exact ⟨rfl, rfl⟩))
    (fun os started H enc _ => lifted os started H enc)

theorem proved : Rows.TableRunsSaid := over
theorem card : Rows.TableRunsCardSaid :=
  Claim7.holds_tied_plain_at .later [] [.handle] true (true, "4b22bd7687048e343de647a3627b9c64ecf240315143466190a08de0891d63d7") true
    over (fun _ h => by cases h) (by kernel_rfl) (fun _ h => by cases h) tableRuns_row_tie rfl ⟨rfl, rfl⟩ (by kernel_rfl) rfl
    (fun f fn hf hfn => by
      obtain rfl : f = 3 := Option.some.inj ((show Tryd.prog.funcNamed "halter/halterlaw07.TableRuns" = some 3 by kernel_rfl).symm.trans hf) |>.symm
      obtain rfl : fn = Tryd.f3 := (Option.some.inj (Tryd.func3.symm.trans hfn)).symm
      exact ⟨by kernel_rfl, fun j t ht => by
        rw [Tryd.params3] at ht
        have hm : t ∈ [3, 22] := by have := Array.mem_of_getElem? ht; simpa using this
        have hall : ([3, 22].all fun u => !Tryd.prog.wantsStandIn u) = true := by kernel_rfl
        exact (show Tryd.prog.wantsStandIn t = false by simpa using List.all_eq_true.1 hall t hm)⟩)
    (by kernel_rfl)
#print axioms card
end Go.Proofs.YtajhlmiobibhjaaDoor.tableRuns
