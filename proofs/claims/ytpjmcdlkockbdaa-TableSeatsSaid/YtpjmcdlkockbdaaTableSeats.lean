/- A table has one frame for itself and one for each upper part of which a page was ever laid down, and no more, whatever is taken away, and where no frame is free a page is laid down just where its upper part has one; the statement holds for every input, with no condition. -/
import Derived.Test.YtpjmcdlkockbdaaRows
import Derived.Test.YtpjmcdlkockbdaaTbK
import Derived.Test.YtpjmcdlkockbdaaIRow
import Derived.Deep.LoopGhost
import Derived.Deep.QuietTactic
import Derived.BigQuiet
import Derived.Test.YtpjmcdlkockbdaaPost
import Derived.WalkKit
import Derived.ProofKit
import Derived.OpenShut
import Derived.ShutString
import Derived.ChangeOld
import Derived.Below
namespace Go.Proofs.Ytpjmcdlkockbdaa.tableSeats
open Go.ChangeShapes Go.WideShapes Go.ChangeAt Go.RowKit
open Go.ChangeMaps (open_string shut_string)
set_option linter.unusedVariables false

theorem own : ownKnob Try.prog.godebug = none := by kernel_rfl
theorem laidOut : laidOutB Try.prog = true := by kernel_rfl

/-- WHAT THE WALK IS TOLD OF A SLICE OF INTEGERS THAT CAME IN: it is nil; or it leads to a row of 'cap' cells, the numbers 'zs' (the first 'len' are its elements, the rest its spare room), each fitting its kind. -/
def IsRow (k : IntKind) (w : World) (a : Option Addr) (len cap : Nat) (zs : List Int) : Prop :=
  (a = none ∧ len = 0 ∧ cap = 0 ∧ zs = []) ∨
  ∃ x, a = some x ∧ len ≤ cap ∧ cap ≤ maxLen ∧ zs.length = cap ∧ (∀ i, i < zs.length → w.cell? (x.add i) = some (.int k (zs.getD i 0))) ∧ ∀ n ∈ zs, (Lit.int k n).wf = true

/-- flags of upper parts -/
def Hs (w : World) (hb : Nat) (f : Nat → Bool) : Prop := ∃ cs : List Bool, cs.length = 64 ∧ Box w hb (cs.map Value.bool).toArray 4 ∧ ∀ u, u < 64 → cs[u]? = some (f u)
theorem Hs.cell {w : World} {hb : Nat} {f : Nat → Bool} (h : Hs w hb f) (u : Nat) (hu : u < 64) : hb < w.heap.size ∧ w.cell? ⟨hb, u, none⟩ = some (.bool (f u)) ∧ w.frozen? ⟨hb, u, none⟩ = false := by
  obtain ⟨cs, h1, h2, h3⟩ := h
  refine ⟨h2.lt, ?_, h2.unfrozen u⟩
  rw [h2.cell u, List.getElem?_toArray, List.getElem?_map, h3 u hu]; rfl
theorem Hs.new {w w' : World} {hb : Nat} {f : Nat → Bool} (h : Hs w hb f) (k : New w w') : Hs w' hb f := by
  obtain ⟨cs, h1, h2, h3⟩ := h
  exact ⟨cs, h1, h2.new k, h3⟩
theorem Hs.but {w w' : World} {k tb fb rb mb qb t hb : Nat} {rs bs : List Int} {f : Nat → Bool} (h : Hs w hb f) (i : Inv w k tb fb rb mb qb t rs bs) (n : But (fun j => j = rb ∨ j = qb) w w') : Hs w' hb f := by
  obtain ⟨cs, h1, h2, h3⟩ := h
  exact ⟨cs, h1, h2.but n (by
    rintro (e | e)
    · exact Box.ne h2 i.st.fr.boxes.2 (by decide) e
    · exact Box.ne h2 i.st.ph.boxes.2 (by decide) e), h3⟩
theorem Hs.set {w : World} {hb : Nat} {f g : Nat → Bool} (h : Hs w hb f) (u : Nat) (hu : u < 64) (hg : ∀ v, v < 64 → g v = if v = u then true else f v) : Hs (w.setCell ⟨hb, u, none⟩ (.bool true)) hb g := by
  obtain ⟨cs, h1, h2, h3⟩ := h
  refine ⟨cs.set u true, by simpa using h1, ?_, fun v hv => ?_⟩
  · have := h2.set u (.bool true)
    rwa [show (cs.map Value.bool).toArray.setIfInBounds u (.bool true) = ((cs.set u true).map Value.bool).toArray from by simp [List.map_set]] at this
  · rw [List.getElem?_set, hg v hv]
    by_cases c : u = v
    · rw [if_pos c, if_pos c.symm]; simp; omega
    · rw [if_neg c, if_neg (fun e => c e.symm)]; exact h3 v hv
theorem Hs.congr {w : World} {hb : Nat} {f g : Nat → Bool} (h : Hs w hb f) (k : ∀ u, u < 64 → g u = f u) : Hs w hb g := by
  obtain ⟨cs, h1, h2, h3⟩ := h
  exact ⟨cs, h1, h2, fun u hu => by rw [k u hu]; exact h3 u hu⟩
/-- which upper parts have a frame -/
def upb (bs : List Int) (u : Nat) : Bool := decide (nm bs 0 u ≠ 0)
theorem bool_info : (Try.prog.info? 4).map (fun i => (i.zero, i.size, i.bytes)) = some (some (.bool false), 1, 1) := by kernel_rfl
theorem apartT {w : World} {k tb fb rb mb qb t hb : Nat} {rs bs : List Int} {f : Nat → Bool} (h : Inv w k tb fb rb mb qb t rs bs) (i : Hs w hb f) (u : Nat) : Inv (w.setCell ⟨hb, u, none⟩ (.bool true)) k tb fb rb mb qb t rs bs := by
  obtain ⟨cs, h1, h2, h3⟩ := i
  have ne : ∀ {n : Nat} {ds : Array Value} {t : TypeId}, Box w n ds t → t ≠ 4 → hb ≠ n := fun b ht => Box.ne h2 b (fun e => ht e.symm)
  have F : Far hb w (w.setCell ⟨hb, u, none⟩ (.bool true)) := Far.set _ _ _ _
  have s := h.st
  exact ⟨⟨Box.other s.tb (ne s.tb (by decide)) _, ⟨s.fr.1, s.fr.2.1, Box.other s.fr.boxes.1 (ne s.fr.boxes.1 (by decide)) _, Box.other s.fr.boxes.2 (ne s.fr.boxes.2 (by decide)) _⟩, s.ph.off F (Ne.symm (ne s.ph.boxes.1 (by decide))) (Ne.symm (ne s.ph.boxes.2 (by decide))), s.len, s.good⟩, h.cnt, h.just⟩
/-! ### STEP 1: THE WALK: the Go text returns true, AND WRITES NOTHING THAT WAS THERE: 'Below w.heap.size w w'' (Derived/Below.lean: '.refl', '.alloc', '.drew', '.setCell' at a new block, '.trans'). Open each 'IsRow' by 'rcases' AHEAD of 'go_enter'; part every test ahead of the walk. -/
set_option maxHeartbeats 8000000 in
set_option maxRecDepth 100000 in
theorem walk (a0 : Int) (a1 : Option Addr) (len1 cap1 : Nat) (z1 : List Int) (w : World) (w0 : (Lit.int .i64 a0).wf = true) (w1 : IsRow .i64 w a1 len1 cap1 z1) :
    Calls Try.prog 3 #[.int .i64 a0, .slice a1 len1 cap1] w fun e w' => e = .returned (.bool true) ∧ Below w.heap.size w w' := by
  obtain ⟨n, en, hn1, hn2⟩ := mod_in 9 1 a0 (by omega) (by omega) (by omega) (by omega)
  have M := fun W => made_any n W (by omega) (by omega)
  have Q := fun W => pmade_any n W (by omega) (by omega)
  have hmk := run_make_row' (P := Try.prog) 36 4 (.bool false) 1 Try.underlying36 bool_info rfl .i64 .i64 64 (by omega) (by omega)
  rw [made_eq] at hmk
  simp only [show ((64 : Nat) : Int) = 64 from rfl] at hmk
  obtain ⟨Z, hZ⟩ : ∃ Z, Z = (List.replicate 64 (Value.bool false)).toArray := ⟨_, rfl⟩
  rw [← hZ] at hmk
  have HZ := Lib.hid hZ
  clear hZ
  obtain ⟨zs, hlen, hmx, hrow⟩ := IRow.of w1
  clear w0 w1
  subst hlen
  unfold maxLen at hmx
  have R := Lib.hid hrow
  clear hrow
  go_enter Try.func3, Try.ntmps3
  go_wp2_with fail
  simp only [en]
  clear en
  refine (M _).mono ?_
  rintro e w1 ⟨rfl, h1, n1⟩
  go_wp2_with fail
  refine (Q _).mono ?_
  rintro e w2 ⟨rfl, h2, n2⟩
  have h1' := h1.new n2
  have nn := n1.trans n2
  have s1 := n1.size
  clear h1 n1 n2 M Q
  go_wp2_with fail
  refine (new_done h1' h2).mono ?_
  rintro e w3 ⟨tb, cs, rfl, ht, h3, b3, z3⟩
  have n3 := nn.but b3 (fun i hi => by omega)
  have I3 := Inv.start h3 z3
  have hm0 := nup_zero z3
  have Z3 := Lib.hid z3
  clear h1' h2 b3 nn ht h3 z3
  generalize w1.heap.size = qb at *
  generalize (List.replicate n (0 : Int)).set 0 1 = rs at *
  obtain ⟨fb, hfb⟩ : ∃ fb, fb = w.heap.size + 1 := ⟨_, rfl⟩
  obtain ⟨mb, hmb⟩ : ∃ mb, mb = qb + 1 := ⟨_, rfl⟩
  rw [← hfb, ← hmb] at I3
  rw [← hfb, ← hmb]
  clear hfb hmb
  by_cases big : (60 : Int) < (zs.length : Int)
  · go_wp2_with fail
    refine (tsure_any _).mono ?_
    rintro e w4 ⟨rfl, n4⟩
    go_wp2_with fail
    go_ret
    exact ⟨rfl, n3.trans n4⟩
  · have big2 : (zs.length : Int) ≤ 60 := by omega
    have H0 : Hs (w3.alloc (.cells Z 4)) w3.heap.size (upb cs) := by
      refine ⟨List.replicate 64 false, by simp, ?_, fun u hu => ?_⟩
      · rw [HZ.out]
        have := Box.here w3 w3.heap.size (List.replicate 64 (Value.bool false)).toArray 4 rfl
        rwa [show ((List.replicate 64 false).map Value.bool).toArray = (List.replicate 64 (Value.bool false)).toArray from by rw [List.map_replicate]]
      · rw [List.getElem?_replicate, if_pos hu]
        unfold upb
        rw [Z3.out u hu]; rfl
    have I4 := I3.new ((New.refl w3).alloc Z 4)
    have n4 := n3.alloc Z 4
    have N3S := n3.size
    clear I3 n3 HZ Z3
    go_wp2_with fail
    clear hmk
    have HBS : w.heap.size ≤ w3.heap.size := N3S
    generalize w3.heap.size = hb at *
    generalize w3.alloc (.cells Z 4) = w4 at *
    go_loopg [13, 14] zs.length (fun k c i wr => ∃ j : Nat, j + k = zs.length ∧ i = .int .i64 (j : Int) ∧ ∃ m rs bs, c = .int .i64 ((m : Nat) : Int) ∧ m = 1 + nup bs 0 64 ∧ Inv wr n tb fb w.heap.size mb qb 0 rs bs ∧ Hs wr hb (upb bs) ∧ New w wr)
    case atStart => exact ⟨0, by omega, rfl, 1, _, _, rfl, by rw [hm0], I4, H0, n4⟩
    case round =>
      clear I4 n4 H0 hm0
      obtain ⟨j, hj, rfl, m, rs, bs, rfl, hm, hI, hH, hN⟩ := hrel
      by_cases c : j < zs.length
      · obtain ⟨x, rfl, hcell, t1, t2⟩ := R.out j c
        have hc2 := (hN.cell (cell_lt hcell)).trans hcell
        have J := Lib.hid hj
        have hmk' : m ≤ n := by have := hI.cnt; have := hI.le; omega
        clear hcell hj
        generalize zs.getD j 0 = v at *
        go_wp2_with fail
        obtain ⟨p, ep, hp⟩ := mod_by v 4096 (by omega) (by omega)
        simp only [show ((4096 : Nat) : Int) = 4096 from rfl] at ep
        simp only [ep]
        clear ep hc2
        refine (inv_set p j 1 false hI hp (by omega) (by omega) (by omega) (by omega)).mono ?_
        rintro e w5 (⟨qs, ds, rfl, I5, b5, _, cnt, there⟩ | ⟨rfl, I5, n5, full, h0⟩)
        · have N5 := hN.but b5 (fun i hi => by omega)
          have H5 := hH.but hI b5
          have hle5 := I5.le
          have hcn5 := I5.cnt
          rcases cnt with ⟨c5, h0⟩ | ⟨c5, h0⟩
          · have e1 : upb bs (p / 64) = true := by unfold upb; simpa using h0
            have H6 : Hs w5 hb (upb ds) := H5.congr (fun u hu => by
              have := there u hu
              unfold upb
              by_cases k : u = p / 64
              · subst k; simp [h0, this]
              · simp [k] at this; simp [this])
            obtain ⟨z1, z2, z3⟩ := H5.cell (p / 64) (by omega)
            rw [e1] at z2
            have HM5 := Lib.hid (show m = 1 + nup ds 0 64 from by omega)
            have e2 : upb ds (p / 64) = true := by unfold upb; simpa using (there (p / 64) (by omega)).2 (.inl rfl)
            clear hI hH hN b5 H5 there e1 hm hle5 hcn5 c5
            go_wp2_with fail
            go_quiet (fail)
            have I7 := I5.new ((New.refl w5).drewN nq)
            have N7 := N5.drewN nq
            have H7 := H6.new ((New.refl w5).drewN nq)
            clear I5 N5 H6 z1 z2 z3
            generalize w5.drewN nq = w7 at *
            obtain ⟨z1, z2, z3⟩ := H7.cell (p / 64) (by omega)
            rw [e2] at z2
            by_cases c3 : (j : Int) % 3 = 2
            · have f3 : ((j : Int) % 3 == 2) = true := by simpa using c3
              go_wp2_with fail
              refine (inv_clear p I7 hp).mono ?_
              rintro e w8 ⟨es, rfl, I8, b8, _, cn8, nm8⟩
              have H8 : Hs w8 hb (upb es) := (H7.but I7 b8).congr (fun u hu => by unfold upb; rw [nm8 u hu])
              have N8 := N7.but b8 (fun i hi => by omega)
              have HM8 := Lib.hid (show m = 1 + nup es 0 64 from by have := HM5.out; omega)
              clear I7 H7 N7 b8 c3 f3 cn8 nm8
              have F := inv_frames I8
              rw [← HM8.out] at F
              go_wp2_with fail
              refine F.mono ?_
              rintro e w9 ⟨rfl, n9⟩
              have I9 := I8.new n9
              have H9 := H8.new n9
              have N9 := N8.trans n9
              clear F I8 H8 N8 n9
              have G := inv_free I9
              rw [← HM8.out] at G
              go_wp2_with fail
              refine G.mono ?_
              rintro e wa ⟨rfl, na⟩
              have Ia := I9.new na
              have Ha := H9.new na
              have Na := N9.trans na
              clear G I9 H9 N9 na
              go_wp2_with fail
              go_roundg (zs.length - (j + 1))
              case measure => have := J.out; omega
              case rel => exact ⟨j + 1, by have := J.out; omega, by go_num, m, _, _, by go_num, HM8.out, Ia, Ha, Na⟩
            · have f3 : ((j : Int) % 3 == 2) = false := by simpa using c3
              clear c3
              have F := inv_frames I7
              rw [← HM5.out] at F
              go_wp2_with fail
              refine F.mono ?_
              rintro e w9 ⟨rfl, n9⟩
              have I9 := I7.new n9
              have H9 := H7.new n9
              have N9 := N7.trans n9
              clear F I7 H7 N7 n9
              have G := inv_free I9
              rw [← HM5.out] at G
              go_wp2_with fail
              refine G.mono ?_
              rintro e wa ⟨rfl, na⟩
              have Ia := I9.new na
              have Ha := H9.new na
              have Na := N9.trans na
              clear G I9 H9 N9 na
              go_wp2_with fail
              go_roundg (zs.length - (j + 1))
              case measure => have := J.out; omega
              case rel => exact ⟨j + 1, by have := J.out; omega, by go_num, m, _, _, by go_num, HM5.out, Ia, Ha, Na⟩
          · have e1 : upb bs (p / 64) = false := by unfold upb; simpa using h0
            have hlt : m < n := by omega
            obtain ⟨z1, z2, z3⟩ := H5.cell (p / 64) (by omega)
            rw [e1] at z2
            have HM5 := Lib.hid (show m + 1 = 1 + nup ds 0 64 from by omega)
            have THERE := Lib.hid there
            clear hI hH hN b5 there hm hle5 hcn5 c5
            go_wp2_with fail
            go_quiet (fail)
            have I6 := I5.new ((New.refl w5).drewN nq)
            have N6 := N5.drewN nq
            have H6 := H5.new ((New.refl w5).drewN nq)
            clear I5 N5 H5 z1 z2 z3
            generalize w5.drewN nq = w6 at *
            obtain ⟨z1, z2, z3⟩ := H6.cell (p / 64) (by omega)
            rw [e1] at z2
            have I7 := apartT I6 H6 (p / 64)
            have N7 := N6.setCell (p := ⟨hb, p / 64, none⟩) HBS (.bool true)
            have H7 : Hs (w6.setCell ⟨hb, p / 64, none⟩ (.bool true)) hb (upb ds) := H6.set (p / 64) (by omega) (fun u hu => by
              have := THERE.out u hu
              unfold upb
              by_cases k : u = p / 64
              · subst k; simp [this]
              · simp [k] at this; simp [this, k])
            clear I6 N6
            by_cases c3 : (j : Int) % 3 = 2
            · have f3 : ((j : Int) % 3 == 2) = true := by simpa using c3
              go_wp2_with fail
              refine (inv_clear p I7 hp).mono ?_
              rintro e w8 ⟨es, rfl, I8, b8, _, cn8, nm8⟩
              have H8 : Hs w8 hb (upb es) := (H7.but I7 b8).congr (fun u hu => by unfold upb; rw [nm8 u hu])
              have N8 := N7.but b8 (fun i hi => by omega)
              have HM8 := Lib.hid (show m + 1 = 1 + nup es 0 64 from by have := HM5.out; omega)
              clear I7 H7 N7 b8 c3 f3 cn8 nm8
              have F := inv_frames I8
              rw [← HM8.out] at F
              go_wp2_with fail
              refine F.mono ?_
              rintro e w9 ⟨rfl, n9⟩
              have I9 := I8.new n9
              have H9 := H8.new n9
              have N9 := N8.trans n9
              clear F I8 H8 N8 n9
              have G := inv_free I9
              rw [← HM8.out] at G
              go_wp2_with fail
              refine G.mono ?_
              rintro e wa ⟨rfl, na⟩
              have Ia := I9.new na
              have Ha := H9.new na
              have Na := N9.trans na
              clear G I9 H9 N9 na
              go_wp2_with fail
              go_roundg (zs.length - (j + 1))
              case measure => have := J.out; omega
              case rel => exact ⟨j + 1, by have := J.out; omega, by go_num, m + 1, _, _, by go_num, HM8.out, Ia, Ha, Na⟩
            · have f3 : ((j : Int) % 3 == 2) = false := by simpa using c3
              clear c3
              have F := inv_frames I7
              rw [← HM5.out] at F
              go_wp2_with fail
              refine F.mono ?_
              rintro e w9 ⟨rfl, n9⟩
              have I9 := I7.new n9
              have H9 := H7.new n9
              have N9 := N7.trans n9
              clear F I7 H7 N7 n9
              have G := inv_free I9
              rw [← HM5.out] at G
              go_wp2_with fail
              refine G.mono ?_
              rintro e wa ⟨rfl, na⟩
              have Ia := I9.new na
              have Ha := H9.new na
              have Na := N9.trans na
              clear G I9 H9 N9 na
              go_wp2_with fail
              go_roundg (zs.length - (j + 1))
              case measure => have := J.out; omega
              case rel => exact ⟨j + 1, by have := J.out; omega, by go_num, m + 1, _, _, by go_num, HM5.out, Ia, Ha, Na⟩
        · have e1 : upb bs (p / 64) = false := by unfold upb; simpa using h0
          have hmn : m = n := by have := hI.cnt; omega
          subst hmn
          have H5 := hH.new n5
          have N5 := hN.trans n5
          obtain ⟨z1, z2, z3⟩ := H5.cell (p / 64) (by omega)
          rw [e1] at z2
          have HM5 := Lib.hid (show m = 1 + nup bs 0 64 from hm)
          have hlt : ¬ (m : Int) < (m : Int) := by omega
          clear hI hH hN n5 hm full
          go_wp2_with fail
          go_quiet (fail)
          have I7 := I5.new ((New.refl w5).drewN nq)
          have N7 := N5.drewN nq
          have H7 := H5.new ((New.refl w5).drewN nq)
          clear I5 N5 H5 z1 z2 z3
          generalize w5.drewN nq = w7 at *
          by_cases c3 : (j : Int) % 3 = 2
          · have f3 : ((j : Int) % 3 == 2) = true := by simpa using c3
            go_wp2_with fail
            refine (inv_clear p I7 hp).mono ?_
            rintro e w8 ⟨es, rfl, I8, b8, _, cn8, nm8⟩
            have H8 : Hs w8 hb (upb es) := (H7.but I7 b8).congr (fun u hu => by unfold upb; rw [nm8 u hu])
            have N8 := N7.but b8 (fun i hi => by omega)
            have HM8 := Lib.hid (show m = 1 + nup es 0 64 from by have := HM5.out; omega)
            clear I7 H7 N7 b8 c3 f3 cn8 nm8
            have F := inv_frames I8
            rw [← HM8.out] at F
            go_wp2_with fail
            refine F.mono ?_
            rintro e w9 ⟨rfl, n9⟩
            have I9 := I8.new n9
            have H9 := H8.new n9
            have N9 := N8.trans n9
            clear F I8 H8 N8 n9
            have G := inv_free I9
            rw [← HM8.out] at G
            go_wp2_with fail
            refine G.mono ?_
            rintro e wa ⟨rfl, na⟩
            have Ia := I9.new na
            have Ha := H9.new na
            have Na := N9.trans na
            clear G I9 H9 N9 na
            go_wp2_with fail
            go_roundg (zs.length - (j + 1))
            case measure => have := J.out; omega
            case rel => exact ⟨j + 1, by have := J.out; omega, by go_num, m, _, _, by go_num, HM8.out, Ia, Ha, Na⟩
          · have f3 : ((j : Int) % 3 == 2) = false := by simpa using c3
            clear c3
            have F := inv_frames I7
            rw [← HM5.out] at F
            go_wp2_with fail
            refine F.mono ?_
            rintro e w9 ⟨rfl, n9⟩
            have I9 := I7.new n9
            have H9 := H7.new n9
            have N9 := N7.trans n9
            clear F I7 H7 N7 n9
            have G := inv_free I9
            rw [← HM5.out] at G
            go_wp2_with fail
            refine G.mono ?_
            rintro e wa ⟨rfl, na⟩
            have Ia := I9.new na
            have Ha := H9.new na
            have Na := N9.trans na
            clear G I9 H9 N9 na
            go_wp2_with fail
            go_roundg (zs.length - (j + 1))
            case measure => have := J.out; omega
            case rel => exact ⟨j + 1, by have := J.out; omega, by go_num, m, _, _, by go_num, HM5.out, Ia, Ha, Na⟩
      · obtain rfl : j = zs.length := by omega
        clear hI hH
        go_wp2_with fail
        refine (tsure_any _).mono ?_
        rintro e w5 ⟨rfl, n5⟩
        go_wp2_with fail
        go_ret
        exact ⟨rfl, hN.trans n5⟩

/-! ### THE ROW's STEP: WRITTEN OUT: LEAVE IT -/
set_option maxRecDepth 100000 in
theorem lifted (os : Os) (started : os.Started) (H : Type) (enc : TypeId × Value → H) :
    ReturnsInHanded {} Try.checked os 3 .any (Rows.tableSeatsSpec.pre6 enc Try.prog Try.f3 Rows.tableSeatsRow.domain false) (Rows.tableSeatsSpec.post enc Try.prog Try.f3 false true false false) := by
  refine returnsInHanded_of_change (C := Try.checked) own started (by kernel_rfl) Try.func3
    (ChangeSpec.witness6 (enc := enc) (C := Try.checked) false ⟨#[], #[.int .i64 0, .slice none 0 0], []⟩ 8 (by kernel_rfl) (by kernel_rfl) (by kernel_rfl) (by kernel_rfl)) ?_
  intro W base args ds gs before hval0 hW hcnd _
  have hval : ∀ (j : Nat) t v, Try.f3.params[j]? = some t → args[j]? = some v → Value.okWide Try.prog W .any base t v := hval0
  have hW' := hW
  obtain ⟨p, q, hA0, hV, rfl, hfz, hnd⟩ := hW
  have hA : DataW.TrodAll enc Try.prog W 0 (fun _ => true) true Try.f3.params.toList args.toList ds p := hA0
  rw [Try.params3] at hA hval
  obtain ⟨v0, vs0, d0, ds0, p0, q0, hargs, rfl, rfl, h0, r0⟩ := trodAll_cons hA
  obtain ⟨v1, vs1, d1, ds1, p1, q1, rfl, rfl, rfl, h1, r1⟩ := trodAll_cons r0
  obtain ⟨rfl, rfl, rfl⟩ := trodAll_nil r1
  obtain rfl : args = #[v0, v1] := by cases args; simp_all
  obtain ⟨rfl, rfl⟩ := trodVars_none hV
  obtain ⟨a0, rfl, rfl, rfl, w0⟩ := open_int Try.underlying3 (hval 0 3 v0 rfl rfl) h0
  obtain ⟨a1, len1, cap1, rfl⟩ := okWide_slice Try.underlying22 (hval 1 22 v1 rfl rfl)
  have k1 := h1
  have lt1 : ∀ x ∈ p1, x.block < W.heap.size := by obtain ⟨m, hm⟩ := k1; exact DataW.trod_lt m _ _ _ hm
  obtain ⟨z1, w1⟩ : ∃ zs, IsRow .i64 W a1 len1 cap1 zs := by
    obtain ⟨fuel, hf⟩ := h1
    rcases open_ints Try.underlying22 Try.underlying3 (by kernel_rfl) hf with ⟨hcs, _⟩ | ⟨x, l, c, zs, hcs, _, hl, hm, hz, _, hcell, hwz⟩
    · simp [Value.cells] at hcs
      obtain ⟨rfl, rfl, rfl⟩ := hcs
      exact ⟨[], .inl ⟨rfl, rfl, rfl, rfl⟩⟩
    · simp [Value.cells] at hcs
      obtain ⟨rfl, rfl, rfl⟩ := hcs
      exact ⟨zs, .inr ⟨_, rfl, hl, hm, by simpa using hz, hcell, hwz⟩⟩
  clear hA0 hval0
  refine (walk a0 a1 len1 cap1 z1 W w0 w1).mono fun e W' ⟨he, bel⟩ => ?_
  subst he
  exact ⟨_, rfl, _, _, _, [], _, [], hW', trodAll_mk1 (shut_bool Try.underlying4 _), (trodAll_cons_mk (shut_int Try.underlying3 w0) (trodAll_cons_mk (Below.trod laidOut (by kernel_rfl) (of_decide_eq_true (by kernel_rfl)) k1 bel lt1) trodAll_mk0)), rfl, bel.frame _, fun h => by cases h⟩

theorem over : Rows.tableSeatsRow.holds Try.pinned (OpenSpec.ofChange Rows.tableSeatsSpec) :=
  OpenClaim.holds_of_wide 3 Try.f3 rfl rfl rfl rfl rfl rfl rfl ⟨rfl, rfl, rfl, rfl, rfl⟩ rfl rfl rfl rfl rfl (by kernel_rfl) Try.func3 (by kernel_rfl)
    (of_decide_eq_true (by kernel_rfl)) (by unfold Func.isWrapper; first | (rw [if_pos (by decide +kernel)]; kernel_rfl) | (rw [if_neg (by decide +kernel)]; exact ⟨rfl, rfl⟩))
    (fun os started H enc _ => lifted os started H enc)

/-- ████ THE STATEMENT ████ -/
theorem proved : Rows.TableSeatsSaid := over
#print axioms proved
end Go.Proofs.Ytpjmcdlkockbdaa.tableSeats
