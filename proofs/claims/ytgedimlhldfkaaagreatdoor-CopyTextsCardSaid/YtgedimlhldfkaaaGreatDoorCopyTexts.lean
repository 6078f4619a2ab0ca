/- A text that was laid out with a 0 behind it is read as it was, over pages, too, whatever more may be read; with a lesser most it is too long; the statement holds for every input, where the library's variable errors.errorType holds what its own text lays, which the card ties. -/
import Derived.Test.YtgedimlhldfkaaaGreatDoorRows
import Derived.Test.YtgedimlhldfkaaaGreatDoorCiK
import Derived.Test.YtgedimlhldfkaaaGreatDoorFrG
import Derived.Test.YtgedimlhldfkaaaGreatDoorSpP
import Derived.Test.YtgedimlhldfkaaaGreatDoorCards
import Derived.Test.YtgedimlhldfkaaaGreatDoorTie
import Derived.LaidMore
import Derived.LaidLaws
import Derived.LaidHandle
import Derived.Test.YtgedimlhldfkaaaGreatDoorLay
import Derived.Test.YtgedimlhldfkaaaGreatDoorPost
import Derived.WalkKit
import Derived.ProofKit
import Derived.OpenShut
import Derived.ShutString
import Derived.ChangeOld
import Derived.Below
namespace Go.Proofs.YtgedimlhldfkaaaGreatDoor.copyTexts
open Go.ChangeShapes Go.WideShapes Go.ChangeAt Go.RowKit
open Go.ChangeMaps (open_string shut_string)
set_option linter.unusedVariables false

theorem own : ownKnob Tryz.prog.godebug = none := by kernel_rfl
theorem laidOut : laidOutB Tryz.prog = true := by kernel_rfl

/-- WHAT THE WALK IS TOLD OF A SLICE OF INTEGERS THAT CAME IN: it is nil; or it leads to a row of 'cap' cells, the numbers 'zs' (the first 'len' are its elements, the rest its spare room), each fitting its kind. -/
def IsRow (k : IntKind) (w : World) (a : Option Addr) (len cap : Nat) (zs : List Int) : Prop :=
  (a = none ∧ len = 0 ∧ cap = 0 ∧ zs = []) ∨
  ∃ x, a = some x ∧ len ≤ cap ∧ cap ≤ maxLen ∧ zs.length = cap ∧ (∀ i, i < zs.length → w.cell? (x.add i) = some (.int k (zs.getD i 0))) ∧ ∀ n ∈ zs, (Lit.int k n).wf = true

theorem isrow_bytc {w : World} {a : Option Addr} {len cap : Nat} {z : List Int} (h : IsRow .u8 w a len cap z) : ∃ l : List Int, l.length = len ∧ Byts w (.slice a len cap) l ∧ Oct l ∧ len ≤ cap ∧ cap ≤ maxLen := by
  rcases h with ⟨rfl, rfl, rfl, rfl⟩ | ⟨x, rfl, h1, h2, h3, h4, h5⟩
  · exact ⟨[], rfl, Byts.nil w, Oct.nil, Nat.le_refl _, Nat.zero_le _⟩
  · have hl : (z.take len).length = len := by rw [List.length_take]; omega
    refine ⟨z.take len, hl, ⟨some x, cap, by rw [hl], by omega, fun i hi => ⟨x, rfl, ?_⟩⟩, fun n hn => ?_, by omega, by omega⟩
    · rw [hl] at hi
      rw [h4 i (by omega), getD_eq _ _ (by omega), getD_eq _ _ (by omega), List.getElem_take]
    · exact u8_bd (h5 n (List.mem_of_mem_take hn))
theorem byts_but {w w' : World} {X : Nat → Prop} {b : Nat} {v : Value} {l : List Int} (h : Byts w v l) (hv : VB b v) (k : But X w w') (hX : ∀ g, X g → g < b) : Byts w' v l := by
  obtain ⟨p, cap, rfl, h1, h2⟩ := h
  refine ⟨p, cap, rfl, h1, fun i hi => ?_⟩
  obtain ⟨a, rfl, hc⟩ := h2 i hi
  have := hv a _ _ rfl
  have e := add_block a i
  exact ⟨a, rfl, cell_but k hX (by omega) hc⟩
theorem mrd_pre (M : Nat → Int) (a : Nat) (l m : List Int) : mrd (mwr M a (l ++ m)) a l.length = l :=
  ext_getD (by simp [mrd_len]) fun i hi => by
    rw [mrd_len] at hi
    rw [mrd_get _ _ _ _ hi]; unfold mwr; rw [List.length_append, if_pos (by omega), Nat.add_sub_cancel_left, gd_left _ _ _ hi]
theorem mwr_at (M : Nat → Int) (a : Nat) (l : List Int) (i : Nat) (h : i < l.length) : mwr M a l (a + i) = l.getD i 0 := by
  unfold mwr; rw [if_pos (by omega), Nat.add_sub_cancel_left]
/-- no noughts among them -/
def ones (l : List Int) : List Int := l.map fun x => max x 1
theorem ones_len (l : List Int) : (ones l).length = l.length := by simp [ones]
theorem ones_snoc (l : List Int) (j : Nat) (h : j < l.length) : ones (l.take (j + 1)) = ones (l.take j) ++ [max (l.getD j 0) 1] := by
  rw [List.take_add_one, List.getElem?_eq_getElem h, getD_eq _ _ h]; unfold ones; rw [List.map_append]; rfl
theorem ones_oct {l : List Int} (h : Oct l) : Oct (ones l) := fun x hx => by
  obtain ⟨y, hy, rfl⟩ := List.mem_map.1 hx
  have := h y hy
  omega
theorem ones_get (l : List Int) (i : Nat) (h : i < l.length) : 1 ≤ (ones l).getD i 0 := by
  rw [getD_eq _ _ (by rw [ones_len]; exact h)]
  simp [ones]; omega
/-! ### STEP 1: THE WALK: the Go text returns true, AND WRITES NOTHING THAT WAS THERE: 'Below w.heap.size w w'' (Derived/Below.lean: '.refl', '.alloc', '.drew', '.setCell' at a new block, '.trans'). Open each 'IsRow' by 'rcases' AHEAD of 'go_enter'; part every test ahead of the walk. -/
set_option maxHeartbeats 8000000 in
set_option maxRecDepth 100000 in
theorem walk (a0 : Int) (a1 : Option Addr) (len1 cap1 : Nat) (z1 : List Int) (a2 : Int) (w : World) (w0 : (Lit.int .u32 a0).wf = true) (w1 : IsRow .u8 w a1 len1 cap1 z1) (w2 : (Lit.int .i64 a2).wf = true) (hl : Laid w) :
    Calls Tryz.prog 7 #[.int .u32 a0, .slice a1 len1 cap1, .int .i64 a2] w fun e w' => e = .returned (.bool true) ∧ Below w.heap.size w w' := by
  have hlt := hl.lt
  have b0 := u32_bd w0
  obtain ⟨A, rfl, bA, oA, lA, mA⟩ := isrow_bytc w1
  have b2 := i64_bd w2
  clear w1
  have mA2 := mA
  unfold maxLen at mA2
  have RP : ∀ p : Nat, 2 ≤ p → p < 9 → rpg (mapsL (List.take 8 [⟨2, 9, 3⟩])) (p : Int) = some 3 := fun p h1 h2 => by
    rw [show mapsL (List.take 8 [⟨2, 9, 3⟩]) = [⟨2, 9, 3⟩] from maps_one ⟨2, 9, 3⟩ rfl, rpg_one, if_pos]; rw [inR_iff]; dsimp only; omega
  have X1 := claid_any (w.alloc (.cells #[.int .i64 2, .int .i64 9, .int .u8 3] 50)) (hl.new ((New.refl w).alloc _ _)) 24 (by omega) (by omega) _ _ [⟨2, 9, 3⟩] (rgs_lit1 w ⟨2, 9, 3⟩)
  have n1 := (New.refl w).alloc #[.int .i64 2, .int .i64 9, .int .u8 3] 50
  unfold LaidC at X1
  generalize mapsL (List.take 8 [⟨2, 9, 3⟩]) = RL at *
  go_enter Tryz.func7, Tryz.ntmps7
  go_wp2_with fail
  refine X1.mono ?_
  rintro e w1 ⟨b, cb, fb, rb, mb, qb, sb, tb, bs, rfl, n2, LT, LE, SCN, G1, P1, Z1⟩
  have N1 := n1.trans n2
  have sw : w.heap.size ≤ (w.alloc (.cells #[.int .i64 2, .int .i64 9, .int .u8 3] 50)).heap.size := n1.size
  have LER : w.heap.size ≤ rb ∧ w.heap.size ≤ qb := ⟨by omega, by omega⟩
  have S1 : Sc w1 cb 24 fb rb mb qb sb tb 2 7 RL _ bs (fun _ => 0) := ⟨Cs.start G1 P1 Z1 (by omega) (by omega), by obtain ⟨_, _, _, h, _⟩ := SCN; exact h.cell 1, by omega, by omega⟩
  have NEW : ∀ a b : World, New w a → But (fun g => g = rb ∨ g = qb) a b → New w b := fun a b m c => m.but c (by rintro i (rfl | rfl) <;> omega)
  clear X1 n1 n2 LE LT SCN G1 P1 Z1
  by_cases c1 : 600 < A.length
  · have d1 : decide ((600 : Int) < (A.length : Int)) = true := by simp; omega
    have l1 := hl.new N1
    clear S1
    go_wp2_with fail
    refine (csure_any _ l1).mono ?_
    rintro e w2 ⟨rfl, n2⟩
    go_wp2_with fail
    go_ret
    exact ⟨rfl, N1.trans n2⟩
  · have d1 : decide ((600 : Int) < (A.length : Int)) = false := by simp; omega
    have HS := Lib.hid S1
    have HN := Lib.hid N1
    clear S1 N1
    go_wp2_with fail
    go_loopg [8, 9] A.length (fun kk v ii wr => ∃ j : Nat, j + kk = A.length ∧ ii = .int .i64 (j : Int) ∧ OwnB w1.heap.size wr v (ones (A.take j)) ∧ New w1 wr)
    case atStart => exact ⟨0, by omega, rfl, OwnB.nil _ _, New.refl _⟩
    case round =>
      obtain ⟨j, hj, rfl, ho, hn⟩ := hrel
      by_cases c : j < A.length
      · obtain ⟨pp, cp, e, _, hc⟩ := bA.new (HN.out.trans hn)
        cases e
        obtain ⟨ad, rfl, hcj⟩ := hc j c
        obtain ⟨pv, cv, rfl⟩ := ho.shape
        have hsn := ones_snoc A j c
        have hol := ones_len (A.take j)
        have hal := oA.get j
        generalize A.getD j 0 = x at *
        by_cases hz : x < 1
        · have hz2 : ¬ 1 ≤ x := by omega
          have N3 := hn.alloc #[.int .u8 1] 5
          have O3 := ho.new ((New.refl wr).alloc #[.int .u8 1] 5)
          have BX := Box.here wr _ #[.int .u8 1] 5 rfl
          have BY : Byts (wr.alloc (.cells #[.int .u8 1] 5)) (.slice (some ⟨wr.heap.size, 0, none⟩) 1 1) [1] := ⟨_, _, rfl, by unfold maxLen; simp, fun i hi => ⟨_, rfl, by
            obtain rfl : i = 0 := by simpa using hi
            exact BX.one⟩⟩
          have hlen : (ones (A.take j)).length + [(1 : Int)].length ≤ 1000000 := by rw [hol, List.length_take]; simp; omega
          have hsz : w1.heap.size ≤ (wr.alloc (.cells #[.int .u8 1] 5)).heap.size := N3.size
          rw [show max x 1 = 1 by omega] at hsn
          have J := Lib.hid hj
          clear BX hj ho hn
          go_wp2_with (first | ((with_reducible refine at_slot 47 ?_); refine wpList_append_bytes rfl _ _ rfl rfl w1.heap.size _ _ rfl O3 _ [1] rfl BY hlen hsz ?_))
          intro v4 w4 o4 n4
          have N4 := n4 w1 (Nat.le_refl _) N3
          rw [← hsn] at o4
          obtain ⟨p4, k4, rfl⟩ := o4.shape
          clear O3 BY N3 n4
          go_wp2_with fail
          go_roundg (A.length - (j + 1))
          case measure => have := J.out; omega
          case rel => exact ⟨j + 1, by have := J.out; omega, by go_num, o4, N4⟩
        · have hz2 : 1 ≤ x := by omega
          have N3 := hn.alloc #[.int .u8 x] 5
          have O3 := ho.new ((New.refl wr).alloc #[.int .u8 x] 5)
          have BX := Box.here wr _ #[.int .u8 x] 5 rfl
          have BY : Byts (wr.alloc (.cells #[.int .u8 x] 5)) (.slice (some ⟨wr.heap.size, 0, none⟩) 1 1) [x] := ⟨_, _, rfl, by unfold maxLen; simp, fun i hi => ⟨_, rfl, by
            obtain rfl : i = 0 := by simpa using hi
            exact BX.one⟩⟩
          have hlen : (ones (A.take j)).length + [(x : Int)].length ≤ 1000000 := by rw [hol, List.length_take]; simp; omega
          have hsz : w1.heap.size ≤ (wr.alloc (.cells #[.int .u8 x] 5)).heap.size := N3.size
          rw [show max x 1 = x by omega] at hsn
          have J := Lib.hid hj
          clear BX hj ho hn
          go_wp2_with (first | ((with_reducible refine at_slot 47 ?_); refine wpList_append_bytes rfl _ _ rfl rfl w1.heap.size _ _ rfl O3 _ [x] rfl BY hlen hsz ?_))
          intro v4 w4 o4 n4
          have N4 := n4 w1 (Nat.le_refl _) N3
          rw [← hsn] at o4
          obtain ⟨p4, k4, rfl⟩ := o4.shape
          clear O3 BY N3 n4
          go_wp2_with fail
          go_roundg (A.length - (j + 1))
          case measure => have := J.out; omega
          case rel => exact ⟨j + 1, by have := J.out; omega, by go_num, o4, N4⟩
      · obtain rfl : j = A.length := by omega
        rw [List.take_length] at ho
        have ll := ones_len A
        have H1 := HN.out.trans hn
        obtain ⟨f, ef, f1, f2⟩ : ∃ f : Nat, 512 + a0 % 1000 = (f : Int) ∧ 512 ≤ f ∧ f < 1512 := ⟨(512 + a0 % 1000).toNat, by omega, by omega, by omega⟩
        have S2 := HS.out.new hn
        have q2 := S2.at_
        obtain ⟨pb, kb, rfl⟩ := ho.shape
        go_wp2_with fail
        have hS : (fun w' : World => w'.cell? ⟨cb, 1, none⟩ = some (.pointer (some ⟨sb, 0, none⟩))) wr.drew := q2
        refine wp_region_held_drew (S := (fun w' : World => w'.cell? ⟨cb, 1, none⟩ = some (.pointer (some ⟨sb, 0, none⟩)))) (by kernel_rfl) hS (fun _ => ?_)
        refine wpAnyH_take (i := 0) (v := ?_) rfl (by kernel_rfl) (by kernel_rfl) (by kernel_rfl) (fun _ _ _ h => h) (Or.inl ⟨by rfl, ?_⟩) hS ?_
        rotate_left
        · intro w hSw
          try dsimp only at hSw
          go_simp
          try with_reducible rfl
        try simp only [Act.put, List.setIfInBounds_toArray, List.set_cons_zero, List.set_cons_succ, List.getElem_toArray, List.getElem_cons_zero]
        refine wpAnyH_take (i := 1) (v := ?_) rfl (by kernel_rfl) (by kernel_rfl) (by kernel_rfl) (fun _ _ _ h => h) (Or.inl ⟨by rfl, ?_⟩) hS ?_
        rotate_left
        · intro w hSw
          try dsimp only at hSw
          go_simp
          try with_reducible rfl
        try simp only [Act.put, List.setIfInBounds_toArray, List.set_cons_zero, List.set_cons_succ, List.getElem_toArray, List.getElem_cons_zero, List.getElem_cons_succ]
        refine wpAnyH_take (i := 2) (v := ?_) rfl (by kernel_rfl) (by kernel_rfl) (by kernel_rfl) (fun _ _ _ h => h) (Or.inl ⟨by rfl, ?_⟩) hS ?_
        rotate_left
        · intro w hSw
          try dsimp only at hSw
          go_simp
          try with_reducible rfl
        try simp only [Act.put, List.setIfInBounds_toArray, List.set_cons_zero, List.set_cons_succ, List.getElem_toArray, List.getElem_cons_zero, List.getElem_cons_succ]
        refine wpAnyH_take (i := 3) (v := ?_) rfl (by kernel_rfl) (by kernel_rfl) (by kernel_rfl) (fun _ _ _ h => h) (Or.inl ⟨by rfl, ?_⟩) hS ?_
        rotate_left
        · intro w hSw
          try dsimp only at hSw
          go_simp
          try with_reducible rfl
        try simp only [Act.put, List.setIfInBounds_toArray, List.set_cons_zero, List.set_cons_succ, List.getElem_toArray, List.getElem_cons_zero, List.getElem_cons_succ]
        refine wpAnyH_take (i := 4) (v := ?_) rfl (by kernel_rfl) (by kernel_rfl) (by kernel_rfl) (fun _ _ _ h => h) (Or.inl ⟨by rfl, ?_⟩) hS ?_
        rotate_left
        · intro w hSw
          try dsimp only at hSw
          go_simp
          try with_reducible rfl
        try simp only [Act.put, List.setIfInBounds_toArray, List.set_cons_zero, List.set_cons_succ, List.getElem_toArray, List.getElem_cons_zero, List.getElem_cons_succ]
        refine wpAnyH_take (i := 5) (v := ?_) rfl (by kernel_rfl) (by kernel_rfl) (by kernel_rfl) (fun _ _ _ h => h) (Or.inl ⟨by rfl, ?_⟩) hS ?_
        rotate_left
        · intro w hSw
          try dsimp only at hSw
          go_simp
          try with_reducible rfl
        try simp only [Act.put, List.setIfInBounds_toArray, List.set_cons_zero, List.set_cons_succ, List.getElem_toArray, List.getElem_cons_zero, List.getElem_cons_succ]
        refine wpAnyH_ready (rs := [6]) (by kernel_rfl) (by simp) (AllReadyH.cons rfl (fun K hK => ?_) AllReadyH.nil)
        go_simp
        have N5 := ((New.refl wr).alloc #[.int .u8 0] 5).drew
        have hS : (wr.alloc (.cells #[.int .u8 0] 5)).drew.cell? ⟨cb, 1, none⟩ = some (.pointer (some ⟨sb, 0, none⟩)) := N5.keeps q2
        refine hK.out _ _ hS (fun _ => ?_)
        clear hK K
        try simp only [Act.put, List.setIfInBounds_toArray, List.set_cons_zero, List.set_cons_succ, List.getElem_toArray, List.getElem_cons_zero, List.getElem_cons_succ]
        refine wpAnyH_ready (rs := [7]) (by kernel_rfl) (by simp) (AllReadyH.cons rfl (fun K hK => ?_) AllReadyH.nil)
        rw [if_pos (by rfl)]
        have BX := (Box.here wr _ #[.int .u8 0] 5 rfl).new (New.refl _).drew
        have BY : Byts (wr.alloc (.cells #[.int .u8 0] 5)).drew (.slice (some ⟨wr.heap.size, 0, none⟩) 1 1) [0] := ⟨_, _, rfl, by unfold maxLen; simp, fun i hi => ⟨_, rfl, by
          obtain rfl : i = 0 := by simpa using hi
          exact BX.one⟩⟩
        have O5 := ho.new N5
        have M5 := hn.trans N5
        refine opwp_append (.tmp 57) (.tmp 58) rfl rfl w1.heap.size (.slice pb (ones A).length kb) (ones A) (by rw [ll]; rfl) O5 _ [0] rfl BY (by simp) (by rw [ll]; simp; omega) M5.size ?_
        intro v6 w6 o6 bB6 n6
        have VB6 := vb_own ho
        have M6 := n6 w1 (Nat.le_refl _) M5
        have l6 : (ones A ++ [0]).length = A.length + 1 := by rw [List.length_append, ll]; rfl
        have OC : Oct (ones A ++ [0]) := (ones_oct oA).push (by omega) (by omega)
        obtain ⟨D, hD⟩ : ∃ D, D = ones A ++ [0] := ⟨_, rfl⟩
        rw [← hD] at l6 OC o6
        have HD := Lib.hid hD
        clear hD n6 O5 BY BX
        have hS6 : w6.cell? ⟨cb, 1, none⟩ = some (.pointer (some ⟨sb, 0, none⟩)) := M6.keeps HS.out.at_
        refine hK.out _ _ hS6 (fun _ => ?_)
        clear hK K hS
        try simp only [Act.put, List.setIfInBounds_toArray, List.set_cons_zero, List.set_cons_succ, List.getElem_toArray, List.getElem_cons_zero, List.getElem_cons_succ]
        obtain ⟨p6, k6, rfl⟩ := o6.shape
        have S6 := HS.out.new M6
        have BD : rb < w1.heap.size ∧ qb < w1.heap.size := ⟨HS.out.cs.gm.fr.lt.2, HS.out.cs.gm.ph.lt.2⟩
        have K6 : BytsK (fun g => g = rb ∨ g = qb) w6 (.slice p6 D.length k6) D := fun w' k => (o6.but k (by rintro g (rfl | rfl) <;> omega)).byts
        obtain ⟨k6a, k6b⟩ : D.length ≤ k6 ∧ k6 ≤ maxLen := by
          rcases o6.2 with ⟨e, h⟩ | ⟨g, cap, cur, e, _, _, h1, h2, _⟩
          · rw [l6] at h; omega
          · cases e; exact ⟨h1, h2⟩
        have Y := S6.cs.out f p6 k6 D (by omega) (by rw [l6]; omega) (by rw [l6]; omega) (fun p h1 h2 => ⟨3, RP p (by omega) (by rw [l6] at h2; omega), rfl⟩) OC K6 k6a k6b
        rw [l6] at Y
        refine wpAnyH_ready (rs := [8]) (by kernel_rfl) (by simp) (AllReadyH.cons rfl (fun K hK => ?_) AllReadyH.nil)
        go_simp
        refine Y.mono ?_
        rintro e w7 ⟨q7, c7, rfl, C7, k7⟩
        have S7 := S6.step C7 k7
        have hS7 : w7.cell? ⟨cb, 1, none⟩ = some (.pointer (some ⟨sb, 0, none⟩)) := S7.at_
        refine hK.out _ _ hS7 (fun _ => ?_)
        clear hK K
        try simp only [Act.put, List.setIfInBounds_toArray, List.set_cons_zero, List.set_cons_succ, List.getElem_toArray, List.getElem_cons_zero, List.getElem_cons_succ]
        have hS := hS7
        refine wpAnyH_take (i := 9) (v := ?_) rfl (by kernel_rfl) (by kernel_rfl) (by kernel_rfl) (fun _ _ _ h => h) (Or.inl ⟨by rfl, ?_⟩) hS ?_
        rotate_left
        · intro w hSw
          try dsimp only at hSw
          go_simp
          try with_reducible rfl
        try simp only [Act.put, List.setIfInBounds_toArray, List.set_cons_zero, List.set_cons_succ, List.getElem_toArray, List.getElem_cons_zero, List.getElem_cons_succ]
        refine wpAnyH_take (i := 10) (v := ?_) rfl (by kernel_rfl) (by kernel_rfl) (by kernel_rfl) (fun _ _ _ h => h) (Or.inl ⟨by rfl, ?_⟩) hS ?_
        rotate_left
        · intro w hSw
          try dsimp only at hSw
          go_simp
          try with_reducible rfl
        try simp only [Act.put, List.setIfInBounds_toArray, List.set_cons_zero, List.set_cons_succ, List.getElem_toArray, List.getElem_cons_zero, List.getElem_cons_succ]
        refine wpAnyH_take (i := 11) (v := ?_) rfl (by kernel_rfl) (by kernel_rfl) (by kernel_rfl) (fun _ _ _ h => h) (Or.inl ⟨by rfl, ?_⟩) hS ?_
        rotate_left
        · intro w hSw
          try dsimp only at hSw
          go_simp
          try with_reducible rfl
        try simp only [Act.put, List.setIfInBounds_toArray, List.set_cons_zero, List.set_cons_succ, List.getElem_toArray, List.getElem_cons_zero, List.getElem_cons_succ]
        refine wpAnyH_take (i := 12) (v := ?_) rfl (by kernel_rfl) (by kernel_rfl) (by kernel_rfl) (fun _ _ _ h => h) (Or.inl ⟨by rfl, ?_⟩) hS ?_
        rotate_left
        · intro w hSw
          try dsimp only at hSw
          go_simp
          try with_reducible rfl
        try simp only [Act.put, List.setIfInBounds_toArray, List.set_cons_zero, List.set_cons_succ, List.getElem_toArray, List.getElem_cons_zero, List.getElem_cons_succ]
        refine wpAnyH_take (i := 13) (v := ?_) rfl (by kernel_rfl) (by kernel_rfl) (by kernel_rfl) (fun _ _ _ h => h) (Or.inl ⟨by rfl, ?_⟩) hS ?_
        rotate_left
        · intro w hSw
          try dsimp only at hSw
          go_simp
          try with_reducible rfl
        try simp only [Act.put, List.setIfInBounds_toArray, List.set_cons_zero, List.set_cons_succ, List.getElem_toArray, List.getElem_cons_zero, List.getElem_cons_succ]
        refine wpAnyH_done (by kernel_rfl) ?_ _
        have ox : ∀ g, (g = rb ∨ g = qb) → g < w1.heap.size := by rintro g (rfl | rfl) <;> omega
        have bB7 := byts_but bB6 VB6 k7 ox
        have N7 : New w w7 := NEW _ _ (HN.out.trans M6) k7
        have t0 : mwr (fun _ => 0) f D (f + A.length) = 0 := by rw [mwr_at _ _ _ _ (by omega), HD.out, gd_right _ _ _ (by omega), ll, Nat.sub_self]; rfl
        have t1 : ∀ x, x < A.length → mwr (fun _ => 0) f D (f + x) ≠ 0 := fun x hx => by
          rw [mwr_at _ _ _ _ (by omega), HD.out, gd_left _ _ _ (by omega)]
          have := ones_get A x hx
          omega
        have t2 : mrd (mwr (fun _ => 0) f D) f A.length = ones A := by
          have := mrd_pre (fun _ => 0) f (ones A) [0]
          rw [ll] at this; rw [HD.out]; exact this
        obtain ⟨k1, ek1, k1a, k1b⟩ := mod_in 99 A.length a2 (by omega) (by omega) (by omega) (by omega)
        have TX := fun (W : World) qs cs (S : Sc W cb 24 fb rb mb qb sb tb 2 7 RL qs cs (mwr (fun _ => 0) f D)) (k : Nat) (h1 : A.length ≤ k) (h2 : k ≤ 4096) => S.cs.text f k A.length (by omega) (by omega) h2 h1 (fun p h1 h2 => ⟨3, RP p (by omega) (by omega), rfl⟩) t0 t1
        rw [t2] at TX
        have Y := TX _ _ _ S7 k1 (by omega) (by omega)
        have q7 := S7.at_
        clear hS hS7 S6 C7 k7 BD K6 k6a k6b OC o6 bB6 M6 N5 M5 ho hn q2 S2
        go_wp2_with fail

        refine Y.mono ?_
        rintro e w8 ⟨q8, c8, rfl, C8, k8⟩
        have S8 := S7.step C8 k8
        have N8 := NEW _ _ N7 k8
        have bB8 := byts_but bB7 VB6 k8 ox
        have q8 := S8.at_
        have Y := TX _ _ _ S8 A.length (by omega) (by omega)
        clear q7 S7 C8 k8 N7 bB7 ek1
        go_wp2_with fail
        refine Y.mono ?_
        rintro e w9 ⟨q9, c9, rfl, C9, k9⟩
        have S9 := S8.step C9 k9
        have N9 := NEW _ _ N8 k9
        have bB9 := byts_but bB8 VB6 k9 ox
        have q9 := S9.at_
        have CV : (convert 28 9 (.slice pb A.length kb)).run Tryz.prog w9 = .ok (.string (strOfNums (ones A))) w9 := by rw [← ll]; exact str_of bB9
        clear q8 S8 C9 k9 N8 bB8
        by_cases z : A.length = 0
        · have z2 : ((A.length : Int) == 0) = true := beq_iff_eq.2 (by omega)
          rw [z] at CV
          have l9 := hl.new N9
          go_wp2_with fail
          refine (csure_any _ l9).mono ?_
          rintro e wa ⟨rfl, na⟩
          go_wp2_with fail
          go_ret
          exact ⟨rfl, N9.trans na⟩
        · have z2 : ((A.length : Int) == 0) = false := beq_eq_false_iff_ne.2 (by omega)
          have Y := S9.cs.text_long f (A.length - 1) (by omega) (by omega) (by omega) (fun p h1 h2 => ⟨3, RP p (by omega) (by omega), rfl⟩) (fun x hx => t1 x (by omega))
          rw [show ((A.length - 1 : Nat) : Int) = (A.length : Int) - 1 by omega] at Y
          go_wp2_with fail
          refine Y.mono ?_
          rintro e wa ⟨qa, ca, rfl, Ca, ka⟩
          have Na := NEW _ _ N9 ka
          have la := hl.new Na
          clear q9 S9 Ca ka N9 CV bB9
          go_wp2_with fail
          refine (num_err 36 _ la).mono ?_
          rintro e wb ⟨rfl, nb⟩
          have Nb := Na.trans nb
          have lb := hl.new Nb
          clear nb Na la
          go_wp2_with fail
          refine (csure_any _ lb).mono ?_
          rintro e wc ⟨rfl, nc⟩
          go_wp2_with fail
          go_ret
          exact ⟨rfl, Nb.trans nc⟩

/-! ### THE ROW's STEP: WRITTEN OUT: LEAVE IT -/
theorem door_met (os : Os) (args : Array Value) : laidMetH Tryz.prog Rows.copyTextsRow.laid ((World.doorLaid Tryz.prog 400 os).forCall (fun _ _ => 0) ⟨#[], args, []⟩).memory :=
  laidMetH_of_parts3 (fuel := 8) (laidMet_of_run' 8 (by kernel_rfl) (by kernel_rfl)) (by kernel_rfl) (by kernel_rfl)
set_option maxRecDepth 100000 in
theorem lifted (os : Os) (started : os.Started) (H : Type) (enc : TypeId × Value → H) :
    ReturnsInHanded {} Tryz.checked os 7 .any (fun w args => (Rows.copyTextsSpec.pre enc Tryz.prog Tryz.f7 [] false w args ∧ laidMetH Tryz.prog Rows.copyTextsRow.laid w) ∧ sizedMet enc Tryz.prog Tryz.f7 (OpenSpec.ofChange Rows.copyTextsSpec) false w args) (Rows.copyTextsSpec.post enc Tryz.prog Tryz.f7 false true false false) := by
  refine returnsInHanded_of_change_and (C := Tryz.checked) (X := fun w _ => laidMetH Tryz.prog Rows.copyTextsRow.laid w) (fun _ _ _ hh h => h.of_heap hh) own started (by kernel_rfl) Tryz.func7
    (ChangeSpec.witness_shaped (enc := enc) (C := Tryz.checked) (os := os) (X := fun w _ => laidMetH Tryz.prog Rows.copyTextsRow.laid w) false (World.doorLaid Tryz.prog 400 os) #[.int .u32 0, .slice none 0 0, .int .i64 0] 8 rfl (World.shaped_of_RefB (by kernel_rfl) (by kernel_rfl)) (by kernel_rfl) (by kernel_rfl) (by kernel_rfl) (door_met os _)) ?_
  intro W base args ds gs before hval0 hW _ _ hL _
  have hL' : laidMet Tryz.prog [] W ∧ handlesMet Tryz.prog [("errors.errorType", Rows.laid_errors_errorType)] W := hL
  have hval : ∀ (j : Nat) t v, Tryz.f7.params[j]? = some t → args[j]? = some v → Value.okWide Tryz.prog W .any base t v := hval0
  have hW' := hW
  obtain ⟨p, q, hA0, hV, rfl, hfz, hnd⟩ := hW
  have hA : DataW.TrodAll enc Tryz.prog W 0 (fun _ => true) true Tryz.f7.params.toList args.toList ds p := hA0
  rw [Tryz.params7] at hA hval
  obtain ⟨v0, vs0, d0, ds0, p0, q0, hargs, rfl, rfl, h0, r0⟩ := trodAll_cons hA
  obtain ⟨v1, vs1, d1, ds1, p1, q1, rfl, rfl, rfl, h1, r1⟩ := trodAll_cons r0
  obtain ⟨v2, vs2, d2, ds2, p2, q2, rfl, rfl, rfl, h2, r2⟩ := trodAll_cons r1
  obtain ⟨rfl, rfl, rfl⟩ := trodAll_nil r2
  obtain rfl : args = #[v0, v1, v2] := by cases args; simp_all
  obtain ⟨rfl, rfl⟩ := trodVars_none hV
  obtain ⟨a0, rfl, rfl, rfl, w0⟩ := open_int Tryz.underlying31 (hval 0 31 v0 rfl rfl) h0
  obtain ⟨a1, len1, cap1, rfl⟩ := okWide_slice Tryz.underlying28 (hval 1 28 v1 rfl rfl)
  have k1 := h1
  have lt1 : ∀ x ∈ p1, x.block < W.heap.size := by obtain ⟨m, hm⟩ := k1; exact DataW.trod_lt m _ _ _ hm
  obtain ⟨z1, w1⟩ : ∃ zs, IsRow .u8 W a1 len1 cap1 zs := by
    obtain ⟨fuel, hf⟩ := h1
    rcases open_ints Tryz.underlying28 Tryz.underlying5 (by kernel_rfl) hf with ⟨hcs, _⟩ | ⟨x, l, c, zs, hcs, _, hl, hm, hz, _, hcell, hwz⟩
    · simp [Value.cells] at hcs
      obtain ⟨rfl, rfl, rfl⟩ := hcs
      exact ⟨[], .inl ⟨rfl, rfl, rfl, rfl⟩⟩
    · simp [Value.cells] at hcs
      obtain ⟨rfl, rfl, rfl⟩ := hcs
      exact ⟨zs, .inr ⟨_, rfl, hl, hm, by simpa using hz, hcell, hwz⟩⟩
  obtain ⟨a2, rfl, rfl, rfl, w2⟩ := open_int Tryz.underlying3 (hval 2 3 v2 rfl rfl) h2
  clear hA0 hval0
  refine (walk a0 a1 len1 cap1 z1 a2 W w0 w1 w2 (handle_of_hs hL'.2)).mono fun e W' ⟨he, bel⟩ => ?_
  subst he
  exact ⟨_, rfl, _, _, _, [], _, [], hW', trodAll_mk1 (shut_bool Tryz.underlying4 _), (trodAll_cons_mk (shut_int Tryz.underlying31 w0) (trodAll_cons_mk (Below.trod laidOut (by kernel_rfl) (of_decide_eq_true (by kernel_rfl)) k1 bel lt1) (trodAll_cons_mk (shut_int Tryz.underlying3 w2) trodAll_mk0))), rfl, bel.frame _, fun h => by cases h⟩

theorem over : Rows.copyTextsRow.holds Tryz.pinned (OpenSpec.ofChange Rows.copyTextsSpec) :=
  OpenClaim.holds_of_wide 7 Tryz.f7 rfl rfl rfl rfl rfl rfl rfl ⟨rfl, rfl, rfl, rfl, rfl⟩ rfl rfl rfl rfl rfl (by kernel_rfl) Tryz.func7 (by kernel_rfl)
    (of_decide_eq_true (by kernel_rfl)) (by unfold Func.isWrapper; first | (rw [if_pos (by decide +kernel)]; kernel_rfl) | (rw [if_neg (by decide +kernel)]; exact ⟨rfl, rfl⟩))
    (fun os started H enc _ => lifted os started H enc)

theorem proved : Rows.CopyTextsSaid := over
theorem card : Rows.CopyTextsCardSaid :=
  Claim7.holds_tied_plain_at .later [] [.handle] true (true, "0b150c20a06a29f2c12879c58b46acbc65d8815d7e0cd33c52fd7996ef247042") true
    over (fun _ h => by cases h) (by kernel_rfl) (fun _ h => by cases h) copyTexts_row_tie rfl ⟨rfl, rfl⟩ (by kernel_rfl) rfl
    (fun f fn hf hfn => by
      obtain rfl : f = 7 := Option.some.inj ((show Tryz.prog.funcNamed "halter/halterlaw15.CopyTexts" = some 7 by kernel_rfl).symm.trans hf) |>.symm
      obtain rfl : fn = Tryz.f7 := (Option.some.inj (Tryz.func7.symm.trans hfn)).symm
      exact ⟨by kernel_rfl, fun j t ht => by
        rw [Tryz.params7] at ht
        have hm : t ∈ [31, 28, 3] := by have := Array.mem_of_getElem? ht; simpa using this
        have hall : ([31, 28, 3].all fun u => !Tryz.prog.wantsStandIn u) = true := by kernel_rfl
        exact (show Tryz.prog.wantsStandIn t = false by simpa using List.all_eq_true.1 hall t hm)⟩)
    (by kernel_rfl)
#print axioms card
end Go.Proofs.YtgedimlhldfkaaaGreatDoor.copyTexts
