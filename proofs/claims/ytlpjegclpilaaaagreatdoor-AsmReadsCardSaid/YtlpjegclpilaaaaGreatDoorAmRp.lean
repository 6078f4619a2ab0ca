/- The document's Parse. -/
import Derived.Test.YtlpjegclpilaaaaGreatDoorAmRw
import Derived.Test.YtlpjegclpilaaaaGreatDoorAmRn
import Derived.Test.YtlpjegclpilaaaaGreatDoorAmRt
import Derived.Test.YtlpjegclpilaaaaGreatDoorIsD
import Derived.Deep.QuietTactic
import Derived.BigQuiet
namespace Go.Proofs.YtlpjegclpilaaaaGreatDoor
open Go.RowKit
set_option linter.unusedVariables false
/-- what Parse answers -/
def rpv (x : Option (Nat × Int × Int × Int)) : Value := match x with
  | none => .tuple #[.agg #[.int .i64 0, .int .i64 0, .int .i64 0, .int .i64 0], .int .i64 22]
  | some y => .tuple #[.agg #[.int .i64 y.1, .int .i64 y.2.1, .int .i64 y.2.2.1, .int .i64 y.2.2.2], .int .i64 0]
def Ins8 (w : World) (x : Nat) (o : Nat) (a b m : Int) : Prop := Box w x #[.int .i64 (o : Int), .int .i64 a, .int .i64 b, .int .i64 m] 23
theorem OwnS.shape {base : Nat} {w : World} {v : Value} {ls : List (List UInt8)} (h : OwnS base w v ls) : ∃ p cap, v = .slice p ls.length cap := by
  rcases h.2 with ⟨rfl, hn⟩ | ⟨g, cap, cur, rfl, _⟩
  · exact ⟨none, 0, by rw [hn]⟩
  · exact ⟨_, cap, rfl⟩
set_option maxHeartbeats 4000000 in
set_option maxRecDepth 100000 in
theorem rparse_empty (l : List UInt8) (w : World) (hl : l.length ≤ 100000) (hw : wrds l = []) :
    Calls Tryz.prog 14 #[.string (ba l)] w fun e w' => e = .returned (rpv none) ∧ New w w' := by
  have c1 := fun W => rwords_any l W hl
  rw [hw] at c1
  have r0 := Box.here w _ #[.int .i64 0, .int .i64 0, .int .i64 0, .int .i64 0] 23 rfl
  have n0 := (New.refl w).alloc #[.int .i64 0, .int .i64 0, .int .i64 0, .int .i64 0] 23
  go_enter Tryz.func14, Tryz.ntmps14
  go_wp2_with fail
  refine (c1 _).mono ?_
  rintro e w1 ⟨v, rfl, hv, n1⟩
  obtain ⟨p, cap, rfl⟩ := hv.shape
  have NN := n0.trans n1
  have R := r0.new n1
  clear c1 r0 n0 n1 hv
  simp only [List.length_nil]
  go_wp2_with fail
  go_loopg [5] 0 (fun k s5 wr => s5 = .int .i64 0 ∧ wr = w1)
  case atStart => exact ⟨rfl, rfl⟩
  case round =>
    obtain ⟨rfl, rfl⟩ := hrel
    have hlt9 := R.lt
    obtain ⟨e0, e1, e2, e3⟩ := R.four
    have u0 := R.unfrozen 0
    have u1 := R.unfrozen 1
    have u2 := R.unfrozen 2
    have u3 := R.unfrozen 3
    go_wp2
    exact bodyPost_ret (v := rpv none) (by simp [results, rpv, Tryz.results14, go_sem, e0, e1, e2, e3]) rfl ⟨rfl, by repeat (first | exact NN | refine New.setCell ?_ (Nat.le_refl _) _)⟩
set_option maxHeartbeats 8000000 in
set_option maxRecDepth 100000 in
theorem rparse_some (l w0 : List UInt8) (r : List (List UInt8)) (w : World) (hl : l.length ≤ 100000) (hw : wrds l = w0 :: r) :
    Calls Tryz.prog 14 #[.string (ba l)] w fun e w' => e = .returned (rpv (if r.length = (nd (fnd w0)).length then chk (fnd w0) (flBy numD (nd (fnd w0)) r (0, 0, 0)) else none)) ∧ New w w' := by
  have c1 := fun W => rwords_any l W hl
  have hwl := wrds_len l
  have hmw : ∀ x ∈ wrds l, x ≠ [] := fun x hx => (mem_wrds hx).1
  rw [hw] at c1 hwl hmw
  clear hw
  obtain ⟨RES, hRES⟩ : ∃ RES, RES = (if r.length = (nd (fnd w0)).length then chk (fnd w0) (flBy numD (nd (fnd w0)) r (0, 0, 0)) else none) := ⟨_, rfl⟩
  rw [← hRES]
  have HRES := Lib.hid hRES
  clear hRES
  have r0 := Box.here w _ #[.int .i64 0, .int .i64 0, .int .i64 0, .int .i64 0] 23 rfl
  have n0 := (New.refl w).alloc #[.int .i64 0, .int .i64 0, .int .i64 0, .int .i64 0] 23
  go_enter Tryz.func14, Tryz.ntmps14
  go_wp2_with fail
  refine (c1 _).mono ?_
  rintro e w1 ⟨v, rfl, hv, n1⟩
  have N1 := n0.trans n1
  have r1 := r0.new n1
  obtain ⟨g, cap, rfl, hcap, hg, hA⟩ := hv.some (by simp)
  have k0 : w1.cell? ⟨g, 0, none⟩ = some (.string (ba w0)) := hA 0 w0 rfl
  have kr : ∀ j x, r[j]? = some x → w1.cell? ⟨g, j + 1, none⟩ = some (.string (ba x)) := fun j x hx => hA (j + 1) x hx
  have hrl : w.heap.size < w1.heap.size := r1.lt
  clear c1 r0 n0 n1 hA hv
  simp only [List.length_cons]
  go_wp2_with fail
  go_loopg [5] 42 (fun k s5 wr => ∃ op : Nat, op + k = 42 ∧ s5 = .int .i64 (op : Int) ∧ (op ≤ fnd w0 ∨ r.length ≠ (nd (fnd w0)).length) ∧ New w1 wr)
  case atStart => exact ⟨0, rfl, rfl, .inl (Nat.zero_le _), New.refl _⟩
  case round =>
    obtain ⟨op, hop, rfl, hf, hnx⟩ := hrel
    have HOP := Lib.hid hop
    by_cases hlt : op < 42
    · have hlt' : (op : Int) < 42 := by omega
      have op0 : (0 : Int) ≤ (op : Int) := by omega
      have hl0 : (0 : Int) < (r.length : Int) + 1 := by omega
      have q0 := hnx.keeps k0
      have cF : ∀ (W : World), Calls Tryz.prog 8 #[] W fun e w' => ∃ A, e = .returned (.slice (some ⟨A, 0, none⟩) 42 42) ∧ w'.cell? ⟨A, op * 2, none⟩ = some (.string (ba (nm op))) ∧ w'.cell? ⟨A, op * 2 + 1, none⟩ = some (.string (ba (nd op))) ∧ New W w' := fun W => by
        refine (forms_new W).mono ?_
        rintro e w' ⟨A, rfl, h, n⟩
        exact ⟨A, rfl, (h op hlt).1, (h op hlt).2, n⟩
      have hN3 := nd_len op
      have hNl := (nd_letters op).2
      clear hop
      by_cases hm : nm op = w0
      · have hfo : fnd w0 = op := fnd_at hlt hm
        have hcmp := ba_eq hm
        by_cases hlen : r.length = (nd op).length
        · have hRS : RES = chk op (flBy numD (nd op) r (0, 0, 0)) := by rw [HRES.out, hfo, if_pos hlen]
          have HRS := Lib.hid hRS
          have hl5 : (((r.length : Int) + 1) != 1 + ((nd op).length : Int)) = false := by simp; omega
          have sN := ba_size (nd op)
          have hol : op ≤ 41 := by omega
          clear hf hm hfo hlt hRS
          generalize nm op = M at *
          generalize nd op = N at *
          go_wp2_with fail
          refine (cF _).mono ?_
          rintro e w3 ⟨A, rfl, hA1, hA2, n3⟩
          have q3 := n3.keeps q0
          have FB := Box.here w3 _ #[.string (ba M), .string (ba N)] 31 rfl
          have nf := (New.refl w3).alloc #[.string (ba M), .string (ba N)] 31
          have q4 := nf.keeps q3
          obtain ⟨F0, F1⟩ := FB.two
          have hs3 := lt_cell q3
          simp only at hs3
          have hX1 : w1.heap.size ≤ w3.heap.size := (hnx.trans n3).size
          go_wp2_with fail
          go_quiet (fail)
          go_wp2_with fail
          have gx : ((N.length : Int) + 1 != 1 + (N.length : Int)) = false := by simp; omega
          try rw [gx]
          clear gx
          go_loopg [8] N.length (fun k s8 wr => ∃ (j : Nat) (y : Int × Int × Int), j + k = N.length ∧ s8 = .int .i64 (j : Int) ∧ flBy numD (N.drop j) (r.drop j) y = flBy numD N r (0, 0, 0) ∧ Ins8 wr (w3.heap.size + 1) op y.1 y.2.1 y.2.2 ∧ Box wr w3.heap.size #[.string (ba M), .string (ba N)] 31 ∧ New w1 wr)
          case atStart => exact ⟨0, (0, 0, 0), by omega, rfl, rfl, Box.here _ _ _ _ (by simp), (FB.new ((New.refl _).drewN _)).alloc _, ((hnx.trans n3).trans (nf.drewN _)).alloc _ _⟩
          case round =>
            obtain ⟨j, ⟨ya, yb, ym⟩, hj, rfl, hfl, hIn, FB, hnx2⟩ := hrel
            have HJ := Lib.hid hj
            clear q3 q4 F0 F1 hs3 hA1 hA2 nf q0 n3 hnx cF hcmp
            generalize w3.heap.size = F at *
            generalize hXE : F + 1 = X at *
            have hXF : X ≠ F := by omega
            have hXw : w1.heap.size ≤ X := by omega
            have R := r1.new hnx2
            have NN := N1.trans hnx2
            simp only at hIn
            clear hXE hX1
            by_cases hlt : j < N.length
            · obtain ⟨c, hc⟩ : ∃ c, N[j]? = some c := ⟨_, List.getElem?_eq_getElem hlt⟩
              obtain ⟨x, hx⟩ : ∃ x, r[j]? = some x := ⟨_, List.getElem?_eq_getElem (by omega)⟩
              have hcl := hNl c (List.mem_of_getElem? hc)
              have hxm := List.mem_cons_of_mem w0 (List.mem_of_getElem? hx)
              have hx5 : x.length ≤ 100000 := Nat.le_trans (hwl.1 x hxm) hl
              have hxne := hmw x hxm
              have hd1 : N.drop j = c :: N.drop (j + 1) := by
                rw [List.drop_eq_getElem_cons hlt]; congr 1; exact (List.getElem?_eq_some_iff.1 hc).2
              have hd2 : r.drop j = x :: r.drop (j + 1) := by
                have hlt2 : j < r.length := by omega
                rw [List.drop_eq_getElem_cons hlt2]; congr 1; exact (List.getElem?_eq_some_iff.1 hx).2
              rw [hd1, hd2] at hfl
              have hbad : valBy numD c x = none → RES = none := fun h => by rw [HRS.out, ← hfl]; simp only [flBy, h]; rfl
              have hgood : ∀ n, valBy numD c x = some n → flBy numD (N.drop (j + 1)) (r.drop (j + 1)) (put c n (ya, yb, ym)) = flBy numD N r (0, 0, 0) := fun n h => by rw [← hfl]; simp only [flBy, h]
              have cx := hnx2.keeps (kr j x hx)
              have cx2 : wr.cell? ⟨g, 1 + j, none⟩ = some (.string (ba x)) := by rw [Nat.add_comm]; exact cx
              have hix := fun W => idx_ba (P := Tryz.prog) Tryz.underlying9 N j c hc W
              have hlt2 : (j : Int) < (N.length : Int) := by omega
              have hlt3 : (j : Int) < (r.length : Int) := by omega
              have hj3 : j ≤ 2 := by omega
              obtain ⟨F0, F1⟩ := FB.two
              have hFl := FB.lt
              clear hd1 hd2 hfl hx hxm hc hj hlt hlen hNl hmw hwl kr k0 HRES
              rcases hcl with hcv | hcv | hcv
              · subst hcv
                obtain ⟨b, t, rfl⟩ := List.exists_cons_of_ne_nil hxne
                have h0 := idx0_ba b t
                have hts := tail_slice b t
                by_cases hb : b = 114
                · subst hb
                  rw [show (((114 : UInt8).toNat : Nat) : Int) = 114 from rfl] at h0
                  have hV : valBy numD 97 (114 :: t) = numD t := rfl
                  have HR := Lib.hid (show numD t = none → RES = none from fun h => hbad (by rw [hV]; exact h))
                  have HS := Lib.hid (show ∀ n, numD t = some n → flBy numD (N.drop (j + 1)) (r.drop (j + 1)) (put 97 n (ya, yb, ym)) = flBy numD N r (0, 0, 0) from fun n h => hgood n (by rw [hV]; exact h))
                  have cN := fun W => rnumber_any t W (by simp at hx5; omega)
                  generalize (114 : UInt8) :: t = Z at *
                  clear hbad hgood hV
                  cases hv : numD t with
                  | none =>
                    have hR := HR.out hv
                    have HRR := Lib.hid hR
                    rw [hv] at cN
                    unfold nv at cN
                    clear hR hv
                    go_wp2_with fail
                    refine (cN _).mono ?_
                    rintro e w5 ⟨rfl, n5⟩
                    have R := R.new n5
                    have NN := NN.trans n5
                    clear cN n5 F0 F1 cx hIn
                    have hlt9 := R.lt
                    obtain ⟨e0, e1, e2, e3⟩ := R.four
                    have u0 := R.unfrozen 0
                    have u1 := R.unfrozen 1
                    have u2 := R.unfrozen 2
                    have u3 := R.unfrozen 3
                    go_wp2
                    refine bodyPost_ret (v := rpv none) (by simp [results, rpv, Tryz.results14, go_sem, e0, e1, e2, e3]) rfl ⟨?_, by repeat (first | exact NN | refine New.setCell ?_ (Nat.le_refl _) _)⟩
                    rw [HRR.out]
                  | some n =>
                    have hf2 := HS.out n hv
                    have HF := Lib.hid hf2
                    rw [hv] at cN
                    unfold nv at cN
                    clear hf2 hv HR HS
                    go_wp2_with fail
                    refine (cN _).mono ?_
                    rintro e w5 ⟨rfl, n5⟩
                    have I5 : Ins8 w5 X op ya yb ym := Box.new hIn n5
                    have FB5 := FB.new n5
                    have I6 := Box.set I5 1 (.int .i64 n)
                    have FB6 := FB5.other (p := ⟨X, 1, none⟩) (fun e => hXF e) (.int .i64 n)
                    have n6 := New.setCell (hnx2.trans n5) (p := ⟨X, 1, none⟩) hXw (.int .i64 n)
                    have hX5 := I5.lt
                    obtain ⟨i0, i1, i2, i3⟩ := Box.four I5
                    have v0 := I5.unfrozen 1
                    clear cN n5 F0 F1 cx hIn FB R NN hnx2
                    obtain ⟨F0, F1⟩ := FB5.two
                    have hFl5 := FB5.lt
                    go_wp2_with fail
                    go_roundg (N.length - (j + 1))
                    case measure => have := HJ.out; omega
                    case rel => exact ⟨j + 1, put 97 n (ya, yb, ym), by have := HJ.out; omega, rfl, HF.out, I6, FB6, n6⟩
                · have hV : valBy numD 97 (b :: t) = none := by
                    unfold valBy; rw [if_neg (by decide)]; exact if_neg hb
                  have hR := hbad hV
                  have HRR := Lib.hid hR
                  have hb2 : ((b.toNat : Int) != 114) = true := by
                    simp; intro e; exact hb (UInt8.toNat_inj.1 (by show b.toNat = 114; omega))
                  generalize b :: t = Z at *
                  clear hbad hgood hV hR hb hts
                  have hlt9 := R.lt
                  obtain ⟨e0, e1, e2, e3⟩ := R.four
                  have u0 := R.unfrozen 0
                  have u1 := R.unfrozen 1
                  have u2 := R.unfrozen 2
                  have u3 := R.unfrozen 3
                  go_wp2
                  refine bodyPost_ret (v := rpv none) (by simp [results, rpv, Tryz.results14, go_sem, e0, e1, e2, e3]) rfl ⟨?_, by repeat (first | exact NN | refine New.setCell ?_ (Nat.le_refl _) _)⟩
                  rw [HRR.out]
              · subst hcv
                obtain ⟨b, t, rfl⟩ := List.exists_cons_of_ne_nil hxne
                have h0 := idx0_ba b t
                have hts := tail_slice b t
                by_cases hb : b = 114
                · subst hb
                  rw [show (((114 : UInt8).toNat : Nat) : Int) = 114 from rfl] at h0
                  have hV : valBy numD 98 (114 :: t) = numD t := rfl
                  have HR := Lib.hid (show numD t = none → RES = none from fun h => hbad (by rw [hV]; exact h))
                  have HS := Lib.hid (show ∀ n, numD t = some n → flBy numD (N.drop (j + 1)) (r.drop (j + 1)) (put 98 n (ya, yb, ym)) = flBy numD N r (0, 0, 0) from fun n h => hgood n (by rw [hV]; exact h))
                  have cN := fun W => rnumber_any t W (by simp at hx5; omega)
                  generalize (114 : UInt8) :: t = Z at *
                  clear hbad hgood hV
                  cases hv : numD t with
                  | none =>
                    have hR := HR.out hv
                    have HRR := Lib.hid hR
                    rw [hv] at cN
                    unfold nv at cN
                    clear hR hv
                    go_wp2_with fail
                    refine (cN _).mono ?_
                    rintro e w5 ⟨rfl, n5⟩
                    have R := R.new n5
                    have NN := NN.trans n5
                    clear cN n5 F0 F1 cx hIn
                    have hlt9 := R.lt
                    obtain ⟨e0, e1, e2, e3⟩ := R.four
                    have u0 := R.unfrozen 0
                    have u1 := R.unfrozen 1
                    have u2 := R.unfrozen 2
                    have u3 := R.unfrozen 3
                    go_wp2
                    refine bodyPost_ret (v := rpv none) (by simp [results, rpv, Tryz.results14, go_sem, e0, e1, e2, e3]) rfl ⟨?_, by repeat (first | exact NN | refine New.setCell ?_ (Nat.le_refl _) _)⟩
                    rw [HRR.out]
                  | some n =>
                    have hf2 := HS.out n hv
                    have HF := Lib.hid hf2
                    rw [hv] at cN
                    unfold nv at cN
                    clear hf2 hv HR HS
                    go_wp2_with fail
                    refine (cN _).mono ?_
                    rintro e w5 ⟨rfl, n5⟩
                    have I5 : Ins8 w5 X op ya yb ym := Box.new hIn n5
                    have FB5 := FB.new n5
                    have I6 := Box.set I5 2 (.int .i64 n)
                    have FB6 := FB5.other (p := ⟨X, 2, none⟩) (fun e => hXF e) (.int .i64 n)
                    have n6 := New.setCell (hnx2.trans n5) (p := ⟨X, 2, none⟩) hXw (.int .i64 n)
                    have hX5 := I5.lt
                    obtain ⟨i0, i1, i2, i3⟩ := Box.four I5
                    have v0 := I5.unfrozen 2
                    clear cN n5 F0 F1 cx hIn FB R NN hnx2
                    obtain ⟨F0, F1⟩ := FB5.two
                    have hFl5 := FB5.lt
                    go_wp2_with fail
                    go_roundg (N.length - (j + 1))
                    case measure => have := HJ.out; omega
                    case rel => exact ⟨j + 1, put 98 n (ya, yb, ym), by have := HJ.out; omega, rfl, HF.out, I6, FB6, n6⟩
                · have hV : valBy numD 98 (b :: t) = none := by
                    unfold valBy; rw [if_neg (by decide)]; exact if_neg hb
                  have hR := hbad hV
                  have HRR := Lib.hid hR
                  have hb2 : ((b.toNat : Int) != 114) = true := by
                    simp; intro e; exact hb (UInt8.toNat_inj.1 (by show b.toNat = 114; omega))
                  generalize b :: t = Z at *
                  clear hbad hgood hV hR hb hts
                  have hlt9 := R.lt
                  obtain ⟨e0, e1, e2, e3⟩ := R.four
                  have u0 := R.unfrozen 0
                  have u1 := R.unfrozen 1
                  have u2 := R.unfrozen 2
                  have u3 := R.unfrozen 3
                  go_wp2
                  refine bodyPost_ret (v := rpv none) (by simp [results, rpv, Tryz.results14, go_sem, e0, e1, e2, e3]) rfl ⟨?_, by repeat (first | exact NN | refine New.setCell ?_ (Nat.le_refl _) _)⟩
                  rw [HRR.out]
              · subst hcv
                have hV : valBy numD 105 x = numD x := rfl
                have HR := Lib.hid (show numD x = none → RES = none from fun h => hbad (by rw [hV]; exact h))
                have HS := Lib.hid (show ∀ n, numD x = some n → flBy numD (N.drop (j + 1)) (r.drop (j + 1)) (put 105 n (ya, yb, ym)) = flBy numD N r (0, 0, 0) from fun n h => hgood n (by rw [hV]; exact h))
                have cN := fun W => rnumber_any x W hx5
                clear hbad hgood hV
                cases hv : numD x with
                | none =>
                  have hR := HR.out hv
                  have HRR := Lib.hid hR
                  rw [hv] at cN
                  unfold nv at cN
                  clear hR hv
                  go_wp2_with fail
                  refine (cN _).mono ?_
                  rintro e w5 ⟨rfl, n5⟩
                  have R := R.new n5
                  have NN := NN.trans n5
                  clear cN n5 F0 F1 cx hIn
                  have hlt9 := R.lt
                  obtain ⟨e0, e1, e2, e3⟩ := R.four
                  have u0 := R.unfrozen 0
                  have u1 := R.unfrozen 1
                  have u2 := R.unfrozen 2
                  have u3 := R.unfrozen 3
                  go_wp2
                  refine bodyPost_ret (v := rpv none) (by simp [results, rpv, Tryz.results14, go_sem, e0, e1, e2, e3]) rfl ⟨?_, by repeat (first | exact NN | refine New.setCell ?_ (Nat.le_refl _) _)⟩
                  rw [HRR.out]
                | some n =>
                  have hf2 := HS.out n hv
                  have HF := Lib.hid hf2
                  rw [hv] at cN
                  unfold nv at cN
                  clear hf2 hv HR HS
                  go_wp2_with fail
                  refine (cN _).mono ?_
                  rintro e w5 ⟨rfl, n5⟩
                  have I5 : Ins8 w5 X op ya yb ym := Box.new hIn n5
                  have FB5 := FB.new n5
                  have I6 := Box.set I5 3 (.int .i64 n)
                  have FB6 := FB5.other (p := ⟨X, 3, none⟩) (fun e => hXF e) (.int .i64 n)
                  have n6 := New.setCell (hnx2.trans n5) (p := ⟨X, 3, none⟩) hXw (.int .i64 n)
                  have hX5 := I5.lt
                  obtain ⟨i0, i1, i2, i3⟩ := Box.four I5
                  have v0 := I5.unfrozen 3
                  clear cN n5 F0 F1 cx hIn FB R NN hnx2
                  obtain ⟨F0, F1⟩ := FB5.two
                  have hFl5 := FB5.lt
                  go_wp2_with fail
                  go_roundg (N.length - (j + 1))
                  case measure => have := HJ.out; omega
                  case rel => exact ⟨j + 1, put 105 n (ya, yb, ym), by have := HJ.out; omega, rfl, HF.out, I6, FB6, n6⟩
            · obtain rfl : j = N.length := by omega
              have hfin : flBy numD N r (0, 0, 0) = some (ya, yb, ym) := by rw [← hfl, List.drop_length]; rfl
              have hge : ¬ (N.length : Int) < (N.length : Int) := by omega
              have hX5 := hIn.lt
              obtain ⟨i0, i1, i2, i3⟩ := Box.four hIn
              obtain ⟨F0, F1⟩ := FB.two
              have hFl := FB.lt
              clear hfl hlt hmw hwl kr k0 HRES hNl
              by_cases hok : InOk (op : Int) ya yb ym
              · have cC := fun W => irmay_ok (op : Int) ya yb ym W hok
                have HRR := Lib.hid (show RES = some (op, ya, yb, ym) by rw [HRS.out, hfin]; exact chk_ok hok)
                clear hok hfin HRS
                go_wp2_with fail
                refine (cC _).mono ?_
                rintro e w5 ⟨rfl, n5⟩
                have R := R.new n5
                have NN := NN.trans n5
                have I5 : Ins8 w5 X op ya yb ym := Box.new hIn n5
                clear i0 i1 i2 i3 F0 F1 cC hIn FB hX5 hFl n5 hnx2
                have hX5 := I5.lt
                obtain ⟨i0, i1, i2, i3⟩ := Box.four I5
                have hlt9 := R.lt
                obtain ⟨e0, e1, e2, e3⟩ := R.four
                have u0 := R.unfrozen 0
                have u1 := R.unfrozen 1
                have u2 := R.unfrozen 2
                have u3 := R.unfrozen 3
                go_wp2
                refine bodyPost_ret (v := .tuple #[.agg #[.int .i64 (op : Int), .int .i64 ya, .int .i64 yb, .int .i64 ym], .int .i64 0]) (by simp [results, Tryz.results14, go_sem, e0, e1, e2, e3]) rfl ⟨?_, by repeat (first | exact NN | refine New.setCell ?_ (Nat.le_refl _) _)⟩
                rw [HRR.out]; rfl
              · have cC := fun W => irmay_no (op : Int) ya yb ym W hok
                have HRR := Lib.hid (show RES = none by rw [HRS.out, hfin]; exact chk_no hok)
                clear hok hfin HRS
                go_wp2_with fail
                refine (cC _).mono ?_
                rintro e w5 ⟨rfl, n5⟩
                have R := R.new n5
                have NN := NN.trans n5
                clear i0 i1 i2 i3 F0 F1 cC hIn FB hX5 hFl n5 hnx2
                have hlt9 := R.lt
                obtain ⟨e0, e1, e2, e3⟩ := R.four
                have u0 := R.unfrozen 0
                have u1 := R.unfrozen 1
                have u2 := R.unfrozen 2
                have u3 := R.unfrozen 3
                go_wp2
                refine bodyPost_ret (v := rpv none) (by simp [results, rpv, Tryz.results14, go_sem, e0, e1, e2, e3]) rfl ⟨?_, by repeat (first | exact NN | refine New.setCell ?_ (Nat.le_refl _) _)⟩
                rw [HRR.out]
        · have hf' : r.length ≠ (nd (fnd w0)).length := by rw [hfo]; exact hlen
          have hl5 : (((r.length : Int) + 1) != 1 + ((nd op).length : Int)) = true := by simp; omega
          have sN := ba_size (nd op)
          clear hf hm hfo hlt hlen hNl
          generalize nm op = M at *
          generalize nd op = N at *
          go_wp2_with fail
          refine (cF _).mono ?_
          rintro e w3 ⟨A, rfl, hA1, hA2, n3⟩
          have q3 := n3.keeps q0
          have FB := Box.here w3 _ #[.string (ba M), .string (ba N)] 31 rfl
          have nf := (New.refl w3).alloc #[.string (ba M), .string (ba N)] 31
          have q4 := nf.keeps q3
          obtain ⟨F0, F1⟩ := FB.two
          have hs3 := lt_cell q3
          simp only at hs3
          go_wp2_with fail
          go_quiet (fail)
          go_wp2
          go_roundg (42 - (op + 1))
          case measure => have := HOP.out; omega
          case rel => exact ⟨op + 1, by have := HOP.out; omega, rfl, .inr hf', (hnx.trans n3).trans (nf.drewN _)⟩
      · have hcmp := ba_ne hm
        have hf' : op + 1 ≤ fnd w0 ∨ r.length ≠ (nd (fnd w0)).length := by
          rcases hf with h | h
          · have : op ≠ fnd w0 := fun e => hm (by rw [e]; exact nm_fnd (by omega))
            exact .inl (by omega)
          · exact .inr h
        have HF := Lib.hid hf'
        clear hf hm hlt hNl hf'
        generalize nm op = M at *
        generalize nd op = N at *
        go_wp2_with fail
        refine (cF _).mono ?_
        rintro e w3 ⟨A, rfl, hA1, hA2, n3⟩
        have q3 := n3.keeps q0
        have FB := Box.here w3 _ #[.string (ba M), .string (ba N)] 31 rfl
        have nf := (New.refl w3).alloc #[.string (ba M), .string (ba N)] 31
        have q4 := nf.keeps q3
        obtain ⟨F0, F1⟩ := FB.two
        have hs3 := lt_cell q3
        simp only at hs3
        go_wp2_with fail
        go_quiet (fail)
        go_wp2
        go_roundg (42 - (op + 1))
        case measure => have := HOP.out; omega
        case rel => exact ⟨op + 1, by have := HOP.out; omega, rfl, HF.out, (hnx.trans n3).trans (nf.drewN _)⟩
    · obtain rfl : op = 42 := by omega
      have hge : ¬ ((42 : Nat) : Int) < 42 := by omega
      have hge2 : decide (((42 : Nat) : Int) < 42) = false := decide_eq_false hge
      have hR : RES = none := by
        rw [HRES.out]
        rcases hf with h | h
        · have := fnd_le w0
          have e : fnd w0 = 42 := by omega
          rw [e]
          split
          · rw [nd_big (Nat.le_refl _)]
            exact chk_no (by unfold InOk; omega)
          · rfl
        · rw [if_neg h]
      have HRR := Lib.hid hR
      have R := r1.new hnx
      have NN := N1.trans hnx
      clear hR hf hop k0 kr r1 N1 hnx hmw hwl
      have hlt9 := R.lt
      obtain ⟨e0, e1, e2, e3⟩ := R.four
      have u0 := R.unfrozen 0
      have u1 := R.unfrozen 1
      have u2 := R.unfrozen 2
      have u3 := R.unfrozen 3
      go_wp2
      refine bodyPost_ret (v := rpv none) (by simp [results, rpv, Tryz.results14, go_sem, e0, e1, e2, e3]) rfl ⟨?_, by repeat (first | exact NN | refine New.setCell ?_ (Nat.le_refl _) _)⟩
      rw [HRR.out]
/-- the document's Parse, of any text of 100000 bytes at most -/
theorem rparse_any (l : List UInt8) (w : World) (hl : l.length ≤ 100000) : Calls Tryz.prog 14 #[.string (ba l)] w fun e w' => e = .returned (rpv (prs l)) ∧ New w w' := by
  rw [← prs_doc]
  cases hw : wrds l with
  | nil =>
    have e : prsBy numD l = none := by unfold prsBy; rw [hw]
    rw [e]; exact rparse_empty l w hl hw
  | cons w0 r =>
    have e : prsBy numD l = if r.length = (nd (fnd w0)).length then chk (fnd w0) (flBy numD (nd (fnd w0)) r (0, 0, 0)) else none := by unfold prsBy; rw [hw]
    rw [e]; exact rparse_some l w0 r w hl hw
end Go.Proofs.YtlpjegclpilaaaaGreatDoor
