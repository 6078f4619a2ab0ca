/- The package's Parse. -/
import Derived.Test.YtlpjegclpilaaaaGreatDoorAmB
import Derived.Test.YtlpjegclpilaaaaGreatDoorIsC
namespace Go.Proofs.YtlpjegclpilaaaaGreatDoor
open Go.RowKit
set_option linter.unusedVariables false
theorem ba_get (l : List UInt8) (j : Nat) (c : UInt8) (h : l[j]? = some c) (hj : j < (ba l).size) : (ba l)[j] = c := by
  obtain ⟨h1, h2⟩ := List.getElem?_eq_some_iff.1 h
  subst h2
  show (ba l).data[j] = l[j]
  unfold ba; simp
theorem idx_ba {P : Program} {t : TypeId} (ht : P.underlying t = some .string) (l : List UInt8) (j : Nat) (c : UInt8) (h : l[j]? = some c) (w : World) : (Instr.index t (.string (ba l)) (.int .i64 (j : Int))).run P w = .ok (.int .u8 (c.toNat : Int)) w := by
  have hj : j < (ba l).size := by rw [ba_size]; exact (List.getElem?_eq_some_iff.1 h).1
  rw [run_index_string w t (ba l) .i64 j ht, dif_pos ⟨by omega, by omega⟩]
  have := ba_get l j c h hj
  simp only [Int.toNat_natCast, this]
theorem fields_ba (l : List UInt8) : Lib.goFieldsP blkR (ba l) = (wrds l).map ba := by
  have h := fields_wrds (ba l)
  rw [ba_data] at h
  rw [← h, List.map_map]
  have : (ba ∘ fun s : ByteArray => s.data.toList) = id := by funext s; exact ba_of s
  rw [this, List.map_id]
theorem fields_any (l : List UInt8) (w : World) (hl : l.length ≤ 4294967296) :
    Calls Tryz.prog 24 #[.string (ba l), .func (.func 25) #[] #[]] w fun e w' =>
      ∃ A, e = .returned (.slice (some ⟨A, 0, none⟩) (wrds l).length (wrds l).length) ∧ (∀ j x, (wrds l)[j]? = some x → w'.cell? ⟨A, j, none⟩ = some (.string (ba x))) ∧ New w w' := by
  refine (Tryz.strings_FieldsFunc_grows 25 #[] blank_enter blkR (ba l) w (by rw [ba_size]; exact hl) (blank_grows w)).mono ?_
  rintro e w' ⟨A, rfl, hA, hown, hb⟩
  rw [fields_ba, List.length_map] at *
  refine ⟨A, rfl, fun j x hx => ?_, hb⟩
  have hj : j < (wrds l).length := (List.getElem?_eq_some_iff.1 hx).1
  rw [hown.cellAt j (by omega), List.getElem?_map, List.getElem?_map, hx]; rfl
/-- what Parse answers -/
def pv (x : Option (Nat × Int × Int × Int)) : Value := match x with
  | none => .tuple #[.agg #[.int .i64 0, .int .i64 0, .int .i64 0, .int .i64 0], .iface 55 (.int .i64 22)]
  | some y => .tuple #[.agg #[.int .i64 y.1, .int .i64 y.2.1, .int .i64 y.2.2.1, .int .i64 y.2.2.2], .nilIface]
theorem parse_empty (l : List UInt8) (w : World) (hl : l.length ≤ 4294967296) (h : Env w) (hw : wrds l = []) :
    Calls Tryz.prog 13 #[.string (ba l)] w fun e w' => e = .returned (pv none) ∧ New w w' := by
  have c1 := fun W => fields_any l W hl
  rw [hw] at c1
  have r0 := Box.here w _ #[.int .i64 0, .int .i64 0, .int .i64 0, .int .i64 0] 28 rfl
  have n0 := (New.refl w).alloc #[.int .i64 0, .int .i64 0, .int .i64 0, .int .i64 0] 28
  go_enter Tryz.func13, Tryz.ntmps13
  go_wp2_with fail
  refine (c1 _).mono ?_
  rintro e w1 ⟨A, rfl, -, n1⟩
  have N1 := n0.trans n1
  have r1 := r0.new n1
  have hlt := r1.lt
  obtain ⟨e0, e1, e2, e3⟩ := r1.four
  have u0 := r1.unfrozen 0
  have u1 := r1.unfrozen 1
  have u2 := r1.unfrozen 2
  have u3 := r1.unfrozen 3
  clear c1 r0 n0 n1 r1
  go_wp2
  exact bodyPost_ret (v := pv none) (by simp [results, pv, Tryz.results13, go_sem, e0, e1, e2, e3]) rfl ⟨rfl, by repeat (first | exact N1 | refine New.setCell ?_ (Nat.le_refl _) _)⟩
theorem wrdGo_len : ∀ (l cur : List UInt8), (∀ x ∈ wrdGo cur l, x.length ≤ cur.length + l.length) ∧ (wrdGo cur l).length ≤ l.length + 1
  | [], cur => by
    unfold wrdGo
    by_cases h : cur = [] <;> simp [h]
  | b :: t, cur => by
    unfold wrdGo
    cases hb : blk b with
    | true =>
      have ih := wrdGo_len t []
      rw [if_pos rfl]
      by_cases h : cur = []
      · rw [if_pos h]
        exact ⟨fun x hx => by have := ih.1 x hx; simp at this ⊢; omega, by have := ih.2; simp; omega⟩
      · rw [if_neg h]
        refine ⟨fun x hx => ?_, by have := ih.2; simp; omega⟩
        rcases List.mem_cons.1 hx with rfl | hx
        · simp
        · have := ih.1 x hx; simp at this ⊢; omega
    | false =>
      have ih := wrdGo_len t (cur ++ [b])
      rw [if_neg (by simp)]
      exact ⟨fun x hx => by have := ih.1 x hx; simp at this ⊢; omega, by have := ih.2; simp; omega⟩
theorem wrds_len (l : List UInt8) : (∀ x ∈ wrds l, x.length ≤ l.length) ∧ (wrds l).length ≤ l.length + 1 := by
  have := wrdGo_len l []
  simpa [wrds] using this
set_option maxHeartbeats 4000000 in
theorem parse_len_no (l : List UInt8) (w0 : List UInt8) (r : List (List UInt8)) (w : World) (hl : l.length ≤ 4294967296) (h : Env w) (hw : wrds l = w0 :: r) (hn : r.length ≠ (nd (fnd w0)).length) :
    Calls Tryz.prog 13 #[.string (ba l)] w fun e w' => e = .returned (pv (none)) ∧ New w w' := by
  have c1 := fun W => fields_any l W hl
  have hwl := wrds_len l
  rw [hw] at c1 hwl
  clear hw
  have c2 := fun W (k : Env W) => find_any w0 W k
  have c3 := fun W (k : Env W) => needs_any (fnd w0 : Int) W k
  simp only [ndI_nat] at c3
  have hF := fnd_le w0
  have hN := nd_letters (fnd w0)
  have hN3 := nd_len (fnd w0)
  generalize fnd w0 = F at *
  generalize nd F = N at *
  have sN := ba_size N
  have r0 := Box.here w _ #[.int .i64 0, .int .i64 0, .int .i64 0, .int .i64 0] 28 rfl
  have n0 := (New.refl w).alloc #[.int .i64 0, .int .i64 0, .int .i64 0, .int .i64 0] 28
  go_enter Tryz.func13, Tryz.ntmps13
  go_wp2_with fail
  refine (c1 _).mono ?_
  rintro e w1 ⟨A, rfl, hA, n1⟩
  have N1 := n0.trans n1
  have r1 := r0.new n1
  have k0 : w1.cell? ⟨A, 0, none⟩ = some (.string (ba w0)) := hA 0 w0 rfl
  have kr : ∀ j x, r[j]? = some x → w1.cell? ⟨A, j + 1, none⟩ = some (.string (ba x)) := fun j x hx => hA (j + 1) x hx
  have h1 := h.new N1
  have hAX := lt_cell k0
  simp only at hAX
  have hRX : w.heap.size < w1.heap.size := r1.lt
  clear c1 r0 n0 n1 hA
  simp only [List.length_cons]
  go_wp2_with fail
  refine (c2 _ h1).mono ?_
  rintro e w1 ⟨rfl, rfl⟩
  have i1 := Box.here w1 _ #[.int .i64 (F : Int), .int .i64 0, .int .i64 0, .int .i64 0] 28 rfl
  go_wp2_with fail
  have q1 := (New.refl w1).alloc #[.int .i64 (F : Int), .int .i64 0, .int .i64 0, .int .i64 0] 28
  have h2 := h1.new q1
  have r2 := r1.new q1
  have N2 := N1.trans q1
  have kr2 : ∀ j x, r[j]? = some x → (w1.alloc (.cells #[.int .i64 (F : Int), .int .i64 0, .int .i64 0, .int .i64 0] 28)).cell? ⟨A, j + 1, none⟩ = some (.string (ba x)) := fun j x hx => q1.cellv (kr j x hx)
  generalize w1.heap.size = X at *
  refine (c3 _ h2).mono ?_
  rintro e w2 ⟨rfl, hw2⟩
  rw [← hw2] at i1 h2 r2 N2 kr2
  clear hw2 q1 kr h1 r1 N1 k0 c2 c3
  have g2 : (((r.length : Int) + 1) != wrap64 (1 + (N.length : Int))) = true := by rw [IntWalk.wrap64_in _ (by omega)]; simp; omega
  have hlt := r2.lt
  obtain ⟨e0, e1, e2, e3⟩ := r2.four
  have u0 := r2.unfrozen 0
  have u1 := r2.unfrozen 1
  have u2 := r2.unfrozen 2
  have u3 := r2.unfrozen 3
  clear hN r2 i1 hwl hF h2 kr2
  go_wp2
  exact bodyPost_ret (v := pv none) (by simp [results, pv, Tryz.results13, go_sem, e0, e1, e2, e3]) rfl ⟨rfl, by repeat (first | exact N2 | refine New.setCell ?_ (Nat.le_refl _) _)⟩
set_option maxHeartbeats 4000000 in
theorem parse_len_yes (l : List UInt8) (w0 : List UInt8) (r : List (List UInt8)) (w : World) (hl : l.length ≤ 4294967296) (h : Env w) (hw : wrds l = w0 :: r) (hn : r.length = (nd (fnd w0)).length) :
    Calls Tryz.prog 13 #[.string (ba l)] w fun e w' => e = .returned (pv (chk (fnd w0) (flBy numP (nd (fnd w0)) r (0, 0, 0)))) ∧ New w w' := by
  have c1 := fun W => fields_any l W hl
  have hwl := wrds_len l
  rw [hw] at c1 hwl
  clear hw
  have c2 := fun W (k : Env W) => find_any w0 W k
  have c3 := fun W (k : Env W) => needs_any (fnd w0 : Int) W k
  simp only [ndI_nat] at c3
  have hF := fnd_le w0
  have hN := nd_letters (fnd w0)
  have hN3 := nd_len (fnd w0)
  generalize fnd w0 = F at *
  generalize nd F = N at *
  have sN := ba_size N
  have r0 := Box.here w _ #[.int .i64 0, .int .i64 0, .int .i64 0, .int .i64 0] 28 rfl
  have n0 := (New.refl w).alloc #[.int .i64 0, .int .i64 0, .int .i64 0, .int .i64 0] 28
  go_enter Tryz.func13, Tryz.ntmps13
  go_wp2_with fail
  refine (c1 _).mono ?_
  rintro e w1 ⟨A, rfl, hA, n1⟩
  have N1 := n0.trans n1
  have r1 := r0.new n1
  have k0 : w1.cell? ⟨A, 0, none⟩ = some (.string (ba w0)) := hA 0 w0 rfl
  have kr : ∀ j x, r[j]? = some x → w1.cell? ⟨A, j + 1, none⟩ = some (.string (ba x)) := fun j x hx => hA (j + 1) x hx
  have h1 := h.new N1
  have hAX := lt_cell k0
  simp only at hAX
  have hRX : w.heap.size < w1.heap.size := r1.lt
  clear c1 r0 n0 n1 hA
  simp only [List.length_cons]
  go_wp2_with fail
  refine (c2 _ h1).mono ?_
  rintro e w1 ⟨rfl, rfl⟩
  have i1 := Box.here w1 _ #[.int .i64 (F : Int), .int .i64 0, .int .i64 0, .int .i64 0] 28 rfl
  go_wp2_with fail
  have q1 := (New.refl w1).alloc #[.int .i64 (F : Int), .int .i64 0, .int .i64 0, .int .i64 0] 28
  have h2 := h1.new q1
  have r2 := r1.new q1
  have N2 := N1.trans q1
  have kr2 : ∀ j x, r[j]? = some x → (w1.alloc (.cells #[.int .i64 (F : Int), .int .i64 0, .int .i64 0, .int .i64 0] 28)).cell? ⟨A, j + 1, none⟩ = some (.string (ba x)) := fun j x hx => q1.cellv (kr j x hx)
  generalize w1.heap.size = X at *
  refine (c3 _ h2).mono ?_
  rintro e w2 ⟨rfl, hw2⟩
  rw [← hw2] at i1 h2 r2 N2 kr2
  clear hw2 q1 kr h1 r1 N1 k0 c2 c3
  have g2 : (((r.length : Int) + 1) != wrap64 (1 + (N.length : Int))) = false := by rw [IntWalk.wrap64_in _ (by omega)]; simp; omega
  by_cases hN0 : N = []
  · subst hN0
    have hr : r = [] := List.eq_nil_of_length_eq_zero hn
    subst hr
    obtain ⟨a, ha⟩ : ∃ a : Int, a = 0 := ⟨_, rfl⟩
    have I2 : Ins w2 X F a a a := by rw [ha]; exact i1
    have R2 := r2
    have hfl : flBy numP [] [] (0, 0, 0) = some (a, a, a) := by rw [ha]; rfl
    clear i1 r2 kr2 hN hN3 hwl hF ha
    go_wp2_with fail
    go_loopg [37] 0 (fun k s37 wr => s37 = .int .i64 0 ∧ wr = w2)
    case atStart => exact ⟨rfl, rfl⟩
    case round =>
      obtain ⟨rfl, rfl⟩ := hrel
      obtain ⟨b, hb⟩ : ∃ b : Int, b = a := ⟨_, rfl⟩
      obtain ⟨m, hm⟩ : ∃ m : Int, m = a := ⟨_, rfl⟩
      have I2 : Ins wr X F a b m := by rw [hb, hm]; exact I2
      have hfl : flBy numP [] [] (0, 0, 0) = some (a, b, m) := by rw [hb, hm]; exact hfl
      clear hb hm
      have hlt := R2.lt
      obtain ⟨e0, e1, e2, e3⟩ := R2.four
      have u0 := R2.unfrozen 0
      have u1 := R2.unfrozen 1
      have u2 := R2.unfrozen 2
      have u3 := R2.unfrozen 3
      obtain ⟨i0, i1, i2, i3⟩ := Box.four I2
      have hXl := I2.lt
      by_cases hok : InOk (F : Int) a b m
      · have cC := fun W => icheck_ok (F : Int) a b m W hok
        go_wp2_with fail
        refine (cC _).mono ?_
        rintro e w5 ⟨rfl, n5⟩
        have R5 := R2.new n5
        have I5 := Box.new I2 n5
        have N5 := N2.trans n5
        clear e0 e1 e2 e3 u0 u1 u2 u3 i0 i1 i2 i3 hlt hXl
        have hlt := R5.lt
        obtain ⟨e0, e1, e2, e3⟩ := R5.four
        have u0 := R5.unfrozen 0
        have u1 := R5.unfrozen 1
        have u2 := R5.unfrozen 2
        have u3 := R5.unfrozen 3
        obtain ⟨i0, i1, i2, i3⟩ := Box.four I5
        have hXl := I5.lt
        go_wp2
        refine bodyPost_ret (v := .tuple #[.agg #[.int .i64 F, .int .i64 a, .int .i64 b, .int .i64 m], .nilIface]) (by simp [results, Tryz.results13, go_sem, e0, e1, e2, e3]) rfl ⟨?_, by repeat (first | exact N5 | refine New.setCell ?_ (Nat.le_refl _) _)⟩
        rw [hfl, chk_ok hok]; rfl
      · have cC := fun W => icheck_no (F : Int) a b m W hok
        go_wp2_with fail
        refine (cC _).mono ?_
        rintro e w5 ⟨rfl, n5⟩
        have R5 := R2.new n5
        have N5 := N2.trans n5
        clear e0 e1 e2 e3 u0 u1 u2 u3 i0 i1 i2 i3 hlt hXl
        have hlt := R5.lt
        obtain ⟨e0, e1, e2, e3⟩ := R5.four
        have u0 := R5.unfrozen 0
        have u1 := R5.unfrozen 1
        have u2 := R5.unfrozen 2
        have u3 := R5.unfrozen 3
        go_wp2
        refine bodyPost_ret (v := pv none) (by simp [results, pv, Tryz.results13, go_sem, e0, e1, e2, e3]) rfl ⟨?_, by repeat (first | exact N5 | refine New.setCell ?_ (Nat.le_refl _) _)⟩
        rw [hfl, chk_no hok]
  · have hr : r ≠ [] := by intro e; rw [e] at hn; exact hN0 (List.eq_nil_of_length_eq_zero hn.symm)
    go_wp2_with fail
    have gx : ((N.length : Int) + 1 != 1 + (N.length : Int)) = false := by simp; omega
    rw [gx]
    clear gx
    go_loopg [37] N.length (fun k s37 wr => ∃ (j : Nat) (y : Int × Int × Int), j + k = N.length ∧ s37 = .int .i64 (j : Int) ∧ flBy numP (N.drop j) (r.drop j) y = flBy numP N r (0, 0, 0) ∧ Ins wr X F y.1 y.2.1 y.2.2 ∧
      Box wr w.heap.size #[.int .i64 0, .int .i64 0, .int .i64 0, .int .i64 0] 28 ∧ New w wr ∧ (∀ j x, r[j]? = some x → wr.cell? ⟨A, j + 1, none⟩ = some (.string (ba x))))
    case atStart => exact ⟨0, (0, 0, 0), by omega, rfl, rfl, i1, r2, N2, kr2⟩
    case round =>
      clear i1 r2 N2 kr2 h2
      obtain ⟨j, y, hj, rfl, hf, hI, R2, N2, kr2⟩ := hrel
      by_cases hlt : j < N.length
      · obtain ⟨c, hc⟩ : ∃ c, N[j]? = some c := ⟨_, List.getElem?_eq_getElem hlt⟩
        obtain ⟨x, hx⟩ : ∃ x, r[j]? = some x := ⟨_, List.getElem?_eq_getElem (by omega)⟩
        have hcl := hN.2 c (List.mem_of_getElem? hc)
        have hxl := hwl.1 x (List.mem_cons_of_mem _ (List.mem_of_getElem? hx))
        have hE := h.new N2
        have hd1 : N.drop j = c :: N.drop (j + 1) := by
          rw [List.drop_eq_getElem_cons hlt]; congr 1; exact (List.getElem?_eq_some_iff.1 hc).2
        have hd2 : r.drop j = x :: r.drop (j + 1) := by
          have hlt2 : j < r.length := by omega
          rw [List.drop_eq_getElem_cons hlt2]; congr 1; exact (List.getElem?_eq_some_iff.1 hx).2
        rw [hd1, hd2] at hf
        simp only [flBy] at hf
        have cx := kr2 j x hx
        have cx2 : wr.cell? ⟨A, 1 + j, none⟩ = some (.string (ba x)) := by rw [Nat.add_comm]; exact cx
        have hix := fun W => idx_ba (P := Tryz.prog) Tryz.underlying9 N j c hc W
        have hlt' : (j : Int) < (N.length : Int) := by omega
        have hltR := R2.lt
        have hAwr := lt_cell cx
        simp only at hAwr
        cases hv : valBy numP c x with
        | some n =>
          have cF := fill_ok c hcl X F y x n wr hE (by omega) hI hv
          rw [hv] at hf
          simp only at hf
          clear hE hd1 hd2 hv hxl hcl hltR hAwr
          go_wp2_with (go_at_call 27; refine cF.mono ?_; rintro e w5 ⟨rfl, f5, I5⟩)
          go_roundg (N.length - (j + 1))
          case measure => omega
          case rel =>
            have hltR := R2.lt
            have hsz := f5.size
            refine ⟨j + 1, _, by omega, rfl, hf, I5, ?_, f5.new N2 (by omega), fun i z hz => ?_⟩
            · unfold Box; rw [f5.block hltR (by omega)]; exact R2
            · rw [f5.cell (p := ⟨A, i + 1, none⟩) (lt_cell (kr2 i z hz)) (by show A ≠ X; omega)]; exact kr2 i z hz
        | none =>
          have cF := fill_no c hcl X F y x wr hE (by omega) hI hv
          rw [hv] at hf
          simp only at hf
          rw [er22] at cF
          clear hE hd1 hd2 hv hxl hcl hAwr
          go_wp2_with fail
          refine cF.mono ?_
          rintro e w5 ⟨rfl, f5, -⟩
          have R5 : Box w5 w.heap.size #[.int .i64 0, .int .i64 0, .int .i64 0, .int .i64 0] 28 := by unfold Box; rw [f5.block hltR (by omega)]; exact R2
          have N5 := f5.new N2 (by omega)
          clear hltR cx cx2 hix kr2 hI f5 R2 N2 cF
          have hlt := R5.lt
          obtain ⟨e0, e1, e2, e3⟩ := R5.four
          have u0 := R5.unfrozen 0
          have u1 := R5.unfrozen 1
          have u2 := R5.unfrozen 2
          have u3 := R5.unfrozen 3
          go_wp2
          refine bodyPost_ret (v := pv none) (by simp [results, pv, Tryz.results13, go_sem, e0, e1, e2, e3]) rfl ⟨?_, by repeat (first | exact N5 | refine New.setCell ?_ (Nat.le_refl _) _)⟩
          rw [← hf]; rfl
      · obtain rfl : j = N.length := by omega
        obtain ⟨a, b, m⟩ := y
        have I2 : Ins wr X F a b m := hI
        have hfl : flBy numP N r (0, 0, 0) = some (a, b, m) := by rw [← hf, List.drop_length]; rfl
        clear hI hf kr2
        have hge : ¬ (N.length : Int) < (N.length : Int) := by omega
        have hlt := R2.lt
        obtain ⟨e0, e1, e2, e3⟩ := R2.four
        have u0 := R2.unfrozen 0
        have u1 := R2.unfrozen 1
        have u2 := R2.unfrozen 2
        have u3 := R2.unfrozen 3
        obtain ⟨i0, i1, i2, i3⟩ := Box.four I2
        have hXl := I2.lt
        by_cases hok : InOk (F : Int) a b m
        · have cC := fun W => icheck_ok (F : Int) a b m W hok
          go_wp2_with fail
          refine (cC _).mono ?_
          rintro e w5 ⟨rfl, n5⟩
          have R5 := R2.new n5
          have I5 := Box.new I2 n5
          have N5 := N2.trans n5
          clear e0 e1 e2 e3 u0 u1 u2 u3 i0 i1 i2 i3 hlt hXl
          have hlt := R5.lt
          obtain ⟨e0, e1, e2, e3⟩ := R5.four
          have u0 := R5.unfrozen 0
          have u1 := R5.unfrozen 1
          have u2 := R5.unfrozen 2
          have u3 := R5.unfrozen 3
          obtain ⟨i0, i1, i2, i3⟩ := Box.four I5
          have hXl := I5.lt
          go_wp2
          refine bodyPost_ret (v := .tuple #[.agg #[.int .i64 F, .int .i64 a, .int .i64 b, .int .i64 m], .nilIface]) (by simp [results, Tryz.results13, go_sem, e0, e1, e2, e3]) rfl ⟨?_, by repeat (first | exact N5 | refine New.setCell ?_ (Nat.le_refl _) _)⟩
          rw [hfl, chk_ok hok]; rfl
        · have cC := fun W => icheck_no (F : Int) a b m W hok
          go_wp2_with fail
          refine (cC _).mono ?_
          rintro e w5 ⟨rfl, n5⟩
          have R5 := R2.new n5
          have N5 := N2.trans n5
          clear e0 e1 e2 e3 u0 u1 u2 u3 i0 i1 i2 i3 hlt hXl
          have hlt := R5.lt
          obtain ⟨e0, e1, e2, e3⟩ := R5.four
          have u0 := R5.unfrozen 0
          have u1 := R5.unfrozen 1
          have u2 := R5.unfrozen 2
          have u3 := R5.unfrozen 3
          go_wp2
          refine bodyPost_ret (v := pv none) (by simp [results, pv, Tryz.results13, go_sem, e0, e1, e2, e3]) rfl ⟨?_, by repeat (first | exact N5 | refine New.setCell ?_ (Nat.le_refl _) _)⟩
          rw [hfl, chk_no hok]
/-- asm.Parse, of any text of 2^32 bytes at most -/
theorem parse_any (l : List UInt8) (w : World) (hl : l.length ≤ 4294967296) (h : Env w) : Calls Tryz.prog 13 #[.string (ba l)] w fun e w' => e = .returned (pv (prs l)) ∧ New w w' := by
  cases hw : wrds l with
  | nil => 
    have e : prs l = none := by unfold prs prsBy; rw [hw]
    rw [e]; exact parse_empty l w hl h hw
  | cons w0 r =>
    have hp : prs l = if r.length = (nd (fnd w0)).length then chk (fnd w0) (flBy numP (nd (fnd w0)) r (0, 0, 0)) else none := by unfold prs prsBy; rw [hw]
    rw [hp]
    by_cases hn : r.length = (nd (fnd w0)).length
    · rw [if_pos hn]; exact parse_len_yes l w0 r w hl h hw hn
    · rw [if_neg hn]; exact parse_len_no l w0 r w hl h hw hn
end Go.Proofs.YtlpjegclpilaaaaGreatDoor
