/- The document's open files: With. -/
import Derived.Test.YtpapicnkhjcjoaaDoorFiB
namespace Go.Proofs.YtpapicnkhjcjoaaDoor
open Go.RowKit
set_option linter.unusedVariables false
set_option maxRecDepth 100000
theorem lwith_push (A : Ft) (q : Int × Fl) (n : Int) (f : Fl) : lwith (A ++ [q]) n f = lwith A n f ++ (if q.1 = n then (if 0 < f.rf then [(n, f)] else []) else [q]) := by
  induction A with
  | nil =>
    show (if _ then _ else _) = _
    by_cases c : q.1 = n
    · rw [if_pos c, if_pos c]
      split <;> rfl
    · rw [if_neg c, if_neg c]; rfl
  | cons x r ih =>
    rw [List.cons_append]
    show (if _ then _ else _) = (if _ then _ else _) ++ _
    rw [ih]
    by_cases c : x.1 = n
    · rw [if_pos c, if_pos c]
      split <;> simp
    · rw [if_neg c, if_neg c, List.cons_append]
theorem lwith_len (A : Ft) (n : Int) (f : Fl) : (lwith A n f).length ≤ A.length := by
  induction A with
  | nil => exact Nat.le_refl _
  | cons x r ih =>
    show (if _ then _ else _ : Ft).length ≤ _
    split
    · split
      · simpa using ih
      · simp; omega
    · simpa using ih
theorem rtb_info : (Tryd.prog.info? 44).map (·.size) = some 2 := by kernel_rfl
theorem Box.rtb {w : World} {g : Nat} {y0 y1 : Value} (h : Box w g #[y0, y1] 44) : (loadVar 44 ⟨g, 0, none⟩).run Tryd.prog w = .ok (.agg #[y0, y1]) w :=
  run_loadVar_mid w _ 0 _ [y0, y1] _ (fun j v hv => by rw [Nat.zero_add, h.cell j]; simpa using hv) Tryd.underlying44 rfl rtb_info
theorem it_flat (q : Int × Fl) : [itC q].flatten = [.int .i64 q.1, .int .i64 q.2.k, .int .i64 q.2.id, .int .i64 q.2.off, .bool q.2.rd, .bool q.2.wt, .string (ba q.2.nm), .int .i64 q.2.rf] := rfl
/-- one item just laid -/
theorem it_laid (w : World) (q : Int × Fl) : Rws RIt (w.alloc (.cells #[.int .i64 q.1, .int .i64 q.2.k, .int .i64 q.2.id, .int .i64 q.2.off, .bool q.2.rd, .bool q.2.wt, .string (ba q.2.nm), .int .i64 q.2.rf] 82)) (.slice (some ⟨w.heap.size, 0, none⟩) 1 1) [itC q] :=
  Rws.single (it_wf [q] _ (by simp)).1 (it_wf [q] _ (by simp)).2 (heap_alloc_new w _)
section
variable {w w' : World} {u : Value} {L : Ft} {most : Int}
set_option maxHeartbeats 8000000 in
theorem rfwith_any (h : Its w u L) (hl : L.length ≤ 100000) (n : Int) (f : Fl) : Calls Tryd.prog 29 #[DtV most u, .int .i64 n, FlV f] w fun e w' => ∃ u', e = .returned (DtV most u') ∧ OwnW RIt w.heap.size w' u' ((lwith L n f).map itC) ∧ New w w' := by
  have H := Lib.hid h
  obtain ⟨p, cap, rfl, h1, h2⟩ := h.shape
  unfold maxLen at h2
  obtain ⟨E, hE⟩ : ∃ E, E = ((w.alloc (.cells #[.int .i64 most, .slice p L.length cap] 44)).alloc (.cells #[.int .i64 f.k, .int .i64 f.id, .int .i64 f.off, .bool f.rd, .bool f.wt, .string (ba f.nm), .int .i64 f.rf] 45)).alloc (.cells #[.int .i64 0, .slice none 0 0] 44) := ⟨_, rfl⟩
  have n0 : New w E := by rw [hE]; exact (((New.refl w).alloc _ _).alloc _ _).alloc _ _
  have bA : Box E w.heap.size #[.int .i64 most, .slice p L.length cap] 44 := by rw [hE]; exact ((Box.here w _ _ _ rfl).alloc _).alloc _
  have bB : Box E (w.heap.size + 1) #[.int .i64 f.k, .int .i64 f.id, .int .i64 f.off, .bool f.rd, .bool f.wt, .string (ba f.nm), .int .i64 f.rf] 45 := by rw [hE]; exact (Box.here _ _ _ _ (by rw [World.size_alloc])).alloc _
  have bZ : Box E (w.heap.size + 2) #[.int .i64 0, .slice none 0 0] 44 := by rw [hE]; exact Box.here _ _ _ _ (by rw [World.size_alloc, World.size_alloc])
  unfold DtV FlV at *
  clear h
  have BA := Lib.hid bA
  have BB := Lib.hid bB
  have BZ := Lib.hid bZ
  have N0 := Lib.hid n0
  have lE := bZ.lt
  have sz := n0.size
  generalize hLN : L.length = ln at *
  have HLN := Lib.hid hLN
  have HE := Lib.hid hE
  clear bA bB bZ n0 hE hLN
  go_enter Tryd.func29, Tryd.ntmps29
  go_wp2_with fail
  go_loopg [7, 8] ln (fun k acc i wr => ∃ j : Nat, j + k = ln ∧ i = .int .i64 (j : Int) ∧ OwnW RIt E.heap.size wr acc ((lwith (L.take j) n f).map itC) ∧ New E wr)
  case atStart => exact ⟨0, by omega, rfl, OwnW.nil, by rw [← HE.out]; exact New.refl _⟩
  case round =>
    obtain ⟨j, hj, rfl, ho, hn⟩ := hrel
    have J := Lib.hid hj
    have HN := Lib.hid hn
    have HO := Lib.hid ho
    have szr := hn.size
    obtain ⟨b0, b1⟩ := (BA.out.new hn).two
    have f0 := (BA.out.new hn).unfrozen 0
    have f1 := (BA.out.new hn).unfrozen 1
    obtain ⟨lb, ⟨y0, y1, y2, y3, y4, y5, y6⟩, -⟩ := (BB.out.new hn).seven
    obtain ⟨pa, ka, rfl, -, -⟩ := ho.shape
    clear ho hn
    generalize ((lwith (L.take j) n f).map itC).length = la at *
    by_cases c : j < ln
    · have d1 : decide ((j : Int) < (ln : Int)) = true := decide_eq_true (by omega)
      have d2 : decide (j < ln) = true := decide_eq_true c
      have hjl : j < L.length := by rw [HLN.out]; exact c
      have hit := H.out.new (N0.out.trans HN.out)
      obtain ⟨a, rfl, hc⟩ := hit.cell j hjl
      have C0 := hc 0 (.int .i64 L[j].1) rfl
      have C1 := hc 1 (.int .i64 L[j].2.k) rfl
      have C2 := hc 2 (.int .i64 L[j].2.id) rfl
      have C3 := hc 3 (.int .i64 L[j].2.off) rfl
      have C4 := hc 4 (.bool L[j].2.rd) rfl
      have C5 := hc 5 (.bool L[j].2.wt) rfl
      have C6 := hc 6 (.string (ba L[j].2.nm)) rfl
      have C7 := hc 7 (.int .i64 L[j].2.rf) rfl
      rw [Nat.add_zero] at C0
      rw [fld_add a (j * 8) 1 (by omega)] at C1
      rw [fld_add a (j * 8) 2 (by omega)] at C2
      rw [fld_add a (j * 8) 3 (by omega)] at C3
      rw [fld_add a (j * 8) 4 (by omega)] at C4
      rw [fld_add a (j * 8) 5 (by omega)] at C5
      rw [fld_add a (j * 8) 6 (by omega)] at C6
      rw [fld_add a (j * 8) 7 (by omega)] at C7
      have hp := lwith_push (L.take j) L[j] n f
      rw [← List.take_succ_eq_append_getElem hjl] at hp
      have hlen : (lwith (L.take j) n f).length ≤ 100000 := by have := lwith_len (L.take j) n f; rw [List.length_take] at this; omega
      have HP := Lib.hid hp
      have HLEN := Lib.hid hlen
      generalize hq : L[j] = q at *
      obtain ⟨m, g⟩ := q
      dsimp only at *
      clear hp hlen hj hc hit hq hjl
      by_cases e : m = n
      · subst e
        by_cases hr : 0 < f.rf
        · have dr : decide (0 < f.rf) = true := decide_eq_true hr
          have hpx : lwith (L.take (j + 1)) m f = lwith (L.take j) m f ++ [(m, f)] := by rw [HP.out, if_pos rfl, if_pos hr]
          have HPX := Lib.hid hpx
          have hn1 : New E (wr.alloc (.cells #[.int .i64 m, .int .i64 f.k, .int .i64 f.id, .int .i64 f.off, .bool f.rd, .bool f.wt, .string (ba f.nm), .int .i64 f.rf] 82)) := HN.out.alloc _ _
          have hs1 := it_laid wr (m, f)
          dsimp only at hs1
          have ho1 := HO.out.new ((New.refl wr).alloc #[.int .i64 m, .int .i64 f.k, .int .i64 f.id, .int .i64 f.off, .bool f.rd, .bool f.wt, .string (ba f.nm), .int .i64 f.rf] 82)
          have HN1 := Lib.hid hn1
          have HS1 := Lib.hid hs1
          have HO1 := Lib.hid ho1
          have hb1 : E.heap.size ≤ (wr.alloc (.cells #[.int .i64 m, .int .i64 f.k, .int .i64 f.id, .int .i64 f.off, .bool f.rd, .bool f.wt, .string (ba f.nm), .int .i64 f.rf] 82)).heap.size := hn1.size
          clear hpx hn1 hs1 ho1
          go_wp2_with (first
            | ((with_reducible refine at_slot 40 ?_); refine wpList_app_w (R := RIt) rfl _ _ rfl rfl rfl HO1.out rfl HS1.out (by rw [List.length_map, List.length_singleton]; have := HLEN.out; omega) hb1 ?_))
          intro v3 w3 o3 k3 x3 n3
          have O3 := Lib.hid o3
          have N3 := Lib.hid (n3 E (Nat.le_refl _) HN1.out)
          obtain ⟨p3, k4, rfl, -, -⟩ := o3.shape
          clear o3 k3 x3 n3
          go_wp2
          go_roundg (ln - (j + 1))
          case measure => have := J.out; omega
          case rel => exact ⟨j + 1, by have := J.out; omega, by go_num, by rw [HPX.out, List.map_append]; exact O3.out, N3.out⟩
        · have dr : decide (0 < f.rf) = false := decide_eq_false hr
          have hpx : lwith (L.take (j + 1)) m f = lwith (L.take j) m f := by rw [HP.out, if_pos rfl, if_neg hr, List.append_nil]
          have HPX := Lib.hid hpx
          clear hpx
          go_wp2
          go_roundg (ln - (j + 1))
          case measure => have := J.out; omega
          case rel => exact ⟨j + 1, by have := J.out; omega, by go_num, by rw [HPX.out]; exact HO.out, HN.out⟩
      · have e1 : (m == n) = false := by simpa using e
        have hpx : lwith (L.take (j + 1)) n f = lwith (L.take j) n f ++ [(m, g)] := by rw [HP.out, if_neg e]
        have HPX := Lib.hid hpx
        have hn1 : New E (wr.alloc (.cells #[.int .i64 m, .int .i64 g.k, .int .i64 g.id, .int .i64 g.off, .bool g.rd, .bool g.wt, .string (ba g.nm), .int .i64 g.rf] 82)) := HN.out.alloc _ _
        have hs1 := it_laid wr (m, g)
        dsimp only at hs1
        have ho1 := HO.out.new ((New.refl wr).alloc #[.int .i64 m, .int .i64 g.k, .int .i64 g.id, .int .i64 g.off, .bool g.rd, .bool g.wt, .string (ba g.nm), .int .i64 g.rf] 82)
        have HN1 := Lib.hid hn1
        have HS1 := Lib.hid hs1
        have HO1 := Lib.hid ho1
        have hb1 : E.heap.size ≤ (wr.alloc (.cells #[.int .i64 m, .int .i64 g.k, .int .i64 g.id, .int .i64 g.off, .bool g.rd, .bool g.wt, .string (ba g.nm), .int .i64 g.rf] 82)).heap.size := hn1.size
        clear hpx hn1 hs1 ho1
        go_wp2_with (first
          | ((with_reducible refine at_slot 31 ?_); refine wpList_app_w (R := RIt) rfl _ _ rfl rfl rfl HO1.out rfl HS1.out (by rw [List.length_map, List.length_singleton]; have := HLEN.out; omega) hb1 ?_))
        intro v3 w3 o3 k3 x3 n3
        have O3 := Lib.hid o3
        have N3 := Lib.hid (n3 E (Nat.le_refl _) HN1.out)
        obtain ⟨p3, k4, rfl, -, -⟩ := o3.shape
        clear o3 k3 x3 n3
        go_wp2
        go_roundg (ln - (j + 1))
        case measure => have := J.out; omega
        case rel => exact ⟨j + 1, by have := J.out; omega, by go_num, by rw [HPX.out, List.map_append]; exact O3.out, N3.out⟩
    · obtain rfl : j = ln := by omega
      have hfull : lwith (L.take j) n f = lwith L n f := by rw [← HLN.out, List.take_length]
      rw [hfull] at HO
      have nw := N0.out.trans HN.out
      have BZ2 := (((BZ.out.new HN.out).other (p := ⟨w.heap.size, 1, none⟩) (by show w.heap.size ≠ _; omega) (.slice pa la ka)).set 0 (.int .i64 most)).set 1 (.slice pa la ka)
      have BZ3 : Box (((wr.setCell ⟨w.heap.size, 1, none⟩ (.slice pa la ka)).setCell ⟨w.heap.size + 2, 0, none⟩ (.int .i64 most)).setCell ⟨w.heap.size + 2, 1, none⟩ (.slice pa la ka)) (w.heap.size + 2) #[.int .i64 most, .slice pa la ka] 44 := by simpa using BZ2
      have NN := ((nw.setCell (p := ⟨w.heap.size, 1, none⟩) (Nat.le_refl _) (.slice pa la ka)).setCell (p := ⟨w.heap.size + 2, 0, none⟩) (by show _ ≤ w.heap.size + 2; omega) (.int .i64 most)).setCell (p := ⟨w.heap.size + 2, 1, none⟩) (by show _ ≤ w.heap.size + 2; omega) (.slice pa la ka)
      have KB := ((But.set (S := fun g => g ≤ w.heap.size + 2) wr (p := ⟨w.heap.size, 1, none⟩) (by show w.heap.size ≤ _; omega) (.slice pa la ka)).trans (But.set (S := fun g => g ≤ w.heap.size + 2) _ (p := ⟨w.heap.size + 2, 0, none⟩) (Nat.le_refl _) (.int .i64 most))).trans (But.set (S := fun g => g ≤ w.heap.size + 2) _ (p := ⟨w.heap.size + 2, 1, none⟩) (Nat.le_refl _) (.slice pa la ka))
      have P3 := (HO.out.but KB (fun g hg c => by have := HO.out.ge hg; omega)).more (b2 := w.heap.size) (by omega)
      have END := Lib.hid (And.intro BZ3.rtb (And.intro NN P3))
      obtain ⟨lz, -, -, -⟩ := (⟨(BZ.out.new HN.out).lt, True.intro, True.intro, True.intro⟩ : w.heap.size + 2 < wr.heap.size ∧ True ∧ True ∧ True)
      obtain ⟨z0, z1⟩ := (BZ.out.new HN.out).two
      have g0 := (BZ.out.new HN.out).unfrozen 0
      have g1 := (BZ.out.new HN.out).unfrozen 1
      have la2 := (BA.out.new HN.out).lt
      clear BZ2 BZ3 NN KB P3 nw y0 y1 y2 y3 y4 y5 y6
      go_wp2
      obtain ⟨HR, NN, P3⟩ := END.out
      exact bodyPost_ret (v := .agg #[.int .i64 most, .slice pa la ka]) (by simp [results, Tryd.results29, asAddr, HR]) rfl ⟨_, rfl, P3, NN⟩
end
end Go.Proofs.YtpapicnkhjcjoaaDoor
