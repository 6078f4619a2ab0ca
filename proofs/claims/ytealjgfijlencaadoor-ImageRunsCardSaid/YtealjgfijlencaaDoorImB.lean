/- Programs as bytes: rows of pages in memory; the document's May. -/
import Derived.Test.YtealjgfijlencaaDoorImA
import Derived.Test.YtealjgfijlencaaDoorRw
namespace Go.Proofs.YtealjgfijlencaaDoor
open Go.RowKit Go.Joins
set_option linter.unusedVariables false
set_option maxRecDepth 100000
/-- the document's pages as rows -/
def RSd : RTy := ⟨29, 23, 4, 48, .agg #[.int .i64 0, .int .i64 0, .int .u8 0, .slice none 0 0], Tryd.underlying23, by kernel_rfl, by kernel_rfl, by decide, by decide⟩
/-- one row tells pages -/
def SgR (w : World) (r : List Value) (s : Sg) : Prop := ∃ dv, r = [.int .i64 s.f, .int .i64 s.t, .int .u8 s.p, dv] ∧ Byts w dv s.d
/-- pages that can be read -/
def Sgs (R : RTy) (w : World) (v : Value) (L : List Sg) : Prop := ∃ rows : List (List Value), Rws R w v rows ∧ rows.length = L.length ∧ ∀ i (h : i < rows.length) (h' : i < L.length), SgR w rows[i] L[i]
/-- numbers as they may come -/
def SgsB (L : List Sg) : Prop := ∀ s ∈ L, (-9223372036854775808 ≤ s.f ∧ s.f ≤ 9223372036854775807) ∧ (-9223372036854775808 ≤ s.t ∧ s.t ≤ 9223372036854775807) ∧ (0 ≤ s.p ∧ s.p ≤ 255) ∧ ∀ x ∈ s.d, 0 ≤ x ∧ x ≤ 255
section
variable {w w' : World} {R : RTy} {v : Value} {L : List Sg}
theorem SgR.new {r : List Value} {s : Sg} (h : SgR w r s) (k : New w w') : SgR w' r s := by
  obtain ⟨dv, h1, h2⟩ := h
  exact ⟨dv, h1, h2.new k⟩
theorem Sgs.new (h : Sgs R w v L) (k : New w w') : Sgs R w' v L := by
  obtain ⟨rows, h1, h2, h3⟩ := h
  exact ⟨rows, h1.new k, h2, fun i a b => (h3 i a b).new k⟩
theorem Sgs.shape (h : Sgs R w v L) : ∃ p cap, v = .slice p L.length cap ∧ L.length ≤ cap ∧ cap ≤ maxLen := by
  obtain ⟨rows, h1, h2, h3⟩ := h
  obtain ⟨p, cap, k1, k2, k3⟩ := h1.shape
  rw [h2] at k1 k2
  exact ⟨p, cap, k1, k2, k3⟩
theorem Sgs.cells {p : Option Addr} {n cap : Nat} (h : Sgs R w (.slice p n cap) L) (hR : R.c = 4) (i : Nat) (hi : i < L.length) : ∃ a q c, p = some a ∧ w.cell? (a.add (i * 4)) = some (.int .i64 L[i].f) ∧ w.cell? (a.add (i * 4 + 1)) = some (.int .i64 L[i].t) ∧ w.cell? (a.add (i * 4 + 2)) = some (.int .u8 L[i].p) ∧ w.cell? (a.add (i * 4 + 3)) = some (.slice q L[i].d.length c) ∧ Byts w (.slice q L[i].d.length c) L[i].d := by
  obtain ⟨rows, h1, h2, h3⟩ := h
  have hr : i < rows.length := by omega
  obtain ⟨dv, hd, hb⟩ := h3 i hr hi
  obtain ⟨q, c, rfl, -⟩ := id hb
  have g0 := h1.at_ i 0 hr (.int .i64 L[i].f) (by rw [hd]; rfl)
  have g1 := h1.at_ i 1 hr (.int .i64 L[i].t) (by rw [hd]; rfl)
  have g2 := h1.at_ i 2 hr (.int .u8 L[i].p) (by rw [hd]; rfl)
  have g3 := h1.at_ i 3 hr (.slice q L[i].d.length c) (by rw [hd]; rfl)
  rw [hR] at g0 g1 g2 g3
  obtain ⟨a, rfl, k0⟩ := g0
  obtain ⟨a1, e1, k1⟩ := g1
  obtain ⟨a2, e2, k2⟩ := g2
  obtain ⟨a3, e3, k3⟩ := g3
  cases e1; cases e2; cases e3
  exact ⟨a, q, c, rfl, k0, k1, k2, k3, hb⟩
end
theorem fad (x : Addr) (k f : Nat) (hf : f ≠ 0) : x.add (k + f) = ⟨(x.add k).block, (x.add k).off + f, none⟩ := by
  rw [← Go.Deep.add_add]
  generalize x.add k = y
  simp [Addr.add, hf]
/-! plain facts on prefixes -/
def lastT : Int → List Sg → Int
  | last, [] => last
  | _, s :: r => lastT s.t r
theorem chOk_app : ∀ (A B : List Sg) (last : Int), chOk last (A ++ B) = (chOk last A && chOk (lastT last A) B)
  | [], B, last => by show chOk last B = (true && chOk last B); simp
  | s :: r, B, last => by
    show (sgOk last s && chOk s.t (r ++ B)) = ((sgOk last s && chOk s.t r) && chOk (lastT s.t r) B)
    rw [chOk_app r B s.t, Bool.and_assoc]
theorem lastT_push : ∀ (A : List Sg) (s : Sg) (last : Int), lastT last (A ++ [s]) = s.t
  | [], s, last => rfl
  | x :: r, s, last => lastT_push r s x.t
def runOne (pg : Int) (s : Sg) : Bool := decide (4 ≤ s.p) && decide (s.f ≤ pg) && decide (pg < s.t)
theorem runsB_push (pg : Int) : ∀ (A : List Sg) (s : Sg), runsB pg (A ++ [s]) = (runsB pg A || runOne pg s)
  | [], s => by show (runOne pg s || false) = (false || runOne pg s); simp
  | x :: r, s => by
    show (runOne pg x || runsB pg (r ++ [s])) = ((runOne pg x || runsB pg r) || runOne pg s)
    rw [runsB_push pg r s, Bool.or_assoc]
theorem take_push {α : Type} (L : List α) (j : Nat) (hj : j < L.length) : L.take (j + 1) = L.take j ++ [L[j]] := by
  rw [List.take_add_one, List.getElem?_eq_getElem hj]; rfl
theorem chOk_bad {L : List Sg} (j : Nat) (hj : j < L.length) (h : sgOk (lastT 0 (L.take j)) L[j] = false) : chOk 0 L = false := by
  have e : L = L.take j ++ (L[j] :: L.drop (j + 1)) := by rw [← List.drop_eq_getElem_cons hj, List.take_append_drop]
  rw [e, chOk_app]
  show (_ && (sgOk _ L[j] && _)) = false
  rw [h]; simp
theorem imOk_bad {e : Int} {L : List Sg} (h : chOk 0 L = false) : imOk e L = false := by unfold imOk; rw [h]; simp
set_option maxHeartbeats 8000000 in
theorem rmay21 {w : World} {v : Value} {L : List Sg} (h : Sgs RSd w v L) (hb : SgsB L) (e : Int) (he : 0 ≤ e ∧ e ≤ 4294967295) : Calls Tryd.prog 16 #[.agg #[.int .u32 e, v]] w fun en w' => en = .returned (.bool (imOk e L)) ∧ New w w' := by
  obtain ⟨p, cap, rfl, hcap, hm⟩ := h.shape
  unfold maxLen at hm
  obtain ⟨W, hW⟩ : ∃ W, W = w.alloc (.cells #[.int .u32 e, .slice p L.length cap] 25) := ⟨_, rfl⟩
  have nW : New w W := by rw [hW]; exact (New.refl w).alloc _ _
  have bI : Box W w.heap.size #[.int .u32 e, .slice p L.length cap] 25 := by rw [hW]; exact Box.here _ _ _ _ rfl
  have HS := Lib.hid (h.new nW)
  have HB := Lib.hid hb
  have NW := Lib.hid nW
  have BI := Lib.hid bI
  obtain ⟨i0, i1⟩ := bI.two
  have e4 : e.tmod 4 = e % 4 := Int.tmod_eq_emod_of_nonneg he.1
  clear h hb nW bI
  by_cases c1 : L.length < 1
  · have E := Lib.hid (show imOk e L = false by unfold imOk; rw [decide_eq_false (show ¬ 1 ≤ L.length by omega)]; simp)
    have c1' : (L.length : Int) < 1 := by omega
    go_enter Tryd.func16, Tryd.ntmps16
    go_upto_region 1 with fail
    rw [← hW]
    clear hW
    go_wp2
    go_ret
    exact ⟨ret_bool E.out.symm, NW.out⟩
  · by_cases c2 : 8 < L.length
    · have E := Lib.hid (show imOk e L = false by unfold imOk; rw [decide_eq_false (show ¬ L.length ≤ 8 by omega)]; simp)
      have c2' : (8 : Int) < (L.length : Int) := by omega
      have c1' : ¬ (L.length : Int) < 1 := by omega
      go_enter Tryd.func16, Tryd.ntmps16
      go_upto_region 1 with fail
      rw [← hW]
      clear hW
      go_wp2
      go_ret
      exact ⟨ret_bool E.out.symm, NW.out⟩
    · have c2' : ¬ (8 : Int) < (L.length : Int) := by omega
      have c1' : ¬ (L.length : Int) < 1 := by omega
      by_cases c3 : e % 4 = 0
      · have HC := Lib.hid (And.intro c1 (And.intro c2 c3))
        have HL8 : L.length ≤ 8 := by omega
        generalize hln : L.length = ln at *
        have HLN := Lib.hid hln
        clear c1 c2 hln
        go_enter Tryd.func16, Tryd.ntmps16
        go_upto_region 1 with fail
        rw [← hW]
        clear hW
        go_wp2_with fail
        go_loopg [3, 4, 5] ln (fun q rv lv kv wr => ∃ j : Nat, j + q = ln ∧ kv = .int .i64 (j : Int) ∧ (∃ last, lv = .int .i64 last ∧ last = lastT 0 (L.take j) ∧ 0 ≤ last ∧ last ≤ 4080) ∧ (∃ rb, rv = .bool rb ∧ rb = runsB (e / 256) (L.take j)) ∧ chOk 0 (L.take j) = true ∧ New W wr)
        case atStart => exact ⟨0, by omega, rfl, ⟨0, rfl, rfl, by omega, by omega⟩, ⟨false, rfl, rfl⟩, rfl, New.refl _⟩
        case round =>
          obtain ⟨j, hj, rfl, ⟨last, rfl, hlast, hl0, hl1⟩, ⟨rb, rfl, hrb⟩, hch, hn⟩ := hrel
          have J := Lib.hid hj
          have HLA := Lib.hid hlast
          have HRB := Lib.hid hrb
          have HCH := Lib.hid hch
          have HN := Lib.hid hn
          obtain ⟨k0, k1⟩ := (BI.out.new hn).two
          have lb := (BI.out.new hn).lt
          by_cases c : j < ln
          · have hjL : j < L.length := by rw [HLN.out]; exact c
            obtain ⟨a, q, cq, rfl, d0, d1, d2, d3, db⟩ := (HS.out.new hn).cells rfl j hjL
            obtain ⟨hbf, hbt, hbp, hbd⟩ := HB.out _ (List.getElem_mem hjL)
            rw [fad a (j * 4) 1 (by omega)] at d1
            rw [fad a (j * 4) 2 (by omega)] at d2
            rw [fad a (j * 4) 3 (by omega)] at d3
            have HP := Lib.hid (take_push L j hjL)
            obtain ⟨sj, hsj⟩ : ∃ sj, sj = L[j] := ⟨_, rfl⟩
            rw [← hsj] at d0 d1 d2 d3 hbf hbt hbp
            have HSJ := Lib.hid hsj.symm
            obtain ⟨f, t, pp, d⟩ := sj
            dsimp only at *
            have hdl : d.length ≤ 9223372036854775807 := by obtain ⟨p2, c2, e2, hc2, -⟩ := db; have := hc2.2; unfold maxLen at this; rw [← hsj] at hc2; dsimp only at hc2; omega
            have t4 : decide ((j : Int) < (ln : Int)) = true := decide_eq_true (by omega)
            have t5 : decide (j < ln) = true := decide_eq_true c
            have BAD := Lib.hid (fun (h : f < last ∨ t ≤ f ∨ 4080 < t ∨ 7 < pp ∨ (65535 : Int) < (d.length : Int) ∨ 256 * (t - f) < (d.length : Int)) => imOk_bad (e := e) (chOk_bad j hjL (by
              rw [← HLA.out, HSJ.out, ← Bool.not_eq_true]
              unfold sgOk
              intro c
              simp only [Bool.not_eq_true', Bool.or_eq_false_iff, decide_eq_false_iff_not] at c
              omega)))
            have GOOD := Lib.hid (fun (h : ¬ (f < last ∨ t ≤ f ∨ 4080 < t ∨ 7 < pp ∨ (65535 : Int) < (d.length : Int) ∨ 256 * (t - f) < (d.length : Int))) => show chOk 0 (L.take (j + 1)) = true by
              rw [HP.out, chOk_app, HCH.out, ← HLA.out, HSJ.out]
              show (true && (sgOk last _ && true)) = true
              unfold sgOk
              simp only [Bool.true_and, Bool.and_true, Bool.not_eq_true', Bool.or_eq_false_iff, decide_eq_false_iff_not]
              omega)
            have NEXT := Lib.hid (show lastT 0 (L.take (j + 1)) = t by rw [HP.out, lastT_push, HSJ.out])
            have RUN := Lib.hid (show runsB (e / 256) (L.take (j + 1)) = (rb || (decide (4 ≤ pp) && decide (f ≤ e / 256) && decide (e / 256 < t))) by rw [HP.out, runsB_push, ← HRB.out, HSJ.out]; rfl)
            clear hj hlast hrb hch hn db hbd hsj
            generalize d.length = dl at *
            by_cases b1 : f < last
            · go_wp2
              go_ret
              exact ⟨ret_bool (BAD.out (.inl b1)).symm, NW.out.trans (HN.out.alloc _ _)⟩
            · by_cases b2 : t ≤ f
              · go_wp2
                go_ret
                exact ⟨ret_bool (BAD.out (.inr (.inl b2))).symm, NW.out.trans (HN.out.alloc _ _)⟩
              · by_cases b3 : 4080 < t
                · go_wp2
                  go_ret
                  exact ⟨ret_bool (BAD.out (.inr (.inr (.inl b3)))).symm, NW.out.trans (HN.out.alloc _ _)⟩
                · by_cases b4 : 7 < pp
                  · go_wp2
                    go_ret
                    exact ⟨ret_bool (BAD.out (.inr (.inr (.inr (.inl b4))))).symm, NW.out.trans (HN.out.alloc _ _)⟩
                  · by_cases b5 : (65535 : Int) < (dl : Int)
                    · go_wp2
                      go_ret
                      exact ⟨ret_bool (BAD.out (.inr (.inr (.inr (.inr (.inl b5)))))).symm, NW.out.trans (HN.out.alloc _ _)⟩
                    · by_cases b6 : 256 * (t - f) < (dl : Int)
                      · go_wp2
                        go_ret
                        exact ⟨ret_bool (BAD.out (.inr (.inr (.inr (.inr (.inr b6)))))).symm, NW.out.trans (HN.out.alloc _ _)⟩
                      · have GD := Lib.hid (GOOD.out (by omega))
                        have W2 : 0 ≤ t ∧ t ≤ 4080 := by omega
                        cases rb with
                        | true =>
                          have RU := Lib.hid (show true = runsB (e / 256) (L.take (j + 1)) by rw [RUN.out]; rfl)
                          clear RUN BAD GOOD
                          go_wp2_with fail
                          go_roundg (ln - (j + 1))
                          case measure => have := J.out; omega
                          case rel => exact ⟨j + 1, by have := J.out; omega, by go_num, ⟨t, rfl, NEXT.out.symm, by omega, by omega⟩, ⟨true, rfl, RU.out⟩, GD.out, HN.out.alloc _ _⟩
                        | false =>
                          by_cases r1 : 4 ≤ pp
                          · by_cases r2 : f ≤ e / 256
                            · by_cases r3 : e / 256 < t
                              · have RU := Lib.hid (show true = runsB (e / 256) (L.take (j + 1)) by rw [RUN.out, decide_eq_true r1, decide_eq_true r2, decide_eq_true r3]; rfl)
                                clear RUN BAD GOOD
                                go_wp2_with fail
                                go_roundg (ln - (j + 1))
                                case measure => have := J.out; omega
                                case rel => exact ⟨j + 1, by have := J.out; omega, by go_num, ⟨t, rfl, NEXT.out.symm, by omega, by omega⟩, ⟨_, rfl, RU.out⟩, GD.out, HN.out.alloc _ _⟩
                              · have RU := Lib.hid (show false = runsB (e / 256) (L.take (j + 1)) by rw [RUN.out, decide_eq_true r1, decide_eq_true r2, decide_eq_false r3]; rfl)
                                clear RUN BAD GOOD
                                go_wp2_with fail
                                go_roundg (ln - (j + 1))
                                case measure => have := J.out; omega
                                case rel => exact ⟨j + 1, by have := J.out; omega, by go_num, ⟨t, rfl, NEXT.out.symm, by omega, by omega⟩, ⟨_, rfl, RU.out⟩, GD.out, HN.out.alloc _ _⟩
                            · have RU := Lib.hid (show false = runsB (e / 256) (L.take (j + 1)) by rw [RUN.out, decide_eq_true r1, decide_eq_false r2]; simp)
                              clear RUN BAD GOOD
                              go_wp2_with fail
                              go_roundg (ln - (j + 1))
                              case measure => have := J.out; omega
                              case rel => exact ⟨j + 1, by have := J.out; omega, by go_num, ⟨t, rfl, NEXT.out.symm, by omega, by omega⟩, ⟨_, rfl, RU.out⟩, GD.out, HN.out.alloc _ _⟩
                          · have RU := Lib.hid (show false = runsB (e / 256) (L.take (j + 1)) by rw [RUN.out, decide_eq_false r1]; simp)
                            clear RUN BAD GOOD
                            go_wp2_with fail
                            go_roundg (ln - (j + 1))
                            case measure => have := J.out; omega
                            case rel => exact ⟨j + 1, by have := J.out; omega, by go_num, ⟨t, rfl, NEXT.out.symm, by omega, by omega⟩, ⟨_, rfl, RU.out⟩, GD.out, HN.out.alloc _ _⟩
          · obtain rfl : j = ln := by omega
            have ec : chOk 0 L = true := by rw [← HCH.out, List.take_of_length_le (by rw [HLN.out]; exact Nat.le_refl _)]
            have er : rb = runsB (e / 256) L := by rw [HRB.out, List.take_of_length_le (by rw [HLN.out]; exact Nat.le_refl _)]
            have E := Lib.hid (show imOk e L = rb by
              unfold imOk
              rw [decide_eq_true (show 1 ≤ L.length by have := HC.out.1; have := HLN.out; omega), decide_eq_true (show L.length ≤ 8 by rw [HLN.out]; exact HL8), decide_eq_true HC.out.2.2, ec, ← er]
              simp)
            clear hj hlast hrb hch hn ec er
            go_wp2
            go_ret
            exact ⟨ret_bool E.out.symm, NW.out.trans HN.out⟩
      · have E := Lib.hid (show imOk e L = false by unfold imOk; rw [decide_eq_false c3]; simp)
        have c3b : ((e % 4) == (0 : Int)) = false := by simpa using c3
        have c3d : ((e % 4) != (0 : Int)) = true := by rw [bne_iff_ne]; exact c3
        clear c3b
        go_enter Tryd.func16, Tryd.ntmps16
        go_upto_region 1 with fail
        rw [← hW]
        clear hW
        go_wp2
        go_ret
        exact ⟨ret_bool E.out.symm, NW.out⟩
end Go.Proofs.YtealjgfijlencaaDoor
