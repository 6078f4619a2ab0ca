/- Programs as bytes, the package's: which pages may be, where a program may begin, Check. -/
import Derived.Test.YtealjgfijlencaaDoorImF
import Derived.Deep.LoopGhost
namespace Go.Proofs.YtealjgfijlencaaDoor
open Go.RowKit Go.Joins
set_option linter.unusedVariables false
set_option maxRecDepth 100000
theorem sgOk_zero (s : Sg) : sgOk 0 s = true ↔ (0 ≤ s.f ∧ s.f < s.t ∧ s.t ≤ 4080 ∧ s.p ≤ 7 ∧ (s.d.length : Int) ≤ 65535 ∧ (s.d.length : Int) ≤ 256 * (s.t - s.f)) := by
  unfold sgOk
  simp only [Bool.not_eq_true', Bool.or_eq_false_iff, decide_eq_false_iff_not]
  omega
theorem sgOk_last (last : Int) (s : Sg) (h : 0 ≤ last) : sgOk last s = (sgOk 0 s && decide (last ≤ s.f)) := by
  rw [Bool.eq_iff_iff, Bool.and_eq_true, sgOk_zero, decide_eq_true_eq]
  unfold sgOk
  simp only [Bool.not_eq_true', Bool.or_eq_false_iff, decide_eq_false_iff_not]
  omega
set_option maxHeartbeats 4000000 in
theorem pisseg (s : Sg) {w : World} {dv : Value} (h : Byts w dv s.d) (hb : (-9223372036854775808 ≤ s.f ∧ s.f ≤ 9223372036854775807) ∧ (-9223372036854775808 ≤ s.t ∧ s.t ≤ 9223372036854775807) ∧ (0 ≤ s.p ∧ s.p ≤ 255)) :
    Calls Tryd.prog 24 #[.agg #[.int .i64 s.f, .int .i64 s.t, .int .u8 s.p, dv]] w fun en w' => en = .returned (.bool (sgOk 0 s)) ∧ New w w' := by
  obtain ⟨q, cq, rfl, hc, -⟩ := h
  obtain ⟨W, hW⟩ : ∃ W, W = w.alloc (.cells #[.int .i64 s.f, .int .i64 s.t, .int .u8 s.p, .slice q s.d.length cq] 50) := ⟨_, rfl⟩
  have nW : New w W := by rw [hW]; exact (New.refl w).alloc _ _
  have bI : Box W w.heap.size #[.int .i64 s.f, .int .i64 s.t, .int .u8 s.p, .slice q s.d.length cq] 50 := by rw [hW]; exact Box.here _ _ _ _ rfl
  have hm : s.d.length ≤ 9223372036854775807 := by unfold maxLen at hc; omega
  have BAD := Lib.hid (fun (k : ¬ (0 ≤ s.f ∧ s.f < s.t ∧ s.t ≤ 4080 ∧ s.p ≤ 7 ∧ (s.d.length : Int) ≤ 65535 ∧ (s.d.length : Int) ≤ 256 * (s.t - s.f))) => show sgOk 0 s = false by rw [← Bool.not_eq_true]; exact fun c => k ((sgOk_zero s).1 c))
  have GOOD := Lib.hid (fun (k : 0 ≤ s.f ∧ s.f < s.t ∧ s.t ≤ 4080 ∧ s.p ≤ 7 ∧ (s.d.length : Int) ≤ 65535 ∧ (s.d.length : Int) ≤ 256 * (s.t - s.f)) => (sgOk_zero s).2 k)
  generalize hok : sgOk 0 s = ok at *
  obtain ⟨f, t, p, d⟩ := s
  dsimp only at *
  generalize d.length = dl at *
  obtain ⟨i0, i1, i2, i3⟩ := bI.four
  have NW := Lib.hid nW
  clear hok hc nW bI
  by_cases b1 : f < 0
  · go_enter Tryd.func24, Tryd.ntmps24
    go_upto_region 1 with fail
    rw [← hW]
    clear hW
    go_wp2
    go_ret
    exact ⟨ret_bool (BAD.out (by omega)).symm, NW.out⟩
  · by_cases b2 : t ≤ f
    · go_enter Tryd.func24, Tryd.ntmps24
      go_upto_region 1 with fail
      rw [← hW]
      clear hW
      go_wp2
      go_ret
      exact ⟨ret_bool (BAD.out (by omega)).symm, NW.out⟩
    · by_cases b3 : 4080 < t
      · go_enter Tryd.func24, Tryd.ntmps24
        go_upto_region 1 with fail
        rw [← hW]
        clear hW
        go_wp2
        go_ret
        exact ⟨ret_bool (BAD.out (by omega)).symm, NW.out⟩
      · by_cases b4 : 7 < p
        · go_enter Tryd.func24, Tryd.ntmps24
          go_upto_region 1 with fail
          rw [← hW]
          clear hW
          go_wp2
          go_ret
          exact ⟨ret_bool (BAD.out (by omega)).symm, NW.out⟩
        · by_cases b5 : (t - f) * 256 < 65535
          · by_cases b6 : (dl : Int) ≤ (t - f) * 256
            · go_enter Tryd.func24, Tryd.ntmps24
              go_upto_region 1 with fail
              rw [← hW]
              clear hW
              go_wp2
              go_ret
              exact ⟨ret_bool (GOOD.out (by omega)).symm, NW.out⟩
            · go_enter Tryd.func24, Tryd.ntmps24
              go_upto_region 1 with fail
              rw [← hW]
              clear hW
              go_wp2
              go_ret
              exact ⟨ret_bool (BAD.out (by omega)).symm, NW.out⟩
          · by_cases b6 : (dl : Int) ≤ 65535
            · go_enter Tryd.func24, Tryd.ntmps24
              go_upto_region 1 with fail
              rw [← hW]
              clear hW
              go_wp2
              go_ret
              exact ⟨ret_bool (GOOD.out (by omega)).symm, NW.out⟩
            · go_enter Tryd.func24, Tryd.ntmps24
              go_upto_region 1 with fail
              rw [← hW]
              clear hW
              go_wp2
              go_ret
              exact ⟨ret_bool (BAD.out (by omega)).symm, NW.out⟩
/-- may a program begin there? -/
def runP (pg : Int) (s : Sg) : Bool := decide (s.f ≤ pg) && decide (pg < s.t) && decide (s.p / 4 % 2 = 1)
theorem and_four (p : Int) (h : 0 ≤ p ∧ p ≤ 255) : bits .and .u8 p 4 = if p / 4 % 2 = 1 then 4 else 0 := by
  have key : ∀ n : Fin 256, bits .and .u8 ((n.val : Nat) : Int) 4 = if ((n.val : Nat) : Int) / 4 % 2 = 1 then 4 else 0 := by decide +kernel
  have := key ⟨p.toNat, by omega⟩
  rwa [show ((p.toNat : Nat) : Int) = p by omega] at this
set_option maxHeartbeats 4000000 in
theorem prun_clo (s : Sg) {w : World} {dv : Value} (h : Byts w dv s.d) (hp : 0 ≤ s.p ∧ s.p ≤ 255) (pg : Int) (qb : Nat) (hq : w.cell? ⟨qb, 0, none⟩ = some (.int .i64 pg)) :
    Calls Tryd.prog 31 #[.agg #[.int .i64 s.f, .int .i64 s.t, .int .u8 s.p, dv], .pointer (some ⟨qb, 0, none⟩)] w fun en w' => en = .returned (.bool (runP pg s)) ∧ New w w' := by
  obtain ⟨q, cq, rfl, hc, -⟩ := h
  obtain ⟨W, hW⟩ : ∃ W, W = w.alloc (.cells #[.int .i64 s.f, .int .i64 s.t, .int .u8 s.p, .slice q s.d.length cq] 50) := ⟨_, rfl⟩
  have nW : New w W := by rw [hW]; exact (New.refl w).alloc _ _
  have bI : Box W w.heap.size #[.int .i64 s.f, .int .i64 s.t, .int .u8 s.p, .slice q s.d.length cq] 50 := by rw [hW]; exact Box.here _ _ _ _ rfl
  have hq2 := nW.keeps hq
  have AF := and_four s.p hp
  obtain ⟨f, t, p, d⟩ := s
  dsimp only at *
  generalize d.length = dl at *
  obtain ⟨i0, i1, i2, i3⟩ := bI.four
  have NW := Lib.hid nW
  clear hc nW bI hq
  by_cases b1 : f ≤ pg
  · by_cases b2 : pg < t
    · by_cases b3 : p / 4 % 2 = 1
      · have E := Lib.hid (show runP pg ⟨f, t, p, d⟩ = true by unfold runP; simp only [decide_eq_true b1, decide_eq_true b2, decide_eq_true b3]; rfl)
        rw [if_pos b3] at AF
        go_enter Tryd.func31, Tryd.ntmps31
        go_upto_region 1 with fail
        rw [← hW]
        clear hW b3
        go_wp2
        go_ret
        exact ⟨ret_bool E.out.symm, NW.out⟩
      · have E := Lib.hid (show runP pg ⟨f, t, p, d⟩ = false by unfold runP; simp only [decide_eq_true b1, decide_eq_true b2, decide_eq_false b3]; rfl)
        rw [if_neg b3] at AF
        go_enter Tryd.func31, Tryd.ntmps31
        go_upto_region 1 with fail
        rw [← hW]
        clear hW b3
        go_wp2
        go_ret
        exact ⟨ret_bool E.out.symm, NW.out⟩
    · have E := Lib.hid (show runP pg ⟨f, t, p, d⟩ = false by unfold runP; simp only [decide_eq_true b1, decide_eq_false b2]; rfl)
      go_enter Tryd.func31, Tryd.ntmps31
      go_upto_region 1 with fail
      rw [← hW]
      clear hW
      go_wp2
      go_ret
      exact ⟨ret_bool E.out.symm, NW.out⟩
  · have E := Lib.hid (show runP pg ⟨f, t, p, d⟩ = false by unfold runP; simp only [decide_eq_false b1]; rfl)
    go_enter Tryd.func31, Tryd.ntmps31
    go_upto_region 1 with fail
    rw [← hW]
    clear hW
    go_wp2
    go_ret
    exact ⟨ret_bool E.out.symm, NW.out⟩
/-- the first page's place where a program may begin, or -1 -/
def fiS (g : Sg → Bool) : List Sg → Int
  | [] => -1
  | r :: l => if g r = true then 0 else if fiS g l < 0 then -1 else fiS g l + 1
theorem fiS_cons (g : Sg → Bool) (r : Sg) (l : List Sg) : fiS g (r :: l) = if g r = true then 0 else if fiS g l < 0 then -1 else fiS g l + 1 := rfl
theorem fiS_at (g : Sg → Bool) : ∀ (l : List Sg) (j : Nat) (hj : j < l.length), (∀ i (hi : i < l.length), i < j → g l[i] = false) → g l[j] = true → fiS g l = j
  | [], j, hj, _, _ => absurd hj (Nat.not_lt_zero _)
  | r :: l, 0, _, _, h => by unfold fiS; rw [if_pos (by simpa using h)]; rfl
  | r :: l, j + 1, hj, h1, h2 => by
    have h0 := h1 0 (by simp) (by omega)
    have ih := fiS_at g l j (by simpa using hj) (fun i hi hij => h1 (i + 1) (by simpa using hi) (by omega)) (by simpa using h2)
    unfold fiS
    rw [if_neg (by simpa using h0), ih, if_neg (by omega)]; omega
theorem fiS_none (g : Sg → Bool) : ∀ (l : List Sg), (∀ r ∈ l, g r = false) → fiS g l = -1
  | [], _ => rfl
  | r :: l, h => by
    unfold fiS
    rw [if_neg (by rw [h r List.mem_cons_self]; simp), fiS_none g l fun s hs => h s (List.mem_cons_of_mem _ hs), if_pos (by omega)]
theorem fiS_any (g : Sg → Bool) (l : List Sg) : decide (0 ≤ fiS g l) = l.any g := by
  induction l with
  | nil => rfl
  | cons r l ih =>
    rw [List.any_cons, ← ih, fiS_cons]
    by_cases c : g r = true
    · rw [if_pos c, c]; rfl
    · rw [if_neg c, (by simpa using c : g r = false), Bool.false_or]
      by_cases d : fiS g l < 0
      · rw [if_pos d]; rw [decide_eq_false (show ¬ (0 : Int) ≤ -1 by omega), decide_eq_false (by omega)]
      · rw [if_neg d, decide_eq_true (by omega), decide_eq_true (by omega)]
theorem fiS_lo (g : Sg → Bool) (l : List Sg) : -1 ≤ fiS g l ∧ fiS g l ≤ l.length := by
  induction l with
  | nil => exact ⟨Int.le_refl _, by show (-1 : Int) ≤ 0; omega⟩
  | cons r l ih =>
    rw [fiS_cons, List.length_cons]
    split
    · omega
    · split <;> omega
set_option maxHeartbeats 4000000 in
theorem pidx_run {w : World} {v : Value} {L : List Sg} (h : Sgs RSp w v L) (hb : SgsB L) (pg : Int) (qb : Nat) (hq : w.cell? ⟨qb, 0, none⟩ = some (.int .i64 pg)) :
    Calls Tryd.prog 37 #[v, .func (.func 31) #[] #[.pointer (some ⟨qb, 0, none⟩)]] w fun en w' => en = .returned (.int .i64 (fiS (runP pg) L)) ∧ New w w' := by
  obtain ⟨p, cap, rfl, hc, hm⟩ := h.shape
  have HS := Lib.hid h
  have HB := Lib.hid hb
  have HQ := Lib.hid hq
  have hlB : L.length ≤ 9223372036854775807 := by unfold maxLen at hm; omega
  generalize hln : L.length = ln at *
  have HLN := Lib.hid hln
  clear h hc hm hb hq hln
  go_enter Tryd.func37, Tryd.ntmps37
  go_wp2
  go_loopg [8] ln (fun k i wr => ∃ j : Nat, j + k = ln ∧ i = .int .i64 (j : Int) ∧ New w wr ∧ ∀ i (h : i < L.length), i < j → runP pg L[i] = false)
  case atStart => exact ⟨0, by omega, rfl, New.refl _, fun i _ h => absurd h (Nat.not_lt_zero _)⟩
  case round =>
    obtain ⟨j, hj, rfl, hn, hok⟩ := hrel
    have HO := Lib.hid hok
    have HN := Lib.hid hn
    have J := Lib.hid hj
    by_cases c : j < ln
    · have hjL : j < L.length := by rw [HLN.out]; exact c
      obtain ⟨a, q, cq, rfl, d0, d1, d2, d3, db⟩ := (HS.out.new hn).cells rfl j hjL
      have hp := (HB.out _ (List.getElem_mem hjL)).2.2.1
      have qf := prun_clo L[j] db hp pg qb (hn.keeps HQ.out)
      obtain ⟨sj, hsj⟩ : ∃ sj, sj = L[j] := ⟨_, rfl⟩
      have HSJ := Lib.hid hsj
      rw [← hsj] at d0 d1 d2 d3 qf
      rw [fad a (j * 4) 1 (by omega)] at d1
      rw [fad a (j * 4) 2 (by omega)] at d2
      rw [fad a (j * 4) 3 (by omega)] at d3
      clear hok hn hj hsj db hp
      cases hg : runP pg sj with
      | true =>
        rw [hg] at qf
        have HG := Lib.hid hg
        obtain ⟨f, t, pp, d⟩ := sj
        dsimp only at *
        generalize d.length = dl at *
        clear hg
        go_wp2_with (go_at_call 31; (with_reducible refine qf.mono ?_); rintro e wz ⟨rfl, hny⟩)
        go_ret
        refine ⟨Eq.trans ?_ (congrArg (fun z => Ending.returned (.int .i64 z)) (fiS_at _ L j hjL HO.out (by rw [← HSJ.out]; exact HG.out)).symm), HN.out.trans hny⟩
        rfl
      | false =>
        rw [hg] at qf
        have HG := Lib.hid hg
        obtain ⟨f, t, pp, d⟩ := sj
        dsimp only at *
        generalize d.length = dl at *
        clear hg
        go_wp2_with (go_at_call 31; (with_reducible refine qf.mono ?_); rintro e wz ⟨rfl, hny⟩)
        go_roundg (ln - (j + 1))
        case measure => have := J.out; omega
        case rel =>
          refine ⟨j + 1, by have := J.out; omega, by go_num, HN.out.trans hny, fun q hq hqj => ?_⟩
          by_cases e : q < j
          · exact HO.out q hq e
          · obtain rfl : q = j := by omega
            rw [← HSJ.out]; exact HG.out
    · obtain rfl : j = ln := by omega
      have E0 := Lib.hid (show fiS (runP pg) L = -1 from fiS_none _ L fun r hr => by
        obtain ⟨i, hi, rfl⟩ := List.getElem_of_mem hr
        exact hok i hi (by rw [HLN.out] at hi; exact hi))
      clear hok hn hj
      go_wp2
      go_ret
      exact ⟨Eq.trans rfl (congrArg (fun z => Ending.returned (.int .i64 z)) E0.out.symm), HN.out⟩
theorem pcontains {w : World} {v : Value} {L : List Sg} (h : Sgs RSp w v L) (hb : SgsB L) (pg : Int) (qb : Nat) (hq : w.cell? ⟨qb, 0, none⟩ = some (.int .i64 pg)) :
    Calls Tryd.prog 32 #[v, .func (.func 31) #[] #[.pointer (some ⟨qb, 0, none⟩)]] w fun en w' => en = .returned (.bool (L.any (runP pg))) ∧ New w w' := by
  have c := pidx_run h hb pg qb hq
  rw [← fiS_any]
  have lo := fiS_lo (runP pg) L
  generalize fiS (runP pg) L = x at *
  obtain ⟨p, cap, rfl, hc, hm⟩ := h.shape
  clear h hb hq
  by_cases k : 0 ≤ x
  · rw [decide_eq_true k]
    go_enter Tryd.func32, Tryd.ntmps32
    go_wp2_with fail
    refine c.mono ?_
    rintro e w1 ⟨rfl, n1⟩
    go_wp2
    go_ret
    exact ⟨rfl, n1⟩
  · rw [decide_eq_false k]
    go_enter Tryd.func32, Tryd.ntmps32
    go_wp2_with fail
    refine c.mono ?_
    rintro e w1 ⟨rfl, n1⟩
    go_wp2
    go_ret
    exact ⟨ret_bool (decide_eq_false (by omega)), n1⟩
set_option maxHeartbeats 4000000 in
theorem pmaybegin {w : World} {v : Value} {L : List Sg} (h : Sgs RSp w v L) (hb : SgsB L) (e : Int) (he : 0 ≤ e ∧ e ≤ 4294967295) :
    Calls Tryd.prog 23 #[.agg #[.int .u32 e, v]] w fun en w' => en = .returned (.bool (decide (e % 4 = 0) && L.any (runP (e / 256)))) ∧ New w w' := by
  obtain ⟨p, cap, rfl, hcap, hm⟩ := h.shape
  obtain ⟨W, hW⟩ : ∃ W, W = (w.alloc (.cells #[.int .u32 e, .slice p L.length cap] 36)).alloc (.cells #[.int .i64 (e / 256)] 3) := ⟨_, rfl⟩
  have nW : New w W := by rw [hW]; exact ((New.refl w).alloc _ _).alloc _ _
  have bI : Box W w.heap.size #[.int .u32 e, .slice p L.length cap] 36 := by rw [hW]; exact (Box.here _ _ _ _ rfl).alloc _
  have bP : Box W (w.heap.size + 1) #[.int .i64 (e / 256)] 3 := by rw [hW]; exact Box.here _ _ _ _ (by rw [World.size_alloc])
  have q := pcontains (h.new nW) hb (e / 256) (w.heap.size + 1) bP.one
  obtain ⟨i0, i1⟩ := bI.two
  have e256 : e.tdiv 256 = e / 256 := Int.tdiv_eq_ediv_of_nonneg he.1
  have e4 : e.tmod 4 = e % 4 := Int.tmod_eq_emod_of_nonneg he.1
  have NW := Lib.hid nW
  clear h hb hcap hm nW bI bP
  generalize L.length = ln at *
  generalize L.any (runP (e / 256)) = rr at *
  by_cases c : e % 4 = 0
  · rw [decide_eq_true c, Bool.true_and]
    go_enter Tryd.func23, Tryd.ntmps23
    go_upto_region 2 with fail
    rw [← hW]
    clear hW
    go_wp2_with (go_at_call 32; (with_reducible refine q.mono ?_); rintro e1 wz ⟨rfl, hny⟩)
    go_ret
    exact ⟨rfl, NW.out.trans hny⟩
  · rw [decide_eq_false c, Bool.false_and]
    have cb : ((e % 4) == (0 : Int)) = false := by simpa using c
    go_enter Tryd.func23, Tryd.ntmps23
    go_upto_region 2 with fail
    rw [← hW]
    clear hW
    go_wp2
    go_ret
    exact ⟨rfl, NW.out⟩
end Go.Proofs.YtealjgfijlencaaDoor
