/- Programs as bytes, the package's: Check. -/
import Derived.Test.YtealjgfijlencaaDoorImP1
import Derived.Deep.RegionHeld3
namespace Go.Proofs.YtealjgfijlencaaDoor
open Go.RowKit Go.Joins
set_option linter.unusedVariables false
set_option maxRecDepth 100000
def imE (e : Int) (L : List Sg) : Int := if imOk e L = true then 0 else 8
def imT (e : Int) (L : List Sg) : List Int := if imOk e L = true then imB e L else []
theorem runsB_any (pg : Int) : ∀ (L : List Sg), (∀ s ∈ L, 0 ≤ s.p ∧ s.p ≤ 7) → runsB pg L = L.any (runP pg)
  | [], _ => rfl
  | s :: r, h => by
    have hs := h s List.mem_cons_self
    rw [List.any_cons, ← runsB_any pg r (fun x hx => h x (List.mem_cons_of_mem _ hx))]
    show ((decide (4 ≤ s.p) && decide (s.f ≤ pg) && decide (pg < s.t)) || runsB pg r) = _
    have e : decide (s.p / 4 % 2 = 1) = decide (4 ≤ s.p) := by
      rw [Bool.eq_iff_iff, decide_eq_true_eq, decide_eq_true_eq]; omega
    unfold runP
    rw [e]
    cases decide (4 ≤ s.p) <;> cases decide (s.f ≤ pg) <;> cases decide (pg < s.t) <;> rfl
theorem imOk_way {e : Int} {L : List Sg} (hb : SgsB L) : imOk e L = (decide (L.length ≤ 8) && (decide (e % 4 = 0) && L.any (runP (e / 256))) && chOk 0 L) := by
  unfold imOk
  cases hc : chOk 0 L with
  | false => simp
  | true =>
    have hm := fun s hs => (chOk_mem (Int.le_refl 0) hc s hs).2.2.2.1
    rw [runsB_any _ L (fun s hs => ⟨(hb s hs).2.2.1.1, hm s hs⟩)]
    cases ha : L.any (runP (e / 256)) with
    | false => simp
    | true =>
      have h1 : 1 ≤ L.length := by
        cases L with
        | nil => cases ha
        | cons x r => rw [List.length_cons]; omega
      rw [decide_eq_true h1]
      simp
theorem imE_eq {e : Int} {L : List Sg} (hb : SgsB L) : imE e L = if (decide (L.length ≤ 8) && (decide (e % 4 = 0) && L.any (runP (e / 256))) && chOk 0 L) = true then 0 else 8 := by unfold imE; rw [imOk_way hb]
theorem lastT_at (L : List Sg) (r : Nat) (h : r < L.length) : lastT 0 (L.take (r + 1)) = L[r].t := by rw [take_push L r h, lastT_push]
theorem lastT_pos : ∀ (L : List Sg) (last : Int), 0 ≤ last → chOk last L = true → 0 ≤ lastT last L
  | [], last, h, _ => h
  | s :: r, last, h, hc => by
    have hs := chOk_mem h hc s List.mem_cons_self
    show 0 ≤ lastT s.t r
    have : chOk s.t r = true := by
      have := hc
      show chOk s.t r = true
      rw [show chOk last (s :: r) = (sgOk last s && chOk s.t r) from rfl, Bool.and_eq_true] at this
      exact this.2
    exact lastT_pos r s.t (by omega) this
set_option maxHeartbeats 8000000 in
theorem pcheck_im {w : World} {v : Value} {L : List Sg} (h : Sgs RSp w v L) (hb : SgsB L) (e : Int) (he : 0 ≤ e ∧ e ≤ 4294967295) : Calls Tryd.prog 14 #[.agg #[.int .u32 e, v]] w fun en w' => en = .returned (erN (imE e L)) ∧ New w w' := by
  obtain ⟨p, cap, rfl, hcap, hm⟩ := h.shape
  obtain ⟨W, hW⟩ : ∃ W, W = w.alloc (.cells #[.int .u32 e, .slice p L.length cap] 36) := ⟨_, rfl⟩
  have nW : New w W := by rw [hW]; exact (New.refl w).alloc _ _
  have bI : Box W w.heap.size #[.int .u32 e, .slice p L.length cap] 36 := by rw [hW]; exact Box.here _ _ _ _ rfl
  have qb := fun W' (k : New W W') => pmaybegin ((h.new nW).new k) hb e he
  have HS := Lib.hid (h.new nW)
  have HB := Lib.hid hb
  have NW := Lib.hid nW
  have BI := Lib.hid bI
  have EQ := Lib.hid (imE_eq (e := e) hb)
  obtain ⟨i0, i1⟩ := bI.two
  have hlB : L.length ≤ 9223372036854775807 := by unfold maxLen at hm; omega
  generalize (decide (e % 4 = 0) && L.any (runP (e / 256))) = mb at *
  generalize hln : L.length = ln at *
  have HLN := Lib.hid hln
  clear h hb nW bI hln hcap hm
  have e8 : erN 8 = .iface 60 (.int .i64 8) := rfl
  by_cases c8 : 8 < ln
  · have E := Lib.hid (show imE e L = 8 by rw [EQ.out, decide_eq_false (by omega)]; simp)
    have c8' : (8 : Int) < (ln : Int) := by omega
    clear qb
    go_enter Tryd.func14, Tryd.ntmps14
    go_upto_region 1 with fail
    rw [← hW]
    clear hW
    go_wp2
    go_ret
    exact ⟨by rw [E.out]; rfl, NW.out⟩
  · have c8' : ¬ (8 : Int) < (ln : Int) := by omega
    cases mb with
    | false =>
      have E := Lib.hid (show imE e L = 8 by rw [EQ.out]; simp)
      go_enter Tryd.func14, Tryd.ntmps14
      go_upto_region 1 with fail
      rw [← hW]
      clear hW
      go_wp2_with fail
      refine (qb _ (New.refl W)).mono ?_
      rintro en w1 ⟨rfl, n1⟩
      go_wp2
      go_ret
      exact ⟨by rw [E.out]; rfl, NW.out.trans n1⟩
    | true =>
      have BADE := Lib.hid (fun (k : chOk 0 L = false) => show imE e L = 8 by rw [EQ.out, k]; simp)
      have GOODE := Lib.hid (fun (k : chOk 0 L = true) => show imE e L = 0 by rw [EQ.out, k, decide_eq_true (by omega)]; simp)
      go_enter Tryd.func14, Tryd.ntmps14
      go_upto_region 1 with fail
      rw [← hW]
      clear hW
      go_wp2_with fail
      refine (qb _ (New.refl W)).mono ?_
      rintro en w1 ⟨rfl, n1⟩
      have BI1 := Lib.hid (BI.out.new n1)
      have HS1 := Lib.hid (HS.out.new n1)
      have N1 := Lib.hid (NW.out.trans n1)
      obtain ⟨i0, i1⟩ := (BI.out.new n1).two
      clear qb n1
      go_wp2_with fail
      go_loopg [18] ln (fun q kv wr => ∃ j : Nat, j + q = ln ∧ kv = .int .i64 (j : Int) ∧ chOk 0 (L.take j) = true ∧ New w1 wr)
      case atStart => exact ⟨0, by omega, rfl, rfl, New.refl _⟩
      case round =>
        obtain ⟨j, hj, rfl, hch, hn⟩ := hrel
        have J := Lib.hid hj
        have HCH := Lib.hid hch
        have HN := Lib.hid hn
        obtain ⟨k0, k1⟩ := (BI1.out.new hn).two
        by_cases c : j < ln
        · have hjL : j < L.length := by rw [HLN.out]; exact c
          obtain ⟨a, q, cq, rfl, d0, d1, d2, d3, db⟩ := (HS1.out.new hn).cells rfl j hjL
          have hbs := HB.out _ (List.getElem_mem hjL)
          rw [fad a (j * 4) 1 (by omega)] at d1
          rw [fad a (j * 4) 2 (by omega)] at d2
          rw [fad a (j * 4) 3 (by omega)] at d3
          have CHB := Lib.hid (fun (k : sgOk (lastT 0 (L.take j)) L[j] = false) => BADE.out (chOk_bad j hjL k))
          have CHG := Lib.hid (fun (k : sgOk (lastT 0 (L.take j)) L[j] = true) => show chOk 0 (L.take (j + 1)) = true by
            rw [take_push L j hjL, chOk_app, HCH.out]
            show (true && (sgOk _ L[j] && true)) = true
            rw [k]; rfl)
          have LP := Lib.hid (lastT_pos (L.take j) 0 (Int.le_refl 0) HCH.out)
          have FST := Lib.hid (fun (j0 : j = 0) (k : sgOk 0 L[j] = true) => show sgOk (lastT 0 (L.take j)) L[j] = true by subst j0; exact k)
          have qs := fun W' (k : New wr W') => pisseg L[j] (db.new k) ⟨hbs.1, hbs.2.1, hbs.2.2.1⟩
          have PRV := Lib.hid (show ∀ r, j = r + 1 → ∃ t', lastT 0 (L.take j) = t' ∧ (-9223372036854775808 ≤ t' ∧ t' ≤ 9223372036854775807) ∧ wr.cell? ⟨(a.add (r * 4)).block, (a.add (r * 4)).off + 1, none⟩ = some (.int .i64 t') from fun r hr => by
            subst hr
            obtain ⟨a2, q2, cq2, ea, g0, g1, g2, g3, gb⟩ := (HS1.out.new hn).cells rfl r (by omega)
            cases ea
            rw [fad a (r * 4) 1 (by omega)] at g1
            exact ⟨_, lastT_at L r (by omega), (HB.out _ (List.getElem_mem (by omega))).2.1, g1⟩)
          generalize lastT 0 (L.take j) = last at *
          have SP := Lib.hid (sgOk_last last L[j] LP.out)
          obtain ⟨sj, hsj⟩ : ∃ sj, sj = L[j] := ⟨_, rfl⟩
          rw [← hsj] at d0 d1 d2 d3 qs hbs CHB CHG SP FST
          generalize hok : sgOk 0 sj = ok at *
          obtain ⟨f, t, pp, d⟩ := sj
          dsimp only at *
          generalize d.length = dl at *
          obtain ⟨W6, hW6⟩ : ∃ W6, W6 = wr.alloc (.cells #[.int .i64 f, .int .i64 t, .int .u8 pp, .slice q dl cq] 50) := ⟨_, rfl⟩
          have n6 : New wr W6 := by rw [hW6]; exact (New.refl wr).alloc _ _
          have b6 : Box W6 wr.heap.size #[.int .i64 f, .int .i64 t, .int .u8 pp, .slice q dl cq] 50 := by rw [hW6]; exact Box.here _ _ _ _ rfl
          have N6 := Lib.hid n6
          have B6 := Lib.hid b6
          have Q6 := fun W' (k : New W6 W') => qs W' (n6.trans k)
          have hbf : -9223372036854775808 ≤ f ∧ f ≤ 9223372036854775807 := hbs.1
          clear hj hch hn hsj db hbs qs hok n6 b6
          go_upto_region 6 with fail
          rw [← hW6]
          clear hW6
          obtain ⟨s0, s1, s2, s3⟩ := B6.out.four
          have k1' := N6.out.keeps k1
          clear d0 d1 d2 d3 k0 k1
          cases ok with
          | false =>
            have E := Lib.hid (CHB.out (by rw [SP.out]; rfl))
            -- WAY A
            have nd : New W6 W6.drew := (New.refl W6).drew
            have hS : (fun w' : World => w'.cell? ⟨wr.heap.size, 0, none⟩ = some (.int .i64 f) ∧ w'.cell? ⟨wr.heap.size, 1, none⟩ = some (.int .i64 t) ∧ w'.cell? ⟨wr.heap.size, 2, none⟩ = some (.int .u8 pp) ∧ w'.cell? ⟨wr.heap.size, 3, none⟩ = some (.slice q dl cq)) W6.drew := ⟨nd.keeps s0, nd.keeps s1, nd.keeps s2, nd.keeps s3⟩
            refine wp_region_held_drew (S := (fun w' : World => w'.cell? ⟨wr.heap.size, 0, none⟩ = some (.int .i64 f) ∧ w'.cell? ⟨wr.heap.size, 1, none⟩ = some (.int .i64 t) ∧ w'.cell? ⟨wr.heap.size, 2, none⟩ = some (.int .u8 pp) ∧ w'.cell? ⟨wr.heap.size, 3, none⟩ = some (.slice q dl cq))) (by kernel_rfl) hS (fun _ => ?_)
            refine wpAnyH_take (i := 0) (v := ?_) rfl (by kernel_rfl) (by kernel_rfl) (by kernel_rfl) (fun _ _ _ h => h) (Or.inl ⟨by rfl, ?_⟩) hS ?_
            rotate_left
            · intro w hSw
              try dsimp only at hSw
              go_simp
              try with_reducible rfl
            try simp only [Act.put, List.setIfInBounds_toArray, List.set_cons_zero, List.set_cons_succ, List.getElem_toArray, List.getElem_cons_zero]
            refine wpAnyH_ready (rs := [1]) (by kernel_rfl) (by simp) (AllReadyH.cons rfl (fun K hK => ?_) AllReadyH.nil)
            go_simp
            refine (Q6 _ nd).mono ?_
            rintro ee wx ⟨rfl, hny⟩
            have hnx : New W6 wx := nd.trans hny
            have hS : (fun w' : World => w'.cell? ⟨wr.heap.size, 0, none⟩ = some (.int .i64 f) ∧ w'.cell? ⟨wr.heap.size, 1, none⟩ = some (.int .i64 t) ∧ w'.cell? ⟨wr.heap.size, 2, none⟩ = some (.int .u8 pp) ∧ w'.cell? ⟨wr.heap.size, 3, none⟩ = some (.slice q dl cq)) wx := ⟨hnx.keeps s0, hnx.keeps s1, hnx.keeps s2, hnx.keeps s3⟩
            refine hK.out _ _ hS (fun _ => ?_)
            clear hK K
            try simp only [Act.put, List.setIfInBounds_toArray, List.set_cons_zero, List.set_cons_succ, List.getElem_toArray, List.getElem_cons_zero, List.getElem_cons_succ]
            refine wpAnyH_take (i := 2) (v := ?_) rfl (by kernel_rfl) (by kernel_rfl) (by kernel_rfl) (fun _ _ _ h => h) (Or.inl ⟨by rfl, ?_⟩) hS ?_
            rotate_left
            · intro w hSw
              try dsimp only at hSw
              go_simp
              try with_reducible rfl
            try simp only [Act.put, List.setIfInBounds_toArray, List.set_cons_zero, List.set_cons_succ, List.getElem_toArray, List.getElem_cons_zero, List.getElem_cons_succ]
            refine wpAnyH_take (i := 3) (v := ?_) rfl (by kernel_rfl) (by kernel_rfl) (by kernel_rfl) (fun _ _ _ h => h) (Or.inl ⟨by rfl, ?_⟩) hS ?_
            rotate_left
            · intro w hSw
              try dsimp only at hSw
              go_simp
              try with_reducible rfl
            try simp only [Act.put, List.setIfInBounds_toArray, List.set_cons_zero, List.set_cons_succ, List.getElem_toArray, List.getElem_cons_zero, List.getElem_cons_succ]
            refine wpAnyH_take (i := 4) (v := undef) rfl (by kernel_rfl) (by kernel_rfl) (by kernel_rfl) (fun _ _ _ h => h) (Or.inr ⟨by rfl, rfl⟩) hS ?_
            try simp only [Act.put, List.setIfInBounds_toArray, List.set_cons_zero, List.set_cons_succ, List.getElem_toArray, List.getElem_cons_zero, List.getElem_cons_succ]
            refine wpAnyH_take (i := 5) (v := undef) rfl (by kernel_rfl) (by kernel_rfl) (by kernel_rfl) (fun _ _ _ h => h) (Or.inr ⟨by rfl, rfl⟩) hS ?_
            try simp only [Act.put, List.setIfInBounds_toArray, List.set_cons_zero, List.set_cons_succ, List.getElem_toArray, List.getElem_cons_zero, List.getElem_cons_succ]
            refine wpAnyH_take (i := 6) (v := undef) rfl (by kernel_rfl) (by kernel_rfl) (by kernel_rfl) (fun _ _ _ h => h) (Or.inr ⟨by rfl, rfl⟩) hS ?_
            try simp only [Act.put, List.setIfInBounds_toArray, List.set_cons_zero, List.set_cons_succ, List.getElem_toArray, List.getElem_cons_zero, List.getElem_cons_succ]
            refine wpAnyH_take (i := 7) (v := undef) rfl (by kernel_rfl) (by kernel_rfl) (by kernel_rfl) (fun _ _ _ h => h) (Or.inr ⟨by rfl, rfl⟩) hS ?_
            try simp only [Act.put, List.setIfInBounds_toArray, List.set_cons_zero, List.set_cons_succ, List.getElem_toArray, List.getElem_cons_zero, List.getElem_cons_succ]
            refine wpAnyH_take (i := 8) (v := undef) rfl (by kernel_rfl) (by kernel_rfl) (by kernel_rfl) (fun _ _ _ h => h) (Or.inr ⟨by rfl, rfl⟩) hS ?_
            try simp only [Act.put, List.setIfInBounds_toArray, List.set_cons_zero, List.set_cons_succ, List.getElem_toArray, List.getElem_cons_zero, List.getElem_cons_succ]
            refine wpAnyH_take (i := 9) (v := undef) rfl (by kernel_rfl) (by kernel_rfl) (by kernel_rfl) (fun _ _ _ h => h) (Or.inr ⟨by rfl, rfl⟩) hS ?_
            try simp only [Act.put, List.setIfInBounds_toArray, List.set_cons_zero, List.set_cons_succ, List.getElem_toArray, List.getElem_cons_zero, List.getElem_cons_succ]
            refine wpAnyH_take (i := 10) (v := undef) rfl (by kernel_rfl) (by kernel_rfl) (by kernel_rfl) (fun _ _ _ h => h) (Or.inr ⟨by rfl, rfl⟩) hS ?_
            try simp only [Act.put, List.setIfInBounds_toArray, List.set_cons_zero, List.set_cons_succ, List.getElem_toArray, List.getElem_cons_zero, List.getElem_cons_succ]
            refine wpAnyH_take (i := 11) (v := undef) rfl (by kernel_rfl) (by kernel_rfl) (by kernel_rfl) (fun _ _ _ h => h) (Or.inr ⟨by rfl, rfl⟩) hS ?_
            try simp only [Act.put, List.setIfInBounds_toArray, List.set_cons_zero, List.set_cons_succ, List.getElem_toArray, List.getElem_cons_zero, List.getElem_cons_succ]
            refine wpAnyH_take (i := 12) (v := undef) rfl (by kernel_rfl) (by kernel_rfl) (by kernel_rfl) (fun _ _ _ h => h) (Or.inr ⟨by rfl, rfl⟩) hS ?_
            try simp only [Act.put, List.setIfInBounds_toArray, List.set_cons_zero, List.set_cons_succ, List.getElem_toArray, List.getElem_cons_zero, List.getElem_cons_succ]
            refine wpAnyH_take (i := 13) (v := undef) rfl (by kernel_rfl) (by kernel_rfl) (by kernel_rfl) (fun _ _ _ h => h) (Or.inr ⟨by rfl, rfl⟩) hS ?_
            try simp only [Act.put, List.setIfInBounds_toArray, List.set_cons_zero, List.set_cons_succ, List.getElem_toArray, List.getElem_cons_zero, List.getElem_cons_succ]
            refine wpAnyH_take (i := 14) (v := undef) rfl (by kernel_rfl) (by kernel_rfl) (by kernel_rfl) (fun _ _ _ h => h) (Or.inr ⟨by rfl, rfl⟩) hS ?_
            try simp only [Act.put, List.setIfInBounds_toArray, List.set_cons_zero, List.set_cons_succ, List.getElem_toArray, List.getElem_cons_zero, List.getElem_cons_succ]
            refine wpAnyH_take (i := 15) (v := undef) rfl (by kernel_rfl) (by kernel_rfl) (by kernel_rfl) (fun _ _ _ h => h) (Or.inr ⟨by rfl, rfl⟩) hS ?_
            try simp only [Act.put, List.setIfInBounds_toArray, List.set_cons_zero, List.set_cons_succ, List.getElem_toArray, List.getElem_cons_zero, List.getElem_cons_succ]
            refine wpAnyH_take (i := 16) (v := undef) rfl (by kernel_rfl) (by kernel_rfl) (by kernel_rfl) (fun _ _ _ h => h) (Or.inr ⟨by rfl, rfl⟩) hS ?_
            try simp only [Act.put, List.setIfInBounds_toArray, List.set_cons_zero, List.set_cons_succ, List.getElem_toArray, List.getElem_cons_zero, List.getElem_cons_succ]
            refine wpAnyH_take (i := 17) (v := undef) rfl (by kernel_rfl) (by kernel_rfl) (by kernel_rfl) (fun _ _ _ h => h) (Or.inr ⟨by rfl, rfl⟩) hS ?_
            try simp only [Act.put, List.setIfInBounds_toArray, List.set_cons_zero, List.set_cons_succ, List.getElem_toArray, List.getElem_cons_zero, List.getElem_cons_succ]
            refine wpAnyH_take (i := 18) (v := ?_) rfl (by kernel_rfl) (by kernel_rfl) (by kernel_rfl) (fun _ _ _ h => h) (Or.inl ⟨by rfl, ?_⟩) hS ?_
            rotate_left
            · intro w hSw
              try dsimp only at hSw
              go_simp
              try with_reducible rfl
            try simp only [Act.put, List.setIfInBounds_toArray, List.set_cons_zero, List.set_cons_succ, List.getElem_toArray, List.getElem_cons_zero, List.getElem_cons_succ]
            refine wpAnyH_done (by kernel_rfl) ?_ _
            -- END A
            go_wp2
            go_ret
            exact ⟨by rw [E.out]; rfl, N1.out.trans (HN.out.trans (N6.out.trans hnx))⟩
          | true =>
            rcases j with _ | r
            · have E := Lib.hid (CHG.out (FST.out rfl rfl))
              -- WAY B
              have nd : New W6 W6.drew := (New.refl W6).drew
              have hS : (fun w' : World => w'.cell? ⟨wr.heap.size, 0, none⟩ = some (.int .i64 f) ∧ w'.cell? ⟨wr.heap.size, 1, none⟩ = some (.int .i64 t) ∧ w'.cell? ⟨wr.heap.size, 2, none⟩ = some (.int .u8 pp) ∧ w'.cell? ⟨wr.heap.size, 3, none⟩ = some (.slice q dl cq)) W6.drew := ⟨nd.keeps s0, nd.keeps s1, nd.keeps s2, nd.keeps s3⟩
              refine wp_region_held_drew (S := (fun w' : World => w'.cell? ⟨wr.heap.size, 0, none⟩ = some (.int .i64 f) ∧ w'.cell? ⟨wr.heap.size, 1, none⟩ = some (.int .i64 t) ∧ w'.cell? ⟨wr.heap.size, 2, none⟩ = some (.int .u8 pp) ∧ w'.cell? ⟨wr.heap.size, 3, none⟩ = some (.slice q dl cq))) (by kernel_rfl) hS (fun _ => ?_)
              refine wpAnyH_take (i := 0) (v := ?_) rfl (by kernel_rfl) (by kernel_rfl) (by kernel_rfl) (fun _ _ _ h => h) (Or.inl ⟨by rfl, ?_⟩) hS ?_
              rotate_left
              · intro w hSw
                try dsimp only at hSw
                go_simp
                try with_reducible rfl
              try simp only [Act.put, List.setIfInBounds_toArray, List.set_cons_zero, List.set_cons_succ, List.getElem_toArray, List.getElem_cons_zero]
              refine wpAnyH_ready (rs := [1]) (by kernel_rfl) (by simp) (AllReadyH.cons rfl (fun K hK => ?_) AllReadyH.nil)
              go_simp
              refine (Q6 _ nd).mono ?_
              rintro ee wx ⟨rfl, hny⟩
              have hnx : New W6 wx := nd.trans hny
              have hS : (fun w' : World => w'.cell? ⟨wr.heap.size, 0, none⟩ = some (.int .i64 f) ∧ w'.cell? ⟨wr.heap.size, 1, none⟩ = some (.int .i64 t) ∧ w'.cell? ⟨wr.heap.size, 2, none⟩ = some (.int .u8 pp) ∧ w'.cell? ⟨wr.heap.size, 3, none⟩ = some (.slice q dl cq)) wx := ⟨hnx.keeps s0, hnx.keeps s1, hnx.keeps s2, hnx.keeps s3⟩
              refine hK.out _ _ hS (fun _ => ?_)
              clear hK K
              try simp only [Act.put, List.setIfInBounds_toArray, List.set_cons_zero, List.set_cons_succ, List.getElem_toArray, List.getElem_cons_zero, List.getElem_cons_succ]
              refine wpAnyH_take (i := 2) (v := ?_) rfl (by kernel_rfl) (by kernel_rfl) (by kernel_rfl) (fun _ _ _ h => h) (Or.inl ⟨by rfl, ?_⟩) hS ?_
              rotate_left
              · intro w hSw
                try dsimp only at hSw
                go_simp
                try with_reducible rfl
              try simp only [Act.put, List.setIfInBounds_toArray, List.set_cons_zero, List.set_cons_succ, List.getElem_toArray, List.getElem_cons_zero, List.getElem_cons_succ]
              refine wpAnyH_take (i := 3) (v := ?_) rfl (by kernel_rfl) (by kernel_rfl) (by kernel_rfl) (fun _ _ _ h => h) (Or.inl ⟨by rfl, ?_⟩) hS ?_
              rotate_left
              · intro w hSw
                try dsimp only at hSw
                go_simp
                try with_reducible rfl
              try simp only [Act.put, List.setIfInBounds_toArray, List.set_cons_zero, List.set_cons_succ, List.getElem_toArray, List.getElem_cons_zero, List.getElem_cons_succ]
              refine wpAnyH_take (i := 4) (v := ?_) rfl (by kernel_rfl) (by kernel_rfl) (by kernel_rfl) (fun _ _ _ h => h) (Or.inl ⟨by rfl, ?_⟩) hS ?_
              rotate_left
              · intro w hSw
                try dsimp only at hSw
                go_simp
                try with_reducible rfl
              try simp only [Act.put, List.setIfInBounds_toArray, List.set_cons_zero, List.set_cons_succ, List.getElem_toArray, List.getElem_cons_zero, List.getElem_cons_succ]
              refine wpAnyH_take (i := 5) (v := ?_) rfl (by kernel_rfl) (by kernel_rfl) (by kernel_rfl) (fun _ _ _ h => h) (Or.inl ⟨by rfl, ?_⟩) hS ?_
              rotate_left
              · intro w hSw
                try dsimp only at hSw
                go_simp
                try with_reducible rfl
              try simp only [Act.put, List.setIfInBounds_toArray, List.set_cons_zero, List.set_cons_succ, List.getElem_toArray, List.getElem_cons_zero, List.getElem_cons_succ]
              refine wpAnyH_take (i := 6) (v := ?_) rfl (by kernel_rfl) (by kernel_rfl) (by kernel_rfl) (fun _ _ _ h => h) (Or.inl ⟨by rfl, ?_⟩) hS ?_
              rotate_left
              · intro w hSw
                try dsimp only at hSw
                go_simp
                try with_reducible rfl
              try simp only [Act.put, List.setIfInBounds_toArray, List.set_cons_zero, List.set_cons_succ, List.getElem_toArray, List.getElem_cons_zero, List.getElem_cons_succ]
              refine wpAnyH_take (i := 7) (v := undef) rfl (by kernel_rfl) (by kernel_rfl) (by kernel_rfl) (fun _ _ _ h => h) (Or.inr ⟨by rfl, rfl⟩) hS ?_
              try simp only [Act.put, List.setIfInBounds_toArray, List.set_cons_zero, List.set_cons_succ, List.getElem_toArray, List.getElem_cons_zero, List.getElem_cons_succ]
              refine wpAnyH_take (i := 8) (v := undef) rfl (by kernel_rfl) (by kernel_rfl) (by kernel_rfl) (fun _ _ _ h => h) (Or.inr ⟨by rfl, rfl⟩) hS ?_
              try simp only [Act.put, List.setIfInBounds_toArray, List.set_cons_zero, List.set_cons_succ, List.getElem_toArray, List.getElem_cons_zero, List.getElem_cons_succ]
              refine wpAnyH_take (i := 9) (v := undef) rfl (by kernel_rfl) (by kernel_rfl) (by kernel_rfl) (fun _ _ _ h => h) (Or.inr ⟨by rfl, rfl⟩) hS ?_
              try simp only [Act.put, List.setIfInBounds_toArray, List.set_cons_zero, List.set_cons_succ, List.getElem_toArray, List.getElem_cons_zero, List.getElem_cons_succ]
              refine wpAnyH_take (i := 10) (v := undef) rfl (by kernel_rfl) (by kernel_rfl) (by kernel_rfl) (fun _ _ _ h => h) (Or.inr ⟨by rfl, rfl⟩) hS ?_
              try simp only [Act.put, List.setIfInBounds_toArray, List.set_cons_zero, List.set_cons_succ, List.getElem_toArray, List.getElem_cons_zero, List.getElem_cons_succ]
              refine wpAnyH_take (i := 11) (v := undef) rfl (by kernel_rfl) (by kernel_rfl) (by kernel_rfl) (fun _ _ _ h => h) (Or.inr ⟨by rfl, rfl⟩) hS ?_
              try simp only [Act.put, List.setIfInBounds_toArray, List.set_cons_zero, List.set_cons_succ, List.getElem_toArray, List.getElem_cons_zero, List.getElem_cons_succ]
              refine wpAnyH_take (i := 12) (v := undef) rfl (by kernel_rfl) (by kernel_rfl) (by kernel_rfl) (fun _ _ _ h => h) (Or.inr ⟨by rfl, rfl⟩) hS ?_
              try simp only [Act.put, List.setIfInBounds_toArray, List.set_cons_zero, List.set_cons_succ, List.getElem_toArray, List.getElem_cons_zero, List.getElem_cons_succ]
              refine wpAnyH_take (i := 13) (v := undef) rfl (by kernel_rfl) (by kernel_rfl) (by kernel_rfl) (fun _ _ _ h => h) (Or.inr ⟨by rfl, rfl⟩) hS ?_
              try simp only [Act.put, List.setIfInBounds_toArray, List.set_cons_zero, List.set_cons_succ, List.getElem_toArray, List.getElem_cons_zero, List.getElem_cons_succ]
              refine wpAnyH_take (i := 14) (v := undef) rfl (by kernel_rfl) (by kernel_rfl) (by kernel_rfl) (fun _ _ _ h => h) (Or.inr ⟨by rfl, rfl⟩) hS ?_
              try simp only [Act.put, List.setIfInBounds_toArray, List.set_cons_zero, List.set_cons_succ, List.getElem_toArray, List.getElem_cons_zero, List.getElem_cons_succ]
              refine wpAnyH_take (i := 15) (v := undef) rfl (by kernel_rfl) (by kernel_rfl) (by kernel_rfl) (fun _ _ _ h => h) (Or.inr ⟨by rfl, rfl⟩) hS ?_
              try simp only [Act.put, List.setIfInBounds_toArray, List.set_cons_zero, List.set_cons_succ, List.getElem_toArray, List.getElem_cons_zero, List.getElem_cons_succ]
              refine wpAnyH_take (i := 16) (v := undef) rfl (by kernel_rfl) (by kernel_rfl) (by kernel_rfl) (fun _ _ _ h => h) (Or.inr ⟨by rfl, rfl⟩) hS ?_
              try simp only [Act.put, List.setIfInBounds_toArray, List.set_cons_zero, List.set_cons_succ, List.getElem_toArray, List.getElem_cons_zero, List.getElem_cons_succ]
              refine wpAnyH_take (i := 17) (v := ?_) rfl (by kernel_rfl) (by kernel_rfl) (by kernel_rfl) (fun _ _ _ h => h) (Or.inl ⟨by rfl, ?_⟩) hS ?_
              rotate_left
              · intro w hSw
                try dsimp only at hSw
                go_simp
                try with_reducible rfl
              try simp only [Act.put, List.setIfInBounds_toArray, List.set_cons_zero, List.set_cons_succ, List.getElem_toArray, List.getElem_cons_zero, List.getElem_cons_succ]
              refine wpAnyH_take (i := 18) (v := ?_) rfl (by kernel_rfl) (by kernel_rfl) (by kernel_rfl) (fun _ _ _ h => h) (Or.inl ⟨by rfl, ?_⟩) hS ?_
              rotate_left
              · intro w hSw
                try dsimp only at hSw
                go_simp
                try with_reducible rfl
              try simp only [Act.put, List.setIfInBounds_toArray, List.set_cons_zero, List.set_cons_succ, List.getElem_toArray, List.getElem_cons_zero, List.getElem_cons_succ]
              refine wpAnyH_done (by kernel_rfl) ?_ _
              -- END B
              go_wp2_with fail
              go_roundg (ln - 1)
              case measure => have := J.out; omega
              case rel => exact ⟨1, by have := J.out; omega, by go_num, E.out, HN.out.trans (N6.out.trans hnx)⟩
            · obtain ⟨t', hlt, htb, g1⟩ := PRV.out r rfl
              subst hlt
              have g1' := N6.out.keeps g1
              have er : ((r : Int) + 1 - 1) = (r : Int) := by omega
              have er2 : IntKind.i64.wrap ((r : Int) + 1 - 1) = (r : Int) := by rw [er]; exact wrap_idk _ (by omega)
              have er3 : IntKind.i64.wrap (r : Int) = (r : Int) := wrap_idk _ (by omega)
              have er4 : (r : Int) < (ln : Int) := by omega
              clear g1 PRV
              by_cases cl : f < last
              · have E := Lib.hid (CHB.out (by rw [SP.out, decide_eq_false (by omega)]; rfl))
                have hrl : r < ln := by omega
                go_region_held3 (fun w' => w'.cell? ⟨wr.heap.size, 0, none⟩ = some (.int .i64 f) ∧ w'.cell? ⟨wr.heap.size, 1, none⟩ = some (.int .i64 t) ∧ w'.cell? ⟨wr.heap.size, 2, none⟩ = some (.int .u8 pp) ∧ w'.cell? ⟨wr.heap.size, 3, none⟩ = some (.slice q dl cq) ∧ w'.cell? ⟨w.heap.size, 1, none⟩ = some (.slice (some a) ln cap) ∧ w'.cell? ⟨(a.add (r * 4)).block, (a.add (r * 4)).off + 1, none⟩ = some (.int .i64 last))
                  (first | go_keep | (with_reducible exact ⟨hnx.keeps s0, hnx.keeps s1, hnx.keeps s2, hnx.keeps s3, hnx.keeps k1', hnx.keeps g1'⟩))
                  (first | (go_at_call 24; (with_reducible refine (Q6 _ (by first | exact New.refl _ | exact (New.refl _).drew | exact (New.refl _).drewN _)).mono ?_); rintro ee wx ⟨rfl, hny⟩; have hnx : New W6 wx := by first | exact (New.refl _).drew.trans hny | exact hny))
                go_wp2
                go_ret
                exact ⟨by rw [E.out]; rfl, N1.out.trans (HN.out.trans (N6.out.trans hnx))⟩
              · have E := Lib.hid (CHG.out (by rw [SP.out, decide_eq_true (by omega)]; rfl))
                have hrl : r < ln := by omega
                go_region_held3 (fun w' => w'.cell? ⟨wr.heap.size, 0, none⟩ = some (.int .i64 f) ∧ w'.cell? ⟨wr.heap.size, 1, none⟩ = some (.int .i64 t) ∧ w'.cell? ⟨wr.heap.size, 2, none⟩ = some (.int .u8 pp) ∧ w'.cell? ⟨wr.heap.size, 3, none⟩ = some (.slice q dl cq) ∧ w'.cell? ⟨w.heap.size, 1, none⟩ = some (.slice (some a) ln cap) ∧ w'.cell? ⟨(a.add (r * 4)).block, (a.add (r * 4)).off + 1, none⟩ = some (.int .i64 last))
                  (first | go_keep | (with_reducible exact ⟨hnx.keeps s0, hnx.keeps s1, hnx.keeps s2, hnx.keeps s3, hnx.keeps k1', hnx.keeps g1'⟩))
                  (first | (go_at_call 24; (with_reducible refine (Q6 _ (by first | exact New.refl _ | exact (New.refl _).drew | exact (New.refl _).drewN _)).mono ?_); rintro ee wx ⟨rfl, hny⟩; have hnx : New W6 wx := by first | exact (New.refl _).drew.trans hny | exact hny))
                go_wp2_with fail
                go_roundg (ln - (r + 1 + 1))
                case measure => have := J.out; omega
                case rel => exact ⟨r + 1 + 1, by have := J.out; omega, by go_num, E.out, HN.out.trans (N6.out.trans hnx)⟩
        · obtain rfl : j = ln := by omega
          have E := Lib.hid (GOODE.out (by rw [← HCH.out, List.take_of_length_le (by rw [HLN.out]; exact Nat.le_refl _)]))
          clear hj hch hn
          go_wp2
          go_ret
          exact ⟨by rw [E.out]; rfl, N1.out.trans HN.out⟩
end Go.Proofs.YtealjgfijlencaaDoor
