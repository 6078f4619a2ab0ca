/- The document's own answers on regions: Cut, Protect, Add, page by page. Contracts, for any list, in any world; behind each there are only new blocks. -/
import Derived.Test.YtfkjgbenjdmedaaDoorReP
namespace Go.Proofs.YtfkjgbenjdmedaaDoor
open Go.RowKit Go.Joins
set_option linter.unusedVariables false
set_option maxRecDepth 100000
/-- a slice of the call's own and a number -/
def MadeD (T : TypeId) (l : List Rg) (c : Int) (w : World) (e : Ending) (w' : World) : Prop := ∃ v, e = .returned (.tuple #[v, .int .i64 c]) ∧ OwnR T w.heap.size w' v l ∧ New w w'
theorem mv_le {L : List Rg} (h : ROk L) (q : Int) : mv (rpg L q) ≤ 7 := by
  cases e : rpg L q with
  | none => simp [mv]
  | some p =>
    obtain ⟨r, hr, _, hp⟩ := rpg_some e
    have := okR_iff.1 (RCh.mem h r hr)
    simp only [mv]; omega
theorem dl_cut {L : List Rg} (hO : ROk L) {F T : Nat} (hFT : F < T) {M : Nat → Int} (hm : ∀ i, i < 4096 → M i = if F ≤ i ∧ i < T then -1 else mv (rpg L i)) : dl M 4096 = cutL L F T ∧ ∀ i, i < 4096 → M i ≤ 7 := by
  have h7 : ∀ i, i < 4096 → M i ≤ 7 := fun i hi => by
    rw [hm i hi]; split
    · omega
    · exact mv_le hO i
  refine ⟨dl_same h7 (hO.cutL (by omega)) fun i hi => ?_, h7⟩
  rw [hm i hi, rpg_cutL hO (by omega)]
  by_cases c : F ≤ i ∧ i < T
  · rw [if_pos c, if_pos (by omega)]; rfl
  · rw [if_neg c, if_neg (by omega), mp_mv]
theorem dl_lay {L : List Rg} (hO : ROk L) {F T P : Nat} (hr : okR ⟨F, T, P⟩ = true) {M : Nat → Int} (hm : ∀ i, i < 4096 → M i = if F ≤ i ∧ i < T then (P : Int) else mv (rpg L i)) : dl M 4096 = layL L ⟨F, T, P⟩ ∧ ∀ i, i < 4096 → M i ≤ 7 := by
  have hp := okR_iff.1 hr
  simp only at hp
  have h7 : ∀ i, i < 4096 → M i ≤ 7 := fun i hi => by
    rw [hm i hi]; split
    · omega
    · exact mv_le hO i
  refine ⟨dl_same h7 (hO.layL hr) fun i hi => ?_, h7⟩
  rw [hm i hi, rpg_layL hO hr]
  by_cases c : F ≤ i ∧ i < T
  · rw [if_pos c, if_pos (inR_iff.2 (by simp only; omega))]; exact mp_mv (some P)
  · rw [if_neg c, if_neg (by rw [inR_iff]; simp only; omega), mp_mv]
section
variable (w : World) (v : Value) (L : List Rg)
set_option maxHeartbeats 4000000 in
theorem dcut_any (a b : Int) (h : RgsA w v L) : Calls Tryd.prog 20 #[v, .int .i64 a, .int .i64 b] w (MadeD 24 (ctL L a b) (ctE L a b) w) := by
  have q1 := dMay_any w v L h
  have q2 := fun W => dRange_any W a b
  obtain ⟨p, cap, rfl⟩ := h.shape
  cases ho : rokb L with
  | false =>
    have e1 : ctE L a b = 22 := by unfold ctE; rw [ho, if_neg (by simp)]
    have e2 : ctL L a b = [] := by unfold ctL; rw [e1, if_neg (by decide)]
    rw [e1, e2]
    rw [ho] at q1
    clear ho e1 e2
    go_enter Tryd.func20, Tryd.ntmps20
    go_wp2_with (go_at_call 14; (with_reducible refine q1.mono ?_); rintro e w1 ⟨rfl, n1⟩)
    go_ret2
    exact ⟨_, rfl, OwnR.nil, n1⟩
  | true =>
    have hO := rokb_iff.1 ho
    rw [ho] at q1
    cases hr : okP a b with
    | false =>
      have e1 : ctE L a b = 22 := by unfold ctE; rw [hr, if_neg (by simp)]
      have e2 : ctL L a b = [] := by unfold ctL; rw [e1, if_neg (by decide)]
      rw [e1, e2]
      rw [hr] at q2
      clear ho hr e1 e2 hO
      go_enter Tryd.func20, Tryd.ntmps20
      go_wp2_with (first
        | (go_at_call 14; (with_reducible refine q1.mono ?_); rintro e w1 ⟨rfl, n1⟩)
        | (go_at_call 32; (with_reducible refine (q2 _).mono ?_); rintro e w2 ⟨rfl, rfl⟩))
      go_ret2
      exact ⟨_, rfl, OwnR.nil, n1⟩
    | true =>
      obtain ⟨ce, cl⟩ := ct_ok hO hr
      rw [ce, cl]
      have hp := okP_iff.1 hr
      rw [hr] at q2
      obtain ⟨F, rfl⟩ := Int.eq_ofNat_of_zero_le hp.1
      obtain ⟨T, rfl⟩ := Int.eq_ofNat_of_zero_le (show 0 ≤ b by omega)
      have hFT : F < T := by omega
      have hT4 : T ≤ 4096 := by omega
      have HO := Lib.hid hO
      have qm := fun W (k : New w W) => dMap_any W _ L (h.new k) hO
      clear ho hr ce cl hp hO
      go_enter Tryd.func20, Tryd.ntmps20
      go_wp2_with (first
        | (go_at_call 14; (with_reducible refine q1.mono ?_); rintro e w1 ⟨rfl, n1⟩)
        | (go_at_call 32; (with_reducible refine (q2 _).mono ?_); rintro e w2 ⟨rfl, rfl⟩)
        | (go_at_call 27; (with_reducible refine (qm _ n1).mono ?_); rintro e w3 ⟨g, M, rfl, hg, hM1, hM2, n3⟩))
      have N3 := n1.trans n3
      have hgs : w.heap.size ≤ g := Nat.le_trans n1.size hg
      have ei : ∀ i, i < 4096 → M i = if F ≤ i ∧ i < F + 0 then (-1 : Int) else mv (rpg L i) := fun i hi => by rw [if_neg (by omega)]; exact hM2 i hi
      go_loopg [9] (T - F) (fun k i wr => ∃ (q : Nat) (M2 : Nat → Int), q + k = T - F ∧ i = .int .i64 ((F + q : Nat) : Int) ∧ Mp wr g M2 ∧ (∀ i, i < 4096 → M2 i = if F ≤ i ∧ i < F + q then (-1 : Int) else mv (rpg L i)) ∧ New w wr)
      case atStart => exact ⟨0, M, by omega, rfl, hM1, ei, N3⟩
      case round =>
        clear hM1 hM2 ei
        obtain ⟨q, M2, hq, rfl, hM, hm, hn⟩ := hrel
        have Q := Lib.hid hq
        have Hm := Lib.hid hm

        have hx := Lib.hid (show ∀ h : F + q < 4096, M2 (F + q) = mv (rpg L ((F + q : Nat) : Int)) from fun h => by rw [hm _ h, if_neg (by omega)])
        generalize hFq : F + q = m at *
        have HFq := Lib.hid hFq
        by_cases cq : m < T
        · have k0 := hM.cell m (by omega)
          have f0 := hM.unfrozen m
          have hlt := hM.lt
          have hx := hx.out (by omega)
          have HNs := Lib.hid (hn.setCell (p := ⟨g, m, none⟩) hgs (.int .i64 (-1 : Int)))
          have HM := Lib.hid (hM.set m (-1 : Int))
          have hn' := hn
          clear hx hq hFq hM hm hn
          go_wp2
          go_roundg (T - F - (q + 1))
          case measure => have := Q.out; have := HFq.out; omega
          case rel =>
            have := HFq.out
            refine ⟨q + 1, _, by have := Q.out; omega, by rw [show F + (q + 1) = m + 1 by omega]; go_num, HM.out, fun i hi => ?_, HNs.out⟩
            unfold upd
            by_cases e : i = m
            · rw [if_pos e, if_pos (by omega)]
            · rw [if_neg e, Hm.out i hi]
              by_cases e2 : F ≤ i ∧ i < m
              · rw [if_pos (by omega), if_pos (by omega)]
              · rw [if_neg (by omega), if_neg (by omega)]
        · have HM := Lib.hid hM
          have hq2 : m = T := by omega
          subst hq2
          obtain ⟨dc, d7⟩ := dl_cut HO.out hFT hm
          have ql := dList_any wr g M2 hM d7
          rw [dc] at ql
          have HNf := Lib.hid hn
          clear hx hq hM hm
          go_wp2_with (go_at_call 28; (with_reducible refine ql.mono ?_); rintro e w5 ⟨_, rfl, o5, n5⟩; obtain ⟨p5, c5, rfl⟩ := o5.shape)
          go_ret2
          exact ⟨_, rfl, OwnR.more o5 HNf.out.size, HNf.out.trans n5⟩
set_option maxHeartbeats 4000000 in
theorem dprot_any (r : Rg) (h : RgsA w v L) : Calls Tryd.prog 22 #[v, .int .i64 r.f, .int .i64 r.t, .int .u8 (r.p : Int)] w (MadeD 24 (prL L r) (prE L r) w) := by
  have q1 := dMay_any w v L h
  have q2 := fun W => dRange_any W r.f r.t
  obtain ⟨p, cap, rfl⟩ := h.shape
  have bad : ∀ (hb : ¬ (rokb L = true ∧ okR r = true)), prE L r = 22 ∧ prL L r = [] := fun hb => by
    have e1 : prE L r = 22 := by unfold prE; rw [if_neg hb]
    exact ⟨e1, by unfold prL; rw [e1, if_neg (by decide)]⟩
  cases ho : rokb L with
  | false =>
    obtain ⟨e1, e2⟩ := bad (by rw [ho]; simp)
    rw [e1, e2]
    rw [ho] at q1
    clear ho e1 e2 bad
    go_enter Tryd.func22, Tryd.ntmps22
    go_wp2_with (go_at_call 14; (with_reducible refine q1.mono ?_); rintro e w1 ⟨rfl, n1⟩)
    go_ret2
    exact ⟨_, rfl, OwnR.nil, n1⟩
  | true =>
    have hO := rokb_iff.1 ho
    rw [ho] at q1
    cases hr : okP r.f r.t with
    | false =>
      obtain ⟨e1, e2⟩ := bad (by unfold okR; rw [hr]; simp)
      rw [e1, e2]
      rw [hr] at q2
      clear ho hr e1 e2 hO bad
      go_enter Tryd.func22, Tryd.ntmps22
      go_wp2_with (first
        | (go_at_call 14; (with_reducible refine q1.mono ?_); rintro e w1 ⟨rfl, n1⟩)
        | (go_at_call 32; (with_reducible refine (q2 _).mono ?_); rintro e w2 ⟨rfl, rfl⟩))
      go_ret2
      exact ⟨_, rfl, OwnR.nil, n1⟩
    | true =>
      rw [hr] at q2
      by_cases h7 : 7 < r.p
      · obtain ⟨e1, e2⟩ := bad (fun k => by have := okR_iff.1 k.2; omega)
        rw [e1, e2]
        have d7 : decide (7 < (r.p : Int)) = true := by simp; omega
        have d7' : decide (7 < r.p) = true := by simp; omega
        clear ho hr e1 e2 hO bad h7
        go_enter Tryd.func22, Tryd.ntmps22
        go_wp2_with (first
          | (go_at_call 14; (with_reducible refine q1.mono ?_); rintro e w1 ⟨rfl, n1⟩)
          | (go_at_call 32; (with_reducible refine (q2 _).mono ?_); rintro e w2 ⟨rfl, rfl⟩))
        go_ret2
        exact ⟨_, rfl, OwnR.nil, n1⟩
      · have d7 : decide (7 < (r.p : Int)) = false := by simp; omega
        have d7' : decide (7 < r.p) = false := by simp; omega
        have hrr : okR r = true := by unfold okR; rw [hr]; simp; omega
        have hp := okP_iff.1 hr
        obtain ⟨f, t, P⟩ := r
        simp only at hp q2 d7 d7'
        obtain ⟨F, rfl⟩ := Int.eq_ofNat_of_zero_le hp.1
        obtain ⟨T, rfl⟩ := Int.eq_ofNat_of_zero_le (show 0 ≤ t by omega)
        have hFT : F < T := by omega
        have hT4 : T ≤ 4096 := by omega
        have hP7 : P ≤ 7 := by simp only at h7; omega
        have HO := Lib.hid hO
        have HRR := Lib.hid hrr
        have qm := fun W (k : New w W) => dMap_any W _ L (h.new k) hO
        clear ho hr hp hO bad h7 hrr
        go_enter Tryd.func22, Tryd.ntmps22
        go_wp2_with (first
          | (go_at_call 14; (with_reducible refine q1.mono ?_); rintro e w1 ⟨rfl, n1⟩)
          | (go_at_call 32; (with_reducible refine (q2 _).mono ?_); rintro e w2 ⟨rfl, rfl⟩)
          | (go_at_call 27; (with_reducible refine (qm _ n1).mono ?_); rintro e w3 ⟨g, M, rfl, hg, hM1, hM2, n3⟩))
        have N3 := n1.trans n3
        have hgs : w.heap.size ≤ g := Nat.le_trans n1.size hg
        have ei : ∀ i, i < 4096 → M i = if F ≤ i ∧ i < F + 0 then (P : Int) else mv (rpg L i) := fun i hi => by rw [if_neg (by omega)]; exact hM2 i hi
        go_loopg [11] (T - F) (fun k i wr => ∃ (q : Nat) (M2 : Nat → Int), q + k = T - F ∧ i = .int .i64 ((F + q : Nat) : Int) ∧ Mp wr g M2 ∧ (∀ i, i < 4096 → M2 i = if F ≤ i ∧ i < F + q then (P : Int) else mv (rpg L i)) ∧ (∀ i, F ≤ i → i < F + q → (rpg L (i : Int)).isSome = true) ∧ New w wr)
        case atStart => exact ⟨0, M, by omega, rfl, hM1, ei, (fun i h1 h2 => absurd h1 (by omega)), N3⟩
        case round =>
          clear hM1 hM2 ei
          obtain ⟨q, M2, hq, rfl, hM, hm, hc, hn⟩ := hrel
          have Q := Lib.hid hq
          have Hm := Lib.hid hm
          have HC := Lib.hid hc

          have hx := Lib.hid (show ∀ h : F + q < 4096, M2 (F + q) = mv (rpg L ((F + q : Nat) : Int)) from fun h => by rw [hm _ h, if_neg (by omega)])
          generalize hFq : F + q = m at *
          have HFq := Lib.hid hFq
          by_cases cq : m < T
          · have k0 := hM.cell m (by omega)
            have f0 := hM.unfrozen m
            have hlt := hM.lt
            have hx := hx.out (by omega)
            have HNs := Lib.hid (hn.setCell (p := ⟨g, m, none⟩) hgs (.int .i64 (P : Int)))
            have HM := Lib.hid (hM.set m (P : Int))
            have hn' := hn
            cases hpm : rpg L (m : Int) with
            | none =>
              rw [hpm] at hx
              have d1 : M2 m = -1 := hx
              rw [d1] at k0
              have HE := Lib.hid (show prE L ⟨F, T, P⟩ = 12 ∧ prL L ⟨F, T, P⟩ = [] by
                rcases prE_cases HO.out HRR.out with ⟨_, _, x3⟩ | ⟨x1, x2, _⟩
                · have := x3 (m : Int) (by simp only; omega) (by simp only; omega)
                  rw [hpm] at this; cases this
                · exact ⟨x1, x2⟩)
              clear hx hpm hq hFq hM hm hc d1
              go_wp2
              go_ret2
              exact ⟨_, by rw [HE.out.1]; rfl, by rw [HE.out.2]; exact OwnR.nil, hn'⟩
            | some pm =>
              rw [hpm] at hx
              have d1 : M2 m = (pm : Int) := hx
              rw [d1] at k0
              have HX := Lib.hid (show (rpg L (m : Int)).isSome = true by rw [hpm]; rfl)
              clear hx hpm hq hFq hM hm hc hn d1 hn'
              go_wp2
              go_roundg (T - F - (q + 1))
              case measure => have := Q.out; have := HFq.out; omega
              case rel =>
                have := HFq.out
                refine ⟨q + 1, _, by have := Q.out; omega, by rw [show F + (q + 1) = m + 1 by omega]; go_num, HM.out, fun i hi => ?_, (fun i h1 h2 => by
                  by_cases e : i = m
                  · rw [e]; exact HX.out
                  · exact HC.out i h1 (by omega)), HNs.out⟩
                unfold upd
                by_cases e : i = m
                · rw [if_pos e, if_pos (by omega)]
                · rw [if_neg e, Hm.out i hi]
                  by_cases e2 : F ≤ i ∧ i < m
                  · rw [if_pos (by omega), if_pos (by omega)]
                  · rw [if_neg (by omega), if_neg (by omega)]
          · have HM := Lib.hid hM
            have hq2 : m = T := by omega
            subst hq2
            have HE := Lib.hid (show prE L ⟨F, m, P⟩ = 0 ∧ prL L ⟨F, m, P⟩ = layL L ⟨F, m, P⟩ by
              rcases prE_cases HO.out HRR.out with ⟨x1, x2, _⟩ | ⟨_, _, x3⟩
              · exact ⟨x1, x2⟩
              · refine absurd (fun q h1 h2 => ?_) x3
                simp only at h1 h2
                have := hc q.toNat (by omega) (by omega)
                rwa [show ((q.toNat : Nat) : Int) = q by omega] at this)
            obtain ⟨dc, d7⟩ := dl_lay HO.out HRR.out hm
            have ql := dList_any wr g M2 hM d7
            rw [dc] at ql
            have HNf := Lib.hid hn
            clear hx hq hM hm hc
            go_wp2_with (go_at_call 28; (with_reducible refine ql.mono ?_); rintro e w5 ⟨_, rfl, o5, n5⟩; obtain ⟨p5, c5, rfl⟩ := o5.shape)
            go_ret2
            exact ⟨_, by rw [HE.out.1]; rfl, by rw [HE.out.2]; exact OwnR.more o5 HNf.out.size, HNf.out.trans n5⟩
set_option maxHeartbeats 4000000 in
theorem dadd_any (r : Rg) (h : RgsA w v L) : Calls Tryd.prog 9 #[v, .agg #[.int .i64 r.f, .int .i64 r.t, .int .u8 (r.p : Int)]] w (MadeD 24 (adL L r) (adE L r) w) := by
  have HN0 : New w (w.alloc (.cells #[.int .i64 r.f, .int .i64 r.t, .int .u8 (r.p : Int)] 24)) := (New.refl w).alloc _ _
  have BR : Box (w.alloc (.cells #[.int .i64 r.f, .int .i64 r.t, .int .u8 (r.p : Int)] 24)) w.heap.size #[.int .i64 r.f, .int .i64 r.t, .int .u8 (r.p : Int)] 24 := Box.here w _ _ _ rfl
  have q1 := dMay_any _ v L (h.new HN0)
  have q2 := fun W => dOne_any W r
  obtain ⟨p, cap, rfl⟩ := h.shape
  have bad : ∀ (hb : ¬ (rokb L = true ∧ okR r = true)), adE L r = 22 ∧ adL L r = [] := fun hb => by
    have e1 : adE L r = 22 := by unfold adE; rw [if_neg hb]
    exact ⟨e1, by unfold adL; rw [e1, if_neg (by decide)]⟩
  cases ho : rokb L with
  | false =>
    obtain ⟨e1, e2⟩ := bad (by rw [ho]; simp)
    rw [e1, e2]
    rw [ho] at q1
    clear ho e1 e2 bad
    go_enter Tryd.func9, Tryd.ntmps9
    go_wp2_with (go_at_call 14; (with_reducible refine q1.mono ?_); rintro e w1 ⟨rfl, n1⟩)
    go_ret2
    exact ⟨_, rfl, OwnR.nil, HN0.trans n1⟩
  | true =>
    have hO := rokb_iff.1 ho
    rw [ho] at q1
    cases hr : okR r with
    | false =>
      obtain ⟨e1, e2⟩ := bad (by rw [hr]; simp)
      rw [e1, e2]
      rw [hr] at q2
      clear ho hr e1 e2 hO bad
      go_enter Tryd.func9, Tryd.ntmps9
      go_wp2_with (first
        | (go_at_call 14; (with_reducible refine q1.mono ?_); rintro e w1 ⟨rfl, n1⟩; obtain ⟨b0, b1, b2⟩ := (BR.new n1).three)
        | (go_at_call 26; (with_reducible refine (q2 _).mono ?_); rintro e w2 ⟨rfl, n2⟩))
      go_ret2
      exact ⟨_, rfl, OwnR.nil, HN0.trans (n1.trans n2)⟩
    | true =>
      rw [hr] at q2
      have hp := okR_iff.1 hr
      have HRR := Lib.hid hr
      have HO := Lib.hid hO
      have qm := fun W (k : New w W) => dMap_any W _ L (h.new k) hO
      clear ho hO bad
      obtain ⟨f, t, P⟩ := r
      simp only at hp q2 BR HN0 q1
      obtain ⟨F, rfl⟩ := Int.eq_ofNat_of_zero_le hp.1
      obtain ⟨T, rfl⟩ := Int.eq_ofNat_of_zero_le (show 0 ≤ t by omega)
      have hFT : F < T := by omega
      have hT4 : T ≤ 4096 := by omega
      have hP7 : P ≤ 7 := hp.2.2.2
      clear hr hp
      go_enter Tryd.func9, Tryd.ntmps9
      go_wp2_with fail
      refine q1.mono ?_
      rintro e w1 ⟨rfl, n1⟩
      have B1 := BR.new n1
      have N1 := HN0.trans n1
      obtain ⟨b0, b1, b2⟩ := B1.three
      go_wp2_with fail
      refine (q2 _).mono ?_
      rintro e w2 ⟨rfl, n2⟩
      have B2 := B1.new n2
      have N2 := N1.trans n2
      clear b0 b1 b2
      go_wp2_with fail
      refine (qm _ N2).mono ?_
      rintro e w3 ⟨g, M, rfl, hg, hM1, hM2, n3⟩
      have B3 := B2.new n3
      have N3 := N2.trans n3
      have hgs : w2.heap.size ≤ g := hg
      have hbg : w.heap.size < w2.heap.size := B2.lt
      obtain ⟨b0, b1, b2⟩ := B3.three
      go_upto_if 23 with (fail)
      have ei : ∀ i, i < 4096 → M i = if F ≤ i ∧ i < F + 0 then (P : Int) else mv (rpg L i) := fun i hi => by rw [if_neg (by omega)]; exact hM2 i hi
      go_loopg [7] (T - F) (fun k i wr => ∃ (q : Nat) (M2 : Nat → Int), q + k = T - F ∧ i = .int .i64 ((F + q : Nat) : Int) ∧ Mp wr g M2 ∧ (∀ i, i < 4096 → M2 i = if F ≤ i ∧ i < F + q then (P : Int) else mv (rpg L i)) ∧ (∀ i, F ≤ i → i < F + q → rpg L (i : Int) = none) ∧ New w2 wr)
      case atStart => exact ⟨0, M, by omega, rfl, hM1, ei, (fun i h1 h2 => absurd h1 (by omega)), n3⟩
      case round =>
        clear hM1 hM2 ei
        obtain ⟨q, M2, hq, rfl, hM, hm, hc, hn⟩ := hrel
        have Q := Lib.hid hq
        have Hm := Lib.hid hm
        have HC := Lib.hid hc

        have hx := Lib.hid (show ∀ h : F + q < 4096, M2 (F + q) = mv (rpg L ((F + q : Nat) : Int)) from fun h => by rw [hm _ h, if_neg (by omega)])
        generalize hFq : F + q = m at *
        have HFq := Lib.hid hFq
        by_cases cq : m < T
        · have k0 := hM.cell m (by omega)
          have f0 := hM.unfrozen m
          have hlt := hM.lt
          have hx := hx.out (by omega)
          have HNs := Lib.hid (hn.setCell (p := ⟨g, m, none⟩) hgs (.int .i64 (P : Int)))
          have HM := Lib.hid (hM.set m (P : Int))
          have hn' := hn
          obtain ⟨b0, b1, b2⟩ := (B2.new hn).three
          cases hpm : rpg L (m : Int) with
          | some pm =>
            rw [hpm] at hx
            have d1 : M2 m = (pm : Int) := hx
            rw [d1] at k0
            have HE := Lib.hid (show adE L ⟨F, T, P⟩ = 17 ∧ adL L ⟨F, T, P⟩ = [] by
              rcases adE_cases HO.out HRR.out with ⟨_, _, x3⟩ | ⟨x1, x2, _⟩
              · have := x3 (m : Int) (by simp only; omega) (by simp only; omega)
                rw [hpm] at this; cases this
              · exact ⟨x1, x2⟩)
            clear hx hpm hq hFq hM hm hc d1
            go_wp2
            go_ret2
            exact ⟨_, by rw [HE.out.1]; rfl, by rw [HE.out.2]; exact OwnR.nil, N2.trans hn'⟩
          | none =>
            rw [hpm] at hx
            have d1 : M2 m = -1 := hx
            rw [d1] at k0
            have HX := Lib.hid (show rpg L (m : Int) = none from hpm)
            clear hx hpm hq hFq hM hm hc hn d1 hn'
            go_wp2
            go_roundg (T - F - (q + 1))
            case measure => have := Q.out; have := HFq.out; omega
            case rel =>
              have := HFq.out
              refine ⟨q + 1, _, by have := Q.out; omega, by rw [show F + (q + 1) = m + 1 by omega]; go_num, HM.out, fun i hi => ?_, (fun i h1 h2 => by
                by_cases e : i = m
                · rw [e]; exact HX.out
                · exact HC.out i h1 (by omega)), HNs.out⟩
              unfold upd
              by_cases e : i = m
              · rw [if_pos e, if_pos (by omega)]
              · rw [if_neg e, Hm.out i hi]
                by_cases e2 : F ≤ i ∧ i < m
                · rw [if_pos (by omega), if_pos (by omega)]
                · rw [if_neg (by omega), if_neg (by omega)]
        · have HM := Lib.hid hM
          have hq2 : m = T := by omega
          subst hq2
          have HE := Lib.hid (show adE L ⟨F, m, P⟩ = 0 ∧ adL L ⟨F, m, P⟩ = layL L ⟨F, m, P⟩ by
            rcases adE_cases HO.out HRR.out with ⟨x1, x2, _⟩ | ⟨_, _, x3⟩
            · exact ⟨x1, x2⟩
            · refine absurd (fun q h1 h2 => ?_) x3
              simp only at h1 h2
              have := hc q.toNat (by omega) (by omega)
              rwa [show ((q.toNat : Nat) : Int) = q by omega] at this)
          obtain ⟨dc, d7⟩ := dl_lay HO.out HRR.out hm
          have ql := dList_any wr g M2 hM d7
          rw [dc] at ql
          have HNf := Lib.hid (N2.trans hn)
          obtain ⟨b0, b1, b2⟩ := (B2.new hn).three
          clear hx hq hM hm hc
          go_wp2_with (go_at_call 28; (with_reducible refine ql.mono ?_); rintro e w5 ⟨_, rfl, o5, n5⟩; obtain ⟨p5, c5, rfl⟩ := o5.shape)
          go_ret2
          exact ⟨_, by rw [HE.out.1]; rfl, by rw [HE.out.2]; exact OwnR.more o5 HNf.out.size, HNf.out.trans n5⟩
end
end Go.Proofs.YtfkjgbenjdmedaaDoor
