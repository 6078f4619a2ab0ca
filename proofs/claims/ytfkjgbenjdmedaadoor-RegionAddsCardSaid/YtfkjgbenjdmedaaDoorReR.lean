/- The document's own answers on regions: the region of a page, and the first hole, page by page. Contracts, for any list, in any world; behind each there are only new blocks. -/
import Derived.Test.YtfkjgbenjdmedaaDoorReQ
import Derived.Test.YtfkjgbenjdmedaaDoorReI
namespace Go.Proofs.YtfkjgbenjdmedaaDoor
open Go.RowKit Go.Joins
set_option linter.unusedVariables false
set_option maxRecDepth 100000
section
variable (w : World) (v : Value) (L : List Rg)
set_option maxHeartbeats 2000000 in
theorem dat_any (q : Int) (h : RgsA w v L) : Calls Tryd.prog 11 #[v, .int .i64 q] w (AtN (atO L q) w) := by
  have HN0 : New w (w.alloc (.cells #[.int .i64 0, .int .i64 0, .int .u8 0] 24)) := (New.refl w).alloc _ _
  have BR : Box (w.alloc (.cells #[.int .i64 0, .int .i64 0, .int .u8 0] 24)) w.heap.size #[.int .i64 0, .int .i64 0, .int .u8 0] 24 := Box.here w _ _ _ rfl
  have HA := Lib.hid (h.new HN0)
  have qm := fun W (k : New (w.alloc (.cells #[.int .i64 0, .int .i64 0, .int .u8 0] 24)) W) => dMay_any W v L ((h.new HN0).new k)
  obtain ⟨p, cap, rfl⟩ := h.shape
  have hB := h.len
  clear h
  by_cases h0 : L.length = 0
  · have hL : L = [] := List.eq_nil_of_length_eq_zero h0
    subst hL
    have e0 : atO ([] : List Rg) q = none := by unfold atO; split <;> rfl
    rw [e0]
    obtain ⟨hs, k0, k1, k2, f0, f1, f2⟩ := BR.three'
    clear qm h0 hB
    go_enter Tryd.func11, Tryd.ntmps11
    go_wp2
    go_loopg [6] 1 (fun k i wr => k = 1 ∧ i = .int .i64 0 ∧ w.alloc (.cells #[.int .i64 0, .int .i64 0, .int .u8 0] 24) = wr)
    case atStart => exact ⟨rfl, rfl, rfl⟩
    case round =>
      obtain ⟨hk, rfl, rfl⟩ := hrel
      clear hk
      go_wp2
      exact bodyPost_ret (v := .tuple #[.agg #[.int .i64 0, .int .i64 0, .int .u8 0], .bool false]) (by simp [results, Tryd.results11, go_sem, k0, k1, k2]) rfl ⟨rfl, by repeat (first | exact HN0 | refine New.setCell ?_ (by simp) _)⟩
  · cases ho : rokb L with
    | false =>
      have e0 : atO L q = none := by unfold atO; rw [ho, if_neg (by simp)]
      rw [e0]
      simp only [ho] at qm
      have hpos : 0 < L.length := by omega
      clear h0 ho e0
      go_enter Tryd.func11, Tryd.ntmps11
      go_wp2
      go_loopg [6] 1 (fun k i wr => k = 1 ∧ i = .int .i64 0 ∧ New (w.alloc (.cells #[.int .i64 0, .int .i64 0, .int .u8 0] 24)) wr)
      case atStart => exact ⟨rfl, rfl, New.refl _⟩
      case round =>
        obtain ⟨hk, rfl, hn⟩ := hrel
        clear hk
        have qw := qm _ hn
        have g1 : decide ((0 : Int) < (L.length : Int)) = true := by simp; omega
        go_wp2_with (go_at_call 14; (with_reducible refine qw.mono ?_); rintro e w2 ⟨rfl, n2⟩; obtain ⟨hs, k0, k1, k2, f0, f1, f2⟩ := (BR.new (hn.trans n2)).three')
        exact bodyPost_ret (v := .tuple #[.agg #[.int .i64 0, .int .i64 0, .int .u8 0], .bool false]) (by simp [results, Tryd.results11, go_sem, k0, k1, k2]) rfl ⟨rfl, by repeat (first | exact HN0.trans (hn.trans n2) | refine New.setCell ?_ (by simp) _)⟩
    | true =>
      have e0 : atO L q = L.find? (fun r => inR r q) := by unfold atO; rw [ho, if_pos rfl]
      rw [e0]
      simp only [ho] at qm
      clear h0 ho e0
      go_enter Tryd.func11, Tryd.ntmps11
      go_wp2
      go_loopg [6] L.length (fun k i wr => ∃ j : Nat, j + k = L.length ∧ i = .int .i64 (j : Int) ∧ (∀ i (hi : i < L.length), i < j → inR L[i] q = false) ∧ New (w.alloc (.cells #[.int .i64 0, .int .i64 0, .int .u8 0] 24)) wr)
      case atStart => exact ⟨0, by omega, rfl, (fun i _ h => absurd h (Nat.not_lt_zero _)), New.refl _⟩
      case round =>
        obtain ⟨j, hj, rfl, hok, hn⟩ := hrel
        have J := Lib.hid hj
        have HN := Lib.hid hn
        have HO := Lib.hid hok
        by_cases c : j < L.length
        · have qw := qm _ hn
          obtain ⟨x, rfl, hx⟩ := HA.out.at_ j c
          have hx := hx.new hn
          obtain ⟨r, hr⟩ : ∃ r, r = L[j] := ⟨_, rfl⟩
          have HRe := Lib.hid hr
          rw [← hr] at hx
          clear hok hn hj hr
          by_cases i1 : r.f ≤ q
          · have s1 : decide (r.f ≤ q) = true := by simpa using i1
            by_cases i2 : q < r.t
            · have s2 : decide (q < r.t) = true := by simpa using i2
              have HF := Lib.hid (show L.find? (fun r => inR r q) = some r from List.find?_eq_some_iff_getElem.2 ⟨inR_iff.2 ⟨i1, i2⟩, j, c, HRe.out.symm, fun i hi => by simpa using HO.out i (by omega) hi⟩)
              clear i1 i2
              go_wp2_with (go_at_call 14; (with_reducible refine qw.mono ?_); rintro e w2 ⟨rfl, n2⟩; obtain ⟨c0, c1, c2⟩ := hx.new n2; obtain ⟨hs, k0, k1, k2, f0, f1, f2⟩ := (BR.new (HN.out.trans n2)).three')
              refine bodyPost_ret (v := .tuple #[.agg #[.int .i64 r.f, .int .i64 r.t, .int .u8 (r.p : Int)], .bool true]) (by simp [results, Tryd.results11, go_sem, k0, k1, k2]) rfl ⟨?_, by repeat (first | exact HN0.trans (HN.out.trans n2) | refine New.setCell ?_ (by simp) _)⟩
              rw [HF.out]; rfl
            · have s2 : decide (q < r.t) = false := by simpa using i2
              have HF := Lib.hid (show inR r q = false from inR_not.2 fun h => i2 h.2)
              clear i1 i2
              go_wp2_with (go_at_call 14; (with_reducible refine qw.mono ?_); rintro e w2 ⟨rfl, n2⟩; obtain ⟨c0, c1, c2⟩ := hx.new n2)
              go_roundg (L.length - (j + 1))
              case measure => have := J.out; omega
              case rel =>
                refine ⟨j + 1, by have := J.out; omega, by go_num, fun i hi hij => ?_, HN.out.trans n2⟩
                by_cases e : i < j
                · exact HO.out i hi e
                · obtain rfl : i = j := by omega
                  rw [← HRe.out]; exact HF.out
          · have s1 : decide (r.f ≤ q) = false := by simpa using i1
            have HF := Lib.hid (show inR r q = false from inR_not.2 fun h => i1 h.1)
            clear i1
            go_wp2_with (go_at_call 14; (with_reducible refine qw.mono ?_); rintro e w2 ⟨rfl, n2⟩; obtain ⟨c0, c1, c2⟩ := hx.new n2)
            go_roundg (L.length - (j + 1))
            case measure => have := J.out; omega
            case rel =>
              refine ⟨j + 1, by have := J.out; omega, by go_num, fun i hi hij => ?_, HN.out.trans n2⟩
              by_cases e : i < j
              · exact HO.out i hi e
              · obtain rfl : i = j := by omega
                rw [← HRe.out]; exact HF.out
        · obtain rfl : j = L.length := by omega
          have e1 : L.find? (fun r => inR r q) = none := List.find?_eq_none.2 fun r hr => by
            obtain ⟨i, hi, rfl⟩ := List.getElem_of_mem hr
            rw [hok i hi hi]; simp
          have HF := Lib.hid e1
          obtain ⟨hs, k0, k1, k2, f0, f1, f2⟩ := (BR.new hn).three'
          clear hok hj e1
          go_wp2
          refine bodyPost_ret (v := .tuple #[.agg #[.int .i64 0, .int .i64 0, .int .u8 0], .bool false]) (by simp [results, Tryd.results11, go_sem, k0, k1, k2]) rfl ⟨?_, by repeat (first | exact HN0.trans hn | refine New.setCell ?_ (by simp) _)⟩
          rw [HF.out]; rfl
set_option maxHeartbeats 4000000 in
theorem dhole_any (m a b : Int) (h : RgsA w v L) : Calls Tryd.prog 13 #[v, .int .i64 m, .int .i64 a, .int .i64 b] w fun e w' => ∃ u c, e = .returned (.tuple #[.int .i64 u, .int .i64 c]) ∧ HoleR L m a b u c ∧ New w w' := by
  have q1 := dMay_any w v L h
  have q2 := fun W => dRange_any W a b
  obtain ⟨p, cap, rfl⟩ := h.shape
  cases ho : rokb L with
  | false =>
    have hX : HoleR L m a b 0 22 := .inr ⟨fun k => rokb_not.1 ho k.1, rfl, rfl⟩
    rw [ho] at q1
    clear ho
    go_enter Tryd.func13, Tryd.ntmps13
    go_wp2_with (go_at_call 14; (with_reducible refine q1.mono ?_); rintro e w1 ⟨rfl, n1⟩)
    go_ret2
    exact ⟨0, 22, rfl, hX, n1⟩
  | true =>
    have hO := rokb_iff.1 ho
    rw [ho] at q1
    cases hr : okP a b with
    | false =>
      have hX : HoleR L m a b 0 22 := .inr ⟨fun k => (by have := k.2.1; rw [hr] at this; cases this), rfl, rfl⟩
      rw [hr] at q2
      clear ho hr hO
      go_enter Tryd.func13, Tryd.ntmps13
      go_wp2_with (first
        | (go_at_call 14; (with_reducible refine q1.mono ?_); rintro e w1 ⟨rfl, n1⟩)
        | (go_at_call 32; (with_reducible refine (q2 _).mono ?_); rintro e w2 ⟨rfl, rfl⟩))
      go_ret2
      exact ⟨0, 22, rfl, hX, n1⟩
    | true =>
      rw [hr] at q2
      by_cases c1 : m < 1
      · have hX : HoleR L m a b 0 22 := .inr ⟨fun k => (by have := k.2.2.1; omega), rfl, rfl⟩
        have d1 : decide (m < 1) = true := by simpa using c1
        clear ho hr hO
        go_enter Tryd.func13, Tryd.ntmps13
        go_wp2_with (first
          | (go_at_call 14; (with_reducible refine q1.mono ?_); rintro e w1 ⟨rfl, n1⟩)
          | (go_at_call 32; (with_reducible refine (q2 _).mono ?_); rintro e w2 ⟨rfl, rfl⟩))
        go_ret2
        exact ⟨0, 22, rfl, hX, n1⟩
      · by_cases c2 : 4096 < m
        · have hX : HoleR L m a b 0 22 := .inr ⟨fun k => (by have := k.2.2.2; omega), rfl, rfl⟩
          have d1 : decide (m < 1) = false := by simpa using c1
          have d2 : decide (4096 < m) = true := by simpa using c2
          clear ho hr hO
          go_enter Tryd.func13, Tryd.ntmps13
          go_wp2_with (first
            | (go_at_call 14; (with_reducible refine q1.mono ?_); rintro e w1 ⟨rfl, n1⟩)
            | (go_at_call 32; (with_reducible refine (q2 _).mono ?_); rintro e w2 ⟨rfl, rfl⟩))
          go_ret2
          exact ⟨0, 22, rfl, hX, n1⟩
        · have hA : hoA L m a b := ⟨hO, hr, by omega, by omega⟩
          have hp := okP_iff.1 hr
          obtain ⟨N, rfl⟩ := Int.eq_ofNat_of_zero_le (show 0 ≤ m by omega)
          obtain ⟨F, rfl⟩ := Int.eq_ofNat_of_zero_le hp.1
          obtain ⟨T, rfl⟩ := Int.eq_ofNat_of_zero_le (show 0 ≤ b by omega)
          have hFT : F < T := by omega
          have hT4 : T ≤ 4096 := by omega
          have hN1 : 1 ≤ N := by omega
          have hN4 : N ≤ 4096 := by omega
          have d1 : decide ((N : Int) < 1) = false := by simpa using c1
          have d2 : decide (4096 < (N : Int)) = false := by simpa using c2
          have d1' : decide (N < 1) = false := by simp; omega
          have d2' : decide (4096 < N) = false := by simp; omega
          have HA := Lib.hid hA
          have qm := fun W (k : New w W) => dMap_any W _ L (h.new k) hO
          clear ho hr hp hO c1 c2 hA
          go_enter Tryd.func13, Tryd.ntmps13
          go_wp2_with (first
            | (go_at_call 14; (with_reducible refine q1.mono ?_); rintro e w1 ⟨rfl, n1⟩)
            | (go_at_call 32; (with_reducible refine (q2 _).mono ?_); rintro e w2 ⟨rfl, rfl⟩)
            | (go_at_call 27; (with_reducible refine (qm _ n1).mono ?_); rintro e w3 ⟨g, M, rfl, hg, hM, hm, n3⟩))
          have HN3 := Lib.hid (n1.trans n3)
          have Hm := Lib.hid hm
          have HM := Lib.hid hM
          go_loopg [11, 12] (T - F) (fun k fr i wr => ∃ q f : Nat, q + k = T - F ∧ i = .int .i64 ((F + q : Nat) : Int) ∧ fr = .int .i64 (f : Int) ∧ f < N ∧ f ≤ q ∧ (∀ s : Int, ((F + q : Nat) : Int) - f ≤ s → s < ((F + q : Nat) : Int) → rpg L s = none) ∧ (f = q ∨ rpg L (((F + q : Nat) : Int) - f - 1) ≠ none) ∧ (∀ p' : Int, p' + N ≤ ((F + q : Nat) : Int) → ¬ HoleAt L N F T p') ∧ w3 = wr)
          case atStart => exact ⟨0, 0, by omega, rfl, rfl, by omega, Nat.le_refl _, (fun s h1 h2 => by omega), .inl rfl, (fun p' h1 h2 => by have := h2.1; omega), rfl⟩
          case round =>
            clear hM hm n1 n3
            obtain ⟨q, f, hq, rfl, rfl, hf, hfq, hfr, hst, hno, rfl⟩ := hrel
            have Q := Lib.hid hq
            have HF := Lib.hid hfr
            have HS := Lib.hid hst
            have HO := Lib.hid hno
            generalize hFq : F + q = x at *
            have HX := Lib.hid hFq
            have hxb : x ≤ 4096 := by omega
            by_cases cq : x < T
            · have k0 := HM.out.cell x (by omega)
              have hx := Hm.out x (by omega)
              have cq' : decide ((x : Int) < (T : Int)) = true := by simp; omega
              have e1 : IntKind.i64.wrap ((f : Int) + 1) = (f : Int) + 1 := IntWalk.i64_in _ (by omega)
              cases hpm : rpg L (x : Int) with
              | none =>
                rw [hpm] at hx
                have hx : M x = -1 := hx
                rw [hx] at k0
                have HP := Lib.hid hpm
                have hfr2 := Lib.hid (show ∀ s : Int, (x : Int) - f ≤ s → s < (x : Int) + 1 → rpg L s = none from fun s h1 h2 => by
                  by_cases e : s = x
                  · rw [e]; exact hpm
                  · exact hfr s (by omega) (by omega))
                clear hfr hst hno hpm hx hq hFq
                by_cases cf : f + 1 = N
                · have g1 : ((f : Int) + 1 == (N : Int)) = true := by simp; omega
                  have hR : HoleR L N F T ((x : Int) - N + 1) 0 := .inl ⟨HA.out, .inl ⟨rfl, ⟨by have := HX.out; omega, by omega, fun s h1 h2 => hfr2.out s (by omega) (by omega)⟩, fun p' hp' => HO.out p' (by omega)⟩⟩
                  have HR := Lib.hid hR
                  clear cf hR
                  go_wp2
                  go_ret2
                  exact ⟨_, 0, rfl, HR.out, HN3.out⟩
                · have g1 : ((f : Int) + 1 == (N : Int)) = false := by simp; omega
                  have hfN : f + 1 < N := by omega
                  clear cf
                  go_wp2
                  go_roundg (T - F - (q + 1))
                  case measure => have := Q.out; have := HX.out; omega
                  case rel =>
                    have hxx := HX.out
                    refine ⟨q + 1, f + 1, by have := Q.out; omega, by rw [show F + (q + 1) = x + 1 by omega]; go_num, by go_num, hfN, by omega, fun s h1 h2 => hfr2.out s (by omega) (by omega), ?_, fun p' h1 h2 => ?_, rfl⟩
                    · rcases HS.out with e | e
                      · exact .inl (by omega)
                      · refine .inr ?_
                        rwa [show ((F + (q + 1) : Nat) : Int) - ((f + 1 : Nat) : Int) - 1 = (x : Int) - f - 1 by omega]
                    · by_cases e : p' + N ≤ (x : Int)
                      · exact HO.out p' e h2
                      · have hp0 := h2.1
                        rcases HS.out with e2 | e2
                        · omega
                        · exact e2 (h2.2.2 _ (by omega) (by omega))
              | some pm =>
                rw [hpm] at hx
                have hx : M x = (pm : Int) := hx
                rw [hx] at k0
                have HP := Lib.hid (show rpg L (x : Int) ≠ none by rw [hpm]; simp)
                have g1 : ((0 : Int) == (N : Int)) = false := by simp; omega
                clear hfr hst hno hpm hx hq hFq
                go_wp2
                go_roundg (T - F - (q + 1))
                case measure => have := Q.out; have := HX.out; omega
                case rel =>
                  have hxx := HX.out
                  refine ⟨q + 1, 0, by have := Q.out; omega, by rw [show F + (q + 1) = x + 1 by omega]; go_num, rfl, by omega, by omega, (fun s h1 h2 => by omega), .inr ?_, fun p' h1 h2 => ?_, rfl⟩
                  · rw [show ((F + (q + 1) : Nat) : Int) - ((0 : Nat) : Int) - 1 = (x : Int) by omega]; exact HP.out
                  · by_cases e : p' + N ≤ (x : Int)
                    · exact HO.out p' e h2
                    · exact HP.out (h2.2.2 _ (by omega) (by omega))
            · have hR : HoleR L N F T 0 12 := .inl ⟨HA.out, .inr ⟨rfl, rfl, fun p' h2 => hno p' (by have := h2.2.1; omega) h2⟩⟩
              have HR := Lib.hid hR
              have cq' : decide ((x : Int) < (T : Int)) = false := by simp; omega
              clear hfr hst hno hq hFq hR
              go_wp2
              go_ret2
              exact ⟨0, 12, rfl, HR.out, HN3.out⟩
end
end Go.Proofs.YtfkjgbenjdmedaaDoor
