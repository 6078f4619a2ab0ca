/- The document's own answers on regions: whether they may be, in any world; and the list of pages that are used in some way, as plain lists. -/
import Derived.Test.YtfkjgbenjdmedaaDoorReK
import Derived.Test.YtfkjgbenjdmedaaDoorReL
import Derived.BigQuiet
import Derived.Deep.QuietTactic
namespace Go.Proofs.YtfkjgbenjdmedaaDoor
open Go.RowKit
set_option linter.unusedVariables false
set_option maxRecDepth 100000
theorem dRange_any (w : World) (a b : Int) : Calls Tryd.prog 32 #[.int .i64 a, .int .i64 b] w fun e w' => e = .returned (.bool (okP a b)) ∧ w = w' := by
  unfold okP
  by_cases c0 : 0 ≤ a
  · have d0 : decide (0 ≤ a) = true := by simpa using c0
    rw [d0]
    by_cases c1 : a < b
    · have d1 : decide (a < b) = true := by simpa using c1
      rw [d1]
      generalize hd2 : decide (b ≤ 4096) = d2
      go_enter Tryd.func32, Tryd.ntmps32
      go_wp2
      go_ret
      exact ⟨by cases d2 <;> rfl, rfl⟩
    · have d1 : decide (a < b) = false := by simpa using c1
      rw [d1]
      go_enter Tryd.func32, Tryd.ntmps32
      go_wp2
      go_ret
      exact ⟨rfl, rfl⟩
  · have d0 : decide (0 ≤ a) = false := by simpa using c0
    rw [d0]
    go_enter Tryd.func32, Tryd.ntmps32
    go_wp2
    go_ret
    exact ⟨rfl, rfl⟩
theorem dOne_any (w : World) (r : Rg) : Calls Tryd.prog 26 #[.agg #[.int .i64 r.f, .int .i64 r.t, .int .u8 (r.p : Int)]] w (BoolN (okR r) w) := by
  obtain ⟨f, t, p⟩ := r
  unfold okR
  simp only
  have q := fun w => dRange_any w f t
  generalize okP f t = d at *
  cases d with
  | false =>
    go_enter Tryd.func26, Tryd.ntmps26
    go_wp2_with (go_at_call 32; (with_reducible refine (q _).mono ?_); rintro e w' ⟨rfl, rfl⟩)
    go_ret
    exact ⟨rfl, by repeat (first | exact New.refl _ | refine New.alloc ?_ _ _)⟩
  | true =>
    have e : decide ((p : Int) ≤ 7) = decide (p ≤ 7) := by
      by_cases h : p ≤ 7
      · rw [decide_eq_true h, decide_eq_true (by omega)]
      · rw [decide_eq_false h, decide_eq_false (by omega)]
    generalize decide (p ≤ 7) = d2 at *
    go_enter Tryd.func26, Tryd.ntmps26
    go_wp2_with (go_at_call 32; (with_reducible refine (q _).mono ?_); rintro e w' ⟨rfl, rfl⟩)
    go_ret
    exact ⟨rfl, by repeat (first | exact New.refl _ | refine New.alloc ?_ _ _)⟩
set_option maxHeartbeats 2000000 in
theorem dMay_any (w : World) (v : Value) (l : List Rg) (h : RgsA w v l) : Calls Tryd.prog 14 #[v] w (BoolN (rokb l) w) := by
  obtain ⟨p, cap, rfl⟩ := h.shape
  have hB := h.len
  have HR := Lib.hid h
  clear h
  have QR := fun w r => dOne_any w r
  go_enter Tryd.func14, Tryd.ntmps14
  go_wp2
  go_loopg [3] l.length (fun k i wr => ∃ j : Nat, j + k = l.length ∧ i = .int .i64 (j : Int) ∧ New w wr ∧ ∀ i (h : i < l.length), i < j → okR l[i] = true ∧ ∀ j, j + 1 = i → ∀ (hj : j < l.length), RFol l[j] l[i])
  case atStart => exact ⟨0, by omega, rfl, New.refl _, fun i _ h => absurd h (Nat.not_lt_zero _)⟩
  case round =>
    obtain ⟨j, hj, rfl, hn, hok⟩ := hrel
    by_cases c : j < l.length
    · have HO := Lib.hid hok
      have HN := Lib.hid hn
      have J := Lib.hid hj
      obtain ⟨x, rfl, hx⟩ := HR.out.at_ j c
      have cx := hx.new hn
      have qr := QR wr l[j]
      obtain ⟨r, hr⟩ : ∃ r, r = l[j] := ⟨_, rfl⟩
      have HRe := Lib.hid hr
      rw [← hr] at cx qr
      clear hok hn hj hr hx
      obtain ⟨c0, c1, c2⟩ := cx.cells
      cases hokr : okR r with
      | false =>
        rw [hokr] at qr
        have hb : rokb l = false := rokb_not.2 fun k => by
          have := RCh.mem k l[j] (List.getElem_mem c)
          rw [← HRe.out, hokr] at this; cases this
        have HB := Lib.hid hb
        clear hokr hb
        go_wp2_with (go_at_call 26; (with_reducible refine qr.mono ?_); rintro e w2 ⟨rfl, n2⟩)
        go_ret
        exact ⟨by rw [HB.out]; rfl, HN.out.trans n2⟩
      | true =>
        rw [hokr] at qr
        have HKr := Lib.hid hokr
        clear hokr
        by_cases c0j : j = 0
        · have HJ := Lib.hid c0j
          have g0 : decide (0 < j) = false := by simp; omega
          have g0' : decide (0 < (j : Int)) = false := by simp; omega
          clear c0j
          go_wp2_with (go_at_call 26; (with_reducible refine qr.mono ?_); rintro e w2 ⟨rfl, n2⟩)
          have N3 := Lib.hid (fun n => HN.out.trans (n2.drewN n))
          go_quiet (fail)
          go_wp2
          go_roundg (l.length - (j + 1))
          case measure => have := J.out; omega
          case rel =>
            refine ⟨j + 1, by have := J.out; omega, by go_num, N3.out _, fun q hq hqj => ?_⟩
            by_cases e : q < j
            · exact HO.out q hq e
            · obtain rfl : q = j := by omega
              exact ⟨by rw [← HRe.out]; exact HKr.out, fun z hz _ => by have := HJ.out; omega⟩
        · obtain ⟨i, hi⟩ : ∃ i, i + 1 = j := ⟨j - 1, by omega⟩
          have HJ := Lib.hid hi
          have hil : i < l.length := by omega
          have g0 : decide (0 < j) = true := by simp; omega
          have gs : IntKind.i64.wrap ((j : Int) - 1) = (i : Int) := by rw [IntWalk.i64_in _ (by omega)]; omega
          obtain ⟨x', ex, hxp⟩ := HR.out.at_ i hil
          cases ex
          have py := hxp.new HN.out
          obtain ⟨y, hy⟩ : ∃ y, y = l[i] := ⟨_, rfl⟩
          have HY := Lib.hid hy
          rw [← hy] at py
          clear c0j hi hy hxp
          by_cases t1 : r.f < y.t
          · have d1 : decide (r.f < y.t) = true := by simpa using t1
            have HF := Lib.hid (show rokb l = false from rokb_not.2 fun k => by
              have := ((rch_iff l).1 k j c).2 i HJ.out hil
              rw [← HRe.out, ← HY.out] at this
              have := folR_iff.1 this
              omega)
            clear t1
            go_wp2_with (go_at_call 26; (with_reducible refine qr.mono ?_); rintro e w2 ⟨rfl, n2⟩; obtain ⟨e0, e1, e2⟩ := cx.new n2; obtain ⟨p0, p1, p2⟩ := py.new n2)
            have N3 := Lib.hid (fun n => HN.out.trans (n2.drewN n))
            go_quiet (fail)
            go_wp2
            go_ret
            exact ⟨by rw [HF.out]; rfl, N3.out _⟩
          · have d1 : decide (r.f < y.t) = false := by simpa using t1
            by_cases t2 : y.t = r.f
            · have d2 : (y.t == r.f) = true := by simpa using t2
              by_cases t3 : y.p = r.p
              · have d3 : ((y.p : Int) == (r.p : Int)) = true := by simp [t3]
                have HF := Lib.hid (show rokb l = false from rokb_not.2 fun k => by
                  have := ((rch_iff l).1 k j c).2 i HJ.out hil
                  rw [← HRe.out, ← HY.out] at this
                  have := folR_iff.1 this
                  omega)
                clear t1 t2 t3
                go_wp2_with (go_at_call 26; (with_reducible refine qr.mono ?_); rintro e w2 ⟨rfl, n2⟩; obtain ⟨e0, e1, e2⟩ := cx.new n2; obtain ⟨p0, p1, p2⟩ := py.new n2)
                have N3 := Lib.hid (fun n => HN.out.trans (n2.drewN n))
                go_quiet (fail)
                go_wp2
                go_ret
                exact ⟨by rw [HF.out]; rfl, N3.out _⟩
              · have d3 : ((y.p : Int) == (r.p : Int)) = false := by simp; omega
                have HF := Lib.hid (show RFol y r from folR_iff.2 (by omega))
                clear t1 t2 t3
                go_wp2_with (go_at_call 26; (with_reducible refine qr.mono ?_); rintro e w2 ⟨rfl, n2⟩; obtain ⟨e0, e1, e2⟩ := cx.new n2; obtain ⟨p0, p1, p2⟩ := py.new n2)
                have N3 := Lib.hid (fun n => HN.out.trans (n2.drewN n))
                go_quiet (fail)
                go_wp2
                go_roundg (l.length - (j + 1))
                case measure => have := J.out; omega
                case rel =>
                  refine ⟨j + 1, by have := J.out; omega, by go_num, N3.out _, fun q hq hqj => ?_⟩
                  by_cases e : q < j
                  · exact HO.out q hq e
                  · obtain rfl : q = j := by omega
                    refine ⟨by rw [← HRe.out]; exact HKr.out, fun z hz hzl => ?_⟩
                    obtain rfl : z = i := by have := HJ.out; omega
                    rw [← HRe.out, ← HY.out]; exact HF.out
            · have d2 : (y.t == r.f) = false := by simpa using t2
              have HF := Lib.hid (show RFol y r from folR_iff.2 (by omega))
              clear t1 t2
              go_wp2_with (go_at_call 26; (with_reducible refine qr.mono ?_); rintro e w2 ⟨rfl, n2⟩; obtain ⟨e0, e1, e2⟩ := cx.new n2; obtain ⟨p0, p1, p2⟩ := py.new n2)
              have N3 := Lib.hid (fun n => HN.out.trans (n2.drewN n))
              go_quiet (fail)
              go_wp2
              go_roundg (l.length - (j + 1))
              case measure => have := J.out; omega
              case rel =>
                refine ⟨j + 1, by have := J.out; omega, by go_num, N3.out _, fun q hq hqj => ?_⟩
                by_cases e : q < j
                · exact HO.out q hq e
                · obtain rfl : q = j := by omega
                  refine ⟨by rw [← HRe.out]; exact HKr.out, fun z hz hzl => ?_⟩
                  obtain rfl : z = i := by have := HJ.out; omega
                  rw [← HRe.out, ← HY.out]; exact HF.out
    · obtain rfl : j = l.length := by omega
      have hb : rokb l = true := rokb_iff.2 ((rch_iff l).2 fun i hi => hok i hi hi)
      go_wp2
      go_ret
      exact ⟨by rw [hb]; rfl, hn⟩
end Go.Proofs.YtfkjgbenjdmedaaDoor
