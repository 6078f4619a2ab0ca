/- The first hole: what the package of regions answers. A contract, for any list, in any world; behind it there are only new blocks. -/
import Derived.Test.YtfkjgbenjdmedaaDoorReH
namespace Go.Proofs.YtfkjgbenjdmedaaDoor
open Go.RowKit
set_option linter.unusedVariables false
set_option maxRecDepth 100000
/-- so many pages from one on, up to another one, are in no region -/
def HoleAt (l : List Rg) (m a b p : Int) : Prop := a ≤ p ∧ p + m ≤ b ∧ ∀ q, p ≤ q → q < p + m → rpg l q = none
/-- a page and an error's number: the least such page, or none -/
def HoleIs (l : List Rg) (m a b v c : Int) : Prop := (c = 0 ∧ HoleAt l m a b v ∧ ∀ p, p < v → ¬ HoleAt l m a b p) ∨ (c = 12 ∧ v = 0 ∧ ∀ p, ¬ HoleAt l m a b p)
theorem HoleIs.uniq {l : List Rg} {m a b v c v' c' : Int} (h : HoleIs l m a b v c) (k : HoleIs l m a b v' c') : v = v' ∧ c = c' := by
  rcases h with ⟨h1, h2, h3⟩ | ⟨h1, h2, h3⟩ <;> rcases k with ⟨k1, k2, k3⟩ | ⟨k1, k2, k3⟩
  · refine ⟨?_, by omega⟩
    have a1 : ¬ v < v' := fun e => k3 _ e h2
    have a2 : ¬ v' < v := fun e => h3 _ e k2
    omega
  · exact absurd h2 (k3 _)
  · exact absurd k2 (h3 _)
  · exact ⟨by omega, by omega⟩
/-- may a hole be asked for? -/
def hoA (l : List Rg) (m a b : Int) : Prop := ROk l ∧ okP a b = true ∧ 1 ≤ m ∧ m ≤ 4096
def HoleR (l : List Rg) (m a b v c : Int) : Prop := (hoA l m a b ∧ HoleIs l m a b v c) ∨ (¬ hoA l m a b ∧ v = 0 ∧ c = 22)
theorem HoleR.uniq {l : List Rg} {m a b v c v' c' : Int} (h : HoleR l m a b v c) (k : HoleR l m a b v' c') : v = v' ∧ c = c' := by
  rcases h with ⟨h1, h2⟩ | ⟨h1, h2, h3⟩ <;> rcases k with ⟨k1, k2⟩ | ⟨k1, k2, k3⟩
  · exact h2.uniq k2
  · exact absurd h1 k1
  · exact absurd k1 h1
  · exact ⟨by omega, by omega⟩
/-- a region that has one of the pages is in the way -/
theorem over_no {l : List Rg} (hO : ROk l) {r : Rg} (hr : r ∈ l) {m a b p f : Int} (hm : 1 ≤ m) (h1 : r.f < f + m) (h2 : f < r.t) (h3 : f ≤ p) (h4 : p < r.t) : ¬ HoleAt l m a b p := by
  rintro ⟨_, _, h⟩
  have ho := okR_iff.1 (RCh.mem hO r hr)
  have key : ∀ q, p ≤ q → q < p + m → r.f ≤ q → q < r.t → False := fun q a1 a2 a3 a4 => by
    have := h q a1 a2
    rw [hO.asc.pg_at hr (inR_iff.2 ⟨a3, a4⟩)] at this
    cases this
  by_cases c : r.f ≤ p
  · exact key p (by omega) (by omega) c h4
  · exact key r.f (by omega) (by omega) (by omega) ho.2.1
theorem over_free {l : List Rg} {m f : Int} (h : ∀ r ∈ l, ovR f (f + m) r = false) : ∀ q, f ≤ q → q < f + m → rpg l q = none := fun q h1 h2 => rpg_none.2 fun r hr => by
  have := h r hr
  rw [← Bool.not_eq_true, ovR_iff] at this
  rw [inR_not]; omega
theorem Rgs.drop {w : World} {p : Option Addr} {n cap : Nat} {l : List Rg} (h : Rgs w (.slice p n cap) l) (k : Nat) (hk : k ≤ l.length) (p' : Option Addr) (hp : ∀ x, p = some x → k < l.length → p' = some (x.add (k * 3))) : Rgs w (.slice p' (n - k) (cap - k)) (l.drop k) := by
  obtain ⟨p0, cap0, h1, h2, h3, h4⟩ := h
  cases h1
  refine ⟨p', cap - k, by rw [List.length_drop], by rw [List.length_drop]; omega, by omega, fun i hi => ?_⟩
  rw [List.length_drop] at hi
  obtain ⟨x, hx, hr⟩ := h4 (k + i) (by omega)
  refine ⟨_, hp x hx (by omega), ?_⟩
  rw [List.getElem_drop, Go.Deep.add_add, ← Nat.add_mul]
  exact hr
set_option maxHeartbeats 2000000 in
theorem rhole_any (w : World) (v : Value) (L : List Rg) (m a b : Int) (h : Rgs w v L) : Calls Tryd.prog 12 #[v, .int .i64 m, .int .i64 a, .int .i64 b] w fun e w' => ∃ u c, e = .returned (.tuple #[.int .i64 u, erN c]) ∧ HoleR L m a b u c ∧ New w w' := by
  have q1 := check_any _ v L h
  have q2 := fun W => arePages_any W a b
  obtain ⟨p, cap, rfl, _, _⟩ := h.shape
  cases ho : rokb L with
  | false =>
    have hX : HoleR L m a b 0 22 := .inr ⟨fun k => rokb_not.1 ho k.1, rfl, rfl⟩
    rw [chv_no (rokb_not.1 ho), erN_pos (by decide)] at q1
    clear ho
    go_enter Tryd.func12, Tryd.ntmps12
    go_wp2_with (go_at_call 18; (with_reducible refine q1.mono ?_); rintro e w1 ⟨rfl, n1⟩)
    go_ret2
    exact ⟨0, 22, rfl, hX, n1⟩
  | true =>
    have hO := rokb_iff.1 ho
    rw [chv_ok hO, erN_zero] at q1
    cases hr : okP a b with
    | false =>
      have hX : HoleR L m a b 0 22 := .inr ⟨fun k => (by have := k.2.1; rw [hr] at this; cases this), rfl, rfl⟩
      rw [hr] at q2
      clear ho hr hO
      go_enter Tryd.func12, Tryd.ntmps12
      go_wp2_with fail
      refine q1.mono ?_
      rintro e w1 ⟨rfl, n1⟩
      go_wp2_with fail
      refine (q2 _).mono ?_
      rintro e w2 ⟨rfl, rfl⟩
      go_wp2
      go_ret2
      exact ⟨0, 22, rfl, hX, n1⟩
    | true =>
      rw [hr] at q2
      by_cases c1 : m < 1
      · have hX : HoleR L m a b 0 22 := .inr ⟨fun k => (by have := k.2.2.1; omega), rfl, rfl⟩
        have d1 : decide (m < 1) = true := by simpa using c1
        clear ho hr hO
        go_enter Tryd.func12, Tryd.ntmps12
        go_wp2_with fail
        refine q1.mono ?_
        rintro e w1 ⟨rfl, n1⟩
        go_wp2_with fail
        refine (q2 _).mono ?_
        rintro e w2 ⟨rfl, rfl⟩
        go_wp2
        go_ret2
        exact ⟨0, 22, rfl, hX, n1⟩
      · by_cases c2 : 4096 < m
        · have hX : HoleR L m a b 0 22 := .inr ⟨fun k => (by have := k.2.2.2; omega), rfl, rfl⟩
          have d1 : decide (m < 1) = false := by simpa using c1
          have d2 : decide (4096 < m) = true := by simpa using c2
          clear ho hr hO
          go_enter Tryd.func12, Tryd.ntmps12
          go_wp2_with fail
          refine q1.mono ?_
          rintro e w1 ⟨rfl, n1⟩
          go_wp2_with fail
          refine (q2 _).mono ?_
          rintro e w2 ⟨rfl, rfl⟩
          go_wp2
          go_ret2
          exact ⟨0, 22, rfl, hX, n1⟩
        · have hA : hoA L m a b := ⟨hO, hr, by omega, by omega⟩
          have hab := okP_iff.1 hr
          have d1 : decide (m < 1) = false := by simpa using c1
          have d2 : decide (4096 < m) = false := by simpa using c2
          have HO := Lib.hid hO
          have HA := Lib.hid hA
          have HR := Lib.hid h
          clear ho hr hO hA h
          go_enter Tryd.func12, Tryd.ntmps12
          go_wp2_with fail
          refine q1.mono ?_
          rintro e w1 ⟨rfl, n1⟩
          go_wp2_with fail
          refine (q2 _).mono ?_
          rintro e w2 ⟨rfl, rfl⟩
          go_upto_if 1 with (fail)
          have hLm := HR.out.len
          have hLb : L.length ≤ 9223372036854775807 := by unfold maxLen at hLm; omega
          clear hLm
          have QO := fun W v' l' (k : Rgs W v' l') x y => over_any W v' l' k x y
          go_loopg [0, 2] L.length (fun k s f wr => ∃ (d : Nat) (F : Int), d + k = L.length ∧ Rgs wr s (L.drop d) ∧ f = .int .i64 F ∧ a ≤ F ∧ F ≤ 4096 ∧ (∀ r ∈ L.take d, r.t ≤ F) ∧ (∀ p, p < F → ¬ HoleAt L m a b p) ∧ New w wr)
          case atStart => exact ⟨0, a, by omega, by rw [List.drop_zero]; exact HR.out.new n1, rfl, Int.le_refl _, by omega, (fun r hr => by simp at hr), (fun p hp hh => by have := hh.1; omega), n1⟩
          case round =>
            obtain ⟨d, F, hd, hR, rfl, hF1, hF2, hT, hH, hn⟩ := hrel
            have q3 := QO _ _ _ hR F (F + m)
            have HT := Lib.hid hT
            have HH := Lib.hid hH
            have HN := Lib.hid hn
            have D := Lib.hid hd
            have HRd := Lib.hid hR
            obtain ⟨p', c', rfl, hc1, hc2⟩ := hR.shape
            rw [List.length_drop] at q3
            clear hT hH hn hd hR QO
            by_cases cb : F + m ≤ b
            · have db : decide (F + m ≤ b) = true := by simpa using cb
              rcases fiN_cases (ovR F (F + m)) (L.drop d) with ⟨hf, hno⟩ | ⟨n, hnl, hf, hov, hfi⟩
              · rw [hf] at q3
                have hX : HoleR L m a b F 0 := .inl ⟨HA.out, .inl ⟨rfl, ⟨hF1, cb, over_free fun r hr => by
                  rw [← List.take_append_drop d L] at hr
                  rcases List.mem_append.1 hr with hr | hr
                  · have := HT.out r hr
                    rw [← Bool.not_eq_true, ovR_iff]; omega
                  · exact hno r hr⟩, HH.out⟩⟩
                clear hno hf
                go_wp2_with fail
                refine q3.mono ?_
                rintro e w3 ⟨rfl, n3⟩
                go_wp2
                go_ret2
                exact ⟨F, 0, rfl, hX, HN.out.trans n3⟩
              · rw [hf] at q3
                obtain ⟨_, x, rfl, hx⟩ := HRd.out.at_ n hnl
                have hmem : (L.drop d)[n] ∈ L := List.mem_of_mem_drop (List.getElem_mem hnl)
                have hro := okR_iff.1 (RCh.mem HO.out _ hmem)
                have hov := ovR_iff.1 hov
                have HF2 := Lib.hid (show ∀ p, p < (L.drop d)[n].t → ¬ HoleAt L m a b p from fun p hp => by
                  by_cases e : p < F
                  · exact HH.out p e
                  · exact over_no HO.out hmem (f := F) (by omega) hov.1 hov.2 (by omega) hp)
                have hdn : d + n < L.length := by rw [List.length_drop] at hnl; omega
                have hget : (L.drop d)[n] = L[d + n] := List.getElem_drop
                have HT2 := Lib.hid (show ∀ r ∈ L.take (d + n + 1), r.t ≤ (L.drop d)[n].t from fun r hr => by
                  rw [List.take_succ_eq_append_getElem hdn] at hr
                  rcases List.mem_append.1 hr with hr | hr
                  · have hA : RAsc (L.take (d + n) ++ [L[d + n]]) := by
                      rw [← List.take_succ_eq_append_getElem hdn]
                      have := HO.out.asc
                      rw [← List.take_append_drop (d + n + 1) L] at this
                      exact ((rch_append _ _).1 this).1
                    have := RAsc.below hA r hr
                    rw [hget] at hro ⊢; omega
                  · rw [List.mem_singleton.1 hr, hget]; exact Int.le_refl _)
                have hN4 := Lib.hid (show F ≤ (L.drop d)[n].t by omega)
                clear hf hfi hmem hget HO
                generalize (L.drop d)[n] = r at *
                obtain ⟨f, t, p⟩ := r
                simp only at *
                have HDR := Lib.hid (fun W' (k : New wr W') p'' hp'' => (HRd.out.new k).drop (n + 1) (by omega) p'' hp'')
                clear HRd
                rw [List.length_drop] at hnl
                go_wp2_with fail
                refine q3.mono ?_
                rintro e w3 ⟨rfl, n3⟩
                obtain ⟨c0, c1', c2'⟩ := hx.new n3
                have g1 : IntKind.i64.wrap ((n : Int) + 1) = (n : Int) + 1 := IntWalk.i64_in _ (by omega)
                have g2 : ((n : Int) + 1).toNat = n + 1 := by omega
                go_upto_region 7 with fail
                go_region
                have N4 := Lib.hid (HN.out.trans n3.drew)
                have R4 := Lib.hid (HDR.out w3.drew n3.drew (if c' = n + 1 then some x else some (x.add ((n + 1) * 3))) (fun y hy hk => by
                  cases hy
                  have hc3 := hc1
                  rw [List.length_drop] at hc3 hk
                  rw [if_neg (by omega)]))
                generalize (if c' = n + 1 then some x else some (x.add ((n + 1) * 3))) = y at *
                go_wp2
                go_roundg (L.length - (d + n + 1))
                case measure => have := D.out; omega
                case rel =>
                  have R5 := R4.out
                  rw [List.drop_drop, List.length_drop] at R5
                  exact ⟨d + n + 1, t, by have := D.out; omega, R5, rfl, by have := hN4.out; omega, hro.2.2.1, HT2.out, HF2.out, N4.out⟩
            · have db : decide (F + m ≤ b) = false := by simpa using cb
              have hX : HoleR L m a b 0 12 := .inl ⟨HA.out, .inr ⟨rfl, rfl, fun p hp => by
                by_cases e : p < F
                · exact HH.out p e hp
                · have := hp.2.1; omega⟩⟩
              clear cb
              go_wp2
              go_ret2
              exact ⟨0, 12, rfl, hX, HN.out⟩
end Go.Proofs.YtfkjgbenjdmedaaDoor
