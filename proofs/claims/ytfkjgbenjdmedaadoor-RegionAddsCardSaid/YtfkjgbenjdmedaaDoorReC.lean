/- Where the first region is that meets a condition: the package's closures, the library's IndexFunc at each, what overlaps, and the region of a page. Contracts, for any list, in any world; behind each there are only new blocks. -/
import Derived.Test.YtfkjgbenjdmedaaDoorReB
namespace Go.Proofs.YtfkjgbenjdmedaaDoor
open Go.RowKit
set_option linter.unusedVariables false
set_option maxRecDepth 100000
/-- the first one's place, or -1 -/
def fiN (f : Rg → Bool) : List Rg → Int
  | [] => -1
  | r :: l => if f r = true then 0 else if fiN f l < 0 then -1 else fiN f l + 1
theorem fiN_at (f : Rg → Bool) : ∀ (l : List Rg) (j : Nat) (hj : j < l.length), (∀ i (hi : i < l.length), i < j → f l[i] = false) → f l[j] = true → fiN f l = j
  | [], j, hj, _, _ => absurd hj (Nat.not_lt_zero _)
  | r :: l, 0, _, _, h => by unfold fiN; rw [if_pos (by simpa using h)]; rfl
  | r :: l, j + 1, hj, h1, h2 => by
    have h0 := h1 0 (by simp) (by omega)
    have ih := fiN_at f l j (by simpa using hj) (fun i hi hij => h1 (i + 1) (by simpa using hi) (by omega)) (by simpa using h2)
    unfold fiN
    rw [if_neg (by simpa using h0), ih, if_neg (by omega)]; omega
theorem fiN_none (f : Rg → Bool) : ∀ (l : List Rg), (∀ r ∈ l, f r = false) → fiN f l = -1
  | [], _ => rfl
  | r :: l, h => by
    unfold fiN
    rw [if_neg (by rw [h r List.mem_cons_self]; simp), fiN_none f l fun s hs => h s (List.mem_cons_of_mem _ hs), if_pos (by omega)]
theorem fiN_cases (f : Rg → Bool) (l : List Rg) : (fiN f l = -1 ∧ ∀ r ∈ l, f r = false) ∨ ∃ j, ∃ hj : j < l.length, fiN f l = (j : Int) ∧ f l[j] = true ∧ ∀ i (hi : i < l.length), i < j → f l[i] = false := by
  induction l with
  | nil => exact .inl ⟨rfl, fun r h => absurd h List.not_mem_nil⟩
  | cons r l ih =>
    cases h : f r with
    | true => exact .inr ⟨0, by simp, by unfold fiN; rw [if_pos h]; rfl, by simpa using h, fun i _ hi => absurd hi (Nat.not_lt_zero _)⟩
    | false =>
      rcases ih with ⟨e, k⟩ | ⟨j, hj, e, k1, k2⟩
      · refine .inl ⟨by unfold fiN; rw [if_neg (by simp [h]), e]; rfl, fun s hs => ?_⟩
        rcases List.mem_cons.1 hs with rfl | hs
        · exact h
        · exact k s hs
      · refine .inr ⟨j + 1, by simpa using hj, by unfold fiN; rw [if_neg (by simp [h]), e, if_neg (by omega)]; omega, by simpa using k1, fun i hi hij => ?_⟩
        match i, hi, hij with
        | 0, _, _ => simpa using h
        | i + 1, hi, hij => exact k2 i (by simpa using hi) (by omega)
/-- does a region have one of the pages? -/
def ovR (a b : Int) (r : Rg) : Bool := decide (r.f < b) && decide (a < r.t)
theorem ovR_iff {a b : Int} {r : Rg} : ovR a b r = true ↔ r.f < b ∧ a < r.t := by unfold ovR; simp
theorem over_clo (w : World) (r : Rg) (a b : Int) (ab bb : Nat) (ha : w.cell? ⟨ab, 0, none⟩ = some (.int .i64 a)) (hb : w.cell? ⟨bb, 0, none⟩ = some (.int .i64 b)) :
    Calls Tryd.prog 37 #[.agg #[.int .i64 r.f, .int .i64 r.t, .int .u8 (r.p : Int)], .pointer (some ⟨bb, 0, none⟩), .pointer (some ⟨ab, 0, none⟩)] w (BoolN (ovR a b r) w) := by
  obtain ⟨f, t, p⟩ := r
  have N1 : New w (w.alloc (.cells #[.int .i64 f, .int .i64 t, .int .u8 (p : Int)] 33)) := (New.refl w).alloc _ _
  have h1 := N1.keeps ha
  have h2 := N1.keeps hb
  unfold ovR
  simp only
  by_cases c : f < b
  · have d : decide (f < b) = true := by simpa using c
    rw [d]
    go_enter Tryd.func37, Tryd.ntmps37
    go_wp2
    go_ret
    exact ⟨rfl, by repeat (first | exact New.refl _ | refine New.alloc ?_ _ _)⟩
  · have d : decide (f < b) = false := by simpa using c
    rw [d]
    go_enter Tryd.func37, Tryd.ntmps37
    go_wp2
    go_ret
    exact ⟨rfl, by repeat (first | exact New.refl _ | refine New.alloc ?_ _ _)⟩
theorem at_clo (w : World) (r : Rg) (q : Int) (qb : Nat) (hq : w.cell? ⟨qb, 0, none⟩ = some (.int .i64 q)) :
    Calls Tryd.prog 30 #[.agg #[.int .i64 r.f, .int .i64 r.t, .int .u8 (r.p : Int)], .pointer (some ⟨qb, 0, none⟩)] w (BoolN (inR r q) w) := by
  obtain ⟨f, t, p⟩ := r
  have N1 : New w (w.alloc (.cells #[.int .i64 f, .int .i64 t, .int .u8 (p : Int)] 33)) := (New.refl w).alloc _ _
  have h1 := N1.keeps hq
  unfold inR
  simp only
  by_cases c : f ≤ q
  · have d : decide (f ≤ q) = true := by simpa using c
    rw [d]
    go_enter Tryd.func30, Tryd.ntmps30
    go_wp2
    go_ret
    exact ⟨rfl, by repeat (first | exact New.refl _ | refine New.alloc ?_ _ _)⟩
  · have d : decide (f ≤ q) = false := by simpa using c
    rw [d]
    go_enter Tryd.func30, Tryd.ntmps30
    go_wp2
    go_ret
    exact ⟨rfl, by repeat (first | exact New.refl _ | refine New.alloc ?_ _ _)⟩
set_option maxHeartbeats 1000000 in
theorem idx_over (w : World) (v : Value) (l : List Rg) (h : Rgs w v l) (g : Rg → Bool) (ab bb : Nat)
    (HF : ∀ W r, New w W → Calls Tryd.prog 37 #[.agg #[.int .i64 r.f, .int .i64 r.t, .int .u8 (r.p : Int)], .pointer (some ⟨bb, 0, none⟩), .pointer (some ⟨ab, 0, none⟩)] W (BoolN (g r) W)) :
    Calls Tryd.prog 29 #[v, .func (.func 37) #[] #[.pointer (some ⟨bb, 0, none⟩), .pointer (some ⟨ab, 0, none⟩)]] w (IntN (fiN g l) w) := by
  obtain ⟨p, cap, rfl, hc, hm⟩ := h.shape
  have HR := Lib.hid h
  have hB : l.length ≤ 9223372036854775807 := by have := h.len; unfold maxLen at this; omega
  clear h hc hm
  go_enter Tryd.func29, Tryd.ntmps29
  go_wp2
  go_loopg [8] l.length (fun k i wr => ∃ j : Nat, j + k = l.length ∧ i = .int .i64 (j : Int) ∧ New w wr ∧ ∀ i (h : i < l.length), i < j → g l[i] = false)
  case atStart => exact ⟨0, by omega, rfl, New.refl _, fun i _ h => absurd h (Nat.not_lt_zero _)⟩
  case round =>
    obtain ⟨j, hj, rfl, hn, hok⟩ := hrel
    by_cases c : j < l.length
    · have HO := Lib.hid hok
      have HN := Lib.hid hn
      have J := Lib.hid hj
      obtain ⟨_, x, rfl, hx⟩ := HR.out.at_ j c
      obtain ⟨c0, c1, c2⟩ := hx.new hn
      have qf := HF wr l[j] hn
      obtain ⟨r, hr⟩ : ∃ r, r = l[j] := ⟨_, rfl⟩
      have HRe := Lib.hid hr
      rw [← hr] at c0 c1 c2 qf
      clear hok hn hj hr hx
      cases hg : g r with
      | true =>
        rw [hg] at qf
        have HG := Lib.hid hg
        clear hg
        go_wp2_with (go_at_call 37; (with_reducible refine qf.mono ?_); rintro e wz ⟨rfl, hny⟩)
        go_ret
        refine ⟨Eq.trans ?_ (congrArg (fun z => Ending.returned (.int .i64 z)) (fiN_at g l j c HO.out (by rw [← HRe.out]; exact HG.out)).symm), HN.out.trans hny⟩
        rfl
      | false =>
        rw [hg] at qf
        have HG := Lib.hid hg
        clear hg
        go_wp2_with (go_at_call 37; (with_reducible refine qf.mono ?_); rintro e wz ⟨rfl, hny⟩)
        go_roundg (l.length - (j + 1))
        case measure => have := J.out; omega
        case rel =>
          refine ⟨j + 1, by have := J.out; omega, by go_num, HN.out.trans hny, fun q hq hqj => ?_⟩
          by_cases e : q < j
          · exact HO.out q hq e
          · obtain rfl : q = j := by omega
            rw [← HRe.out]; exact HG.out
    · obtain rfl : j = l.length := by omega
      have e0 : fiN g l = -1 := fiN_none g l fun r hr => by
        obtain ⟨i, hi, rfl⟩ := List.getElem_of_mem hr
        exact hok i hi hi
      go_wp2
      go_ret
      exact ⟨Eq.trans rfl (congrArg (fun z => Ending.returned (.int .i64 z)) e0.symm), hn⟩
set_option maxHeartbeats 1000000 in
theorem idx_at (w : World) (v : Value) (l : List Rg) (h : Rgs w v l) (g : Rg → Bool) (qb : Nat)
    (HF : ∀ W r, New w W → Calls Tryd.prog 30 #[.agg #[.int .i64 r.f, .int .i64 r.t, .int .u8 (r.p : Int)], .pointer (some ⟨qb, 0, none⟩)] W (BoolN (g r) W)) :
    Calls Tryd.prog 29 #[v, .func (.func 30) #[] #[.pointer (some ⟨qb, 0, none⟩)]] w (IntN (fiN g l) w) := by
  obtain ⟨p, cap, rfl, hc, hm⟩ := h.shape
  have HR := Lib.hid h
  have hB : l.length ≤ 9223372036854775807 := by have := h.len; unfold maxLen at this; omega
  clear h hc hm
  go_enter Tryd.func29, Tryd.ntmps29
  go_wp2
  go_loopg [8] l.length (fun k i wr => ∃ j : Nat, j + k = l.length ∧ i = .int .i64 (j : Int) ∧ New w wr ∧ ∀ i (h : i < l.length), i < j → g l[i] = false)
  case atStart => exact ⟨0, by omega, rfl, New.refl _, fun i _ h => absurd h (Nat.not_lt_zero _)⟩
  case round =>
    obtain ⟨j, hj, rfl, hn, hok⟩ := hrel
    by_cases c : j < l.length
    · have HO := Lib.hid hok
      have HN := Lib.hid hn
      have J := Lib.hid hj
      obtain ⟨_, x, rfl, hx⟩ := HR.out.at_ j c
      obtain ⟨c0, c1, c2⟩ := hx.new hn
      have qf := HF wr l[j] hn
      obtain ⟨r, hr⟩ : ∃ r, r = l[j] := ⟨_, rfl⟩
      have HRe := Lib.hid hr
      rw [← hr] at c0 c1 c2 qf
      clear hok hn hj hr hx
      cases hg : g r with
      | true =>
        rw [hg] at qf
        have HG := Lib.hid hg
        clear hg
        go_wp2_with (go_at_call 30; (with_reducible refine qf.mono ?_); rintro e wz ⟨rfl, hny⟩)
        go_ret
        refine ⟨Eq.trans ?_ (congrArg (fun z => Ending.returned (.int .i64 z)) (fiN_at g l j c HO.out (by rw [← HRe.out]; exact HG.out)).symm), HN.out.trans hny⟩
        rfl
      | false =>
        rw [hg] at qf
        have HG := Lib.hid hg
        clear hg
        go_wp2_with (go_at_call 30; (with_reducible refine qf.mono ?_); rintro e wz ⟨rfl, hny⟩)
        go_roundg (l.length - (j + 1))
        case measure => have := J.out; omega
        case rel =>
          refine ⟨j + 1, by have := J.out; omega, by go_num, HN.out.trans hny, fun q hq hqj => ?_⟩
          by_cases e : q < j
          · exact HO.out q hq e
          · obtain rfl : q = j := by omega
            rw [← HRe.out]; exact HG.out
    · obtain rfl : j = l.length := by omega
      have e0 : fiN g l = -1 := fiN_none g l fun r hr => by
        obtain ⟨i, hi, rfl⟩ := List.getElem_of_mem hr
        exact hok i hi hi
      go_wp2
      go_ret
      exact ⟨Eq.trans rfl (congrArg (fun z => Ending.returned (.int .i64 z)) e0.symm), hn⟩
theorem over_any (w : World) (v : Value) (l : List Rg) (h : Rgs w v l) (a b : Int) : Calls Tryd.prog 24 #[v, .int .i64 a, .int .i64 b] w (IntN (fiN (ovR a b) l) w) := by
  obtain ⟨p, cap, rfl, hc, hm⟩ := h.shape
  have HN : New w ((w.alloc (.cells #[.int .i64 a] 3)).alloc (.cells #[.int .i64 b] 3)) := ((New.refl w).alloc _ _).alloc _ _
  have B0 : Box ((w.alloc (.cells #[.int .i64 a] 3)).alloc (.cells #[.int .i64 b] 3)) w.heap.size #[.int .i64 a] 3 := (Box.here w _ _ _ rfl).alloc _
  have B1 : Box ((w.alloc (.cells #[.int .i64 a] 3)).alloc (.cells #[.int .i64 b] 3)) (w.heap.size + 1) #[.int .i64 b] 3 := Box.here _ _ _ _ (by simp)
  have q := idx_over _ _ _ (h.new HN) (ovR a b) (w.heap.size) (w.heap.size + 1) fun W r hW => over_clo W r a b w.heap.size (w.heap.size + 1) (B0.new hW).one (B1.new hW).one
  go_enter Tryd.func24, Tryd.ntmps24
  go_wp2_with (go_at_call 29; (with_reducible refine q.mono ?_); rintro e wz ⟨rfl, hny⟩)
  go_ret
  exact ⟨rfl, HN.trans hny⟩
end Go.Proofs.YtfkjgbenjdmedaaDoor
