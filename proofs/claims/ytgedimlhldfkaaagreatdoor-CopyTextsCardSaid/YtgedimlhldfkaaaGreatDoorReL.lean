/- What the package of regions asks of one region, and of two: contracts, for any of them, in any world; behind each there are only new blocks. -/
import Derived.Test.YtgedimlhldfkaaaGreatDoorNumF
import Derived.Test.YtgedimlhldfkaaaGreatDoorBut
import Derived.Test.YtgedimlhldfkaaaGreatDoorReMath
import Derived.Deep.LoopGhost
import Derived.Deep.DeepCutAuto
import Derived.Deep.RegionHeld3
import Derived.Deep.CutBlock
import Derived.Lib.AppendZeros
import Derived.Deep.Slices
namespace Go.Proofs.YtgedimlhldfkaaaGreatDoor
open Go.RowKit
set_option linter.unusedVariables false
set_option maxRecDepth 100000
/-- a bool, and only new blocks -/
def BoolN (b : Bool) (w : World) (e : Ending) (w' : World) : Prop := e = .returned (.bool b) ∧ New w w'
def IntR (n : Int) (w : World) (e : Ending) (w' : World) : Prop := e = .returned (.int .i64 n) ∧ New w w'
section
variable (w : World)
theorem arePages_any (a b : Int) : Calls Tryz.prog 103 #[.int .i64 a, .int .i64 b] w fun e w' => e = .returned (.bool (okP a b)) ∧ w = w' := by
  unfold okP
  by_cases c0 : 0 ≤ a
  · have d0 : decide (0 ≤ a) = true := by simpa using c0
    rw [d0]
    by_cases c1 : a < b
    · have d1 : decide (a < b) = true := by simpa using c1
      rw [d1]
      generalize hd2 : decide (b ≤ 4096) = d2
      go_enter Tryz.func103, Tryz.ntmps103
      go_wp2
      go_ret
      exact ⟨by cases d2 <;> rfl, rfl⟩
    · have d1 : decide (a < b) = false := by simpa using c1
      rw [d1]
      go_enter Tryz.func103, Tryz.ntmps103
      go_wp2
      go_ret
      exact ⟨rfl, rfl⟩
  · have d0 : decide (0 ≤ a) = false := by simpa using c0
    rw [d0]
    go_enter Tryz.func103, Tryz.ntmps103
    go_wp2
    go_ret
    exact ⟨rfl, rfl⟩
theorem isRegion_any (r : Rg) : Calls Tryz.prog 100 #[.agg #[.int .i64 r.f, .int .i64 r.t, .int .u8 (r.p : Int)]] w (BoolN (okR r) w) := by
  obtain ⟨f, t, p⟩ := r
  unfold okR
  simp only
  have q := fun w => arePages_any w f t
  generalize okP f t = d at *
  cases d with
  | false =>
    go_enter Tryz.func100, Tryz.ntmps100
    go_wp2_with (go_at_call 103; (with_reducible refine (q _).mono ?_); rintro e w' ⟨rfl, rfl⟩)
    go_ret
    exact ⟨rfl, by repeat (first | exact New.refl _ | refine New.alloc ?_ _ _)⟩
  | true =>
    have e : decide ((p : Int) ≤ 7) = decide (p ≤ 7) := by
      by_cases h : p ≤ 7
      · rw [decide_eq_true h, decide_eq_true (by omega)]
      · rw [decide_eq_false h, decide_eq_false (by omega)]
    generalize decide (p ≤ 7) = d2 at *
    go_enter Tryz.func100, Tryz.ntmps100
    go_wp2_with (go_at_call 103; (with_reducible refine (q _).mono ?_); rintro e w' ⟨rfl, rfl⟩)
    go_ret
    exact ⟨rfl, by repeat (first | exact New.refl _ | refine New.alloc ?_ _ _)⟩
theorem areOne_any (a b : Rg) : Calls Tryz.prog 158 #[.agg #[.int .i64 a.f, .int .i64 a.t, .int .u8 (a.p : Int)], .agg #[.int .i64 b.f, .int .i64 b.t, .int .u8 (b.p : Int)]] w (BoolN (oneR a b) w) := by
  obtain ⟨f, t, p⟩ := a
  obtain ⟨g, u, q⟩ := b
  unfold oneR
  simp only
  have e : ((p : Int) == (q : Int)) = decide (p = q) := by
    by_cases h : p = q
    · rw [decide_eq_true h]; simp [h]
    · rw [decide_eq_false h]; simp; omega
  have e1 : (t == g) = decide (t = g) := by
    by_cases h : t = g
    · rw [decide_eq_true h]; simp [h]
    · rw [decide_eq_false h]; simpa using h
  generalize decide (t = g) = d1 at *
  generalize decide (p = q) = d2 at *
  cases d1 with
  | false =>
    go_enter Tryz.func158, Tryz.ntmps158
    go_wp2
    go_ret
    exact ⟨rfl, by repeat (first | exact New.refl _ | refine New.alloc ?_ _ _)⟩
  | true =>
    go_enter Tryz.func158, Tryz.ntmps158
    go_wp2
    go_ret
    exact ⟨rfl, by repeat (first | exact New.refl _ | refine New.alloc ?_ _ _)⟩
theorem mayFollow_any (a b : Rg) : Calls Tryz.prog 145 #[.agg #[.int .i64 a.f, .int .i64 a.t, .int .u8 (a.p : Int)], .agg #[.int .i64 b.f, .int .i64 b.t, .int .u8 (b.p : Int)]] w (BoolN (folR a b) w) := by
  have q := fun w => areOne_any w a b
  unfold folR
  generalize oneR a b = d at *
  obtain ⟨f, t, p⟩ := a
  obtain ⟨g, u, z⟩ := b
  simp only at *
  by_cases c : t ≤ g
  · have d1 : decide (t ≤ g) = true := by simpa using c
    rw [d1]
    clear c
    go_enter Tryz.func145, Tryz.ntmps145
    go_wp2_with (go_at_call 158; (with_reducible refine (q _).mono ?_); rintro e w' ⟨rfl, hn⟩)
    go_ret
    exact ⟨rfl, New.trans (by repeat (first | exact New.refl _ | refine New.alloc ?_ _ _)) hn⟩
  · have d1 : decide (t ≤ g) = false := by simpa using c
    rw [d1]
    clear c
    go_enter Tryz.func145, Tryz.ntmps145
    go_wp2
    go_ret
    exact ⟨rfl, by repeat (first | exact New.refl _ | refine New.alloc ?_ _ _)⟩
end
end Go.Proofs.YtgedimlhldfkaaaGreatDoor
namespace Go.Proofs.YtgedimlhldfkaaaGreatDoor
open Go.RowKit
set_option linter.unusedVariables false
set_option maxRecDepth 100000
/-- a region, cell by cell -/
def rcell (r : Rg) : List Value := [.int .i64 r.f, .int .i64 r.t, .int .u8 (r.p : Int)]
def rcells (l : List Rg) : List Value := l.flatMap rcell
theorem rcells_len (l : List Rg) : (rcells l).length = l.length * 3 := by
  induction l with
  | nil => rfl
  | cons x l ih => unfold rcells at *; rw [List.flatMap_cons, List.length_append, ih, List.length_cons]; simp [rcell]; omega
theorem rcells_push (l : List Rg) (x : Rg) : rcells (l ++ [x]) = rcells l ++ rcell x := by simp [rcells]
theorem rcells_append (l m : List Rg) : rcells (l ++ m) = rcells l ++ rcells m := by simp [rcells]
theorem rcells_get (l : List Rg) (i f : Nat) (hi : i < l.length) (hf : f < 3) : (rcells l)[i * 3 + f]? = (rcell l[i])[f]? := by
  induction l generalizing i with
  | nil => simp at hi
  | cons x l ih =>
    have e : rcells (x :: l) = rcell x ++ rcells l := by simp [rcells]
    rw [e]
    match i, hi with
    | 0, _ => rw [List.getElem?_append_left (by simp [rcell]; omega)]; simp
    | i + 1, hi => rw [List.getElem?_append_right (by simp [rcell]; omega)]; simpa [rcell, show (i + 1) * 3 + f - 3 = i * 3 + f by omega] using ih i (by simpa using hi)
theorem rcell_one (x : Rg) : ∀ u ∈ rcell x, u.oneCell' = true := by
  intro u hu
  simp only [rcell, List.mem_cons, List.not_mem_nil, or_false] at hu
  rcases hu with rfl | rfl | rfl <;> rfl
theorem rcells_one (l : List Rg) : ∀ u ∈ rcells l, u.oneCell' = true := by
  intro u hu
  obtain ⟨x, _, hx⟩ := List.mem_flatMap.1 hu
  exact rcell_one x u hx
/-- one of them at an address -/
def RgAt (w : World) (x : Addr) (r : Rg) : Prop := w.cell? x = some (.int .i64 r.f) ∧ w.cell? ⟨x.block, x.off + 1, none⟩ = some (.int .i64 r.t) ∧ w.cell? ⟨x.block, x.off + 2, none⟩ = some (.int .u8 (r.p : Int))
theorem RgAt.new {w w' : World} {x : Addr} {r : Rg} (h : RgAt w x r) (k : New w w') : RgAt w' x r := ⟨k.keeps h.1, k.keeps h.2.1, k.keeps h.2.2⟩
/-- regions that can be read -/
def Rgs (w : World) (v : Value) (l : List Rg) : Prop :=
  ∃ p cap, v = .slice p l.length cap ∧ l.length ≤ cap ∧ cap ≤ maxLen ∧ ∀ i (hi : i < l.length), ∃ x, p = some x ∧ RgAt w (x.add (i * 3)) l[i]
/-- regions that the call made, or nil -/
def OwnR (T : TypeId) (base : Nat) (w : World) (v : Value) (l : List Rg) : Prop := w.ownsRow base T 3 v l.length (rcells l)
section
variable {T : TypeId} {base : Nat} {w w' : World} {v : Value} {l : List Rg}
theorem Rgs.new (h : Rgs w v l) (k : New w w') : Rgs w' v l := by
  obtain ⟨p, cap, h1, h2, h3, h4⟩ := h
  exact ⟨p, cap, h1, h2, h3, fun i hi => by obtain ⟨x, hx, hr⟩ := h4 i hi; exact ⟨x, hx, hr.new k⟩⟩
theorem Rgs.nil : Rgs w (.slice none 0 0) [] := ⟨none, 0, rfl, Nat.le_refl _, Nat.zero_le _, fun i hi => absurd hi (Nat.not_lt_zero _)⟩
theorem Rgs.shape (h : Rgs w v l) : ∃ p cap, v = .slice p l.length cap ∧ l.length ≤ cap ∧ cap ≤ maxLen := by
  obtain ⟨p, cap, h1, h2, h3, _⟩ := h; exact ⟨p, cap, h1, h2, h3⟩
theorem Rgs.len (h : Rgs w v l) : l.length ≤ maxLen := by obtain ⟨p, cap, h1, h2, h3, _⟩ := h; omega
theorem Rgs.at_ {p : Option Addr} {n cap : Nat} (h : Rgs w (.slice p n cap) l) (i : Nat) (hi : i < l.length) : n = l.length ∧ ∃ x, p = some x ∧ RgAt w (x.add (i * 3)) l[i] := by
  obtain ⟨p', cap', h1, h2, h3, h4⟩ := h
  cases h1
  exact ⟨rfl, h4 i hi⟩
theorem OwnR.nil : OwnR T base w (.slice none 0 0) [] := ⟨by simp [rcells], .inl ⟨rfl, rfl⟩⟩
theorem OwnR.new (h : OwnR T base w v l) (k : New w w') : OwnR T base w' v l := by
  refine ⟨h.1, ?_⟩
  rcases h.2 with hn | ⟨g, cap, cur, rfl, hb, hg, rest⟩
  · exact .inl hn
  · exact .inr ⟨g, cap, cur, rfl, hb, by rw [k.block (Array.getElem?_eq_some_iff.1 hg).1]; exact hg, rest⟩
theorem OwnR.more {base' : Nat} (h : OwnR T base w v l) (k : base' ≤ base) : OwnR T base' w v l := by
  refine ⟨h.1, ?_⟩
  rcases h.2 with hn | ⟨g, cap, cur, rfl, hb, rest⟩
  · exact .inl hn
  · exact .inr ⟨g, cap, cur, rfl, by omega, rest⟩
theorem OwnR.cells {g cap : Nat} {cur : Array Value} (hg : w.heap[g]? = some (.cells cur T (0, 0))) (h1 : l.length ≤ cap) (h4 : cur.toList.take (l.length * 3) = rcells l) (i : Nat) (hi : i < l.length) (f : Nat) (hf : f < 3) : w.cell? ⟨g, i * 3 + f, none⟩ = (rcell l[i])[f]? := by
  have e := rcells_get l i f hi hf
  rw [← h4, List.getElem?_take, if_pos (by omega)] at e
  rw [← e]
  simp [World.cell?, hg]
theorem OwnR.rgs (h : OwnR T base w v l) : Rgs w v l := by
  rcases h.2 with ⟨rfl, hn⟩ | ⟨g, cap, cur, rfl, hb, hg, h1, h2, h3, h4⟩
  · obtain rfl : l = [] := List.eq_nil_of_length_eq_zero hn
    exact Rgs.nil
  · refine ⟨_, _, rfl, h1, h2, fun i hi => ⟨_, rfl, ?_⟩⟩
    rw [Addr.add_mid]
    have key := fun f hf => OwnR.cells (l := l) hg h1 h4 i hi f hf
    simp only [Nat.zero_add]
    exact ⟨key 0 (by omega), key 1 (by omega), key 2 (by omega)⟩
end
/-- an address's three cells in one go -/
theorem RgAt.cells {w : World} {x : Addr} {r : Rg} (h : RgAt w x r) : w.cell? x = some (.int .i64 r.f) ∧ w.cell? ⟨x.block, x.off + 1, none⟩ = some (.int .i64 r.t) ∧ w.cell? ⟨x.block, x.off + 2, none⟩ = some (.int .u8 (r.p : Int)) := h
/-- the error of a list -/
noncomputable def chv (l : List Rg) : Int := if rokb l = true then 0 else 22
theorem chv_ok {l : List Rg} (h : ROk l) : chv l = 0 := by unfold chv; rw [if_pos (rokb_iff.2 h)]
theorem chv_no {l : List Rg} (h : ¬ ROk l) : chv l = 22 := by unfold chv; rw [if_neg (fun k => h (rokb_iff.1 k))]
set_option maxHeartbeats 1000000 in
theorem check_any (w : World) (v : Value) (l : List Rg) (h : Rgs w v l) : Calls Tryz.prog 99 #[v] w fun e w' => e = .returned (erN (chv l)) ∧ New w w' := by
  obtain ⟨p, cap, rfl, hc, hm⟩ := h.shape
  have HR := Lib.hid h
  clear h hc
  have QR := fun w r => isRegion_any w r
  have QF := fun w a b => mayFollow_any w a b
  have hB : l.length ≤ 9223372036854775807 := by have := HR.out.len; unfold maxLen at this; omega
  clear hm
  go_enter Tryz.func99, Tryz.ntmps99
  go_wp2
  go_loopg [7] l.length (fun k i wr => ∃ j : Nat, j + k = l.length ∧ i = .int .i64 (j : Int) ∧ New w wr ∧ ∀ i (h : i < l.length), i < j → okR l[i] = true ∧ ∀ j, j + 1 = i → ∀ (hj : j < l.length), RFol l[j] l[i])
  case atStart => exact ⟨0, by omega, rfl, New.refl _, fun i _ h => absurd h (Nat.not_lt_zero _)⟩
  case round =>
    obtain ⟨j, hj, rfl, hn, hok⟩ := hrel
    by_cases c : j < l.length
    · have HO := Lib.hid hok
      have HN := Lib.hid hn
      have J := Lib.hid hj
      obtain ⟨_, x, rfl, hx⟩ := HR.out.at_ j c
      have hx := hx.new hn
      obtain ⟨c0, c1, c2⟩ := hx
      obtain ⟨r, hr⟩ : ∃ r, r = l[j] := ⟨_, rfl⟩
      have HRe := Lib.hid hr
      rw [← hr] at c0 c1 c2
      have qr := fun w => QR w r
      clear hok hn hj hr
      have NW : New wr (wr.alloc (.cells #[.int .i64 r.f, .int .i64 r.t, .int .u8 (r.p : Int)] 37)) := (New.refl wr).alloc _ _
      have BR : Box (wr.alloc (.cells #[.int .i64 r.f, .int .i64 r.t, .int .u8 (r.p : Int)] 37)) wr.heap.size #[.int .i64 r.f, .int .i64 r.t, .int .u8 (r.p : Int)] 37 := Box.here wr _ _ _ rfl
      -- WAYS
      by_cases c0j : j = 0
      · have HJ := Lib.hid c0j
        have g0 : decide (0 < j) = false := by simp; omega
        clear c0j
        cases hok : okR r with
        | false =>
          rw [hok] at qr
          have HKr := Lib.hid hok
          clear hok
          go_upto_region 4 with fail
          change Code.wp _ _ _ _ (wr.alloc (.cells #[.int .i64 r.f, .int .i64 r.t, .int .u8 (r.p : Int)] 37))
          generalize (wr.alloc (.cells #[.int .i64 r.f, .int .i64 r.t, .int .u8 (r.p : Int)] 37)) = W at *
          generalize wr.heap.size = rb at *
          have NW := Lib.hid NW
          obtain ⟨b0, b1, b2⟩ := BR.three
          clear c0 c1 c2 BR
          go_wp2_with fail
          have kd := (New.refl W).drew
          have hS : (fun w' : World => New W w' ∧ w'.cell? ⟨rb, 0, none⟩ = some (.int .i64 r.f) ∧ w'.cell? ⟨rb, 1, none⟩ = some (.int .i64 r.t) ∧ w'.cell? ⟨rb, 2, none⟩ = some (.int .u8 (r.p : Int))) W.drew := ⟨kd, kd.keeps b0, kd.keeps b1, kd.keeps b2⟩
          refine wp_region_held_drew (S := (fun w' : World => New W w' ∧ w'.cell? ⟨rb, 0, none⟩ = some (.int .i64 r.f) ∧ w'.cell? ⟨rb, 1, none⟩ = some (.int .i64 r.t) ∧ w'.cell? ⟨rb, 2, none⟩ = some (.int .u8 (r.p : Int)))) (by kernel_rfl) hS (fun _ => ?_)
          refine wpAnyH_take (i := 0) (v := ?_) rfl (by kernel_rfl) (by kernel_rfl) (by kernel_rfl) (fun _ _ _ h => h) (Or.inl ⟨by rfl, ?_⟩) hS ?_
          rotate_left
          · intro w hSw
            try dsimp only at hSw
            go_simp
            try with_reducible rfl
          try simp only [Act.put, List.setIfInBounds_toArray, List.set_cons_zero, List.set_cons_succ, List.getElem_toArray, List.getElem_cons_zero]
          refine wpAnyH_ready (rs := [1]) (by kernel_rfl) (by simp) (AllReadyH.cons rfl (fun K hK => ?_) AllReadyH.nil)
          go_simp
          refine (qr _).mono ?_
          rintro e wz ⟨rfl, hny⟩
          have hnx : New W wz := kd.trans hny
          have hS : New W wz ∧ wz.cell? ⟨rb, 0, none⟩ = some (.int .i64 r.f) ∧ wz.cell? ⟨rb, 1, none⟩ = some (.int .i64 r.t) ∧ wz.cell? ⟨rb, 2, none⟩ = some (.int .u8 (r.p : Int)) := ⟨hnx, hnx.keeps b0, hnx.keeps b1, hnx.keeps b2⟩
          refine hK.out _ _ hS (fun _ => ?_)
          clear hK K
          try simp only [Act.put, List.setIfInBounds_toArray, List.set_cons_zero, List.set_cons_succ, List.getElem_toArray, List.getElem_cons_zero, List.getElem_cons_succ]
          refine wpAnyH_take (i := 2) (v := ?_) rfl (by kernel_rfl) (by kernel_rfl) (by kernel_rfl) (fun _ _ _ h => h) (Or.inl ⟨by rfl, ?_⟩) hS ?_
          rotate_left
          · intro w hSw
            try dsimp only at hSw
            go_simp
            try with_reducible rfl
          try simp only [Act.put, List.setIfInBounds_toArray, List.set_cons_zero, List.set_cons_succ, List.getElem_toArray, List.getElem_cons_zero, List.getElem_cons_succ]
          refine wpAnyH_take (i := 3) (v := ?_) rfl (by kernel_rfl) (by kernel_rfl) (by kernel_rfl) (fun _ _ _ h => h) (Or.inl ⟨by rfl, ?_⟩) hS ?_
          rotate_left
          · intro w hSw
            try dsimp only at hSw
            go_simp
            try with_reducible rfl
          try simp only [Act.put, List.setIfInBounds_toArray, List.set_cons_zero, List.set_cons_succ, List.getElem_toArray, List.getElem_cons_zero, List.getElem_cons_succ]
          refine wpAnyH_take (i := 4) (v := undef) rfl (by kernel_rfl) (by kernel_rfl) (by kernel_rfl) (fun _ _ _ h => h) (Or.inr ⟨by rfl, rfl⟩) hS ?_
          try simp only [Act.put, List.setIfInBounds_toArray, List.set_cons_zero, List.set_cons_succ, List.getElem_toArray, List.getElem_cons_zero, List.getElem_cons_succ]
          refine wpAnyH_take (i := 5) (v := undef) rfl (by kernel_rfl) (by kernel_rfl) (by kernel_rfl) (fun _ _ _ h => h) (Or.inr ⟨by rfl, rfl⟩) hS ?_
          try simp only [Act.put, List.setIfInBounds_toArray, List.set_cons_zero, List.set_cons_succ, List.getElem_toArray, List.getElem_cons_zero, List.getElem_cons_succ]
          refine wpAnyH_take (i := 6) (v := undef) rfl (by kernel_rfl) (by kernel_rfl) (by kernel_rfl) (fun _ _ _ h => h) (Or.inr ⟨by rfl, rfl⟩) hS ?_
          try simp only [Act.put, List.setIfInBounds_toArray, List.set_cons_zero, List.set_cons_succ, List.getElem_toArray, List.getElem_cons_zero, List.getElem_cons_succ]
          refine wpAnyH_take (i := 7) (v := undef) rfl (by kernel_rfl) (by kernel_rfl) (by kernel_rfl) (fun _ _ _ h => h) (Or.inr ⟨by rfl, rfl⟩) hS ?_
          try simp only [Act.put, List.setIfInBounds_toArray, List.set_cons_zero, List.set_cons_succ, List.getElem_toArray, List.getElem_cons_zero, List.getElem_cons_succ]
          refine wpAnyH_take (i := 8) (v := undef) rfl (by kernel_rfl) (by kernel_rfl) (by kernel_rfl) (fun _ _ _ h => h) (Or.inr ⟨by rfl, rfl⟩) hS ?_
          try simp only [Act.put, List.setIfInBounds_toArray, List.set_cons_zero, List.set_cons_succ, List.getElem_toArray, List.getElem_cons_zero, List.getElem_cons_succ]
          refine wpAnyH_take (i := 9) (v := undef) rfl (by kernel_rfl) (by kernel_rfl) (by kernel_rfl) (fun _ _ _ h => h) (Or.inr ⟨by rfl, rfl⟩) hS ?_
          try simp only [Act.put, List.setIfInBounds_toArray, List.set_cons_zero, List.set_cons_succ, List.getElem_toArray, List.getElem_cons_zero, List.getElem_cons_succ]
          refine wpAnyH_take (i := 10) (v := undef) rfl (by kernel_rfl) (by kernel_rfl) (by kernel_rfl) (fun _ _ _ h => h) (Or.inr ⟨by rfl, rfl⟩) hS ?_
          try simp only [Act.put, List.setIfInBounds_toArray, List.set_cons_zero, List.set_cons_succ, List.getElem_toArray, List.getElem_cons_zero, List.getElem_cons_succ]
          refine wpAnyH_take (i := 11) (v := undef) rfl (by kernel_rfl) (by kernel_rfl) (by kernel_rfl) (fun _ _ _ h => h) (Or.inr ⟨by rfl, rfl⟩) hS ?_
          try simp only [Act.put, List.setIfInBounds_toArray, List.set_cons_zero, List.set_cons_succ, List.getElem_toArray, List.getElem_cons_zero, List.getElem_cons_succ]
          refine wpAnyH_take (i := 12) (v := undef) rfl (by kernel_rfl) (by kernel_rfl) (by kernel_rfl) (fun _ _ _ h => h) (Or.inr ⟨by rfl, rfl⟩) hS ?_
          try simp only [Act.put, List.setIfInBounds_toArray, List.set_cons_zero, List.set_cons_succ, List.getElem_toArray, List.getElem_cons_zero, List.getElem_cons_succ]
          refine wpAnyH_take (i := 13) (v := undef) rfl (by kernel_rfl) (by kernel_rfl) (by kernel_rfl) (fun _ _ _ h => h) (Or.inr ⟨by rfl, rfl⟩) hS ?_
          try simp only [Act.put, List.setIfInBounds_toArray, List.set_cons_zero, List.set_cons_succ, List.getElem_toArray, List.getElem_cons_zero, List.getElem_cons_succ]
          refine wpAnyH_take (i := 14) (v := undef) rfl (by kernel_rfl) (by kernel_rfl) (by kernel_rfl) (fun _ _ _ h => h) (Or.inr ⟨by rfl, rfl⟩) hS ?_
          try simp only [Act.put, List.setIfInBounds_toArray, List.set_cons_zero, List.set_cons_succ, List.getElem_toArray, List.getElem_cons_zero, List.getElem_cons_succ]
          refine wpAnyH_take (i := 15) (v := undef) rfl (by kernel_rfl) (by kernel_rfl) (by kernel_rfl) (fun _ _ _ h => h) (Or.inr ⟨by rfl, rfl⟩) hS ?_
          try simp only [Act.put, List.setIfInBounds_toArray, List.set_cons_zero, List.set_cons_succ, List.getElem_toArray, List.getElem_cons_zero, List.getElem_cons_succ]
          refine wpAnyH_take (i := 16) (v := ?_) rfl (by kernel_rfl) (by kernel_rfl) (by kernel_rfl) (fun _ _ _ h => h) (Or.inl ⟨by rfl, ?_⟩) hS ?_
          rotate_left
          · intro w hSw
            try dsimp only at hSw
            go_simp
            try with_reducible rfl
          try simp only [Act.put, List.setIfInBounds_toArray, List.set_cons_zero, List.set_cons_succ, List.getElem_toArray, List.getElem_cons_zero, List.getElem_cons_succ]
          refine wpAnyH_done (by kernel_rfl) ?_ _
          go_wp2
          go_ret
          have hno : ¬ ROk l := fun k => by
            have := (RCh.mem k l[j] (List.getElem_mem c))
            rw [← HRe.out, HKr.out] at this
            cases this
          have e22 : erN (chv l) = .iface 98 (.int .i64 22) := by rw [chv_no hno]; rfl
          refine ⟨Eq.trans ?_ (congrArg Ending.returned e22.symm), HN.out.trans (NW.out.trans hnx)⟩
          rfl
        | true =>
          rw [hok] at qr
          have HKr := Lib.hid hok
          clear hok
          go_upto_region 4 with fail
          change Code.wp _ _ _ _ (wr.alloc (.cells #[.int .i64 r.f, .int .i64 r.t, .int .u8 (r.p : Int)] 37))
          generalize (wr.alloc (.cells #[.int .i64 r.f, .int .i64 r.t, .int .u8 (r.p : Int)] 37)) = W at *
          generalize wr.heap.size = rb at *
          have NW := Lib.hid NW
          obtain ⟨b0, b1, b2⟩ := BR.three
          clear c0 c1 c2 BR
          go_wp2_with fail
          have kd := (New.refl W).drew
          have hS : (fun w' : World => New W w' ∧ w'.cell? ⟨rb, 0, none⟩ = some (.int .i64 r.f) ∧ w'.cell? ⟨rb, 1, none⟩ = some (.int .i64 r.t) ∧ w'.cell? ⟨rb, 2, none⟩ = some (.int .u8 (r.p : Int))) W.drew := ⟨kd, kd.keeps b0, kd.keeps b1, kd.keeps b2⟩
          refine wp_region_held_drew (S := (fun w' : World => New W w' ∧ w'.cell? ⟨rb, 0, none⟩ = some (.int .i64 r.f) ∧ w'.cell? ⟨rb, 1, none⟩ = some (.int .i64 r.t) ∧ w'.cell? ⟨rb, 2, none⟩ = some (.int .u8 (r.p : Int)))) (by kernel_rfl) hS (fun _ => ?_)
          refine wpAnyH_take (i := 0) (v := ?_) rfl (by kernel_rfl) (by kernel_rfl) (by kernel_rfl) (fun _ _ _ h => h) (Or.inl ⟨by rfl, ?_⟩) hS ?_
          rotate_left
          · intro w hSw
            try dsimp only at hSw
            go_simp
            try with_reducible rfl
          try simp only [Act.put, List.setIfInBounds_toArray, List.set_cons_zero, List.set_cons_succ, List.getElem_toArray, List.getElem_cons_zero]
          refine wpAnyH_ready (rs := [1]) (by kernel_rfl) (by simp) (AllReadyH.cons rfl (fun K hK => ?_) AllReadyH.nil)
          go_simp
          refine (qr _).mono ?_
          rintro e wz ⟨rfl, hny⟩
          have hnx : New W wz := kd.trans hny
          have hS : New W wz ∧ wz.cell? ⟨rb, 0, none⟩ = some (.int .i64 r.f) ∧ wz.cell? ⟨rb, 1, none⟩ = some (.int .i64 r.t) ∧ wz.cell? ⟨rb, 2, none⟩ = some (.int .u8 (r.p : Int)) := ⟨hnx, hnx.keeps b0, hnx.keeps b1, hnx.keeps b2⟩
          refine hK.out _ _ hS (fun _ => ?_)
          clear hK K
          try simp only [Act.put, List.setIfInBounds_toArray, List.set_cons_zero, List.set_cons_succ, List.getElem_toArray, List.getElem_cons_zero, List.getElem_cons_succ]
          refine wpAnyH_take (i := 2) (v := ?_) rfl (by kernel_rfl) (by kernel_rfl) (by kernel_rfl) (fun _ _ _ h => h) (Or.inl ⟨by rfl, ?_⟩) hS ?_
          rotate_left
          · intro w hSw
            try dsimp only at hSw
            go_simp
            try with_reducible rfl
          try simp only [Act.put, List.setIfInBounds_toArray, List.set_cons_zero, List.set_cons_succ, List.getElem_toArray, List.getElem_cons_zero, List.getElem_cons_succ]
          refine wpAnyH_take (i := 3) (v := ?_) rfl (by kernel_rfl) (by kernel_rfl) (by kernel_rfl) (fun _ _ _ h => h) (Or.inl ⟨by rfl, ?_⟩) hS ?_
          rotate_left
          · intro w hSw
            try dsimp only at hSw
            go_simp
            try with_reducible rfl
          try simp only [Act.put, List.setIfInBounds_toArray, List.set_cons_zero, List.set_cons_succ, List.getElem_toArray, List.getElem_cons_zero, List.getElem_cons_succ]
          refine wpAnyH_take (i := 4) (v := ?_) rfl (by kernel_rfl) (by kernel_rfl) (by kernel_rfl) (fun _ _ _ h => h) (Or.inl ⟨by rfl, ?_⟩) hS ?_
          rotate_left
          · intro w hSw
            try dsimp only at hSw
            go_simp
            try with_reducible rfl
          try simp only [Act.put, List.setIfInBounds_toArray, List.set_cons_zero, List.set_cons_succ, List.getElem_toArray, List.getElem_cons_zero, List.getElem_cons_succ]
          refine wpAnyH_take (i := 5) (v := ?_) rfl (by kernel_rfl) (by kernel_rfl) (by kernel_rfl) (fun _ _ _ h => h) (Or.inl ⟨by rfl, ?_⟩) hS ?_
          rotate_left
          · intro w hSw
            try dsimp only at hSw
            go_simp
            try with_reducible rfl
          try simp only [Act.put, List.setIfInBounds_toArray, List.set_cons_zero, List.set_cons_succ, List.getElem_toArray, List.getElem_cons_zero, List.getElem_cons_succ]
          refine wpAnyH_take (i := 6) (v := ?_) rfl (by kernel_rfl) (by kernel_rfl) (by kernel_rfl) (fun _ _ _ h => h) (Or.inl ⟨by rfl, ?_⟩) hS ?_
          rotate_left
          · intro w hSw
            try dsimp only at hSw
            go_simp
            try with_reducible rfl
          try simp only [Act.put, List.setIfInBounds_toArray, List.set_cons_zero, List.set_cons_succ, List.getElem_toArray, List.getElem_cons_zero, List.getElem_cons_succ]
          refine wpAnyH_take (i := 7) (v := undef) rfl (by kernel_rfl) (by kernel_rfl) (by kernel_rfl) (fun _ _ _ h => h) (Or.inr ⟨by rfl, rfl⟩) hS ?_
          try simp only [Act.put, List.setIfInBounds_toArray, List.set_cons_zero, List.set_cons_succ, List.getElem_toArray, List.getElem_cons_zero, List.getElem_cons_succ]
          refine wpAnyH_take (i := 8) (v := undef) rfl (by kernel_rfl) (by kernel_rfl) (by kernel_rfl) (fun _ _ _ h => h) (Or.inr ⟨by rfl, rfl⟩) hS ?_
          try simp only [Act.put, List.setIfInBounds_toArray, List.set_cons_zero, List.set_cons_succ, List.getElem_toArray, List.getElem_cons_zero, List.getElem_cons_succ]
          refine wpAnyH_take (i := 9) (v := undef) rfl (by kernel_rfl) (by kernel_rfl) (by kernel_rfl) (fun _ _ _ h => h) (Or.inr ⟨by rfl, rfl⟩) hS ?_
          try simp only [Act.put, List.setIfInBounds_toArray, List.set_cons_zero, List.set_cons_succ, List.getElem_toArray, List.getElem_cons_zero, List.getElem_cons_succ]
          refine wpAnyH_take (i := 10) (v := undef) rfl (by kernel_rfl) (by kernel_rfl) (by kernel_rfl) (fun _ _ _ h => h) (Or.inr ⟨by rfl, rfl⟩) hS ?_
          try simp only [Act.put, List.setIfInBounds_toArray, List.set_cons_zero, List.set_cons_succ, List.getElem_toArray, List.getElem_cons_zero, List.getElem_cons_succ]
          refine wpAnyH_take (i := 11) (v := undef) rfl (by kernel_rfl) (by kernel_rfl) (by kernel_rfl) (fun _ _ _ h => h) (Or.inr ⟨by rfl, rfl⟩) hS ?_
          try simp only [Act.put, List.setIfInBounds_toArray, List.set_cons_zero, List.set_cons_succ, List.getElem_toArray, List.getElem_cons_zero, List.getElem_cons_succ]
          refine wpAnyH_take (i := 12) (v := undef) rfl (by kernel_rfl) (by kernel_rfl) (by kernel_rfl) (fun _ _ _ h => h) (Or.inr ⟨by rfl, rfl⟩) hS ?_
          try simp only [Act.put, List.setIfInBounds_toArray, List.set_cons_zero, List.set_cons_succ, List.getElem_toArray, List.getElem_cons_zero, List.getElem_cons_succ]
          refine wpAnyH_take (i := 13) (v := undef) rfl (by kernel_rfl) (by kernel_rfl) (by kernel_rfl) (fun _ _ _ h => h) (Or.inr ⟨by rfl, rfl⟩) hS ?_
          try simp only [Act.put, List.setIfInBounds_toArray, List.set_cons_zero, List.set_cons_succ, List.getElem_toArray, List.getElem_cons_zero, List.getElem_cons_succ]
          refine wpAnyH_take (i := 14) (v := undef) rfl (by kernel_rfl) (by kernel_rfl) (by kernel_rfl) (fun _ _ _ h => h) (Or.inr ⟨by rfl, rfl⟩) hS ?_
          try simp only [Act.put, List.setIfInBounds_toArray, List.set_cons_zero, List.set_cons_succ, List.getElem_toArray, List.getElem_cons_zero, List.getElem_cons_succ]
          refine wpAnyH_take (i := 15) (v := ?_) rfl (by kernel_rfl) (by kernel_rfl) (by kernel_rfl) (fun _ _ _ h => h) (Or.inl ⟨by rfl, ?_⟩) hS ?_
          rotate_left
          · intro w hSw
            try dsimp only at hSw
            go_simp
            try with_reducible rfl
          try simp only [Act.put, List.setIfInBounds_toArray, List.set_cons_zero, List.set_cons_succ, List.getElem_toArray, List.getElem_cons_zero, List.getElem_cons_succ]
          refine wpAnyH_take (i := 16) (v := ?_) rfl (by kernel_rfl) (by kernel_rfl) (by kernel_rfl) (fun _ _ _ h => h) (Or.inl ⟨by rfl, ?_⟩) hS ?_
          rotate_left
          · intro w hSw
            try dsimp only at hSw
            go_simp
            try with_reducible rfl
          try simp only [Act.put, List.setIfInBounds_toArray, List.set_cons_zero, List.set_cons_succ, List.getElem_toArray, List.getElem_cons_zero, List.getElem_cons_succ]
          refine wpAnyH_done (by kernel_rfl) ?_ _
          go_wp2
          go_roundg (l.length - (j + 1))
          case measure => have := J.out; omega
          case rel =>
            refine ⟨j + 1, by have := J.out; omega, by go_num, HN.out.trans (NW.out.trans hnx), fun q hq hqj => ?_⟩
            by_cases e : q < j
            · exact HO.out q hq e
            · obtain rfl : q = j := by omega
              refine ⟨by rw [← HRe.out]; exact HKr.out, fun z hz hzl => ?_⟩
              have := HJ.out; omega
      · obtain ⟨i, hi⟩ : ∃ i, i + 1 = j := ⟨j - 1, by omega⟩
        have HJ := Lib.hid hi
        have hil : i < l.length := by omega
        have g0 : decide (0 < j) = true := by simp; omega
        have gs : IntKind.i64.wrap ((j : Int) - 1) = (i : Int) := by rw [IntWalk.i64_in _ (by have := HR.out.len; unfold maxLen at this; omega)]; omega
        obtain ⟨_, x', ex, hxp⟩ := HR.out.at_ i hil
        cases ex
        have hxp := hxp.new HN.out
        obtain ⟨y, hy⟩ : ∃ y, y = l[i] := ⟨_, rfl⟩
        have HY := Lib.hid hy
        rw [← hy] at hxp
        have qf := fun w => QF w y r
        have hxp := hxp.new NW
        obtain ⟨p0, p1, p2⟩ := hxp
        clear c0j hi hy
        cases hok : okR r with
        | false =>
          rw [hok] at qr
          have HKr := Lib.hid hok
          clear hok
          go_upto_region 4 with fail
          change Code.wp _ _ _ _ (wr.alloc (.cells #[.int .i64 r.f, .int .i64 r.t, .int .u8 (r.p : Int)] 37))
          generalize (wr.alloc (.cells #[.int .i64 r.f, .int .i64 r.t, .int .u8 (r.p : Int)] 37)) = W at *
          generalize wr.heap.size = rb at *
          have NW := Lib.hid NW
          obtain ⟨b0, b1, b2⟩ := BR.three
          clear c0 c1 c2 BR
          go_wp2_with fail
          have kd := (New.refl W).drew
          have hS : (fun w' : World => New W w' ∧ w'.cell? ⟨rb, 0, none⟩ = some (.int .i64 r.f) ∧ w'.cell? ⟨rb, 1, none⟩ = some (.int .i64 r.t) ∧ w'.cell? ⟨rb, 2, none⟩ = some (.int .u8 (r.p : Int))) W.drew := ⟨kd, kd.keeps b0, kd.keeps b1, kd.keeps b2⟩
          refine wp_region_held_drew (S := (fun w' : World => New W w' ∧ w'.cell? ⟨rb, 0, none⟩ = some (.int .i64 r.f) ∧ w'.cell? ⟨rb, 1, none⟩ = some (.int .i64 r.t) ∧ w'.cell? ⟨rb, 2, none⟩ = some (.int .u8 (r.p : Int)))) (by kernel_rfl) hS (fun _ => ?_)
          refine wpAnyH_take (i := 0) (v := ?_) rfl (by kernel_rfl) (by kernel_rfl) (by kernel_rfl) (fun _ _ _ h => h) (Or.inl ⟨by rfl, ?_⟩) hS ?_
          rotate_left
          · intro w hSw
            try dsimp only at hSw
            go_simp
            try with_reducible rfl
          try simp only [Act.put, List.setIfInBounds_toArray, List.set_cons_zero, List.set_cons_succ, List.getElem_toArray, List.getElem_cons_zero]
          refine wpAnyH_ready (rs := [1]) (by kernel_rfl) (by simp) (AllReadyH.cons rfl (fun K hK => ?_) AllReadyH.nil)
          go_simp
          refine (qr _).mono ?_
          rintro e wz ⟨rfl, hny⟩
          have hnx : New W wz := kd.trans hny
          have hS : New W wz ∧ wz.cell? ⟨rb, 0, none⟩ = some (.int .i64 r.f) ∧ wz.cell? ⟨rb, 1, none⟩ = some (.int .i64 r.t) ∧ wz.cell? ⟨rb, 2, none⟩ = some (.int .u8 (r.p : Int)) := ⟨hnx, hnx.keeps b0, hnx.keeps b1, hnx.keeps b2⟩
          refine hK.out _ _ hS (fun _ => ?_)
          clear hK K
          try simp only [Act.put, List.setIfInBounds_toArray, List.set_cons_zero, List.set_cons_succ, List.getElem_toArray, List.getElem_cons_zero, List.getElem_cons_succ]
          refine wpAnyH_take (i := 2) (v := ?_) rfl (by kernel_rfl) (by kernel_rfl) (by kernel_rfl) (fun _ _ _ h => h) (Or.inl ⟨by rfl, ?_⟩) hS ?_
          rotate_left
          · intro w hSw
            try dsimp only at hSw
            go_simp
            try with_reducible rfl
          try simp only [Act.put, List.setIfInBounds_toArray, List.set_cons_zero, List.set_cons_succ, List.getElem_toArray, List.getElem_cons_zero, List.getElem_cons_succ]
          refine wpAnyH_take (i := 3) (v := ?_) rfl (by kernel_rfl) (by kernel_rfl) (by kernel_rfl) (fun _ _ _ h => h) (Or.inl ⟨by rfl, ?_⟩) hS ?_
          rotate_left
          · intro w hSw
            try dsimp only at hSw
            go_simp
            try with_reducible rfl
          try simp only [Act.put, List.setIfInBounds_toArray, List.set_cons_zero, List.set_cons_succ, List.getElem_toArray, List.getElem_cons_zero, List.getElem_cons_succ]
          refine wpAnyH_take (i := 4) (v := undef) rfl (by kernel_rfl) (by kernel_rfl) (by kernel_rfl) (fun _ _ _ h => h) (Or.inr ⟨by rfl, rfl⟩) hS ?_
          try simp only [Act.put, List.setIfInBounds_toArray, List.set_cons_zero, List.set_cons_succ, List.getElem_toArray, List.getElem_cons_zero, List.getElem_cons_succ]
          refine wpAnyH_take (i := 5) (v := undef) rfl (by kernel_rfl) (by kernel_rfl) (by kernel_rfl) (fun _ _ _ h => h) (Or.inr ⟨by rfl, rfl⟩) hS ?_
          try simp only [Act.put, List.setIfInBounds_toArray, List.set_cons_zero, List.set_cons_succ, List.getElem_toArray, List.getElem_cons_zero, List.getElem_cons_succ]
          refine wpAnyH_take (i := 6) (v := undef) rfl (by kernel_rfl) (by kernel_rfl) (by kernel_rfl) (fun _ _ _ h => h) (Or.inr ⟨by rfl, rfl⟩) hS ?_
          try simp only [Act.put, List.setIfInBounds_toArray, List.set_cons_zero, List.set_cons_succ, List.getElem_toArray, List.getElem_cons_zero, List.getElem_cons_succ]
          refine wpAnyH_take (i := 7) (v := undef) rfl (by kernel_rfl) (by kernel_rfl) (by kernel_rfl) (fun _ _ _ h => h) (Or.inr ⟨by rfl, rfl⟩) hS ?_
          try simp only [Act.put, List.setIfInBounds_toArray, List.set_cons_zero, List.set_cons_succ, List.getElem_toArray, List.getElem_cons_zero, List.getElem_cons_succ]
          refine wpAnyH_take (i := 8) (v := undef) rfl (by kernel_rfl) (by kernel_rfl) (by kernel_rfl) (fun _ _ _ h => h) (Or.inr ⟨by rfl, rfl⟩) hS ?_
          try simp only [Act.put, List.setIfInBounds_toArray, List.set_cons_zero, List.set_cons_succ, List.getElem_toArray, List.getElem_cons_zero, List.getElem_cons_succ]
          refine wpAnyH_take (i := 9) (v := undef) rfl (by kernel_rfl) (by kernel_rfl) (by kernel_rfl) (fun _ _ _ h => h) (Or.inr ⟨by rfl, rfl⟩) hS ?_
          try simp only [Act.put, List.setIfInBounds_toArray, List.set_cons_zero, List.set_cons_succ, List.getElem_toArray, List.getElem_cons_zero, List.getElem_cons_succ]
          refine wpAnyH_take (i := 10) (v := undef) rfl (by kernel_rfl) (by kernel_rfl) (by kernel_rfl) (fun _ _ _ h => h) (Or.inr ⟨by rfl, rfl⟩) hS ?_
          try simp only [Act.put, List.setIfInBounds_toArray, List.set_cons_zero, List.set_cons_succ, List.getElem_toArray, List.getElem_cons_zero, List.getElem_cons_succ]
          refine wpAnyH_take (i := 11) (v := undef) rfl (by kernel_rfl) (by kernel_rfl) (by kernel_rfl) (fun _ _ _ h => h) (Or.inr ⟨by rfl, rfl⟩) hS ?_
          try simp only [Act.put, List.setIfInBounds_toArray, List.set_cons_zero, List.set_cons_succ, List.getElem_toArray, List.getElem_cons_zero, List.getElem_cons_succ]
          refine wpAnyH_take (i := 12) (v := undef) rfl (by kernel_rfl) (by kernel_rfl) (by kernel_rfl) (fun _ _ _ h => h) (Or.inr ⟨by rfl, rfl⟩) hS ?_
          try simp only [Act.put, List.setIfInBounds_toArray, List.set_cons_zero, List.set_cons_succ, List.getElem_toArray, List.getElem_cons_zero, List.getElem_cons_succ]
          refine wpAnyH_take (i := 13) (v := undef) rfl (by kernel_rfl) (by kernel_rfl) (by kernel_rfl) (fun _ _ _ h => h) (Or.inr ⟨by rfl, rfl⟩) hS ?_
          try simp only [Act.put, List.setIfInBounds_toArray, List.set_cons_zero, List.set_cons_succ, List.getElem_toArray, List.getElem_cons_zero, List.getElem_cons_succ]
          refine wpAnyH_take (i := 14) (v := undef) rfl (by kernel_rfl) (by kernel_rfl) (by kernel_rfl) (fun _ _ _ h => h) (Or.inr ⟨by rfl, rfl⟩) hS ?_
          try simp only [Act.put, List.setIfInBounds_toArray, List.set_cons_zero, List.set_cons_succ, List.getElem_toArray, List.getElem_cons_zero, List.getElem_cons_succ]
          refine wpAnyH_take (i := 15) (v := undef) rfl (by kernel_rfl) (by kernel_rfl) (by kernel_rfl) (fun _ _ _ h => h) (Or.inr ⟨by rfl, rfl⟩) hS ?_
          try simp only [Act.put, List.setIfInBounds_toArray, List.set_cons_zero, List.set_cons_succ, List.getElem_toArray, List.getElem_cons_zero, List.getElem_cons_succ]
          refine wpAnyH_take (i := 16) (v := ?_) rfl (by kernel_rfl) (by kernel_rfl) (by kernel_rfl) (fun _ _ _ h => h) (Or.inl ⟨by rfl, ?_⟩) hS ?_
          rotate_left
          · intro w hSw
            try dsimp only at hSw
            go_simp
            try with_reducible rfl
          try simp only [Act.put, List.setIfInBounds_toArray, List.set_cons_zero, List.set_cons_succ, List.getElem_toArray, List.getElem_cons_zero, List.getElem_cons_succ]
          refine wpAnyH_done (by kernel_rfl) ?_ _
          go_wp2
          go_ret
          have hno : ¬ ROk l := fun k => by
            have := (RCh.mem k l[j] (List.getElem_mem c))
            rw [← HRe.out, HKr.out] at this
            cases this
          have e22 : erN (chv l) = .iface 98 (.int .i64 22) := by rw [chv_no hno]; rfl
          refine ⟨Eq.trans ?_ (congrArg Ending.returned e22.symm), HN.out.trans (NW.out.trans hnx)⟩
          rfl
        | true =>
          rw [hok] at qr
          have HKr := Lib.hid hok
          clear hok
          cases hfo : folR y r with
          | false =>
            rw [hfo] at qf
            have HKf := Lib.hid hfo
            clear hfo
            go_upto_region 4 with fail
            change Code.wp _ _ _ _ (wr.alloc (.cells #[.int .i64 r.f, .int .i64 r.t, .int .u8 (r.p : Int)] 37))
            generalize (wr.alloc (.cells #[.int .i64 r.f, .int .i64 r.t, .int .u8 (r.p : Int)] 37)) = W at *
            generalize wr.heap.size = rb at *
            have NW := Lib.hid NW
            obtain ⟨b0, b1, b2⟩ := BR.three
            clear c0 c1 c2 BR
            go_wp2_with fail
            go_region_held3 (fun w' => New W w' ∧ w'.cell? ⟨rb, 0, none⟩ = some (.int .i64 r.f) ∧ w'.cell? ⟨rb, 1, none⟩ = some (.int .i64 r.t) ∧ w'.cell? ⟨rb, 2, none⟩ = some (.int .u8 (r.p : Int)) ∧ w'.cell? (x.add (i * 3)) = some (.int .i64 y.f) ∧ w'.cell? ⟨(x.add (i * 3)).block, (x.add (i * 3)).off + 1, none⟩ = some (.int .i64 y.t) ∧ w'.cell? ⟨(x.add (i * 3)).block, (x.add (i * 3)).off + 2, none⟩ = some (.int .u8 (y.p : Int)))
              (first
                | exact ⟨hnx, hnx.keeps b0, hnx.keeps b1, hnx.keeps b2, hnx.keeps p0, hnx.keeps p1, hnx.keeps p2⟩
                | (have hnx := (New.refl W).drew; exact ⟨hnx, hnx.keeps b0, hnx.keeps b1, hnx.keeps b2, hnx.keeps p0, hnx.keeps p1, hnx.keeps p2⟩))
              (first
                | (go_at_call 100; (with_reducible refine (qr _).mono ?_); rintro e wz ⟨rfl, hny⟩; have hnx : New W wz := New.trans (by first | exact hnx | exact (New.refl _).drew | exact New.refl _) hny)
                | (go_at_call 145; (with_reducible refine (qf _).mono ?_); rintro e wz ⟨rfl, hny⟩; have hnx : New W wz := New.trans (by first | exact hnx | exact (New.refl _).drew | exact New.refl _) hny))
            go_wp2
            go_ret
            have hno : ¬ ROk l := fun k => by
              have := ((rch_iff l).1 k j c).2 i HJ.out hil
              rw [← HRe.out, ← HY.out] at this
              have := HKf.out.symm.trans this
              cases this
            have e22 : erN (chv l) = .iface 98 (.int .i64 22) := by rw [chv_no hno]; rfl
            refine ⟨Eq.trans ?_ (congrArg Ending.returned e22.symm), HN.out.trans (NW.out.trans hnx)⟩
            rfl
          | true =>
            rw [hfo] at qf
            have HKf := Lib.hid hfo
            clear hfo
            go_upto_region 4 with fail
            change Code.wp _ _ _ _ (wr.alloc (.cells #[.int .i64 r.f, .int .i64 r.t, .int .u8 (r.p : Int)] 37))
            generalize (wr.alloc (.cells #[.int .i64 r.f, .int .i64 r.t, .int .u8 (r.p : Int)] 37)) = W at *
            generalize wr.heap.size = rb at *
            have NW := Lib.hid NW
            obtain ⟨b0, b1, b2⟩ := BR.three
            clear c0 c1 c2 BR
            go_wp2_with fail
            go_region_held3 (fun w' => New W w' ∧ w'.cell? ⟨rb, 0, none⟩ = some (.int .i64 r.f) ∧ w'.cell? ⟨rb, 1, none⟩ = some (.int .i64 r.t) ∧ w'.cell? ⟨rb, 2, none⟩ = some (.int .u8 (r.p : Int)) ∧ w'.cell? (x.add (i * 3)) = some (.int .i64 y.f) ∧ w'.cell? ⟨(x.add (i * 3)).block, (x.add (i * 3)).off + 1, none⟩ = some (.int .i64 y.t) ∧ w'.cell? ⟨(x.add (i * 3)).block, (x.add (i * 3)).off + 2, none⟩ = some (.int .u8 (y.p : Int)))
              (first
                | exact ⟨hnx, hnx.keeps b0, hnx.keeps b1, hnx.keeps b2, hnx.keeps p0, hnx.keeps p1, hnx.keeps p2⟩
                | (have hnx := (New.refl W).drew; exact ⟨hnx, hnx.keeps b0, hnx.keeps b1, hnx.keeps b2, hnx.keeps p0, hnx.keeps p1, hnx.keeps p2⟩))
              (first
                | (go_at_call 100; (with_reducible refine (qr _).mono ?_); rintro e wz ⟨rfl, hny⟩; have hnx : New W wz := New.trans (by first | exact hnx | exact (New.refl _).drew | exact New.refl _) hny)
                | (go_at_call 145; (with_reducible refine (qf _).mono ?_); rintro e wz ⟨rfl, hny⟩; have hnx : New W wz := New.trans (by first | exact hnx | exact (New.refl _).drew | exact New.refl _) hny))
            go_wp2
            go_roundg (l.length - (j + 1))
            case measure => have := J.out; omega
            case rel =>
              refine ⟨j + 1, by have := J.out; omega, by go_num, HN.out.trans (NW.out.trans hnx), fun q hq hqj => ?_⟩
              by_cases e : q < j
              · exact HO.out q hq e
              · obtain rfl : q = j := by omega
                refine ⟨by rw [← HRe.out]; exact HKr.out, fun z hz hzl => ?_⟩
                obtain rfl : z = i := by have := HJ.out; omega
                rw [← HRe.out, ← HY.out]; exact HKf.out
    · obtain rfl : j = l.length := by omega
      have e0 : erN (chv l) = .nilIface := by rw [chv_ok ((rch_iff l).2 fun i hi => hok i hi hi)]; rfl
      go_wp2
      go_ret
      refine ⟨Eq.trans ?_ (congrArg Ending.returned e0.symm), hn⟩
      rfl
end Go.Proofs.YtgedimlhldfkaaaGreatDoor
namespace Go.Proofs.YtgedimlhldfkaaaGreatDoor
open Go.RowKit
set_option linter.unusedVariables false
set_option maxRecDepth 100000
/-- the first one's place, or -1 -/
def fiN (f : Rg → Bool) : List Rg → Int
  | [] => -1
  | r :: l => if f r = true then 0 else if fiN f l < 0 then -1 else fiN f l + 1
theorem fiN_at (f : Rg → Bool) : ∀ (l : List Rg) (j : Nat) (hj : j < l.length), (∀ i (hi : i < l.length), i < j → f l[i] = false) → f l[j] = true → fiN f l = j
  | [], j, hj, _, _ => absurd hj (Nat.not_lt_zero _)
  | r :: l, 0, _, _, h => by unfold fiN; rw [if_pos (by simpa using h)]; rfl
  | r :: l, j + 1, hj, h1, h2 => by
    have h0 := h1 0 (by simp) (by omega)
    have ih := fiN_at f l j (by simpa using hj) (fun i hi hij => h1 (i + 1) (by simpa using hi) (by omega)) (by simpa using h2)
    unfold fiN
    rw [if_neg (by simpa using h0), ih, if_neg (by omega)]; omega
theorem fiN_none (f : Rg → Bool) : ∀ (l : List Rg), (∀ r ∈ l, f r = false) → fiN f l = -1
  | [], _ => rfl
  | r :: l, h => by
    unfold fiN
    rw [if_neg (by rw [h r List.mem_cons_self]; simp), fiN_none f l fun s hs => h s (List.mem_cons_of_mem _ hs), if_pos (by omega)]
theorem fiN_cases (f : Rg → Bool) (l : List Rg) : (fiN f l = -1 ∧ ∀ r ∈ l, f r = false) ∨ ∃ j, ∃ hj : j < l.length, fiN f l = (j : Int) ∧ f l[j] = true ∧ ∀ i (hi : i < l.length), i < j → f l[i] = false := by
  induction l with
  | nil => exact .inl ⟨rfl, fun r h => absurd h List.not_mem_nil⟩
  | cons r l ih =>
    cases h : f r with
    | true => exact .inr ⟨0, by simp, by unfold fiN; rw [if_pos h]; rfl, by simpa using h, fun i _ hi => absurd hi (Nat.not_lt_zero _)⟩
    | false =>
      rcases ih with ⟨e, k⟩ | ⟨j, hj, e, k1, k2⟩
      · refine .inl ⟨by unfold fiN; rw [if_neg (by simp [h]), e]; rfl, fun s hs => ?_⟩
        rcases List.mem_cons.1 hs with rfl | hs
        · exact h
        · exact k s hs
      · refine .inr ⟨j + 1, by simpa using hj, by unfold fiN; rw [if_neg (by simp [h]), e, if_neg (by omega)]; omega, by simpa using k1, fun i hi hij => ?_⟩
        match i, hi, hij with
        | 0, _, _ => simpa using h
        | i + 1, hi, hij => exact k2 i (by simpa using hi) (by omega)
/-- does a region have one of the pages? -/
def ovR (a b : Int) (r : Rg) : Bool := decide (r.f < b) && decide (a < r.t)
theorem ovR_iff {a b : Int} {r : Rg} : ovR a b r = true ↔ r.f < b ∧ a < r.t := by unfold ovR; simp
theorem over_clo (w : World) (r : Rg) (a b : Int) (ab bb : Nat) (ha : w.cell? ⟨ab, 0, none⟩ = some (.int .i64 a)) (hb : w.cell? ⟨bb, 0, none⟩ = some (.int .i64 b)) :
    Calls Tryz.prog 146 #[.agg #[.int .i64 r.f, .int .i64 r.t, .int .u8 (r.p : Int)], .pointer (some ⟨bb, 0, none⟩), .pointer (some ⟨ab, 0, none⟩)] w (BoolN (ovR a b r) w) := by
  obtain ⟨f, t, p⟩ := r
  have N1 : New w (w.alloc (.cells #[.int .i64 f, .int .i64 t, .int .u8 (p : Int)] 37)) := (New.refl w).alloc _ _
  have h1 := N1.keeps ha
  have h2 := N1.keeps hb
  unfold ovR
  simp only
  by_cases c : f < b
  · have d : decide (f < b) = true := by simpa using c
    rw [d]
    go_enter Tryz.func146, Tryz.ntmps146
    go_wp2
    go_ret
    exact ⟨rfl, by repeat (first | exact New.refl _ | refine New.alloc ?_ _ _)⟩
  · have d : decide (f < b) = false := by simpa using c
    rw [d]
    go_enter Tryz.func146, Tryz.ntmps146
    go_wp2
    go_ret
    exact ⟨rfl, by repeat (first | exact New.refl _ | refine New.alloc ?_ _ _)⟩
theorem at_clo (w : World) (r : Rg) (q : Int) (qb : Nat) (hq : w.cell? ⟨qb, 0, none⟩ = some (.int .i64 q)) :
    Calls Tryz.prog 130 #[.agg #[.int .i64 r.f, .int .i64 r.t, .int .u8 (r.p : Int)], .pointer (some ⟨qb, 0, none⟩)] w (BoolN (inR r q) w) := by
  obtain ⟨f, t, p⟩ := r
  have N1 : New w (w.alloc (.cells #[.int .i64 f, .int .i64 t, .int .u8 (p : Int)] 37)) := (New.refl w).alloc _ _
  have h1 := N1.keeps hq
  unfold inR
  simp only
  by_cases c : f ≤ q
  · have d : decide (f ≤ q) = true := by simpa using c
    rw [d]
    go_enter Tryz.func130, Tryz.ntmps130
    go_wp2
    go_ret
    exact ⟨rfl, by repeat (first | exact New.refl _ | refine New.alloc ?_ _ _)⟩
  · have d : decide (f ≤ q) = false := by simpa using c
    rw [d]
    go_enter Tryz.func130, Tryz.ntmps130
    go_wp2
    go_ret
    exact ⟨rfl, by repeat (first | exact New.refl _ | refine New.alloc ?_ _ _)⟩
set_option maxHeartbeats 1000000 in
theorem idx_over (w : World) (v : Value) (l : List Rg) (h : Rgs w v l) (g : Rg → Bool) (ab bb : Nat)
    (HF : ∀ W r, New w W → Calls Tryz.prog 146 #[.agg #[.int .i64 r.f, .int .i64 r.t, .int .u8 (r.p : Int)], .pointer (some ⟨bb, 0, none⟩), .pointer (some ⟨ab, 0, none⟩)] W (BoolN (g r) W)) :
    Calls Tryz.prog 129 #[v, .func (.func 146) #[] #[.pointer (some ⟨bb, 0, none⟩), .pointer (some ⟨ab, 0, none⟩)]] w (IntR (fiN g l) w) := by
  obtain ⟨p, cap, rfl, hc, hm⟩ := h.shape
  have HR := Lib.hid h
  have hB : l.length ≤ 9223372036854775807 := by have := h.len; unfold maxLen at this; omega
  clear h hc hm
  go_enter Tryz.func129, Tryz.ntmps129
  go_wp2
  go_loopg [8] l.length (fun k i wr => ∃ j : Nat, j + k = l.length ∧ i = .int .i64 (j : Int) ∧ New w wr ∧ ∀ i (h : i < l.length), i < j → g l[i] = false)
  case atStart => exact ⟨0, by omega, rfl, New.refl _, fun i _ h => absurd h (Nat.not_lt_zero _)⟩
  case round =>
    obtain ⟨j, hj, rfl, hn, hok⟩ := hrel
    by_cases c : j < l.length
    · have HO := Lib.hid hok
      have HN := Lib.hid hn
      have J := Lib.hid hj
      obtain ⟨_, x, rfl, hx⟩ := HR.out.at_ j c
      obtain ⟨c0, c1, c2⟩ := hx.new hn
      have qf := HF wr l[j] hn
      obtain ⟨r, hr⟩ : ∃ r, r = l[j] := ⟨_, rfl⟩
      have HRe := Lib.hid hr
      rw [← hr] at c0 c1 c2 qf
      clear hok hn hj hr hx
      cases hg : g r with
      | true =>
        rw [hg] at qf
        have HG := Lib.hid hg
        clear hg
        go_wp2_with (go_at_call 146; (with_reducible refine qf.mono ?_); rintro e wz ⟨rfl, hny⟩)
        go_ret
        refine ⟨Eq.trans ?_ (congrArg (fun z => Ending.returned (.int .i64 z)) (fiN_at g l j c HO.out (by rw [← HRe.out]; exact HG.out)).symm), HN.out.trans hny⟩
        rfl
      | false =>
        rw [hg] at qf
        have HG := Lib.hid hg
        clear hg
        go_wp2_with (go_at_call 146; (with_reducible refine qf.mono ?_); rintro e wz ⟨rfl, hny⟩)
        go_roundg (l.length - (j + 1))
        case measure => have := J.out; omega
        case rel =>
          refine ⟨j + 1, by have := J.out; omega, by go_num, HN.out.trans hny, fun q hq hqj => ?_⟩
          by_cases e : q < j
          · exact HO.out q hq e
          · obtain rfl : q = j := by omega
            rw [← HRe.out]; exact HG.out
    · obtain rfl : j = l.length := by omega
      have e0 : fiN g l = -1 := fiN_none g l fun r hr => by
        obtain ⟨i, hi, rfl⟩ := List.getElem_of_mem hr
        exact hok i hi hi
      go_wp2
      go_ret
      exact ⟨Eq.trans rfl (congrArg (fun z => Ending.returned (.int .i64 z)) e0.symm), hn⟩
set_option maxHeartbeats 1000000 in
theorem idx_at (w : World) (v : Value) (l : List Rg) (h : Rgs w v l) (g : Rg → Bool) (qb : Nat)
    (HF : ∀ W r, New w W → Calls Tryz.prog 130 #[.agg #[.int .i64 r.f, .int .i64 r.t, .int .u8 (r.p : Int)], .pointer (some ⟨qb, 0, none⟩)] W (BoolN (g r) W)) :
    Calls Tryz.prog 129 #[v, .func (.func 130) #[] #[.pointer (some ⟨qb, 0, none⟩)]] w (IntR (fiN g l) w) := by
  obtain ⟨p, cap, rfl, hc, hm⟩ := h.shape
  have HR := Lib.hid h
  have hB : l.length ≤ 9223372036854775807 := by have := h.len; unfold maxLen at this; omega
  clear h hc hm
  go_enter Tryz.func129, Tryz.ntmps129
  go_wp2
  go_loopg [8] l.length (fun k i wr => ∃ j : Nat, j + k = l.length ∧ i = .int .i64 (j : Int) ∧ New w wr ∧ ∀ i (h : i < l.length), i < j → g l[i] = false)
  case atStart => exact ⟨0, by omega, rfl, New.refl _, fun i _ h => absurd h (Nat.not_lt_zero _)⟩
  case round =>
    obtain ⟨j, hj, rfl, hn, hok⟩ := hrel
    by_cases c : j < l.length
    · have HO := Lib.hid hok
      have HN := Lib.hid hn
      have J := Lib.hid hj
      obtain ⟨_, x, rfl, hx⟩ := HR.out.at_ j c
      obtain ⟨c0, c1, c2⟩ := hx.new hn
      have qf := HF wr l[j] hn
      obtain ⟨r, hr⟩ : ∃ r, r = l[j] := ⟨_, rfl⟩
      have HRe := Lib.hid hr
      rw [← hr] at c0 c1 c2 qf
      clear hok hn hj hr hx
      cases hg : g r with
      | true =>
        rw [hg] at qf
        have HG := Lib.hid hg
        clear hg
        go_wp2_with (go_at_call 130; (with_reducible refine qf.mono ?_); rintro e wz ⟨rfl, hny⟩)
        go_ret
        refine ⟨Eq.trans ?_ (congrArg (fun z => Ending.returned (.int .i64 z)) (fiN_at g l j c HO.out (by rw [← HRe.out]; exact HG.out)).symm), HN.out.trans hny⟩
        rfl
      | false =>
        rw [hg] at qf
        have HG := Lib.hid hg
        clear hg
        go_wp2_with (go_at_call 130; (with_reducible refine qf.mono ?_); rintro e wz ⟨rfl, hny⟩)
        go_roundg (l.length - (j + 1))
        case measure => have := J.out; omega
        case rel =>
          refine ⟨j + 1, by have := J.out; omega, by go_num, HN.out.trans hny, fun q hq hqj => ?_⟩
          by_cases e : q < j
          · exact HO.out q hq e
          · obtain rfl : q = j := by omega
            rw [← HRe.out]; exact HG.out
    · obtain rfl : j = l.length := by omega
      have e0 : fiN g l = -1 := fiN_none g l fun r hr => by
        obtain ⟨i, hi, rfl⟩ := List.getElem_of_mem hr
        exact hok i hi hi
      go_wp2
      go_ret
      exact ⟨Eq.trans rfl (congrArg (fun z => Ending.returned (.int .i64 z)) e0.symm), hn⟩
theorem over_any (w : World) (v : Value) (l : List Rg) (h : Rgs w v l) (a b : Int) : Calls Tryz.prog 101 #[v, .int .i64 a, .int .i64 b] w (IntR (fiN (ovR a b) l) w) := by
  obtain ⟨p, cap, rfl, hc, hm⟩ := h.shape
  have HN : New w ((w.alloc (.cells #[.int .i64 a] 3)).alloc (.cells #[.int .i64 b] 3)) := ((New.refl w).alloc _ _).alloc _ _
  have B0 : Box ((w.alloc (.cells #[.int .i64 a] 3)).alloc (.cells #[.int .i64 b] 3)) w.heap.size #[.int .i64 a] 3 := (Box.here w _ _ _ rfl).alloc _
  have B1 : Box ((w.alloc (.cells #[.int .i64 a] 3)).alloc (.cells #[.int .i64 b] 3)) (w.heap.size + 1) #[.int .i64 b] 3 := Box.here _ _ _ _ (by simp)
  have q := idx_over _ _ _ (h.new HN) (ovR a b) (w.heap.size) (w.heap.size + 1) fun W r hW => over_clo W r a b w.heap.size (w.heap.size + 1) (B0.new hW).one (B1.new hW).one
  go_enter Tryz.func101, Tryz.ntmps101
  go_wp2_with (go_at_call 129; (with_reducible refine q.mono ?_); rintro e wz ⟨rfl, hny⟩)
  go_ret
  exact ⟨rfl, HN.trans hny⟩
end Go.Proofs.YtgedimlhldfkaaaGreatDoor
namespace Go.Proofs.YtgedimlhldfkaaaGreatDoor
open Go.RowKit
set_option linter.unusedVariables false
set_option maxRecDepth 100000
theorem region_info : (Tryz.prog.info? 37).map (fun i => (i.zero, i.size, i.bytes)) = some (some (.agg #[.int .i64 0, .int .i64 0, .int .u8 0]), 3, 24) := by kernel_rfl
theorem info_parts3 {T : TypeId} {z : Value} {n m : Nat} (h : (Tryz.prog.info? T).map (fun i => (i.zero, i.size, i.bytes)) = some (some z, n, m)) : ∃ i, Tryz.prog.info? T = some i ∧ i.zero = some z ∧ i.size = n ∧ i.bytes = m := by
  cases h0 : Tryz.prog.info? T with
  | none => rw [h0] at h; cases h
  | some i =>
    rw [h0] at h
    simp only [Option.map_some, Option.some.injEq, Prod.mk.injEq] at h
    exact ⟨i, rfl, h.1, h.2.1, h.2.2⟩
/-- a slice of the call's own, and only new blocks -/
def MadeR (T : TypeId) (l : List Rg) (w : World) (e : Ending) (w' : World) : Prop := ∃ v, e = .returned v ∧ OwnR T w.heap.size w' v l ∧ New w w'
section
variable {w w1 wr : World} {base : Nat} {v v' : Value} {l : List Rg} {T : TypeId}
theorem OwnR.shape (h : OwnR T base w v l) : ∃ p cap, v = .slice p l.length cap := by obtain ⟨p, c, h1, _⟩ := h.rgs.shape; exact ⟨p, c, h1⟩
theorem OwnR.push {x : Rg} {o : Obj} (hnx : New w wr) (hb : base = w.heap.size) (hown : OwnR T base wr v l) (hown' : w1.ownsRow base T 3 v' (l.length + 1) (rcells l ++ rcell x)) (hgrow : (wr.alloc o).grownBy w1 v.ownBlock) :
    OwnR T base w1 v' (l ++ [x]) ∧ New w w1 := by
  subst hb
  refine ⟨?_, (hnx.allocO o).grown hgrow fun k hk => (World.ownsRow.lt hown k hk).1⟩
  unfold OwnR; rw [rcells_push, List.length_append, List.length_singleton]; exact hown'
theorem rcell_new (w : World) (x : Rg) (t : TypeId) : ∀ j u, (rcell x)[j]? = some u → (w.alloc (.cells #[.int .i64 x.f, .int .i64 x.t, .int .u8 (x.p : Int)] t)).cell? ((⟨w.heap.size, 0, none⟩ : Addr).add j) = some u := by
  intro j u hu
  have hx : Box (w.alloc (.cells #[.int .i64 x.f, .int .i64 x.t, .int .u8 (x.p : Int)] t)) w.heap.size _ _ := Box.here w _ _ _ rfl
  rw [Addr.add_mid, Nat.zero_add, hx.cell]
  rw [← hu]
  show ([Value.int .i64 x.f, .int .i64 x.t, .int .u8 (x.p : Int)].toArray)[j]? = _
  rw [List.getElem?_toArray]; rfl
end
set_option maxHeartbeats 1000000 in
theorem part_any (w : World) (v : Value) (l : List Rg) (a b : Int) (h : Rgs w v l) (hlen : l.length ≤ 1000000) : Calls Tryz.prog 105 #[v, .int .i64 a, .int .i64 b] w (MadeR 37 (rpart l a b) w) := by
  obtain ⟨i0, hi, hz0, hz1, hz2⟩ := info_parts3 region_info
  obtain ⟨p, cap, rfl, hc, hm⟩ := h.shape
  have HR := Lib.hid h
  clear h hc hm
  go_enter Tryz.func105, Tryz.ntmps105
  go_wp2
  go_loopg [7, 12] l.length (fun k acc i wr => ∃ j : Nat, j + k = l.length ∧ i = .int .i64 (j : Int) ∧ OwnR 37 w.heap.size wr acc (rpart (l.take j) a b) ∧ New w wr)
  case atStart => exact ⟨0, by omega, rfl, OwnR.nil, New.refl _⟩
  case round =>
    obtain ⟨j, hj, rfl, hown, hn⟩ := hrel
    by_cases c : j < l.length
    · have HN := Lib.hid hn
      have HO := Lib.hid hown
      have J := Lib.hid hj
      obtain ⟨_, x, rfl, hx⟩ := HR.out.at_ j c
      obtain ⟨c0, c1, c2⟩ := hx.new hn
      obtain ⟨r, hr⟩ : ∃ r, r = l[j] := ⟨_, rfl⟩
      have HRe := Lib.hid hr
      rw [← hr] at c0 c1 c2
      obtain ⟨f, t, p⟩ := r
      simp only at c0 c1 c2
      clear hn hj hr hx hown
      go_upto_region 6 with fail
      change Code.wp _ _ _ _ (wr.alloc (.cells #[.int .i64 (if f < a then a else f), .int .i64 (if b < t then b else t), .int .u8 (p : Int)] 37))
      have e1 : (if f < a then a else f) = max f a := by rw [Int.max_def]; split <;> split <;> omega
      have e2 : (if b < t then b else t) = min t b := by rw [Int.min_def]; split <;> split <;> omega
      have HP := Lib.hid (show rpart (l.take (j + 1)) a b = rpart (l.take j) a b ++ rone ⟨f, t, p⟩ a b by
        rw [List.take_succ_eq_append_getElem c, rpart_push, ← HRe.out])
      have hll : (rpart (l.take j) a b).length ≤ 1000000 := by have := rpart_len (l.take j) a b; rw [List.length_take] at this; omega
      rw [e1, e2]
      generalize hF : max f a = F at *
      generalize hT : min t b = U at *
      clear e1 e2 c0 c1 c2
      by_cases d : F < U
      · have HX := Lib.hid (show rpart (l.take (j + 1)) a b = rpart (l.take j) a b ++ [(⟨F, U, p⟩ : Rg)] by
          rw [HP.out]; unfold rone rclip; simp only; rw [hF, hT, if_pos d])
        clear HP hF hT
        generalize rpart (l.take j) a b = K at *
        have dd : decide (F < U) = true := by simpa using d
        have hO := HO.out
        go_wp2_with (at_builtin; refine wpList_append_own _ rfl _ _ 41 rfl w.heap.size 37 i0 (.agg #[.int .i64 0, .int .i64 0, .int .u8 0]) 3 24 Tryz.underlying41 hi hz0 hz1 hz2 rfl (by decide) _ _ _ rfl (World.ownsRow.alloc (World.ownsRow.alloc hO _) _) ⟨wr.heap.size + 1, 0, none⟩ 1 1 (rcell ⟨F, U, p⟩) rfl rfl ?c1 ?c2 ?c3 ?c4 ?c5 ?_)
        case c1 => intro j u hu; simpa [rcell] using hu
        case c2 => exact rcell_one _
        case c3 => unfold maxLen; omega
        case c4 => omega
        case c5 => have := HN.out.size; simp; omega
        intro v' w1 hown' hgrow _
        obtain ⟨o1, n1⟩ := OwnR.push (HN.out.alloc _ _) rfl (World.ownsRow.alloc hO _) hown' hgrow
        clear hown' hgrow hO
        rw [← HX.out] at o1
        obtain ⟨p4, c4, rfl⟩ := o1.shape
        go_wp2
        go_roundg (l.length - (j + 1))
        case measure => have := J.out; omega
        case rel => exact ⟨j + 1, by have := J.out; omega, by go_num, o1, n1⟩
      · have HX := Lib.hid (show rpart (l.take (j + 1)) a b = rpart (l.take j) a b by
          rw [HP.out]; unfold rone rclip; simp only; rw [hF, hT, if_neg d, List.append_nil])
        clear HP hF hT
        have dd : decide (F < U) = false := by simpa using d
        have NN := Lib.hid ((HN.out.alloc #[.int .i64 F, .int .i64 U, .int .u8 (p : Int)] 37))
        go_wp2
        go_roundg (l.length - (j + 1))
        case measure => have := J.out; omega
        case rel => exact ⟨j + 1, by have := J.out; omega, by go_num, by rw [HX.out]; exact World.ownsRow.alloc HO.out _, NN.out⟩
    · obtain rfl : j = l.length := by omega
      rw [List.take_length] at hown
      obtain ⟨p4, c4, rfl⟩ := hown.shape
      go_wp2
      go_ret
      exact ⟨_, rfl, hown, hn⟩
/-- how many pages -/
def rsz : List Rg → Int
  | [] => 0
  | r :: l => (r.t - r.f) + rsz l
theorem rsz_append (l m : List Rg) : rsz (l ++ m) = rsz l + rsz m := by
  induction l with
  | nil => simp [rsz]
  | cons r l ih => simp only [List.cons_append, rsz, ih]; omega
theorem rsz_bd {l : List Rg} (h : RAsc l) : 0 ≤ rsz l ∧ rsz l ≤ 4096 := by
  have key : ∀ (l : List Rg) (b : Int), b ≤ 4096 → RAsc l → (∀ s ∈ l, b ≤ s.f) → 0 ≤ rsz l ∧ rsz l ≤ 4096 - b := by
    intro l
    induction l with
    | nil => intro b hb h hs; simp only [rsz]; omega
    | cons r l ih =>
      intro b hb h hs
      have hr := okR_iff.1 h.1
      have := hs r List.mem_cons_self
      have := ih r.t (by omega) h.2.2 (RAsc.above h)
      simp only [rsz]; omega
  have := key l 0 (by omega) h fun s hs => (okR_iff.1 (RCh.mem h s hs)).1
  omega
theorem rsz_take {l : List Rg} (h : RAsc l) (j : Nat) : 0 ≤ rsz (l.take j) ∧ rsz (l.take j) ≤ 4096 := by
  refine rsz_bd ?_
  have e := List.take_append_drop j l
  rw [← e] at h
  exact ((rch_append _ _).1 h).1
noncomputable def szv (l : List Rg) : Int := if rokb l = true then rsz l else 0
theorem szv_ok {l : List Rg} (h : ROk l) : szv l = rsz l := by unfold szv; rw [if_pos (rokb_iff.2 h)]
theorem szv_no {l : List Rg} (h : ¬ ROk l) : szv l = 0 := by unfold szv; rw [if_neg (fun k => h (rokb_iff.1 k))]
set_option maxHeartbeats 1000000 in
theorem size_any (w : World) (v : Value) (l : List Rg) (h : Rgs w v l) : Calls Tryz.prog 106 #[v] w (IntR (szv l) w) := by
  have q := check_any w v l h
  obtain ⟨p, cap, rfl, hc, hm⟩ := h.shape
  have hB : l.length ≤ 9223372036854775807 := by have := h.len; unfold maxLen at this; omega
  by_cases k : ROk l
  · rw [chv_ok k, erN_zero] at q
    rw [szv_ok k]
    have HK := Lib.hid k
    have HR := Lib.hid h
    clear h hc hm k
    go_enter Tryz.func106, Tryz.ntmps106
    go_wp2_with (go_at_call 99; (with_reducible refine q.mono ?_); rintro e w1 ⟨rfl, hn1⟩)
    go_loopg [3, 11] l.length (fun k s i wr => ∃ j : Nat, j + k = l.length ∧ i = .int .i64 (j : Int) ∧ s = .int .i64 (rsz (l.take j)) ∧ New w wr)
    case atStart => exact ⟨0, by omega, rfl, rfl, hn1⟩
    case round =>
      obtain ⟨j, hj, rfl, rfl, hn⟩ := hrel
      by_cases c : j < l.length
      · have HN := Lib.hid hn
        have J := Lib.hid hj
        obtain ⟨_, x, rfl, hx⟩ := HR.out.at_ j c
        obtain ⟨c0, c1, c2⟩ := hx.new hn
        have hs := rsz_take HK.out.asc j
        have hr := okR_iff.1 (RCh.mem HK.out l[j] (List.getElem_mem c))
        have he := Lib.hid (show rsz (l.take (j + 1)) = rsz (l.take j) + ((l[j]).t - (l[j]).f) by
          rw [List.take_succ_eq_append_getElem c, rsz_append]; simp only [rsz]; omega)
        generalize l[j] = r at *
        generalize rsz (l.take j) = s at *
        obtain ⟨f, t, p⟩ := r
        simp only at c0 c1 c2 hr he
        clear hn hj hx
        go_wp2
        go_roundg (l.length - (j + 1))
        case measure => have := J.out; omega
        case rel => exact ⟨j + 1, by have := J.out; omega, by go_num, by rw [he.out], by repeat (first | exact HN.out | refine New.alloc ?_ _ _)⟩
      · obtain rfl : j = l.length := by omega
        rw [List.take_length]
        go_wp2
        go_ret
        exact ⟨rfl, hn⟩
  · rw [chv_no k, erN_pos (by decide)] at q
    rw [szv_no k]
    clear h hc hm k
    go_enter Tryz.func106, Tryz.ntmps106
    go_wp2_with (go_at_call 99; (with_reducible refine q.mono ?_); rintro e w1 ⟨rfl, hn1⟩)
    go_ret
    exact ⟨rfl, hn1⟩
set_option maxHeartbeats 1000000 in
/-- room for so many more, of nil -/
theorem grow_any (w : World) (n : Nat) (hn : n ≤ 1000000) : Calls Tryz.prog 148 #[.slice none 0 0, .int .i64 (n : Int)] w (MadeR 37 [] w) := by
  obtain ⟨i0, hi, hz0, hz1, hz2⟩ := info_parts3 region_info
  by_cases c : n = 0
  · subst c
    go_enter Tryz.func148, Tryz.ntmps148
    go_wp2
    go_ret
    exact ⟨_, rfl, OwnR.nil, New.refl _⟩
  · have d : decide ((n : Int) > 0) = true := by simp; omega
    have hr := Lib.run_append_nil_zeros (P := Tryz.prog) w 41 3 41 37 i0 _ .i64 .i64 Tryz.underlying41 Tryz.underlying3 hi hz0 n (by omega) (by omega) (by omega) (by rw [hz2]; omega)
    have hge := grownCap_ge w n 0 37
    have hcm := grownCap_le_maxLen w n 0 37 (by unfold maxLen; omega)
    generalize grownCap w n 0 37 = cp at *
    go_enter Tryz.func148, Tryz.ntmps148
    go_wp2_with (at_builtin; refine Lib.wpList_append_run _ rfl _ _ _ _ rfl _ _ rfl rfl _ _ hr ?_)
    go_ret
    generalize hC : (Builtin.zeroCells #[Value.int .i64 0, .int .i64 0, .int .u8 0] n ++ Builtin.zeroCells #[Value.int .i64 0, .int .i64 0, .int .u8 0] (cp - n)) = C
    have hs : C.size = cp * 3 := by
      rw [← hC, Array.size_append, size_zeroCells, size_zeroCells]
      show n * 3 + (cp - n) * 3 = cp * 3
      omega
    exact ⟨_, rfl, OwnR.new (World.ownsRow_made w C cp (Nat.le_refl _) hcm hs) (New.refl _).drew, ((New.refl w).alloc _ _).drew⟩
end Go.Proofs.YtgedimlhldfkaaaGreatDoor
namespace Go.Proofs.YtgedimlhldfkaaaGreatDoor
open Go.RowKit
set_option linter.unusedVariables false
set_option maxRecDepth 100000
section
variable {w w' w1 wr : World} {base : Nat} {v v' : Value} {l m : List Rg} {T : TypeId}
theorem RgAt.add {x : Addr} {i : Nat} {r : Rg} (h : RgAt w (x.add (i * 3)) r) (f : Nat) (u : Value) (hu : (rcell r)[f]? = some u) : w.cell? (x.add (i * 3 + f)) = some u := by
  obtain ⟨h0, h1, h2⟩ := h
  rw [← Go.Deep.add_add]
  generalize x.add (i * 3) = y at *
  match f, hu with
  | 0, hu => simp [rcell] at hu; subst hu; simpa [Addr.add] using h0
  | 1, hu => simp [rcell] at hu; subst hu; simpa [Addr.add] using h1
  | 2, hu => simp [rcell] at hu; subst hu; simpa [Addr.add] using h2
  | f + 3, hu => simp [rcell] at hu
theorem Rgs.holds {x : Addr} {n cap : Nat} (h : Rgs w (.slice (some x) n cap) l) : ∀ j u, (rcells l)[j]? = some u → w.cell? (x.add j) = some u := by
  intro j u hu
  have hj : j < l.length * 3 := by rw [← rcells_len]; exact (List.getElem?_eq_some_iff.1 hu).1
  have hi : j / 3 < l.length := by omega
  obtain ⟨_, y, e, hr⟩ := h.at_ (j / 3) hi
  cases e
  have e := rcells_get l (j / 3) (j % 3) hi (Nat.mod_lt _ (by omega))
  have ej : j / 3 * 3 + j % 3 = j := by omega
  rw [ej, hu] at e
  have := hr.add (j % 3) u e.symm
  rwa [ej] at this
theorem run_append_zero {P : Program} (w : World) (t ty e : TypeId) (i : TypeInfo) (ht : P.underlying t = some (.slice e)) (hi : P.info? e = some i) (base : Nat) (size n : Nat) (v : Value) (xs : List Value) (hown : w.ownsRow base e size v n xs) (c : Nat) :
    (Builtin.append_ #[t, t] ty #[v, .slice none 0 c]).run P w = .ok v w := by
  have hst : ∀ a, (storeCells a []).run P w = .ok () w := fun a => rfl
  rcases hown.2 with ⟨rfl, rfl⟩ | ⟨g, cap, cur, rfl, hb, hg, h1, h2, h3, h4⟩
  · simp [Builtin.append_, run_underlying ht, sizeOf, typeInfo, hi, Builtin.lenOf, run_firstCells_none]
  · simp [Builtin.append_, run_underlying ht, sizeOf, typeInfo, hi, Builtin.lenOf, run_firstCells_none, h1, hst]
/-- a list of the call's own, and one that can be read behind it -/
theorem run_append_rgs {W : World} (hn : New W w) (h : OwnR 37 W.heap.size w v l) (hm : Rgs w v' m) (hl : l.length + m.length ≤ 2000000) :
    ∃ u w1, (Builtin.append_ #[41, 41] 41 #[v, v']).run Tryz.prog w = .ok u w1 ∧ OwnR 37 W.heap.size w1 u (l ++ m) ∧ New W w1 := by
  obtain ⟨i0, hi, hz0, hz1, hz2⟩ := info_parts3 region_info
  obtain ⟨p, cap, rfl, _, _⟩ := hm.shape
  cases p with
  | none =>
    have hm0 : m = [] := by
      cases m with
      | nil => rfl
      | cons a m => obtain ⟨_, x, e, _⟩ := hm.at_ 0 (by simp); cases e
    subst hm0
    exact ⟨v, w, run_append_zero w _ _ _ i0 Tryz.underlying41 hi _ _ _ _ _ h cap, by rw [List.append_nil]; exact h, hn⟩
  | some x =>
    obtain ⟨u, w1, k1, k2, k3, _⟩ := run_append_own (P := Tryz.prog) w W.heap.size 41 41 37 i0 _ 3 24 Tryz.underlying41 hi hz0 hz1 hz2 rfl (by decide) v l.length (rcells l) h x m.length cap (rcells m) (rcells_len m) hm.holds (rcells_one m) (by unfold maxLen; omega) (by omega) hn.size
    refine ⟨u, w1, k1, ?_, hn.grown k3 fun k hk => (World.ownsRow.lt h k hk).1⟩
    unfold OwnR; rw [rcells_append, List.length_append]; exact k2
/-- slices of regions in memory, one cell each -/
def Sls (w : World) (b : Nat) (LL : List (List Rg)) : Prop := ∀ i (hi : i < LL.length), ∃ u, w.cell? ⟨b, i, none⟩ = some u ∧ Rgs w u LL[i]
theorem Sls.new {b : Nat} {LL : List (List Rg)} (h : Sls w b LL) (k : New w w') : Sls w' b LL := fun i hi => by
  obtain ⟨u, h1, h2⟩ := h i hi
  exact ⟨u, k.keeps h1, h2.new k⟩
end
theorem flat_len (LL : List (List Rg)) (j : Nat) : (LL.take j).flatten.length ≤ LL.flatten.length := by
  conv => rhs; rw [← List.take_append_drop j LL]
  rw [List.flatten_append, List.length_append]; omega
set_option maxHeartbeats 1000000 in
theorem concat_any (w : World) (b : Nat) (LL : List (List Rg)) (n : Nat) (hn : n = LL.length) (h : Sls w b LL) (hlen : LL.flatten.length ≤ 1000000) (hL : LL.length ≤ 100) :
    Calls Tryz.prog 104 #[.slice (some ⟨b, 0, none⟩) n n] w (MadeR 37 LL.flatten w) := by
  subst hn
  have HS := Lib.hid h
  have HL := Lib.hid hlen
  clear h
  go_enter Tryz.func104, Tryz.ntmps104
  go_wp2
  go_loopg [3, 11] LL.length (fun k s i wr => ∃ j : Nat, j + k = LL.length ∧ i = .int .i64 (j : Int) ∧ s = .int .i64 ((LL.take j).flatten.length : Int) ∧ w = wr)
  case atStart => exact ⟨0, by omega, rfl, rfl, rfl⟩
  case round =>
    obtain ⟨j, hj, rfl, rfl, rfl⟩ := hrel
    by_cases c : j < LL.length
    · obtain ⟨u, hu, hr⟩ := HS.out j c
      obtain ⟨p, cap, rfl, _, _⟩ := hr.shape
      have J := Lib.hid hj
      have he := Lib.hid (show (LL.take (j + 1)).flatten.length = (LL.take j).flatten.length + (LL[j]).length by
        rw [List.take_succ_eq_append_getElem c, List.flatten_append, List.length_append, List.flatten_cons, List.flatten_nil, List.append_nil])
      have h1 := flat_len LL (j + 1)
      rw [he.out] at h1
      generalize (LL.take j).flatten.length = s at *
      generalize (LL[j]).length = m at *
      clear hj hr
      go_wp2
      go_roundg (LL.length - (j + 1))
      case measure => have := J.out; omega
      case rel => exact ⟨j + 1, by have := J.out; omega, by go_num, by rw [he.out]; simp, rfl⟩
    · obtain rfl : j = LL.length := by omega
      rw [List.take_length]
      have q := grow_any w LL.flatten.length hlen
      clear hj c
      generalize hT : LL.flatten.length = T at *
      go_wp2_with (go_at_call 148; (with_reducible refine q.mono ?_); rintro e w1 ⟨v1, rfl, o1, n1⟩)
      clear q
      go_loopg [6, 27] LL.length (fun k acc i wr => ∃ j : Nat, j + k = LL.length ∧ i = .int .i64 (j : Int) ∧ OwnR 37 w.heap.size wr acc (LL.take j).flatten ∧ New w wr)
      case atStart => exact ⟨0, by omega, rfl, o1, n1⟩
      case round =>
        obtain ⟨j, hj, rfl, ho, hn⟩ := hrel
        by_cases c : j < LL.length
        · obtain ⟨u, hu, hr⟩ := HS.out j c
          have hu := hn.keeps hu
          have hr := hr.new hn
          have J := Lib.hid hj
          have h1 := flat_len LL (j + 1)
          have he : (LL.take (j + 1)).flatten = (LL.take j).flatten ++ LL[j] := by rw [List.take_succ_eq_append_getElem c, List.flatten_append, List.flatten_cons, List.flatten_nil, List.append_nil]
          obtain ⟨z, w2, hr2, o2, n2⟩ := run_append_rgs hn ho hr (by have := HL.out; rw [he, List.length_append] at h1; omega)
          rw [← he] at o2
          obtain ⟨p, cap, rfl, _, _⟩ := hr.shape
          obtain ⟨p3, c3, rfl⟩ := ho.shape
          have O2 := Lib.hid o2
          have N2 := Lib.hid n2
          clear hj hr h1 he o2 n2 ho
          go_wp2_with (at_builtin; refine Lib.wpList_append_run _ rfl _ _ _ _ rfl _ _ rfl rfl _ _ hr2 ?_)
          obtain ⟨p4, c4, rfl⟩ := O2.out.shape
          go_wp2
          go_roundg (LL.length - (j + 1))
          case measure => have := J.out; omega
          case rel => exact ⟨j + 1, by have := J.out; omega, by go_num, O2.out, N2.out⟩
        · obtain rfl : j = LL.length := by omega
          rw [List.take_length] at ho
          obtain ⟨p3, c3, rfl⟩ := ho.shape
          go_wp2
          go_ret
          exact ⟨_, rfl, ho, hn⟩
end Go.Proofs.YtgedimlhldfkaaaGreatDoor
namespace Go.Proofs.YtgedimlhldfkaaaGreatDoor
open Go.RowKit Go.Joins
set_option linter.unusedVariables false
set_option maxRecDepth 100000
section
variable {w w' w1 wr : World} {base : Nat} {v v' : Value} {l m : List Rg} {T : TypeId}
theorem OwnR.last {x : Rg} (h : OwnR T base w v (m ++ [x])) : ∃ g cap k n, m.length = k ∧ (m ++ [x]).length = n ∧ n = k + 1 ∧ v = .slice (some ⟨g, 0, none⟩) n cap ∧ base ≤ g ∧ g < w.heap.size ∧ n ≤ cap ∧ (∀ i, w.frozen? ⟨g, i, none⟩ = false) ∧
    w.cell? ⟨g, k * 3, none⟩ = some (.int .i64 x.f) ∧ w.cell? ⟨g, k * 3 + 1, none⟩ = some (.int .i64 x.t) ∧ w.cell? ⟨g, k * 3 + 2, none⟩ = some (.int .u8 (x.p : Int)) := by
  rcases h.2 with ⟨_, hn⟩ | ⟨g, cap, cur, e, hb, hg, h1, h2, h3, h4⟩
  · simp at hn
  · refine ⟨g, cap, m.length, _, rfl, rfl, by simp, e, hb, (Array.getElem?_eq_some_iff.1 hg).1, h1, fun i => by simp [World.frozen?, hg], ?_⟩
    have key := fun f hf => OwnR.cells (l := m ++ [x]) hg h1 h4 m.length (by simp) f hf
    have e : (m ++ [x])[m.length]'(by simp) = x := by simp
    rw [e] at key
    exact ⟨key 0 (by omega), key 1 (by omega), key 2 (by omega)⟩
theorem set_mid {α : Type} (a : List α) (x y z t : α) : (a ++ [x, y, z]).set (a.length + 1) t = a ++ [x, t, z] := by
  rw [List.set_append_right _ _ (by omega), show a.length + 1 - a.length = 1 by omega]; rfl
theorem OwnR.setTo {x : Rg} {g n cap : Nat} (h : OwnR T base w (.slice (some ⟨g, 0, none⟩) n cap) (m ++ [x])) (t : Int) : OwnR T base (w.setCell ⟨g, m.length * 3 + 1, none⟩ (.int .i64 t)) (.slice (some ⟨g, 0, none⟩) n cap) (m ++ [⟨x.f, t, x.p⟩]) := by
  have hl : (m ++ [(⟨x.f, t, x.p⟩ : Rg)]).length = (m ++ [x]).length := by simp
  refine ⟨by rw [rcells_len], ?_⟩
  rw [hl]
  rcases h.2 with ⟨hn, _⟩ | ⟨g', cap', cur, e, hb, hg, h1, h2, h3, h4⟩
  · cases hn
  · cases e
    refine .inr ⟨g, cap, cur.setIfInBounds (m.length * 3 + 1) (.int .i64 t), rfl, hb, block_setCell hg _, h1, h2, by simpa using h3, ?_⟩
    rw [Array.toList_setIfInBounds, List.take_set, h4, rcells_push, rcells_push, ← rcells_len m]
    exact set_mid (rcells m) _ _ _ _
end
set_option maxHeartbeats 2000000 in
theorem join_any (w : World) (b : Nat) (LL : List (List Rg)) (n : Nat) (hn : n = LL.length) (h : Sls w b LL) (hlen : LL.flatten.length ≤ 1000000) (hL : LL.length ≤ 100) :
    Calls Tryz.prog 147 #[.slice (some ⟨b, 0, none⟩) n n] w (MadeR 37 (rjoins LL.flatten) w) := by
  obtain ⟨i0, hi, hz0, hz1, hz2⟩ := info_parts3 region_info
  have q := concat_any w b LL n hn h hlen hL
  generalize LL.flatten = X at *
  have QF := fun w a b => areOne_any w a b
  clear h hL hn
  go_enter Tryz.func147, Tryz.ntmps147
  go_wp2_with (go_at_call 104; (with_reducible refine q.mono ?_); rintro e w1 ⟨v1, rfl, o1, n1⟩; obtain ⟨p1, c1, rfl⟩ := o1.shape)
  have HR := Lib.hid o1.rgs
  have N01 := Lib.hid n1
  clear q o1 n1
  go_loopg [3, 10] X.length (fun k acc i wr => ∃ j : Nat, j + k = X.length ∧ i = .int .i64 (j : Int) ∧ OwnR 37 w1.heap.size wr acc (rjoins (X.take j)) ∧ New w1 wr)
  case atStart => exact ⟨0, by omega, rfl, OwnR.nil, New.refl _⟩
  case round =>
    obtain ⟨j, hj, rfl, ho, hn1⟩ := hrel
    by_cases c : j < X.length
    · have HN := Lib.hid hn1
      have J := Lib.hid hj
      obtain ⟨_, y, ey, hx⟩ := HR.out.at_ j c
      cases ey
      obtain ⟨c0, c1', c2⟩ := hx.new hn1
      have hP := Lib.hid (show rjoins (X.take (j + 1)) = rjstep (rjoins (X.take j)) X[j] by
        rw [List.take_succ_eq_append_getElem c, rjoins_push])
      have hll : (rjoins (X.take j)).length ≤ 1000000 := by have := rjoins_len (X.take j); rw [List.length_take] at this; omega
      generalize X[j] = r at *
      generalize rjoins (X.take j) = A at *
      clear hn1 hj hx
      have NW : New wr (wr.alloc (.cells #[.int .i64 r.f, .int .i64 r.t, .int .u8 (r.p : Int)] 37)) := (New.refl wr).alloc _ _
      have BR : Box (wr.alloc (.cells #[.int .i64 r.f, .int .i64 r.t, .int .u8 (r.p : Int)] 37)) wr.heap.size #[.int .i64 r.f, .int .i64 r.t, .int .u8 (r.p : Int)] 37 := Box.here wr _ _ _ rfl
      have OW : OwnR 37 w1.heap.size (wr.alloc (.cells #[.int .i64 r.f, .int .i64 r.t, .int .u8 (r.p : Int)] 37)) u3 A := World.ownsRow.alloc ho _
      clear ho
      rcases rsnoc_of A with rfl | ⟨m, x, rfl⟩
      · obtain ⟨p3, c3, rfl⟩ := OW.shape
        have OW := Lib.hid OW
        have HLN := Lib.hid hll
        go_upto_region 6 with fail
        change Code.wp _ _ _ _ (wr.alloc (.cells #[.int .i64 r.f, .int .i64 r.t, .int .u8 (r.p : Int)] 37))
        generalize (wr.alloc (.cells #[.int .i64 r.f, .int .i64 r.t, .int .u8 (r.p : Int)] 37)) = W at *
        generalize wr.heap.size = rb at *
        have NW := Lib.hid NW
        obtain ⟨b0, b1, b2⟩ := BR.three
        clear c0 c1' c2
        go_wp2_with fail
        have kd := (New.refl W).drew
        have hS : (fun w' : World => New W w' ∧ w'.cell? ⟨rb, 0, none⟩ = some (.int .i64 r.f) ∧ w'.cell? ⟨rb, 1, none⟩ = some (.int .i64 r.t) ∧ w'.cell? ⟨rb, 2, none⟩ = some (.int .u8 (r.p : Int))) W.drew := ⟨kd, kd.keeps b0, kd.keeps b1, kd.keeps b2⟩
        refine wp_region_held_drew (S := (fun w' : World => New W w' ∧ w'.cell? ⟨rb, 0, none⟩ = some (.int .i64 r.f) ∧ w'.cell? ⟨rb, 1, none⟩ = some (.int .i64 r.t) ∧ w'.cell? ⟨rb, 2, none⟩ = some (.int .u8 (r.p : Int)))) (by kernel_rfl) hS (fun _ => ?_)
        refine wpAnyH_take (i := 0) (v := ?_) rfl (by kernel_rfl) (by kernel_rfl) (by kernel_rfl) (fun _ _ _ h => h) (Or.inl ⟨by rfl, ?_⟩) hS ?_
        rotate_left
        · intro w hSw
          try dsimp only at hSw
          go_simp
          try with_reducible rfl
        try simp only [Act.put, List.setIfInBounds_toArray, List.set_cons_zero, List.set_cons_succ, List.getElem_toArray, List.getElem_cons_zero]
        refine wpAnyH_take (i := 1) (v := ?_) rfl (by kernel_rfl) (by kernel_rfl) (by kernel_rfl) (fun _ _ _ h => h) (Or.inl ⟨by rfl, ?_⟩) hS ?_
        rotate_left
        · intro w hSw
          try dsimp only at hSw
          go_simp
          try with_reducible rfl
        try simp only [Act.put, List.setIfInBounds_toArray, List.set_cons_zero, List.set_cons_succ, List.getElem_toArray, List.getElem_cons_zero, List.getElem_cons_succ]
        refine wpAnyH_take (i := 2) (v := ?_) rfl (by kernel_rfl) (by kernel_rfl) (by kernel_rfl) (fun _ _ _ h => h) (Or.inl ⟨by rfl, ?_⟩) hS ?_
        rotate_left
        · intro w hSw
          try dsimp only at hSw
          go_simp
          try with_reducible rfl
        try simp only [Act.put, List.setIfInBounds_toArray, List.set_cons_zero, List.set_cons_succ, List.getElem_toArray, List.getElem_cons_zero, List.getElem_cons_succ]
        refine wpAnyH_take (i := 3) (v := undef) rfl (by kernel_rfl) (by kernel_rfl) (by kernel_rfl) (fun _ _ _ h => h) (Or.inr ⟨by rfl, rfl⟩) hS ?_
        try simp only [Act.put, List.setIfInBounds_toArray, List.set_cons_zero, List.set_cons_succ, List.getElem_toArray, List.getElem_cons_zero, List.getElem_cons_succ]
        refine wpAnyH_take (i := 4) (v := undef) rfl (by kernel_rfl) (by kernel_rfl) (by kernel_rfl) (fun _ _ _ h => h) (Or.inr ⟨by rfl, rfl⟩) hS ?_
        try simp only [Act.put, List.setIfInBounds_toArray, List.set_cons_zero, List.set_cons_succ, List.getElem_toArray, List.getElem_cons_zero, List.getElem_cons_succ]
        refine wpAnyH_take (i := 5) (v := undef) rfl (by kernel_rfl) (by kernel_rfl) (by kernel_rfl) (fun _ _ _ h => h) (Or.inr ⟨by rfl, rfl⟩) hS ?_
        try simp only [Act.put, List.setIfInBounds_toArray, List.set_cons_zero, List.set_cons_succ, List.getElem_toArray, List.getElem_cons_zero, List.getElem_cons_succ]
        refine wpAnyH_take (i := 6) (v := undef) rfl (by kernel_rfl) (by kernel_rfl) (by kernel_rfl) (fun _ _ _ h => h) (Or.inr ⟨by rfl, rfl⟩) hS ?_
        try simp only [Act.put, List.setIfInBounds_toArray, List.set_cons_zero, List.set_cons_succ, List.getElem_toArray, List.getElem_cons_zero, List.getElem_cons_succ]
        refine wpAnyH_take (i := 7) (v := undef) rfl (by kernel_rfl) (by kernel_rfl) (by kernel_rfl) (fun _ _ _ h => h) (Or.inr ⟨by rfl, rfl⟩) hS ?_
        try simp only [Act.put, List.setIfInBounds_toArray, List.set_cons_zero, List.set_cons_succ, List.getElem_toArray, List.getElem_cons_zero, List.getElem_cons_succ]
        refine wpAnyH_take (i := 8) (v := undef) rfl (by kernel_rfl) (by kernel_rfl) (by kernel_rfl) (fun _ _ _ h => h) (Or.inr ⟨by rfl, rfl⟩) hS ?_
        try simp only [Act.put, List.setIfInBounds_toArray, List.set_cons_zero, List.set_cons_succ, List.getElem_toArray, List.getElem_cons_zero, List.getElem_cons_succ]
        refine wpAnyH_take (i := 9) (v := ?_) rfl (by kernel_rfl) (by kernel_rfl) (by kernel_rfl) (fun _ _ _ h => h) (Or.inl ⟨by rfl, ?_⟩) hS ?_
        rotate_left
        · intro w hSw
          try dsimp only at hSw
          go_simp
          try with_reducible rfl
        try simp only [Act.put, List.setIfInBounds_toArray, List.set_cons_zero, List.set_cons_succ, List.getElem_toArray, List.getElem_cons_zero, List.getElem_cons_succ]
        refine wpAnyH_done (by kernel_rfl) ?_ _
        clear hS
        have NZ := Lib.hid (HN.out.trans (NW.out.trans kd))
        have OZ := Lib.hid (OwnR.new OW.out kd)
        have hO := OZ.out
        go_wp2_with (at_builtin; refine wpList_append_own _ rfl _ _ 41 rfl w1.heap.size 37 i0 (.agg #[.int .i64 0, .int .i64 0, .int .u8 0]) 3 24 Tryz.underlying41 hi hz0 hz1 hz2 rfl (by decide) _ _ _ rfl (World.ownsRow.alloc hO _) ⟨W.heap.size, 0, none⟩ 1 1 (rcell r) rfl rfl ?c1 ?c2 ?c3 ?c4 ?c5 ?_)
        case c1 => first | (intro j u hu; simpa [rcell] using hu; done) | exact rcell_new _ _ _
        case c2 => exact rcell_one _
        case c3 => have := HLN.out; unfold maxLen; omega
        case c4 => have := HLN.out; omega
        case c5 => have := NZ.out.size; simp at *; omega
        intro v' w2 hown' hgrow _
        obtain ⟨o1, n2⟩ := OwnR.push NZ.out rfl hO (by first | exact hown' | (rw [List.length_append, List.length_singleton]; exact hown')) hgrow
        clear hown' hgrow hO
        rw [show [] ++ [r] = rjoins (X.take (j + 1)) by rw [hP.out]; rfl] at o1
        obtain ⟨p4, c4, rfl⟩ := o1.shape
        have O1 := Lib.hid o1
        have N2 := Lib.hid n2
        clear o1 n2
        go_wp2
        go_roundg (X.length - (j + 1))
        case measure => have := J.out; omega
        case rel => exact ⟨j + 1, by have := J.out; omega, by go_num, O1.out, N2.out⟩
      · obtain ⟨g, c3, k, nA, hk, hA, hkA, rfl, hg1, hg2, hg3, hg4, x0, x1, x2⟩ := OW.last
        have OW := Lib.hid OW
        have HF := Lib.hid (hg4 (k * 3 + 1))
        have HLN := Lib.hid hll
        have qf := fun w => QF w x r
        have HK := Lib.hid hk
        have HA := Lib.hid hA
        have gs : IntKind.i64.wrap ((nA : Int) - 1) = (k : Int) := by rw [IntWalk.i64_in _ (by omega)]; omega
        have gk : k < nA := by omega
        have hnA : nA ≤ 1000000 := by omega
        clear hg4 hk hA hkA hll
        cases hone : oneR x r with
        | false =>
          rw [hone] at qf
          have HO := Lib.hid hone
          clear hone
          go_upto_region 6 with fail
          change Code.wp _ _ _ _ (wr.alloc (.cells #[.int .i64 r.f, .int .i64 r.t, .int .u8 (r.p : Int)] 37))
          generalize (wr.alloc (.cells #[.int .i64 r.f, .int .i64 r.t, .int .u8 (r.p : Int)] 37)) = W at *
          generalize wr.heap.size = rb at *
          have NW := Lib.hid NW
          obtain ⟨b0, b1, b2⟩ := BR.three
          clear c0 c1' c2
          go_wp2_with fail
          go_region_held3 (fun w' => New W w' ∧ w'.cell? ⟨rb, 0, none⟩ = some (.int .i64 r.f) ∧ w'.cell? ⟨rb, 1, none⟩ = some (.int .i64 r.t) ∧ w'.cell? ⟨rb, 2, none⟩ = some (.int .u8 (r.p : Int)) ∧ w'.cell? ⟨g, k * 3, none⟩ = some (.int .i64 x.f) ∧ w'.cell? ⟨g, k * 3 + 1, none⟩ = some (.int .i64 x.t) ∧ w'.cell? ⟨g, k * 3 + 2, none⟩ = some (.int .u8 (x.p : Int)))
            (first
              | exact ⟨hnx, hnx.keeps b0, hnx.keeps b1, hnx.keeps b2, hnx.keeps x0, hnx.keeps x1, hnx.keeps x2⟩
              | (have hnx := (New.refl W).drew; exact ⟨hnx, hnx.keeps b0, hnx.keeps b1, hnx.keeps b2, hnx.keeps x0, hnx.keeps x1, hnx.keeps x2⟩))
            (first
              | (go_at_call 158; (with_reducible refine (qf _).mono ?_); rintro e wz ⟨rfl, hny⟩; have hnx : New W wz := New.trans (by first | exact hnx | exact (New.refl _).drew | exact New.refl _) hny))
          have NZ := Lib.hid (HN.out.trans (NW.out.trans hnx))
          have OZ := Lib.hid (OwnR.new OW.out hnx)
          clear hny hnx x0 x1 x2 b0 b1 b2
          have hO := OZ.out
          go_wp2_with (at_builtin; refine wpList_append_own _ rfl _ _ 41 rfl w1.heap.size 37 i0 (.agg #[.int .i64 0, .int .i64 0, .int .u8 0]) 3 24 Tryz.underlying41 hi hz0 hz1 hz2 rfl (by decide) _ _ _ rfl (World.ownsRow.alloc hO _) ⟨wz.heap.size, 0, none⟩ 1 1 (rcell r) rfl rfl ?c1 ?c2 ?c3 ?c4 ?c5 ?_)
          case c1 => first | (intro j u hu; simpa [rcell] using hu; done) | exact rcell_new _ _ _
          case c2 => exact rcell_one _
          case c3 => have := HLN.out; unfold maxLen; omega
          case c4 => have := HLN.out; omega
          case c5 => have := NZ.out.size; simp at *; omega
          intro v' w2 hown' hgrow _
          obtain ⟨o1, n2⟩ := OwnR.push NZ.out rfl hO (by first | exact hown' | (rw [List.length_append, List.length_singleton]; exact hown')) hgrow
          clear hown' hgrow hO
          rw [show m ++ [x] ++ [r] = rjoins (X.take (j + 1)) by rw [hP.out, rjstep_snoc, HO.out]; rfl] at o1
          obtain ⟨p4, c4, rfl⟩ := o1.shape
          have O1 := Lib.hid o1
          have N2 := Lib.hid n2
          clear o1 n2
          go_wp2
          go_roundg (X.length - (j + 1))
          case measure => have := J.out; omega
          case rel => exact ⟨j + 1, by have := J.out; omega, by go_num, O1.out, N2.out⟩
        | true =>
          rw [hone] at qf
          have HO := Lib.hid hone
          clear hone
          go_upto_region 6 with fail
          change Code.wp _ _ _ _ (wr.alloc (.cells #[.int .i64 r.f, .int .i64 r.t, .int .u8 (r.p : Int)] 37))
          generalize (wr.alloc (.cells #[.int .i64 r.f, .int .i64 r.t, .int .u8 (r.p : Int)] 37)) = W at *
          generalize wr.heap.size = rb at *
          have NW := Lib.hid NW
          obtain ⟨b0, b1, b2⟩ := BR.three
          clear c0 c1' c2
          go_wp2_with fail
          go_region_held3 (fun w' => New W w' ∧ w'.cell? ⟨rb, 0, none⟩ = some (.int .i64 r.f) ∧ w'.cell? ⟨rb, 1, none⟩ = some (.int .i64 r.t) ∧ w'.cell? ⟨rb, 2, none⟩ = some (.int .u8 (r.p : Int)) ∧ w'.cell? ⟨g, k * 3, none⟩ = some (.int .i64 x.f) ∧ w'.cell? ⟨g, k * 3 + 1, none⟩ = some (.int .i64 x.t) ∧ w'.cell? ⟨g, k * 3 + 2, none⟩ = some (.int .u8 (x.p : Int)))
            (first
              | exact ⟨hnx, hnx.keeps b0, hnx.keeps b1, hnx.keeps b2, hnx.keeps x0, hnx.keeps x1, hnx.keeps x2⟩
              | (have hnx := (New.refl W).drew; exact ⟨hnx, hnx.keeps b0, hnx.keeps b1, hnx.keeps b2, hnx.keeps x0, hnx.keeps x1, hnx.keeps x2⟩))
            (first
              | (go_at_call 158; (with_reducible refine (qf _).mono ?_); rintro e wz ⟨rfl, hny⟩; have hnx : New W wz := New.trans (by first | exact hnx | exact (New.refl _).drew | exact New.refl _) hny))
          have NZ := Lib.hid (HN.out.trans (NW.out.trans hnx))
          have OZ := Lib.hid (OwnR.new OW.out hnx)
          have y0 := hnx.keeps x0
          have y1 := hnx.keeps x1
          have y2 := hnx.keeps x2
          have z0 := hnx.keeps b0
          have z1 := hnx.keeps b1
          have z2 := hnx.keeps b2
          have f1 : wz.frozen? ⟨g, k * 3 + 1, none⟩ = false := (hnx.frozen (p := ⟨g, k * 3 + 1, none⟩) hg2).trans HF.out
          have OS := Lib.hid (OwnR.setTo OZ.out r.t)
          have hgz : g < wz.heap.size := by have := hnx.size; omega
          clear hny hnx x0 x1 x2 b0 b1 b2
          go_wp2
          go_roundg (X.length - (j + 1))
          case measure => have := J.out; omega
          case rel =>
            have OS := OS.out
            rw [HK.out] at OS
            refine ⟨j + 1, by have := J.out; omega, by go_num, ?_, NZ.out.setCell hg1 _⟩
            rw [hP.out, rjstep_snoc, HO.out]; exact OS
    · obtain rfl : j = X.length := by omega
      rw [List.take_length] at ho
      obtain ⟨p3, c3, rfl⟩ := ho.shape
      go_wp2
      go_ret
      exact ⟨_, rfl, OwnR.more ho N01.out.size, N01.out.trans hn1⟩
end Go.Proofs.YtgedimlhldfkaaaGreatDoor
namespace Go.Proofs.YtgedimlhldfkaaaGreatDoor
open Go.RowKit
set_option linter.unusedVariables false
set_option maxRecDepth 100000
theorem rgs_one (w : World) (r : Rg) (t : TypeId) : Rgs (w.alloc (.cells #[.int .i64 r.f, .int .i64 r.t, .int .u8 (r.p : Int)] t)) (.slice (some ⟨w.heap.size, 0, none⟩) 1 1) [r] := by
  have hx : Box (w.alloc (.cells #[.int .i64 r.f, .int .i64 r.t, .int .u8 (r.p : Int)] t)) w.heap.size _ _ := Box.here w _ _ _ rfl
  refine ⟨_, _, rfl, Nat.le_refl _, by show 1 ≤ maxLen; unfold maxLen; omega, fun i hi => ⟨_, rfl, ?_⟩⟩
  obtain rfl : i = 0 := by simp at hi; omega
  exact hx.three
theorem sls_three (w : World) (v1 v2 v3 : Value) (t : TypeId) {l1 l2 l3 : List Rg} (h1 : Rgs w v1 l1) (h2 : Rgs w v2 l2) (h3 : Rgs w v3 l3) : Sls (w.alloc (.cells #[v1, v2, v3] t)) w.heap.size [l1, l2, l3] := by
  have hx : Box (w.alloc (.cells #[v1, v2, v3] t)) w.heap.size _ _ := Box.here w _ _ _ rfl
  have k : New w (w.alloc (.cells #[v1, v2, v3] t)) := (New.refl w).alloc _ _
  obtain ⟨c0, c1, c2⟩ := hx.three
  intro i hi
  match i, hi with
  | 0, _ => exact ⟨_, c0, h1.new k⟩
  | 1, _ => exact ⟨_, c1, h2.new k⟩
  | 2, _ => exact ⟨_, c2, h3.new k⟩
  | i + 3, hi => simp at hi; omega
theorem sls_two (w : World) (v1 v2 : Value) (t : TypeId) {l1 l2 : List Rg} (h1 : Rgs w v1 l1) (h2 : Rgs w v2 l2) : Sls (w.alloc (.cells #[v1, v2] t)) w.heap.size [l1, l2] := by
  have hx : Box (w.alloc (.cells #[v1, v2] t)) w.heap.size _ _ := Box.here w _ _ _ rfl
  have k : New w (w.alloc (.cells #[v1, v2] t)) := (New.refl w).alloc _ _
  obtain ⟨c0, c1⟩ := hx.two
  intro i hi
  match i, hi with
  | 0, _ => exact ⟨_, c0, h1.new k⟩
  | 1, _ => exact ⟨_, c1, h2.new k⟩
  | i + 2, hi => simp at hi; omega
set_option maxHeartbeats 4000000 in
theorem lay_any (w : World) (v : Value) (l : List Rg) (r : Rg) (h : Rgs w v l) (hlen : l.length ≤ 100000) : Calls Tryz.prog 102 #[v, .agg #[.int .i64 r.f, .int .i64 r.t, .int .u8 (r.p : Int)]] w (MadeR 37 (layL l r) w) := by
  have hNW : New w (w.alloc (.cells #[.int .i64 r.f, .int .i64 r.t, .int .u8 (r.p : Int)] 37)) := (New.refl w).alloc _ _
  have BR : Box (w.alloc (.cells #[.int .i64 r.f, .int .i64 r.t, .int .u8 (r.p : Int)] 37)) w.heap.size #[.int .i64 r.f, .int .i64 r.t, .int .u8 (r.p : Int)] 37 := Box.here w _ _ _ rfl
  have hRl := h.new hNW
  have hfe : rjoins [rpart l 0 r.f, [r], rpart l r.t 4096].flatten = layL l r := by unfold layL preL; simp
  have hfl : [rpart l 0 r.f, [r], rpart l r.t 4096].flatten.length ≤ 1000000 := by
    have := rpart_len l 0 r.f
    have := rpart_len l r.t 4096
    simp; omega
  obtain ⟨p, cap, rfl, _, _⟩ := h.shape
  clear h
  go_enter Tryz.func102, Tryz.ntmps102
  go_upto_region 1 with fail
  change Code.wp _ _ _ _ (w.alloc (.cells #[.int .i64 r.f, .int .i64 r.t, .int .u8 (r.p : Int)] 37))
  generalize (w.alloc (.cells #[.int .i64 r.f, .int .i64 r.t, .int .u8 (r.p : Int)] 37)) = W at *
  generalize w.heap.size = rb at *
  obtain ⟨b0, b1, b2⟩ := BR.three
  have QP1 : ∀ W', New W W' → Calls Tryz.prog 105 #[.slice p l.length cap, .int .i64 0, .int .i64 r.f] W' (MadeR 37 (rpart l 0 r.f) W') := fun W' k => part_any W' _ l 0 r.f (hRl.new k) (by omega)
  have QP2 : ∀ W', New W W' → Calls Tryz.prog 105 #[.slice p l.length cap, .int .i64 r.t, .int .i64 4096] W' (MadeR 37 (rpart l r.t 4096) W') := fun W' k => part_any W' _ l r.t 4096 (hRl.new k) (by omega)
  have mkS : ∀ w', New W w' → (New W w' ∧ w'.cell? ⟨rb, 0, none⟩ = some (.int .i64 r.f) ∧ w'.cell? ⟨rb, 1, none⟩ = some (.int .i64 r.t) ∧ w'.cell? ⟨rb, 2, none⟩ = some (.int .u8 (r.p : Int))) := fun w' k => ⟨k, k.keeps b0, k.keeps b1, k.keeps b2⟩
  have kN := (New.refl W).drew
  go_wp2_with fail
  have hS : (fun w' : World => New W w' ∧ w'.cell? ⟨rb, 0, none⟩ = some (.int .i64 r.f) ∧ w'.cell? ⟨rb, 1, none⟩ = some (.int .i64 r.t) ∧ w'.cell? ⟨rb, 2, none⟩ = some (.int .u8 (r.p : Int))) W.drew := mkS _ kN
  refine wp_region_held_drew (S := (fun w' : World => New W w' ∧ w'.cell? ⟨rb, 0, none⟩ = some (.int .i64 r.f) ∧ w'.cell? ⟨rb, 1, none⟩ = some (.int .i64 r.t) ∧ w'.cell? ⟨rb, 2, none⟩ = some (.int .u8 (r.p : Int)))) (by kernel_rfl) hS (fun _ => ?_)
  refine wpAnyH_take (i := 0) (v := ?_) rfl (by kernel_rfl) (by kernel_rfl) (by kernel_rfl) (fun _ _ _ h => h) (Or.inl ⟨by rfl, ?_⟩) hS ?_
  rotate_left
  · intro w hSw
    try dsimp only at hSw
    go_simp
    try with_reducible rfl
  try simp only [Act.put, List.setIfInBounds_toArray, List.set_cons_zero, List.set_cons_succ, List.getElem_toArray, List.getElem_cons_zero]
  refine wpAnyH_take (i := 1) (v := ?_) rfl (by kernel_rfl) (by kernel_rfl) (by kernel_rfl) (fun _ _ _ h => h) (Or.inl ⟨by rfl, ?_⟩) hS ?_
  rotate_left
  · intro w hSw
    try dsimp only at hSw
    go_simp
    try with_reducible rfl
  try simp only [Act.put, List.setIfInBounds_toArray, List.set_cons_zero, List.set_cons_succ, List.getElem_toArray, List.getElem_cons_zero, List.getElem_cons_succ]
  refine wpAnyH_take (i := 2) (v := ?_) rfl (by kernel_rfl) (by kernel_rfl) (by kernel_rfl) (fun _ _ _ h => h) (Or.inl ⟨by rfl, ?_⟩) hS ?_
  rotate_left
  · intro w hSw
    try dsimp only at hSw
    go_simp
    try with_reducible rfl
  try simp only [Act.put, List.setIfInBounds_toArray, List.set_cons_zero, List.set_cons_succ, List.getElem_toArray, List.getElem_cons_zero, List.getElem_cons_succ]
  refine wpAnyH_take (i := 4) (v := ?_) rfl (by kernel_rfl) (by kernel_rfl) (by kernel_rfl) (fun _ _ _ h => h) (Or.inl ⟨by rfl, ?_⟩) hS ?_
  rotate_left
  · intro w hSw
    try dsimp only at hSw
    go_simp
    try with_reducible rfl
  try simp only [Act.put, List.setIfInBounds_toArray, List.set_cons_zero, List.set_cons_succ, List.getElem_toArray, List.getElem_cons_zero, List.getElem_cons_succ]
  refine wpAnyH_take (i := 6) (v := ?_) rfl (by kernel_rfl) (by kernel_rfl) (by kernel_rfl) (fun _ _ _ h => h) (Or.inl ⟨by rfl, ?_⟩) hS ?_
  rotate_left
  · intro w hSw
    try dsimp only at hSw
    go_simp
    try with_reducible rfl
  try simp only [Act.put, List.setIfInBounds_toArray, List.set_cons_zero, List.set_cons_succ, List.getElem_toArray, List.getElem_cons_zero, List.getElem_cons_succ]
  refine wpAnyH_take (i := 7) (v := ?_) rfl (by kernel_rfl) (by kernel_rfl) (by kernel_rfl) (fun _ _ _ h => h) (Or.inl ⟨by rfl, ?_⟩) hS ?_
  rotate_left
  · intro w hSw
    try dsimp only at hSw
    go_simp
    try with_reducible rfl
  try simp only [Act.put, List.setIfInBounds_toArray, List.set_cons_zero, List.set_cons_succ, List.getElem_toArray, List.getElem_cons_zero, List.getElem_cons_succ]
  refine wpAnyH_take (i := 8) (v := ?_) rfl (by kernel_rfl) (by kernel_rfl) (by kernel_rfl) (fun _ _ _ h => h) (Or.inl ⟨by rfl, ?_⟩) hS ?_
  rotate_left
  · intro w hSw
    try dsimp only at hSw
    go_simp
    try with_reducible rfl
  try simp only [Act.put, List.setIfInBounds_toArray, List.set_cons_zero, List.set_cons_succ, List.getElem_toArray, List.getElem_cons_zero, List.getElem_cons_succ]
  refine wpAnyH_ready (rs := [3, 5]) (by kernel_rfl) (by simp) (AllReadyH.cons rfl (fun K hK => ?_) (AllReadyH.cons rfl (fun K hK => ?_) (AllReadyH.nil)))
  · go_simp
    refine (QP1 _ kN).mono ?_
    rintro e W1 ⟨_, rfl, o1, n1⟩
    obtain ⟨q1, k1, rfl⟩ := o1.shape
    have kN := kN.trans n1
    have hS := mkS _ kN
    refine hK.out _ _ hS (fun _ => ?_)
    clear hK K
    try simp only [Act.put, List.setIfInBounds_toArray, List.set_cons_zero, List.set_cons_succ, List.getElem_toArray, List.getElem_cons_zero, List.getElem_cons_succ]
    refine wpAnyH_ready (rs := [5, 9]) (by kernel_rfl) (by simp) (AllReadyH.cons rfl (fun K hK => ?_) (AllReadyH.cons rfl (fun K hK => ?_) (AllReadyH.nil)))
    · go_simp
      have n2 : New W1 (W1.alloc (.cells #[.int .i64 r.f, .int .i64 r.t, .int .u8 (r.p : Int)] 37)) := (New.refl W1).alloc #[.int .i64 r.f, .int .i64 r.t, .int .u8 (r.p : Int)] 37
      have hb : Rgs (W1.alloc (.cells #[.int .i64 r.f, .int .i64 r.t, .int .u8 (r.p : Int)] 37)) (.slice (some ⟨W1.heap.size, 0, none⟩) 1 1) [r] := rgs_one W1 r _
      have o1 := o1.new n2
      have kN := kN.trans n2
      have hS := mkS _ kN
      refine hK.out _ _ hS (fun _ => ?_)
      clear hK K
      try simp only [Act.put, List.setIfInBounds_toArray, List.set_cons_zero, List.set_cons_succ, List.getElem_toArray, List.getElem_cons_zero, List.getElem_cons_succ]
      generalize (W1.alloc (.cells #[.int .i64 r.f, .int .i64 r.t, .int .u8 (r.p : Int)] 37)) = W2 at *
      generalize W1.heap.size = bb at *
      refine wpAnyH_ready (rs := [9]) (by kernel_rfl) (by simp) (AllReadyH.cons rfl (fun K hK => ?_) (AllReadyH.nil))
      · go_simp
        refine (QP2 _ kN).mono ?_
        rintro e W3 ⟨_, rfl, o2, n3⟩
        obtain ⟨q2, k2, rfl⟩ := o2.shape
        have o1 := o1.new n3
        have hb := hb.new n3
        have kN := kN.trans n3
        have hS := mkS _ kN
        refine hK.out _ _ hS (fun _ => ?_)
        clear hK K
        try simp only [Act.put, List.setIfInBounds_toArray, List.set_cons_zero, List.set_cons_succ, List.getElem_toArray, List.getElem_cons_zero, List.getElem_cons_succ]
        have hsl : Sls (W3.alloc (.cells #[.slice q1 (rpart l 0 r.f).length k1, .slice (some ⟨bb, 0, none⟩) 1 1, .slice q2 (rpart l r.t 4096).length k2] 41)) W3.heap.size [rpart l 0 r.f, [r], rpart l r.t 4096] := sls_three W3 _ _ _ _ o1.rgs hb o2.rgs
        refine wpAnyH_ready (rs := [10]) (by kernel_rfl) (by simp) (AllReadyH.cons rfl (fun K hK => ?_) AllReadyH.nil)
        go_simp
        have n8 := (New.refl W3).alloc #[.slice q1 (rpart l 0 r.f).length k1, .slice (some ⟨bb, 0, none⟩) 1 1, .slice q2 (rpart l r.t 4096).length k2] 41
        have kN := kN.trans n8
        have kN8 := kN
        have hS := mkS _ kN
        refine hK.out _ _ hS (fun _ => ?_)
        clear hK K
        try simp only [Act.put, List.setIfInBounds_toArray, List.set_cons_zero, List.set_cons_succ, List.getElem_toArray, List.getElem_cons_zero, List.getElem_cons_succ]
        refine wpAnyH_ready (rs := [11]) (by kernel_rfl) (by simp) (AllReadyH.cons rfl (fun K hK => ?_) AllReadyH.nil)
        go_simp
        refine (join_any _ _ _ 3 rfl hsl hfl (by show 3 ≤ 100; omega)).mono ?_
        rintro e W9 ⟨_, rfl, o9, n9⟩
        rw [hfe] at o9
        obtain ⟨q9, k9, rfl⟩ := o9.shape
        have kN := kN.trans n9
        have hS := mkS _ kN
        refine hK.out _ _ hS (fun _ => ?_)
        clear hK K
        try simp only [Act.put, List.setIfInBounds_toArray, List.set_cons_zero, List.set_cons_succ, List.getElem_toArray, List.getElem_cons_zero, List.getElem_cons_succ]
        refine wpAnyH_take (i := 12) (v := ?_) rfl (by kernel_rfl) (by kernel_rfl) (by kernel_rfl) (fun _ _ _ h => h) (Or.inl ⟨by rfl, ?_⟩) hS ?_
        rotate_left
        · intro w hSw
          try dsimp only at hSw
          go_simp
          try with_reducible rfl
        try simp only [Act.put, List.setIfInBounds_toArray, List.set_cons_zero, List.set_cons_succ, List.getElem_toArray, List.getElem_cons_zero, List.getElem_cons_succ]
        refine wpAnyH_done (by kernel_rfl) ?_ _
        go_wp2
        go_ret
        exact ⟨_, rfl, OwnR.more o9 (New.size (hNW.trans kN8)), hNW.trans kN⟩
    · go_simp
      refine (QP2 _ kN).mono ?_
      rintro e W2 ⟨_, rfl, o2, n2⟩
      obtain ⟨q2, k2, rfl⟩ := o2.shape
      have o1 := o1.new n2
      have kN := kN.trans n2
      have hS := mkS _ kN
      refine hK.out _ _ hS (fun _ => ?_)
      clear hK K
      try simp only [Act.put, List.setIfInBounds_toArray, List.set_cons_zero, List.set_cons_succ, List.getElem_toArray, List.getElem_cons_zero, List.getElem_cons_succ]
      refine wpAnyH_ready (rs := [5]) (by kernel_rfl) (by simp) (AllReadyH.cons rfl (fun K hK => ?_) (AllReadyH.nil))
      · go_simp
        have n3 : New W2 (W2.alloc (.cells #[.int .i64 r.f, .int .i64 r.t, .int .u8 (r.p : Int)] 37)) := (New.refl W2).alloc #[.int .i64 r.f, .int .i64 r.t, .int .u8 (r.p : Int)] 37
        have hb : Rgs (W2.alloc (.cells #[.int .i64 r.f, .int .i64 r.t, .int .u8 (r.p : Int)] 37)) (.slice (some ⟨W2.heap.size, 0, none⟩) 1 1) [r] := rgs_one W2 r _
        have o1 := o1.new n3
        have o2 := o2.new n3
        have kN := kN.trans n3
        have hS := mkS _ kN
        refine hK.out _ _ hS (fun _ => ?_)
        clear hK K
        try simp only [Act.put, List.setIfInBounds_toArray, List.set_cons_zero, List.set_cons_succ, List.getElem_toArray, List.getElem_cons_zero, List.getElem_cons_succ]
        generalize (W2.alloc (.cells #[.int .i64 r.f, .int .i64 r.t, .int .u8 (r.p : Int)] 37)) = W3 at *
        generalize W2.heap.size = bb at *
        have hsl : Sls (W3.alloc (.cells #[.slice q1 (rpart l 0 r.f).length k1, .slice (some ⟨bb, 0, none⟩) 1 1, .slice q2 (rpart l r.t 4096).length k2] 41)) W3.heap.size [rpart l 0 r.f, [r], rpart l r.t 4096] := sls_three W3 _ _ _ _ o1.rgs hb o2.rgs
        refine wpAnyH_ready (rs := [10]) (by kernel_rfl) (by simp) (AllReadyH.cons rfl (fun K hK => ?_) AllReadyH.nil)
        go_simp
        have n8 := (New.refl W3).alloc #[.slice q1 (rpart l 0 r.f).length k1, .slice (some ⟨bb, 0, none⟩) 1 1, .slice q2 (rpart l r.t 4096).length k2] 41
        have kN := kN.trans n8
        have kN8 := kN
        have hS := mkS _ kN
        refine hK.out _ _ hS (fun _ => ?_)
        clear hK K
        try simp only [Act.put, List.setIfInBounds_toArray, List.set_cons_zero, List.set_cons_succ, List.getElem_toArray, List.getElem_cons_zero, List.getElem_cons_succ]
        refine wpAnyH_ready (rs := [11]) (by kernel_rfl) (by simp) (AllReadyH.cons rfl (fun K hK => ?_) AllReadyH.nil)
        go_simp
        refine (join_any _ _ _ 3 rfl hsl hfl (by show 3 ≤ 100; omega)).mono ?_
        rintro e W9 ⟨_, rfl, o9, n9⟩
        rw [hfe] at o9
        obtain ⟨q9, k9, rfl⟩ := o9.shape
        have kN := kN.trans n9
        have hS := mkS _ kN
        refine hK.out _ _ hS (fun _ => ?_)
        clear hK K
        try simp only [Act.put, List.setIfInBounds_toArray, List.set_cons_zero, List.set_cons_succ, List.getElem_toArray, List.getElem_cons_zero, List.getElem_cons_succ]
        refine wpAnyH_take (i := 12) (v := ?_) rfl (by kernel_rfl) (by kernel_rfl) (by kernel_rfl) (fun _ _ _ h => h) (Or.inl ⟨by rfl, ?_⟩) hS ?_
        rotate_left
        · intro w hSw
          try dsimp only at hSw
          go_simp
          try with_reducible rfl
        try simp only [Act.put, List.setIfInBounds_toArray, List.set_cons_zero, List.set_cons_succ, List.getElem_toArray, List.getElem_cons_zero, List.getElem_cons_succ]
        refine wpAnyH_done (by kernel_rfl) ?_ _
        go_wp2
        go_ret
        exact ⟨_, rfl, OwnR.more o9 (New.size (hNW.trans kN8)), hNW.trans kN⟩
  · go_simp
    have n1 : New W.drew (W.alloc (.cells #[.int .i64 r.f, .int .i64 r.t, .int .u8 (r.p : Int)] 37)).drew := (New.refl W.drew).alloc #[.int .i64 r.f, .int .i64 r.t, .int .u8 (r.p : Int)] 37
    have hb : Rgs (W.alloc (.cells #[.int .i64 r.f, .int .i64 r.t, .int .u8 (r.p : Int)] 37)).drew (.slice (some ⟨W.heap.size, 0, none⟩) 1 1) [r] := rgs_one W.drew r _
    have kN := kN.trans n1
    have hS := mkS _ kN
    refine hK.out _ _ hS (fun _ => ?_)
    clear hK K
    try simp only [Act.put, List.setIfInBounds_toArray, List.set_cons_zero, List.set_cons_succ, List.getElem_toArray, List.getElem_cons_zero, List.getElem_cons_succ]
    generalize (W.alloc (.cells #[.int .i64 r.f, .int .i64 r.t, .int .u8 (r.p : Int)] 37)).drew = W1 at *
    generalize W.heap.size = bb at *
    refine wpAnyH_ready (rs := [3]) (by kernel_rfl) (by simp) (AllReadyH.cons rfl (fun K hK => ?_) (AllReadyH.nil))
    · go_simp
      refine (QP1 _ kN).mono ?_
      rintro e W2 ⟨_, rfl, o1, n2⟩
      obtain ⟨q1, k1, rfl⟩ := o1.shape
      have hb := hb.new n2
      have kN := kN.trans n2
      have hS := mkS _ kN
      refine hK.out _ _ hS (fun _ => ?_)
      clear hK K
      try simp only [Act.put, List.setIfInBounds_toArray, List.set_cons_zero, List.set_cons_succ, List.getElem_toArray, List.getElem_cons_zero, List.getElem_cons_succ]
      refine wpAnyH_ready (rs := [9]) (by kernel_rfl) (by simp) (AllReadyH.cons rfl (fun K hK => ?_) (AllReadyH.nil))
      · go_simp
        refine (QP2 _ kN).mono ?_
        rintro e W3 ⟨_, rfl, o2, n3⟩
        obtain ⟨q2, k2, rfl⟩ := o2.shape
        have hb := hb.new n3
        have o1 := o1.new n3
        have kN := kN.trans n3
        have hS := mkS _ kN
        refine hK.out _ _ hS (fun _ => ?_)
        clear hK K
        try simp only [Act.put, List.setIfInBounds_toArray, List.set_cons_zero, List.set_cons_succ, List.getElem_toArray, List.getElem_cons_zero, List.getElem_cons_succ]
        have hsl : Sls (W3.alloc (.cells #[.slice q1 (rpart l 0 r.f).length k1, .slice (some ⟨bb, 0, none⟩) 1 1, .slice q2 (rpart l r.t 4096).length k2] 41)) W3.heap.size [rpart l 0 r.f, [r], rpart l r.t 4096] := sls_three W3 _ _ _ _ o1.rgs hb o2.rgs
        refine wpAnyH_ready (rs := [10]) (by kernel_rfl) (by simp) (AllReadyH.cons rfl (fun K hK => ?_) AllReadyH.nil)
        go_simp
        have n8 := (New.refl W3).alloc #[.slice q1 (rpart l 0 r.f).length k1, .slice (some ⟨bb, 0, none⟩) 1 1, .slice q2 (rpart l r.t 4096).length k2] 41
        have kN := kN.trans n8
        have kN8 := kN
        have hS := mkS _ kN
        refine hK.out _ _ hS (fun _ => ?_)
        clear hK K
        try simp only [Act.put, List.setIfInBounds_toArray, List.set_cons_zero, List.set_cons_succ, List.getElem_toArray, List.getElem_cons_zero, List.getElem_cons_succ]
        refine wpAnyH_ready (rs := [11]) (by kernel_rfl) (by simp) (AllReadyH.cons rfl (fun K hK => ?_) AllReadyH.nil)
        go_simp
        refine (join_any _ _ _ 3 rfl hsl hfl (by show 3 ≤ 100; omega)).mono ?_
        rintro e W9 ⟨_, rfl, o9, n9⟩
        rw [hfe] at o9
        obtain ⟨q9, k9, rfl⟩ := o9.shape
        have kN := kN.trans n9
        have hS := mkS _ kN
        refine hK.out _ _ hS (fun _ => ?_)
        clear hK K
        try simp only [Act.put, List.setIfInBounds_toArray, List.set_cons_zero, List.set_cons_succ, List.getElem_toArray, List.getElem_cons_zero, List.getElem_cons_succ]
        refine wpAnyH_take (i := 12) (v := ?_) rfl (by kernel_rfl) (by kernel_rfl) (by kernel_rfl) (fun _ _ _ h => h) (Or.inl ⟨by rfl, ?_⟩) hS ?_
        rotate_left
        · intro w hSw
          try dsimp only at hSw
          go_simp
          try with_reducible rfl
        try simp only [Act.put, List.setIfInBounds_toArray, List.set_cons_zero, List.set_cons_succ, List.getElem_toArray, List.getElem_cons_zero, List.getElem_cons_succ]
        refine wpAnyH_done (by kernel_rfl) ?_ _
        go_wp2
        go_ret
        exact ⟨_, rfl, OwnR.more o9 (New.size (hNW.trans kN8)), hNW.trans kN⟩
end Go.Proofs.YtgedimlhldfkaaaGreatDoor
namespace Go.Proofs.YtgedimlhldfkaaaGreatDoor
open Go.RowKit
set_option linter.unusedVariables false
set_option maxRecDepth 100000
/-- a slice of the call's own and an error's number -/
def MadeE (T : TypeId) (l : List Rg) (c : Int) (w : World) (e : Ending) (w' : World) : Prop := ∃ v, e = .returned (.tuple #[v, erN c]) ∧ OwnR T w.heap.size w' v l ∧ New w w'
/-- Add: the error, the list -/
noncomputable def adE (l : List Rg) (r : Rg) : Int := if rokb l = true ∧ okR r = true then (if fiN (ovR r.f r.t) l < 0 then 0 else 17) else 22
noncomputable def adL (l : List Rg) (r : Rg) : List Rg := if adE l r = 0 then layL l r else []
noncomputable def ctE (l : List Rg) (a b : Int) : Int := if rokb l = true ∧ okP a b = true then 0 else 22
noncomputable def ctL (l : List Rg) (a b : Int) : List Rg := if ctE l a b = 0 then cutL l a b else []
noncomputable def prE (l : List Rg) (r : Rg) : Int := if rokb l = true ∧ okR r = true then (if szv (rpart l r.f r.t) < r.t - r.f then 12 else 0) else 22
noncomputable def prL (l : List Rg) (r : Rg) : List Rg := if prE l r = 0 then layL l r else []
noncomputable def atO (l : List Rg) (q : Int) : Option Rg := if rokb l = true then l.find? (fun r => inR r q) else none
theorem find_of_fi {l : List Rg} {g : Rg → Bool} : (fiN g l = -1 ∧ l.find? g = none) ∨ ∃ j, ∃ hj : j < l.length, fiN g l = (j : Int) ∧ l.find? g = some l[j] := by
  rcases fiN_cases g l with ⟨e, k⟩ | ⟨j, hj, e, k1, k2⟩
  · exact .inl ⟨e, List.find?_eq_none.2 fun x hx => by rw [k x hx]; simp⟩
  · refine .inr ⟨j, hj, e, ?_⟩
    exact List.find?_eq_some_iff_getElem.2 ⟨k1, j, hj, rfl, fun i hi => by simpa using k2 i (by omega) hi⟩
section
variable (w : World) (v : Value) (l : List Rg)
set_option maxHeartbeats 1000000 in
theorem radd_any (r : Rg) (h : Rgs w v l) : Calls Tryz.prog 51 #[v, .agg #[.int .i64 r.f, .int .i64 r.t, .int .u8 (r.p : Int)]] w (MadeE 37 (adL l r) (adE l r) w) := by
  have HN : New w (w.alloc (.cells #[.int .i64 r.f, .int .i64 r.t, .int .u8 (r.p : Int)] 37)) := (New.refl w).alloc _ _
  have BR : Box (w.alloc (.cells #[.int .i64 r.f, .int .i64 r.t, .int .u8 (r.p : Int)] 37)) w.heap.size #[.int .i64 r.f, .int .i64 r.t, .int .u8 (r.p : Int)] 37 := Box.here w _ _ _ rfl
  have hR := h.new HN
  have q1 := check_any _ v l hR
  have q2 := fun W => isRegion_any W r
  have q3 := fun W (k : New w W) => over_any W v l (h.new k) r.f r.t
  obtain ⟨p, cap, rfl, _, _⟩ := h.shape
  cases ho : rokb l with
  | false =>
    have e1 : adE l r = 22 := by unfold adE; rw [ho, if_neg (by simp)]
    have e2 : adL l r = [] := by unfold adL; rw [e1, if_neg (by decide)]
    rw [e1, e2]
    rw [chv_no (rokb_not.1 ho), erN_pos (by decide)] at q1
    clear ho e1 e2
    go_enter Tryz.func51, Tryz.ntmps51
    go_wp2_with (go_at_call 99; (with_reducible refine q1.mono ?_); rintro e w1 ⟨rfl, n1⟩)
    go_ret2
    exact ⟨_, rfl, OwnR.nil, HN.trans n1⟩
  | true =>
    have hO := rokb_iff.1 ho
    rw [chv_ok hO, erN_zero] at q1
    cases hr : okR r with
    | false =>
      have e1 : adE l r = 22 := by unfold adE; rw [hr, if_neg (by simp)]
      have e2 : adL l r = [] := by unfold adL; rw [e1, if_neg (by decide)]
      rw [e1, e2]
      rw [hr] at q2
      clear ho hr e1 e2 hO
      go_enter Tryz.func51, Tryz.ntmps51
      go_wp2_with fail
      refine q1.mono ?_
      rintro e w1 ⟨rfl, n1⟩
      obtain ⟨b0, b1, b2⟩ := (BR.new n1).three
      go_wp2_with fail
      refine (q2 _).mono ?_
      rintro e w2 ⟨rfl, n2⟩
      go_wp2
      go_ret2
      exact ⟨_, rfl, OwnR.nil, HN.trans (n1.trans n2)⟩
    | true =>
      rw [hr] at q2
      have hlen : l.length ≤ 100000 := by have := hO.asc.len; omega
      have q4 := fun W (k : New w W) => lay_any W _ l r (h.new k) hlen
      rcases find_of_fi (g := ovR r.f r.t) (l := l) with ⟨hf, _⟩ | ⟨j, _, hf, _⟩
      · have e1 : adE l r = 0 := by unfold adE; rw [ho, hr, if_pos ⟨rfl, rfl⟩, hf, if_pos (by omega)]
        have e2 : adL l r = layL l r := by unfold adL; rw [e1, if_pos rfl]
        rw [e1, e2]
        simp only [hf] at q3
        clear ho hr e1 e2 hO hf
        go_enter Tryz.func51, Tryz.ntmps51
        go_wp2_with fail
        refine q1.mono ?_
        rintro e w1 ⟨rfl, n1⟩
        obtain ⟨b0, b1, b2⟩ := (BR.new n1).three
        go_wp2_with fail
        refine (q2 _).mono ?_
        rintro e w2 ⟨rfl, n2⟩
        obtain ⟨b0', b1', b2'⟩ := ((BR.new n1).new n2).three
        clear b0 b1 b2
        have N2 := HN.trans (n1.trans n2)
        go_wp2_with fail
        refine (q3 _ N2).mono ?_
        rintro e w3 ⟨rfl, n3⟩
        obtain ⟨b0, b1, b2⟩ := (((BR.new n1).new n2).new n3).three
        clear b0' b1' b2'
        have N3 := N2.trans n3
        go_wp2_with fail
        refine (q4 _ N3).mono ?_
        rintro e w4 ⟨_, rfl, o4, n4⟩
        obtain ⟨p4, c4, rfl⟩ := o4.shape
        go_wp2
        go_ret2
        exact ⟨_, rfl, OwnR.more o4 N3.size, N3.trans n4⟩
      · have e1 : adE l r = 17 := by unfold adE; rw [ho, hr, if_pos ⟨rfl, rfl⟩, hf, if_neg (by omega)]
        have e2 : adL l r = [] := by unfold adL; rw [e1, if_neg (by decide)]
        rw [e1, e2]
        simp only [hf] at q3
        clear ho hr e1 e2 hO hf
        go_enter Tryz.func51, Tryz.ntmps51
        go_wp2_with fail
        refine q1.mono ?_
        rintro e w1 ⟨rfl, n1⟩
        obtain ⟨b0, b1, b2⟩ := (BR.new n1).three
        go_wp2_with fail
        refine (q2 _).mono ?_
        rintro e w2 ⟨rfl, n2⟩
        obtain ⟨b0', b1', b2'⟩ := ((BR.new n1).new n2).three
        clear b0 b1 b2
        have N2 := HN.trans (n1.trans n2)
        go_wp2_with fail
        refine (q3 _ N2).mono ?_
        rintro e w3 ⟨rfl, n3⟩
        go_wp2
        go_ret2
        exact ⟨_, rfl, OwnR.nil, N2.trans n3⟩
set_option maxHeartbeats 1000000 in
theorem rcut_any (a b : Int) (h : Rgs w v l) : Calls Tryz.prog 52 #[v, .int .i64 a, .int .i64 b] w (MadeE 37 (ctL l a b) (ctE l a b) w) := by
  have q1 := check_any _ v l h
  have q2 := fun W => arePages_any W a b
  obtain ⟨p, cap, rfl, _, _⟩ := h.shape
  cases ho : rokb l with
  | false =>
    have e1 : ctE l a b = 22 := by unfold ctE; rw [ho, if_neg (by simp)]
    have e2 : ctL l a b = [] := by unfold ctL; rw [e1, if_neg (by decide)]
    rw [e1, e2]
    rw [chv_no (rokb_not.1 ho), erN_pos (by decide)] at q1
    clear ho e1 e2
    go_enter Tryz.func52, Tryz.ntmps52
    go_wp2_with (go_at_call 99; (with_reducible refine q1.mono ?_); rintro e w1 ⟨rfl, n1⟩)
    go_ret2
    exact ⟨_, rfl, OwnR.nil, n1⟩
  | true =>
    have hO := rokb_iff.1 ho
    rw [chv_ok hO, erN_zero] at q1
    cases hr : okP a b with
    | false =>
      have e1 : ctE l a b = 22 := by unfold ctE; rw [hr, if_neg (by simp)]
      have e2 : ctL l a b = [] := by unfold ctL; rw [e1, if_neg (by decide)]
      rw [e1, e2]
      rw [hr] at q2
      clear ho hr e1 e2 hO
      go_enter Tryz.func52, Tryz.ntmps52
      go_wp2_with fail
      refine q1.mono ?_
      rintro e w1 ⟨rfl, n1⟩
      go_wp2_with fail
      refine (q2 _).mono ?_
      rintro e w2 ⟨rfl, rfl⟩
      go_wp2
      go_ret2
      exact ⟨_, rfl, OwnR.nil, n1⟩
    | true =>
      rw [hr] at q2
      have hlen : l.length ≤ 100000 := by have := hO.asc.len; omega
      have e1 : ctE l a b = 0 := by unfold ctE; rw [ho, hr, if_pos ⟨rfl, rfl⟩]
      have e2 : ctL l a b = cutL l a b := by unfold ctL; rw [e1, if_pos rfl]
      rw [e1, e2]
      have q3 := fun W (k : New w W) => part_any W _ l 0 a (h.new k) (by omega)
      have q4 := fun W (k : New w W) => part_any W _ l b 4096 (h.new k) (by omega)
      have hfe : [rpart l 0 a, rpart l b 4096].flatten = cutL l a b := by unfold cutL; simp
      have hfl : [rpart l 0 a, rpart l b 4096].flatten.length ≤ 1000000 := by
        have := rpart_len l 0 a
        have := rpart_len l b 4096
        simp; omega
      clear ho hr e1 e2 hO hlen
      go_enter Tryz.func52, Tryz.ntmps52
      go_wp2_with fail
      refine q1.mono ?_
      rintro e w1 ⟨rfl, n1⟩
      go_wp2_with fail
      refine (q2 _).mono ?_
      rintro e w2 ⟨rfl, rfl⟩
      go_wp2_with fail
      refine (q3 _ n1).mono ?_
      rintro e w3 ⟨_, rfl, o3, n3⟩
      obtain ⟨p3, c3, rfl⟩ := o3.shape
      have N3 := n1.trans n3
      go_wp2_with fail
      refine (q4 _ N3).mono ?_
      rintro e w4 ⟨_, rfl, o4, n4⟩
      obtain ⟨p4, c4, rfl⟩ := o4.shape
      have N4 := N3.trans n4
      have hsl := sls_two w4 _ _ 41 (o3.rgs.new n4) o4.rgs
      go_wp2_with fail
      refine (concat_any _ _ _ 2 rfl hsl hfl (by show 2 ≤ 100; omega)).mono ?_
      rintro e w5 ⟨_, rfl, o5, n5⟩
      rw [hfe] at o5
      obtain ⟨p5, c5, rfl⟩ := o5.shape
      have N5 := (N4.alloc #[.slice p3 (rpart l 0 a).length c3, .slice p4 (rpart l b 4096).length c4] 41)
      go_wp2
      go_ret2
      exact ⟨_, rfl, OwnR.more o5 N5.size, N5.trans n5⟩
set_option maxHeartbeats 1000000 in
theorem rprot_any (r : Rg) (h : Rgs w v l) : Calls Tryz.prog 53 #[v, .int .i64 r.f, .int .i64 r.t, .int .u8 (r.p : Int)] w (MadeE 37 (prL l r) (prE l r) w) := by
  have HN : New w (w.alloc (.cells #[.int .i64 r.f, .int .i64 r.t, .int .u8 (r.p : Int)] 37)) := (New.refl w).alloc _ _
  have BR : Box (w.alloc (.cells #[.int .i64 r.f, .int .i64 r.t, .int .u8 (r.p : Int)] 37)) w.heap.size #[.int .i64 r.f, .int .i64 r.t, .int .u8 (r.p : Int)] 37 := Box.here w _ _ _ rfl
  have hR := h.new HN
  have q1 := check_any _ v l hR
  have q2 := fun W => isRegion_any W r
  obtain ⟨p, cap, rfl, _, _⟩ := h.shape
  cases ho : rokb l with
  | false =>
    have e1 : prE l r = 22 := by unfold prE; rw [ho, if_neg (by simp)]
    have e2 : prL l r = [] := by unfold prL; rw [e1, if_neg (by decide)]
    rw [e1, e2]
    rw [chv_no (rokb_not.1 ho), erN_pos (by decide)] at q1
    clear ho e1 e2
    go_enter Tryz.func53, Tryz.ntmps53
    go_wp2_with (go_at_call 99; (with_reducible refine q1.mono ?_); rintro e w1 ⟨rfl, n1⟩)
    go_ret2
    exact ⟨_, rfl, OwnR.nil, HN.trans n1⟩
  | true =>
    have hO := rokb_iff.1 ho
    rw [chv_ok hO, erN_zero] at q1
    cases hr : okR r with
    | false =>
      have e1 : prE l r = 22 := by unfold prE; rw [hr, if_neg (by simp)]
      have e2 : prL l r = [] := by unfold prL; rw [e1, if_neg (by decide)]
      rw [e1, e2]
      rw [hr] at q2
      clear ho hr e1 e2 hO
      go_enter Tryz.func53, Tryz.ntmps53
      go_wp2_with fail
      refine q1.mono ?_
      rintro e w1 ⟨rfl, n1⟩
      obtain ⟨b0, b1, b2⟩ := (BR.new n1).three
      go_wp2_with fail
      refine (q2 _).mono ?_
      rintro e w2 ⟨rfl, n2⟩
      go_wp2
      go_ret2
      exact ⟨_, rfl, OwnR.nil, HN.trans (n1.trans n2)⟩
    | true =>
      rw [hr] at q2
      have hro := okR_iff.1 hr
      have hlen : l.length ≤ 100000 := by have := hO.asc.len; omega
      have q3 := fun W (k : New w W) => part_any W _ l r.f r.t (h.new k) (by omega)
      have q4 := fun W (k : New w W) => lay_any W _ l r (h.new k) hlen
      have gs : IntKind.i64.wrap (r.t - r.f) = r.t - r.f := IntWalk.i64_in _ (by omega)
      by_cases hz : szv (rpart l r.f r.t) < r.t - r.f
      · have e1 : prE l r = 12 := by unfold prE; rw [ho, hr, if_pos ⟨rfl, rfl⟩, if_pos hz]
        have e2 : prL l r = [] := by unfold prL; rw [e1, if_neg (by decide)]
        rw [e1, e2]
        have hz : decide (szv (rpart l r.f r.t) < r.t - r.f) = true := by simpa using hz
        have q5 := fun W v' (k : Rgs W v' (rpart l r.f r.t)) => size_any W v' _ k
        generalize szv (rpart l r.f r.t) = Z at *
        clear ho hr e1 e2 hO hlen
        go_enter Tryz.func53, Tryz.ntmps53
        go_wp2_with fail
        refine q1.mono ?_
        rintro e w1 ⟨rfl, n1⟩
        obtain ⟨b0, b1, b2⟩ := (BR.new n1).three
        go_wp2_with fail
        refine (q2 _).mono ?_
        rintro e w2 ⟨rfl, n2⟩
        have N2 := HN.trans (n1.trans n2)
        clear b0 b1 b2
        go_wp2_with fail
        refine (q3 _ N2).mono ?_
        rintro e w3 ⟨_, rfl, o3, n3⟩
        have N3 := N2.trans n3
        have q6 := q5 _ _ o3.rgs
        obtain ⟨p3, c3, rfl⟩ := o3.shape
        go_wp2_with fail
        refine q6.mono ?_
        rintro e w4 ⟨rfl, n4⟩
        have N4 := N3.trans n4
        go_wp2
        go_ret2
        exact ⟨_, rfl, OwnR.nil, N4⟩
      · have e1 : prE l r = 0 := by unfold prE; rw [ho, hr, if_pos ⟨rfl, rfl⟩, if_neg hz]
        have e2 : prL l r = layL l r := by unfold prL; rw [e1, if_pos rfl]
        rw [e1, e2]
        have hz : decide (szv (rpart l r.f r.t) < r.t - r.f) = false := by simpa using hz
        have q5 := fun W v' (k : Rgs W v' (rpart l r.f r.t)) => size_any W v' _ k
        generalize szv (rpart l r.f r.t) = Z at *
        clear ho hr e1 e2 hO hlen
        go_enter Tryz.func53, Tryz.ntmps53
        go_wp2_with fail
        refine q1.mono ?_
        rintro e w1 ⟨rfl, n1⟩
        obtain ⟨b0, b1, b2⟩ := (BR.new n1).three
        go_wp2_with fail
        refine (q2 _).mono ?_
        rintro e w2 ⟨rfl, n2⟩
        have N2 := HN.trans (n1.trans n2)
        clear b0 b1 b2
        go_wp2_with fail
        refine (q3 _ N2).mono ?_
        rintro e w3 ⟨_, rfl, o3, n3⟩
        have N3 := N2.trans n3
        have q6 := q5 _ _ o3.rgs
        obtain ⟨p3, c3, rfl⟩ := o3.shape
        go_wp2_with fail
        refine q6.mono ?_
        rintro e w4 ⟨rfl, n4⟩
        have N4 := N3.trans n4
        obtain ⟨b0, b1, b2⟩ := ((((BR.new n1).new n2).new n3).new n4).three
        go_wp2_with fail
        refine (q4 _ N4).mono ?_
        rintro e w5 ⟨_, rfl, o5, n5⟩
        obtain ⟨p5, c5, rfl⟩ := o5.shape
        go_wp2
        go_ret2
        exact ⟨_, rfl, OwnR.more o5 N4.size, N4.trans n5⟩
/-- a region or the empty one, and whether there is one -/
def AtN (o : Option Rg) (w : World) (e : Ending) (w' : World) : Prop :=
  e = .returned (.tuple #[.agg #[.int .i64 (o.getD ⟨0, 0, 0⟩).f, .int .i64 (o.getD ⟨0, 0, 0⟩).t, .int .u8 ((o.getD ⟨0, 0, 0⟩).p : Int)], .bool o.isSome]) ∧ New w w'
set_option maxHeartbeats 1000000 in
theorem rat_any (q : Int) (h : Rgs w v l) : Calls Tryz.prog 83 #[v, .int .i64 q] w (AtN (atO l q) w) := by
  have HN : New w ((w.alloc (.cells #[.int .i64 q] 3)).alloc (.cells #[.int .i64 0, .int .i64 0, .int .u8 0] 37)) := ((New.refl w).alloc _ _).alloc _ _
  have BQ : Box ((w.alloc (.cells #[.int .i64 q] 3)).alloc (.cells #[.int .i64 0, .int .i64 0, .int .u8 0] 37)) w.heap.size #[.int .i64 q] 3 := (Box.here w _ _ _ rfl).alloc _
  have BR : Box ((w.alloc (.cells #[.int .i64 q] 3)).alloc (.cells #[.int .i64 0, .int .i64 0, .int .u8 0] 37)) (w.heap.size + 1) #[.int .i64 0, .int .i64 0, .int .u8 0] 37 := Box.here _ _ _ _ (by simp)
  have hR := h.new HN
  have q1 := check_any _ v l hR
  have q2 := fun W (k : New ((w.alloc (.cells #[.int .i64 q] 3)).alloc (.cells #[.int .i64 0, .int .i64 0, .int .u8 0] 37)) W) => idx_at W v l (hR.new k) (fun r => inR r q) w.heap.size fun W' r hW => at_clo W' r q _ ((BQ.new k).new hW).one
  obtain ⟨p, cap, rfl, _, _⟩ := h.shape
  cases ho : rokb l with
  | false =>
    have e1 : atO l q = none := by unfold atO; rw [ho, if_neg (by simp)]
    rw [e1]
    rw [chv_no (rokb_not.1 ho), erN_pos (by decide)] at q1
    clear ho e1
    go_enter Tryz.func83, Tryz.ntmps83
    go_wp2_with fail
    refine q1.mono ?_
    rintro e w1 ⟨rfl, n1⟩
    obtain ⟨hs, k0, k1, k2, f0, f1, f2⟩ := (BR.new n1).three'
    go_wp2
    exact bodyPost_ret (v := .tuple #[.agg #[.int .i64 0, .int .i64 0, .int .u8 0], .bool false]) (by simp [results, Tryz.results83, go_sem, k0, k1, k2]) rfl ⟨rfl, by repeat (first | exact HN.trans n1 | refine New.setCell ?_ (by simp) _)⟩
  | true =>
    rw [chv_ok (rokb_iff.1 ho), erN_zero] at q1
    have e0 : atO l q = l.find? (fun r => inR r q) := by unfold atO; rw [ho, if_pos rfl]
    rcases find_of_fi (g := fun r => inR r q) (l := l) with ⟨hf, e1⟩ | ⟨j, hj, hf, e1⟩
    · rw [e1] at e0
      rw [e0]
      simp only [hf] at q2
      clear ho e1 e0 hf
      go_enter Tryz.func83, Tryz.ntmps83
      go_wp2_with fail
      refine q1.mono ?_
      rintro e w1 ⟨rfl, n1⟩
      have q3 := q2 _ n1
      go_wp2_with fail
      refine q3.mono ?_
      rintro e w2 ⟨rfl, n2⟩
      obtain ⟨hs, k0, k1, k2, f0, f1, f2⟩ := ((BR.new n1).new n2).three'
      go_wp2
      exact bodyPost_ret (v := .tuple #[.agg #[.int .i64 0, .int .i64 0, .int .u8 0], .bool false]) (by simp [results, Tryz.results83, go_sem, k0, k1, k2]) rfl ⟨rfl, by repeat (first | exact HN.trans (n1.trans n2) | refine New.setCell ?_ (by simp) _)⟩
    · rw [e1] at e0
      rw [e0]
      simp only [hf] at q2
      have hm := h.len
      have hm2 : l.length ≤ 9223372036854775807 := by unfold maxLen at hm; omega
      obtain ⟨_, x, rfl, hx⟩ := h.at_ j hj
      generalize l[j] = r at *
      clear ho e1 e0 hf hm
      go_enter Tryz.func83, Tryz.ntmps83
      go_wp2_with fail
      refine q1.mono ?_
      rintro e w1 ⟨rfl, n1⟩
      have q3 := q2 _ n1
      go_wp2_with fail
      refine q3.mono ?_
      rintro e w2 ⟨rfl, n2⟩
      obtain ⟨hs, k0, k1, k2, f0, f1, f2⟩ := ((BR.new n1).new n2).three'
      have hN := HN.trans (n1.trans n2)
      obtain ⟨c0, c1, c2⟩ := hx.new hN
      go_wp2
      exact bodyPost_ret (v := .tuple #[.agg #[.int .i64 r.f, .int .i64 r.t, .int .u8 (r.p : Int)], .bool true]) (by simp [results, Tryz.results83, go_sem, k0, k1, k2]) rfl ⟨rfl, by repeat (first | exact hN | refine New.setCell ?_ (by simp) _)⟩
end
end Go.Proofs.YtgedimlhldfkaaaGreatDoor
namespace Go.Proofs.YtgedimlhldfkaaaGreatDoor
set_option linter.unusedVariables false
theorem rpg_find (l : List Rg) (q : Int) : rpg l q = (l.find? fun r => inR r q).map (·.p) := by
  induction l with
  | nil => rfl
  | cons r l ih =>
    simp only [rpg, List.find?_cons]
    cases h : inR r q with
    | true => rfl
    | false => simpa using ih
theorem atO_pg {l : List Rg} (h : ROk l) (q : Int) : (atO l q).map (·.p) = rpg l q := by
  unfold atO; rw [rokb_iff.2 h, if_pos rfl, rpg_find]
theorem atO_some {l : List Rg} (h : ROk l) (q : Int) : (atO l q).isSome = (rpg l q).isSome := by rw [← atO_pg h]; simp
/-- how many of the n pages from one on there are -/
def cnt (g : Int → Option Nat) (a : Int) : Nat → Nat
  | 0 => 0
  | n + 1 => cnt g a n + if (g (a + n)).isSome then 1 else 0
theorem cnt_le (g : Int → Option Nat) (a : Int) (n : Nat) : cnt g a n ≤ n := by
  induction n with
  | zero => exact Nat.le_refl _
  | succ n ih => simp only [cnt]; split <;> omega
theorem cnt_ext {g h : Int → Option Nat} {a : Int} {n : Nat} (k : ∀ q, a ≤ q → q < a + n → (g q).isSome = (h q).isSome) : cnt g a n = cnt h a n := by
  induction n with
  | zero => rfl
  | succ n ih =>
    simp only [cnt]
    rw [ih fun q h1 h2 => k q h1 (by omega), k (a + n) (by omega) (by omega)]
theorem cnt_add (g : Int → Option Nat) (a : Int) (m n : Nat) : cnt g a (m + n) = cnt g a m + cnt g (a + m) n := by
  induction n with
  | zero => rfl
  | succ n ih =>
    rw [← Nat.add_assoc]
    simp only [cnt]
    rw [ih, show a + ((m + n : Nat) : Int) = a + m + n by omega]; omega
theorem cnt_none {g : Int → Option Nat} {a : Int} {n : Nat} (k : ∀ q, a ≤ q → q < a + n → g q = none) : cnt g a n = 0 := by
  induction n with
  | zero => rfl
  | succ n ih => simp only [cnt]; rw [ih fun q h1 h2 => k q h1 (by omega), k (a + n) (by omega) (by omega)]; rfl
theorem cnt_all {g : Int → Option Nat} {a : Int} {n : Nat} (k : ∀ q, a ≤ q → q < a + n → (g q).isSome = true) : cnt g a n = n := by
  induction n with
  | zero => rfl
  | succ n ih => simp only [cnt]; rw [ih fun q h1 h2 => k q h1 (by omega), k (a + n) (by omega) (by omega)]; rfl
theorem cnt_full {g : Int → Option Nat} {a : Int} {n : Nat} (k : cnt g a n = n) : ∀ q, a ≤ q → q < a + n → (g q).isSome = true := by
  induction n with
  | zero => intro q h1 h2; omega
  | succ n ih =>
    simp only [cnt] at k
    have := cnt_le g a n
    intro q h1 h2
    by_cases c : (g (a + n)).isSome = true
    · rw [if_pos c] at k
      by_cases d : q < a + n
      · exact ih (by omega) q h1 d
      · obtain rfl : q = a + n := by omega
        exact c
    · rw [if_neg c] at k; omega
theorem rsz_cnt_from : ∀ (l : List Rg) (b : Int), 0 ≤ b → b ≤ 4096 → RAsc l → (∀ s ∈ l, b ≤ s.f) → rsz l = (cnt (rpg l) b (4096 - b).toNat : Int)
  | [], b, _, _, _, _ => by rw [cnt_none (g := rpg []) fun q _ _ => rfl]; rfl
  | r :: l, b, h0, h1, h, hs => by
    have hr := okR_iff.1 h.1
    have hb := hs r List.mem_cons_self
    have ih := rsz_cnt_from l r.t (by omega) (by omega) h.2.2 (RAsc.above h)
    have e : (4096 - b).toNat = (r.f - b).toNat + ((r.t - r.f).toNat + (4096 - r.t).toNat) := by omega
    rw [e, cnt_add, cnt_add]
    rw [cnt_none (g := rpg (r :: l)) (a := b) fun q h1 h2 => rpg_none.2 fun s hs' => by
      have := hs s hs'
      rw [inR_not]
      rcases List.mem_cons.1 hs' with rfl | hs'
      · omega
      · have := RAsc.above h s hs'; omega]
    rw [cnt_all (g := rpg (r :: l)) fun q h1 h2 => by rw [RAsc.pg_at h List.mem_cons_self (inR_iff.2 (by omega))]; rfl]
    rw [show b + ((r.f - b).toNat : Int) + ((r.t - r.f).toNat : Int) = r.t by omega]
    rw [cnt_ext (g := rpg (r :: l)) (h := rpg l) fun q h1 h2 => by simp only [rpg]; rw [if_neg (by rw [inR_iff]; omega)]]
    simp only [rsz]; omega
theorem rsz_cnt {l : List Rg} (h : RAsc l) : rsz l = (cnt (rpg l) 0 4096 : Int) :=
  rsz_cnt_from l 0 (by omega) (by omega) h fun s hs => (okR_iff.1 (RCh.mem h s hs)).1
/-- the pages of a part -/
theorem rsz_part {l : List Rg} (h : ROk l) {a b : Int} (hab : okP a b = true) : rsz (rpart l a b) = (cnt (rpg l) a (b - a).toNat : Int) := by
  have hp := okP_iff.1 hab
  rw [rsz_cnt (h.part a b).asc]
  have e : 4096 = a.toNat + ((b - a).toNat + (4096 - b).toNat) := by omega
  rw [e, cnt_add, cnt_add]
  have key := rpg_part l a b
  rw [cnt_none (a := 0) fun q h1 h2 => by rw [key, if_neg (by omega)]]
  rw [cnt_none (a := 0 + (a.toNat : Int) + ((b - a).toNat : Int)) fun q h1 h2 => by rw [key, if_neg (by omega)]]
  rw [cnt_ext (h := rpg l) fun q h1 h2 => by rw [key, if_pos (by omega)]]
  rw [show (0 : Int) + (a.toNat : Int) = a by omega]
  omega
theorem part_all {l : List Rg} (h : ROk l) {a b : Int} (hab : okP a b = true) : ¬ szv (rpart l a b) < b - a ↔ ∀ q, a ≤ q → q < b → (rpg l q).isSome = true := by
  have hp := okP_iff.1 hab
  rw [szv_ok (h.part a b), rsz_part h hab]
  have hle := cnt_le (rpg l) a (b - a).toNat
  constructor
  · intro k q h1 h2
    exact cnt_full (n := (b - a).toNat) (by omega) q h1 (by omega)
  · intro k
    rw [cnt_all fun q h1 h2 => k q h1 (by omega)]; omega
theorem over_none {l : List Rg} (h : ROk l) {a b : Int} (hab : okP a b = true) : fiN (ovR a b) l < 0 ↔ ∀ q, a ≤ q → q < b → rpg l q = none := by
  have hp := okP_iff.1 hab
  constructor
  · intro k q h1 h2
    rcases fiN_cases (ovR a b) l with ⟨_, hn⟩ | ⟨j, _, e, _⟩
    · exact rpg_none.2 fun r hr => by
        have := hn r hr
        rw [← Bool.not_eq_true, ovR_iff] at this
        rw [inR_not]; omega
    · omega
  · intro k
    rw [fiN_none]; omega
    intro r hr
    rw [← Bool.not_eq_true, ovR_iff]
    rintro ⟨h1, h2⟩
    have ho := okR_iff.1 (RCh.mem h r hr)
    by_cases c : r.f ≤ a
    · have := k a (by omega) (by omega)
      rw [h.asc.pg_at hr (inR_iff.2 ⟨c, h2⟩)] at this; cases this
    · have := k r.f (by omega) h1
      rw [h.asc.pg_at hr (inR_iff.2 ⟨by omega, ho.2.1⟩)] at this; cases this
/-- pages ahead of some, those, and behind them -/
theorem cnt_three (g : Int → Option Nat) {a b : Int} (hab : okP a b = true) : cnt g 0 4096 = cnt g 0 a.toNat + cnt g a (b - a).toNat + cnt g b (4096 - b).toNat := by
  have hp := okP_iff.1 hab
  have e : 4096 = a.toNat + ((b - a).toNat + (4096 - b).toNat) := by omega
  conv => lhs; rw [e, cnt_add, cnt_add]
  rw [show (0 : Int) + (a.toNat : Int) = a by omega, show a + ((b - a).toNat : Int) = b by omega]; omega
theorem rsz_cutL {l : List Rg} (h : ROk l) {a b : Int} (hab : okP a b = true) : rsz (cutL l a b) = rsz l - (cnt (rpg l) a (b - a).toNat : Int) := by
  have hp := okP_iff.1 hab
  have key := rpg_cutL h hp.2.1
  rw [rsz_cnt (h.cutL hp.2.1).asc, rsz_cnt h.asc, cnt_three _ hab, cnt_three (rpg l) hab]
  rw [cnt_none (g := rpg (cutL l a b)) (a := a) fun q h1 h2 => by rw [key, if_pos (by omega)]]
  rw [cnt_ext (g := rpg (cutL l a b)) (h := rpg l) (a := 0) fun q h1 h2 => by rw [key, if_neg (by omega)]]
  rw [cnt_ext (g := rpg (cutL l a b)) (h := rpg l) (a := b) fun q h1 h2 => by rw [key, if_neg (by omega)]]
  omega
theorem rsz_layL {l : List Rg} (h : ROk l) {r : Rg} (hr : okR r = true) : rsz (layL l r) = rsz l - (cnt (rpg l) r.f (r.t - r.f).toNat : Int) + (r.t - r.f) := by
  have hp := okR_iff.1 hr
  have hab : okP r.f r.t = true := okP_iff.2 ⟨hp.1, hp.2.1, hp.2.2.1⟩
  have key := rpg_layL h hr
  rw [rsz_cnt (h.layL hr).asc, rsz_cnt h.asc, cnt_three _ hab, cnt_three (rpg l) hab]
  rw [cnt_all (g := rpg (layL l r)) (a := r.f) fun q h1 h2 => by rw [key, if_pos (inR_iff.2 (by omega))]; rfl]
  rw [cnt_ext (g := rpg (layL l r)) (h := rpg l) (a := 0) fun q h1 h2 => by rw [key, if_neg (by rw [inR_iff]; omega)]]
  rw [cnt_ext (g := rpg (layL l r)) (h := rpg l) (a := r.t) fun q h1 h2 => by rw [key, if_neg (by rw [inR_iff]; omega)]]
  omega
section
variable {l : List Rg} {r : Rg}
theorem adE_cases (h : ROk l) (hr : okR r = true) : (adE l r = 0 ∧ adL l r = layL l r ∧ ∀ q, r.f ≤ q → q < r.t → rpg l q = none) ∨ (adE l r = 17 ∧ adL l r = [] ∧ ¬ ∀ q, r.f ≤ q → q < r.t → rpg l q = none) := by
  have hp : okP r.f r.t = true := by unfold okR at hr; rw [Bool.and_eq_true] at hr; exact hr.1
  have k := over_none h hp
  have e : adE l r = if fiN (ovR r.f r.t) l < 0 then 0 else 17 := by unfold adE; rw [if_pos ⟨rokb_iff.2 h, hr⟩]
  by_cases c : fiN (ovR r.f r.t) l < 0
  · rw [if_pos c] at e
    exact .inl ⟨e, by unfold adL; rw [if_pos e], k.1 c⟩
  · rw [if_neg c] at e
    exact .inr ⟨e, by unfold adL; rw [e, if_neg (by decide)], fun x => c (k.2 x)⟩
theorem prE_cases (h : ROk l) (hr : okR r = true) : (prE l r = 0 ∧ prL l r = layL l r ∧ ∀ q, r.f ≤ q → q < r.t → (rpg l q).isSome = true) ∨ (prE l r = 12 ∧ prL l r = [] ∧ ¬ ∀ q, r.f ≤ q → q < r.t → (rpg l q).isSome = true) := by
  have hp : okP r.f r.t = true := by unfold okR at hr; rw [Bool.and_eq_true] at hr; exact hr.1
  have k := part_all h hp
  have e : prE l r = if szv (rpart l r.f r.t) < r.t - r.f then 12 else 0 := by unfold prE; rw [if_pos ⟨rokb_iff.2 h, hr⟩]
  by_cases c : szv (rpart l r.f r.t) < r.t - r.f
  · rw [if_pos c] at e
    exact .inr ⟨e, by unfold prL; rw [e, if_neg (by decide)], fun x => (k.2 x) c⟩
  · rw [if_neg c] at e
    exact .inl ⟨e, by unfold prL; rw [if_pos e], k.1 c⟩
theorem ct_ok (h : ROk l) {a b : Int} (hp : okP a b = true) : ctE l a b = 0 ∧ ctL l a b = cutL l a b := by
  have e : ctE l a b = 0 := by unfold ctE; rw [if_pos ⟨rokb_iff.2 h, hp⟩]
  exact ⟨e, by unfold ctL; rw [if_pos e]⟩
end
end Go.Proofs.YtgedimlhldfkaaaGreatDoor
