/- Lists of regions in memory, that can be read, or that the call made; whether they may be; where the first one is that meets a condition. Contracts, for any list, in any world; behind each there are only new blocks. -/
import Derived.Test.YtfkjgbenjdmedaaDoorReA
import Derived.Deep.LoopGhost
import Derived.Deep.DeepCutAuto
import Derived.Deep.RegionHeld3
import Derived.Deep.CutBlock
namespace Go.Proofs.YtfkjgbenjdmedaaDoor
open Go.RowKit
set_option linter.unusedVariables false
set_option maxRecDepth 100000
/-- a region, cell by cell -/
def rcell (r : Rg) : List Value := [.int .i64 r.f, .int .i64 r.t, .int .u8 (r.p : Int)]
def rcells (l : List Rg) : List Value := l.flatMap rcell
theorem rcells_len (l : List Rg) : (rcells l).length = l.length * 3 := by
  induction l with
  | nil => rfl
  | cons x l ih => unfold rcells at *; rw [List.flatMap_cons, List.length_append, ih, List.length_cons]; simp [rcell]; omega
theorem rcells_push (l : List Rg) (x : Rg) : rcells (l ++ [x]) = rcells l ++ rcell x := by simp [rcells]
theorem rcells_append (l m : List Rg) : rcells (l ++ m) = rcells l ++ rcells m := by simp [rcells]
theorem rcells_get (l : List Rg) (i f : Nat) (hi : i < l.length) (hf : f < 3) : (rcells l)[i * 3 + f]? = (rcell l[i])[f]? := by
  induction l generalizing i with
  | nil => simp at hi
  | cons x l ih =>
    have e : rcells (x :: l) = rcell x ++ rcells l := by simp [rcells]
    rw [e]
    match i, hi with
    | 0, _ => rw [List.getElem?_append_left (by simp [rcell]; omega)]; simp
    | i + 1, hi => rw [List.getElem?_append_right (by simp [rcell]; omega)]; simpa [rcell, show (i + 1) * 3 + f - 3 = i * 3 + f by omega] using ih i (by simpa using hi)
theorem rcell_one (x : Rg) : ∀ u ∈ rcell x, u.oneCell' = true := by
  intro u hu
  simp only [rcell, List.mem_cons, List.not_mem_nil, or_false] at hu
  rcases hu with rfl | rfl | rfl <;> rfl
theorem rcells_one (l : List Rg) : ∀ u ∈ rcells l, u.oneCell' = true := by
  intro u hu
  obtain ⟨x, _, hx⟩ := List.mem_flatMap.1 hu
  exact rcell_one x u hx
/-- one of them at an address -/
def RgAt (w : World) (x : Addr) (r : Rg) : Prop := w.cell? x = some (.int .i64 r.f) ∧ w.cell? ⟨x.block, x.off + 1, none⟩ = some (.int .i64 r.t) ∧ w.cell? ⟨x.block, x.off + 2, none⟩ = some (.int .u8 (r.p : Int))
theorem RgAt.new {w w' : World} {x : Addr} {r : Rg} (h : RgAt w x r) (k : New w w') : RgAt w' x r := ⟨k.keeps h.1, k.keeps h.2.1, k.keeps h.2.2⟩
/-- regions that can be read -/
def Rgs (w : World) (v : Value) (l : List Rg) : Prop :=
  ∃ p cap, v = .slice p l.length cap ∧ l.length ≤ cap ∧ cap ≤ maxLen ∧ ∀ i (hi : i < l.length), ∃ x, p = some x ∧ RgAt w (x.add (i * 3)) l[i]
/-- regions that the call made, or nil -/
def OwnR (T : TypeId) (base : Nat) (w : World) (v : Value) (l : List Rg) : Prop := w.ownsRow base T 3 v l.length (rcells l)
section
variable {T : TypeId} {base : Nat} {w w' : World} {v : Value} {l : List Rg}
theorem Rgs.new (h : Rgs w v l) (k : New w w') : Rgs w' v l := by
  obtain ⟨p, cap, h1, h2, h3, h4⟩ := h
  exact ⟨p, cap, h1, h2, h3, fun i hi => by obtain ⟨x, hx, hr⟩ := h4 i hi; exact ⟨x, hx, hr.new k⟩⟩
theorem Rgs.nil : Rgs w (.slice none 0 0) [] := ⟨none, 0, rfl, Nat.le_refl _, Nat.zero_le _, fun i hi => absurd hi (Nat.not_lt_zero _)⟩
theorem Rgs.shape (h : Rgs w v l) : ∃ p cap, v = .slice p l.length cap ∧ l.length ≤ cap ∧ cap ≤ maxLen := by
  obtain ⟨p, cap, h1, h2, h3, _⟩ := h; exact ⟨p, cap, h1, h2, h3⟩
theorem Rgs.len (h : Rgs w v l) : l.length ≤ maxLen := by obtain ⟨p, cap, h1, h2, h3, _⟩ := h; omega
theorem Rgs.at_ {p : Option Addr} {n cap : Nat} (h : Rgs w (.slice p n cap) l) (i : Nat) (hi : i < l.length) : n = l.length ∧ ∃ x, p = some x ∧ RgAt w (x.add (i * 3)) l[i] := by
  obtain ⟨p', cap', h1, h2, h3, h4⟩ := h
  cases h1
  exact ⟨rfl, h4 i hi⟩
theorem OwnR.nil : OwnR T base w (.slice none 0 0) [] := ⟨by simp [rcells], .inl ⟨rfl, rfl⟩⟩
theorem OwnR.new (h : OwnR T base w v l) (k : New w w') : OwnR T base w' v l := by
  refine ⟨h.1, ?_⟩
  rcases h.2 with hn | ⟨g, cap, cur, rfl, hb, hg, rest⟩
  · exact .inl hn
  · exact .inr ⟨g, cap, cur, rfl, hb, by rw [k.block (Array.getElem?_eq_some_iff.1 hg).1]; exact hg, rest⟩
theorem OwnR.more {base' : Nat} (h : OwnR T base w v l) (k : base' ≤ base) : OwnR T base' w v l := by
  refine ⟨h.1, ?_⟩
  rcases h.2 with hn | ⟨g, cap, cur, rfl, hb, rest⟩
  · exact .inl hn
  · exact .inr ⟨g, cap, cur, rfl, by omega, rest⟩
theorem OwnR.cells {g cap : Nat} {cur : Array Value} (hg : w.heap[g]? = some (.cells cur T (0, 0))) (h1 : l.length ≤ cap) (h4 : cur.toList.take (l.length * 3) = rcells l) (i : Nat) (hi : i < l.length) (f : Nat) (hf : f < 3) : w.cell? ⟨g, i * 3 + f, none⟩ = (rcell l[i])[f]? := by
  have e := rcells_get l i f hi hf
  rw [← h4, List.getElem?_take, if_pos (by omega)] at e
  rw [← e]
  simp [World.cell?, hg]
theorem OwnR.rgs (h : OwnR T base w v l) : Rgs w v l := by
  rcases h.2 with ⟨rfl, hn⟩ | ⟨g, cap, cur, rfl, hb, hg, h1, h2, h3, h4⟩
  · obtain rfl : l = [] := List.eq_nil_of_length_eq_zero hn
    exact Rgs.nil
  · refine ⟨_, _, rfl, h1, h2, fun i hi => ⟨_, rfl, ?_⟩⟩
    rw [Addr.add_mid]
    have key := fun f hf => OwnR.cells (l := l) hg h1 h4 i hi f hf
    simp only [Nat.zero_add]
    exact ⟨key 0 (by omega), key 1 (by omega), key 2 (by omega)⟩
end
/-- an address's three cells in one go -/
theorem RgAt.cells {w : World} {x : Addr} {r : Rg} (h : RgAt w x r) : w.cell? x = some (.int .i64 r.f) ∧ w.cell? ⟨x.block, x.off + 1, none⟩ = some (.int .i64 r.t) ∧ w.cell? ⟨x.block, x.off + 2, none⟩ = some (.int .u8 (r.p : Int)) := h
/-- the error of a list -/
noncomputable def chv (l : List Rg) : Int := if rokb l = true then 0 else 22
theorem chv_ok {l : List Rg} (h : ROk l) : chv l = 0 := by unfold chv; rw [if_pos (rokb_iff.2 h)]
theorem chv_no {l : List Rg} (h : ¬ ROk l) : chv l = 22 := by unfold chv; rw [if_neg (fun k => h (rokb_iff.1 k))]
set_option maxHeartbeats 1000000 in
theorem check_any (w : World) (v : Value) (l : List Rg) (h : Rgs w v l) : Calls Tryd.prog 18 #[v] w fun e w' => e = .returned (erN (chv l)) ∧ New w w' := by
  obtain ⟨p, cap, rfl, hc, hm⟩ := h.shape
  have HR := Lib.hid h
  clear h hc
  have QR := fun w r => isRegion_any w r
  have QF := fun w a b => mayFollow_any w a b
  have hB : l.length ≤ 9223372036854775807 := by have := HR.out.len; unfold maxLen at this; omega
  clear hm
  go_enter Tryd.func18, Tryd.ntmps18
  go_wp2
  go_loopg [7] l.length (fun k i wr => ∃ j : Nat, j + k = l.length ∧ i = .int .i64 (j : Int) ∧ New w wr ∧ ∀ i (h : i < l.length), i < j → okR l[i] = true ∧ ∀ j, j + 1 = i → ∀ (hj : j < l.length), RFol l[j] l[i])
  case atStart => exact ⟨0, by omega, rfl, New.refl _, fun i _ h => absurd h (Nat.not_lt_zero _)⟩
  case round =>
    obtain ⟨j, hj, rfl, hn, hok⟩ := hrel
    by_cases c : j < l.length
    · have HO := Lib.hid hok
      have HN := Lib.hid hn
      have J := Lib.hid hj
      obtain ⟨_, x, rfl, hx⟩ := HR.out.at_ j c
      have hx := hx.new hn
      obtain ⟨c0, c1, c2⟩ := hx
      obtain ⟨r, hr⟩ : ∃ r, r = l[j] := ⟨_, rfl⟩
      have HRe := Lib.hid hr
      rw [← hr] at c0 c1 c2
      have qr := fun w => QR w r
      clear hok hn hj hr
      have NW : New wr (wr.alloc (.cells #[.int .i64 r.f, .int .i64 r.t, .int .u8 (r.p : Int)] 33)) := (New.refl wr).alloc _ _
      have BR : Box (wr.alloc (.cells #[.int .i64 r.f, .int .i64 r.t, .int .u8 (r.p : Int)] 33)) wr.heap.size #[.int .i64 r.f, .int .i64 r.t, .int .u8 (r.p : Int)] 33 := Box.here wr _ _ _ rfl
      -- WAYS
      by_cases c0j : j = 0
      · have HJ := Lib.hid c0j
        have g0 : decide (0 < j) = false := by simp; omega
        clear c0j
        cases hok : okR r with
        | false =>
          rw [hok] at qr
          have HKr := Lib.hid hok
          clear hok
          go_upto_region 4 with fail
          change Code.wp _ _ _ _ (wr.alloc (.cells #[.int .i64 r.f, .int .i64 r.t, .int .u8 (r.p : Int)] 33))
          generalize (wr.alloc (.cells #[.int .i64 r.f, .int .i64 r.t, .int .u8 (r.p : Int)] 33)) = W at *
          generalize wr.heap.size = rb at *
          have NW := Lib.hid NW
          obtain ⟨b0, b1, b2⟩ := BR.three
          clear c0 c1 c2 BR
          go_wp2_with fail
          have kd := (New.refl W).drew
          have hS : (fun w' : World => New W w' ∧ w'.cell? ⟨rb, 0, none⟩ = some (.int .i64 r.f) ∧ w'.cell? ⟨rb, 1, none⟩ = some (.int .i64 r.t) ∧ w'.cell? ⟨rb, 2, none⟩ = some (.int .u8 (r.p : Int))) W.drew := ⟨kd, kd.keeps b0, kd.keeps b1, kd.keeps b2⟩
          refine wp_region_held_drew (S := (fun w' : World => New W w' ∧ w'.cell? ⟨rb, 0, none⟩ = some (.int .i64 r.f) ∧ w'.cell? ⟨rb, 1, none⟩ = some (.int .i64 r.t) ∧ w'.cell? ⟨rb, 2, none⟩ = some (.int .u8 (r.p : Int)))) (by kernel_rfl) hS (fun _ => ?_)
          refine wpAnyH_take (i := 0) (v := ?_) rfl (by kernel_rfl) (by kernel_rfl) (by kernel_rfl) (fun _ _ _ h => h) (Or.inl ⟨by rfl, ?_⟩) hS ?_
          rotate_left
          · intro w hSw
            try dsimp only at hSw
            go_simp
            try with_reducible rfl
          try simp only [Act.put, List.setIfInBounds_toArray, List.set_cons_zero, List.set_cons_succ, List.getElem_toArray, List.getElem_cons_zero]
          refine wpAnyH_ready (rs := [1]) (by kernel_rfl) (by simp) (AllReadyH.cons rfl (fun K hK => ?_) AllReadyH.nil)
          go_simp
          refine (qr _).mono ?_
          rintro e wz ⟨rfl, hny⟩
          have hnx : New W wz := kd.trans hny
          have hS : New W wz ∧ wz.cell? ⟨rb, 0, none⟩ = some (.int .i64 r.f) ∧ wz.cell? ⟨rb, 1, none⟩ = some (.int .i64 r.t) ∧ wz.cell? ⟨rb, 2, none⟩ = some (.int .u8 (r.p : Int)) := ⟨hnx, hnx.keeps b0, hnx.keeps b1, hnx.keeps b2⟩
          refine hK.out _ _ hS (fun _ => ?_)
          clear hK K
          try simp only [Act.put, List.setIfInBounds_toArray, List.set_cons_zero, List.set_cons_succ, List.getElem_toArray, List.getElem_cons_zero, List.getElem_cons_succ]
          refine wpAnyH_take (i := 2) (v := ?_) rfl (by kernel_rfl) (by kernel_rfl) (by kernel_rfl) (fun _ _ _ h => h) (Or.inl ⟨by rfl, ?_⟩) hS ?_
          rotate_left
          · intro w hSw
            try dsimp only at hSw
            go_simp
            try with_reducible rfl
          try simp only [Act.put, List.setIfInBounds_toArray, List.set_cons_zero, List.set_cons_succ, List.getElem_toArray, List.getElem_cons_zero, List.getElem_cons_succ]
          refine wpAnyH_take (i := 3) (v := ?_) rfl (by kernel_rfl) (by kernel_rfl) (by kernel_rfl) (fun _ _ _ h => h) (Or.inl ⟨by rfl, ?_⟩) hS ?_
          rotate_left
          · intro w hSw
            try dsimp only at hSw
            go_simp
            try with_reducible rfl
          try simp only [Act.put, List.setIfInBounds_toArray, List.set_cons_zero, List.set_cons_succ, List.getElem_toArray, List.getElem_cons_zero, List.getElem_cons_succ]
          refine wpAnyH_take (i := 4) (v := undef) rfl (by kernel_rfl) (by kernel_rfl) (by kernel_rfl) (fun _ _ _ h => h) (Or.inr ⟨by rfl, rfl⟩) hS ?_
          try simp only [Act.put, List.setIfInBounds_toArray, List.set_cons_zero, List.set_cons_succ, List.getElem_toArray, List.getElem_cons_zero, List.getElem_cons_succ]
          refine wpAnyH_take (i := 5) (v := undef) rfl (by kernel_rfl) (by kernel_rfl) (by kernel_rfl) (fun _ _ _ h => h) (Or.inr ⟨by rfl, rfl⟩) hS ?_
          try simp only [Act.put, List.setIfInBounds_toArray, List.set_cons_zero, List.set_cons_succ, List.getElem_toArray, List.getElem_cons_zero, List.getElem_cons_succ]
          refine wpAnyH_take (i := 6) (v := undef) rfl (by kernel_rfl) (by kernel_rfl) (by kernel_rfl) (fun _ _ _ h => h) (Or.inr ⟨by rfl, rfl⟩) hS ?_
          try simp only [Act.put, List.setIfInBounds_toArray, List.set_cons_zero, List.set_cons_succ, List.getElem_toArray, List.getElem_cons_zero, List.getElem_cons_succ]
          refine wpAnyH_take (i := 7) (v := undef) rfl (by kernel_rfl) (by kernel_rfl) (by kernel_rfl) (fun _ _ _ h => h) (Or.inr ⟨by rfl, rfl⟩) hS ?_
          try simp only [Act.put, List.setIfInBounds_toArray, List.set_cons_zero, List.set_cons_succ, List.getElem_toArray, List.getElem_cons_zero, List.getElem_cons_succ]
          refine wpAnyH_take (i := 8) (v := undef) rfl (by kernel_rfl) (by kernel_rfl) (by kernel_rfl) (fun _ _ _ h => h) (Or.inr ⟨by rfl, rfl⟩) hS ?_
          try simp only [Act.put, List.setIfInBounds_toArray, List.set_cons_zero, List.set_cons_succ, List.getElem_toArray, List.getElem_cons_zero, List.getElem_cons_succ]
          refine wpAnyH_take (i := 9) (v := undef) rfl (by kernel_rfl) (by kernel_rfl) (by kernel_rfl) (fun _ _ _ h => h) (Or.inr ⟨by rfl, rfl⟩) hS ?_
          try simp only [Act.put, List.setIfInBounds_toArray, List.set_cons_zero, List.set_cons_succ, List.getElem_toArray, List.getElem_cons_zero, List.getElem_cons_succ]
          refine wpAnyH_take (i := 10) (v := undef) rfl (by kernel_rfl) (by kernel_rfl) (by kernel_rfl) (fun _ _ _ h => h) (Or.inr ⟨by rfl, rfl⟩) hS ?_
          try simp only [Act.put, List.setIfInBounds_toArray, List.set_cons_zero, List.set_cons_succ, List.getElem_toArray, List.getElem_cons_zero, List.getElem_cons_succ]
          refine wpAnyH_take (i := 11) (v := undef) rfl (by kernel_rfl) (by kernel_rfl) (by kernel_rfl) (fun _ _ _ h => h) (Or.inr ⟨by rfl, rfl⟩) hS ?_
          try simp only [Act.put, List.setIfInBounds_toArray, List.set_cons_zero, List.set_cons_succ, List.getElem_toArray, List.getElem_cons_zero, List.getElem_cons_succ]
          refine wpAnyH_take (i := 12) (v := undef) rfl (by kernel_rfl) (by kernel_rfl) (by kernel_rfl) (fun _ _ _ h => h) (Or.inr ⟨by rfl, rfl⟩) hS ?_
          try simp only [Act.put, List.setIfInBounds_toArray, List.set_cons_zero, List.set_cons_succ, List.getElem_toArray, List.getElem_cons_zero, List.getElem_cons_succ]
          refine wpAnyH_take (i := 13) (v := undef) rfl (by kernel_rfl) (by kernel_rfl) (by kernel_rfl) (fun _ _ _ h => h) (Or.inr ⟨by rfl, rfl⟩) hS ?_
          try simp only [Act.put, List.setIfInBounds_toArray, List.set_cons_zero, List.set_cons_succ, List.getElem_toArray, List.getElem_cons_zero, List.getElem_cons_succ]
          refine wpAnyH_take (i := 14) (v := undef) rfl (by kernel_rfl) (by kernel_rfl) (by kernel_rfl) (fun _ _ _ h => h) (Or.inr ⟨by rfl, rfl⟩) hS ?_
          try simp only [Act.put, List.setIfInBounds_toArray, List.set_cons_zero, List.set_cons_succ, List.getElem_toArray, List.getElem_cons_zero, List.getElem_cons_succ]
          refine wpAnyH_take (i := 15) (v := undef) rfl (by kernel_rfl) (by kernel_rfl) (by kernel_rfl) (fun _ _ _ h => h) (Or.inr ⟨by rfl, rfl⟩) hS ?_
          try simp only [Act.put, List.setIfInBounds_toArray, List.set_cons_zero, List.set_cons_succ, List.getElem_toArray, List.getElem_cons_zero, List.getElem_cons_succ]
          refine wpAnyH_take (i := 16) (v := ?_) rfl (by kernel_rfl) (by kernel_rfl) (by kernel_rfl) (fun _ _ _ h => h) (Or.inl ⟨by rfl, ?_⟩) hS ?_
          rotate_left
          · intro w hSw
            try dsimp only at hSw
            go_simp
            try with_reducible rfl
          try simp only [Act.put, List.setIfInBounds_toArray, List.set_cons_zero, List.set_cons_succ, List.getElem_toArray, List.getElem_cons_zero, List.getElem_cons_succ]
          refine wpAnyH_done (by kernel_rfl) ?_ _
          go_wp2
          go_ret
          have hno : ¬ ROk l := fun k => by
            have := (RCh.mem k l[j] (List.getElem_mem c))
            rw [← HRe.out, HKr.out] at this
            cases this
          have e22 : erN (chv l) = .iface 59 (.int .i64 22) := by rw [chv_no hno]; rfl
          refine ⟨Eq.trans ?_ (congrArg Ending.returned e22.symm), HN.out.trans (NW.out.trans hnx)⟩
          rfl
        | true =>
          rw [hok] at qr
          have HKr := Lib.hid hok
          clear hok
          go_upto_region 4 with fail
          change Code.wp _ _ _ _ (wr.alloc (.cells #[.int .i64 r.f, .int .i64 r.t, .int .u8 (r.p : Int)] 33))
          generalize (wr.alloc (.cells #[.int .i64 r.f, .int .i64 r.t, .int .u8 (r.p : Int)] 33)) = W at *
          generalize wr.heap.size = rb at *
          have NW := Lib.hid NW
          obtain ⟨b0, b1, b2⟩ := BR.three
          clear c0 c1 c2 BR
          go_wp2_with fail
          have kd := (New.refl W).drew
          have hS : (fun w' : World => New W w' ∧ w'.cell? ⟨rb, 0, none⟩ = some (.int .i64 r.f) ∧ w'.cell? ⟨rb, 1, none⟩ = some (.int .i64 r.t) ∧ w'.cell? ⟨rb, 2, none⟩ = some (.int .u8 (r.p : Int))) W.drew := ⟨kd, kd.keeps b0, kd.keeps b1, kd.keeps b2⟩
          refine wp_region_held_drew (S := (fun w' : World => New W w' ∧ w'.cell? ⟨rb, 0, none⟩ = some (.int .i64 r.f) ∧ w'.cell? ⟨rb, 1, none⟩ = some (.int .i64 r.t) ∧ w'.cell? ⟨rb, 2, none⟩ = some (.int .u8 (r.p : Int)))) (by kernel_rfl) hS (fun _ => ?_)
          refine wpAnyH_take (i := 0) (v := ?_) rfl (by kernel_rfl) (by kernel_rfl) (by kernel_rfl) (fun _ _ _ h => h) (Or.inl ⟨by rfl, ?_⟩) hS ?_
          rotate_left
          · intro w hSw
            try dsimp only at hSw
            go_simp
            try with_reducible rfl
          try simp only [Act.put, List.setIfInBounds_toArray, List.set_cons_zero, List.set_cons_succ, List.getElem_toArray, List.getElem_cons_zero]
          refine wpAnyH_ready (rs := [1]) (by kernel_rfl) (by simp) (AllReadyH.cons rfl (fun K hK => ?_) AllReadyH.nil)
          go_simp
          refine (qr _).mono ?_
          rintro e wz ⟨rfl, hny⟩
          have hnx : New W wz := kd.trans hny
          have hS : New W wz ∧ wz.cell? ⟨rb, 0, none⟩ = some (.int .i64 r.f) ∧ wz.cell? ⟨rb, 1, none⟩ = some (.int .i64 r.t) ∧ wz.cell? ⟨rb, 2, none⟩ = some (.int .u8 (r.p : Int)) := ⟨hnx, hnx.keeps b0, hnx.keeps b1, hnx.keeps b2⟩
          refine hK.out _ _ hS (fun _ => ?_)
          clear hK K
          try simp only [Act.put, List.setIfInBounds_toArray, List.set_cons_zero, List.set_cons_succ, List.getElem_toArray, List.getElem_cons_zero, List.getElem_cons_succ]
          refine wpAnyH_take (i := 2) (v := ?_) rfl (by kernel_rfl) (by kernel_rfl) (by kernel_rfl) (fun _ _ _ h => h) (Or.inl ⟨by rfl, ?_⟩) hS ?_
          rotate_left
          · intro w hSw
            try dsimp only at hSw
            go_simp
            try with_reducible rfl
          try simp only [Act.put, List.setIfInBounds_toArray, List.set_cons_zero, List.set_cons_succ, List.getElem_toArray, List.getElem_cons_zero, List.getElem_cons_succ]
          refine wpAnyH_take (i := 3) (v := ?_) rfl (by kernel_rfl) (by kernel_rfl) (by kernel_rfl) (fun _ _ _ h => h) (Or.inl ⟨by rfl, ?_⟩) hS ?_
          rotate_left
          · intro w hSw
            try dsimp only at hSw
            go_simp
            try with_reducible rfl
          try simp only [Act.put, List.setIfInBounds_toArray, List.set_cons_zero, List.set_cons_succ, List.getElem_toArray, List.getElem_cons_zero, List.getElem_cons_succ]
          refine wpAnyH_take (i := 4) (v := ?_) rfl (by kernel_rfl) (by kernel_rfl) (by kernel_rfl) (fun _ _ _ h => h) (Or.inl ⟨by rfl, ?_⟩) hS ?_
          rotate_left
          · intro w hSw
            try dsimp only at hSw
            go_simp
            try with_reducible rfl
          try simp only [Act.put, List.setIfInBounds_toArray, List.set_cons_zero, List.set_cons_succ, List.getElem_toArray, List.getElem_cons_zero, List.getElem_cons_succ]
          refine wpAnyH_take (i := 5) (v := ?_) rfl (by kernel_rfl) (by kernel_rfl) (by kernel_rfl) (fun _ _ _ h => h) (Or.inl ⟨by rfl, ?_⟩) hS ?_
          rotate_left
          · intro w hSw
            try dsimp only at hSw
            go_simp
            try with_reducible rfl
          try simp only [Act.put, List.setIfInBounds_toArray, List.set_cons_zero, List.set_cons_succ, List.getElem_toArray, List.getElem_cons_zero, List.getElem_cons_succ]
          refine wpAnyH_take (i := 6) (v := ?_) rfl (by kernel_rfl) (by kernel_rfl) (by kernel_rfl) (fun _ _ _ h => h) (Or.inl ⟨by rfl, ?_⟩) hS ?_
          rotate_left
          · intro w hSw
            try dsimp only at hSw
            go_simp
            try with_reducible rfl
          try simp only [Act.put, List.setIfInBounds_toArray, List.set_cons_zero, List.set_cons_succ, List.getElem_toArray, List.getElem_cons_zero, List.getElem_cons_succ]
          refine wpAnyH_take (i := 7) (v := undef) rfl (by kernel_rfl) (by kernel_rfl) (by kernel_rfl) (fun _ _ _ h => h) (Or.inr ⟨by rfl, rfl⟩) hS ?_
          try simp only [Act.put, List.setIfInBounds_toArray, List.set_cons_zero, List.set_cons_succ, List.getElem_toArray, List.getElem_cons_zero, List.getElem_cons_succ]
          refine wpAnyH_take (i := 8) (v := undef) rfl (by kernel_rfl) (by kernel_rfl) (by kernel_rfl) (fun _ _ _ h => h) (Or.inr ⟨by rfl, rfl⟩) hS ?_
          try simp only [Act.put, List.setIfInBounds_toArray, List.set_cons_zero, List.set_cons_succ, List.getElem_toArray, List.getElem_cons_zero, List.getElem_cons_succ]
          refine wpAnyH_take (i := 9) (v := undef) rfl (by kernel_rfl) (by kernel_rfl) (by kernel_rfl) (fun _ _ _ h => h) (Or.inr ⟨by rfl, rfl⟩) hS ?_
          try simp only [Act.put, List.setIfInBounds_toArray, List.set_cons_zero, List.set_cons_succ, List.getElem_toArray, List.getElem_cons_zero, List.getElem_cons_succ]
          refine wpAnyH_take (i := 10) (v := undef) rfl (by kernel_rfl) (by kernel_rfl) (by kernel_rfl) (fun _ _ _ h => h) (Or.inr ⟨by rfl, rfl⟩) hS ?_
          try simp only [Act.put, List.setIfInBounds_toArray, List.set_cons_zero, List.set_cons_succ, List.getElem_toArray, List.getElem_cons_zero, List.getElem_cons_succ]
          refine wpAnyH_take (i := 11) (v := undef) rfl (by kernel_rfl) (by kernel_rfl) (by kernel_rfl) (fun _ _ _ h => h) (Or.inr ⟨by rfl, rfl⟩) hS ?_
          try simp only [Act.put, List.setIfInBounds_toArray, List.set_cons_zero, List.set_cons_succ, List.getElem_toArray, List.getElem_cons_zero, List.getElem_cons_succ]
          refine wpAnyH_take (i := 12) (v := undef) rfl (by kernel_rfl) (by kernel_rfl) (by kernel_rfl) (fun _ _ _ h => h) (Or.inr ⟨by rfl, rfl⟩) hS ?_
          try simp only [Act.put, List.setIfInBounds_toArray, List.set_cons_zero, List.set_cons_succ, List.getElem_toArray, List.getElem_cons_zero, List.getElem_cons_succ]
          refine wpAnyH_take (i := 13) (v := undef) rfl (by kernel_rfl) (by kernel_rfl) (by kernel_rfl) (fun _ _ _ h => h) (Or.inr ⟨by rfl, rfl⟩) hS ?_
          try simp only [Act.put, List.setIfInBounds_toArray, List.set_cons_zero, List.set_cons_succ, List.getElem_toArray, List.getElem_cons_zero, List.getElem_cons_succ]
          refine wpAnyH_take (i := 14) (v := undef) rfl (by kernel_rfl) (by kernel_rfl) (by kernel_rfl) (fun _ _ _ h => h) (Or.inr ⟨by rfl, rfl⟩) hS ?_
          try simp only [Act.put, List.setIfInBounds_toArray, List.set_cons_zero, List.set_cons_succ, List.getElem_toArray, List.getElem_cons_zero, List.getElem_cons_succ]
          refine wpAnyH_take (i := 15) (v := ?_) rfl (by kernel_rfl) (by kernel_rfl) (by kernel_rfl) (fun _ _ _ h => h) (Or.inl ⟨by rfl, ?_⟩) hS ?_
          rotate_left
          · intro w hSw
            try dsimp only at hSw
            go_simp
            try with_reducible rfl
          try simp only [Act.put, List.setIfInBounds_toArray, List.set_cons_zero, List.set_cons_succ, List.getElem_toArray, List.getElem_cons_zero, List.getElem_cons_succ]
          refine wpAnyH_take (i := 16) (v := ?_) rfl (by kernel_rfl) (by kernel_rfl) (by kernel_rfl) (fun _ _ _ h => h) (Or.inl ⟨by rfl, ?_⟩) hS ?_
          rotate_left
          · intro w hSw
            try dsimp only at hSw
            go_simp
            try with_reducible rfl
          try simp only [Act.put, List.setIfInBounds_toArray, List.set_cons_zero, List.set_cons_succ, List.getElem_toArray, List.getElem_cons_zero, List.getElem_cons_succ]
          refine wpAnyH_done (by kernel_rfl) ?_ _
          go_wp2
          go_roundg (l.length - (j + 1))
          case measure => have := J.out; omega
          case rel =>
            refine ⟨j + 1, by have := J.out; omega, by go_num, HN.out.trans (NW.out.trans hnx), fun q hq hqj => ?_⟩
            by_cases e : q < j
            · exact HO.out q hq e
            · obtain rfl : q = j := by omega
              refine ⟨by rw [← HRe.out]; exact HKr.out, fun z hz hzl => ?_⟩
              have := HJ.out; omega
      · obtain ⟨i, hi⟩ : ∃ i, i + 1 = j := ⟨j - 1, by omega⟩
        have HJ := Lib.hid hi
        have hil : i < l.length := by omega
        have g0 : decide (0 < j) = true := by simp; omega
        have gs : IntKind.i64.wrap ((j : Int) - 1) = (i : Int) := by rw [IntWalk.i64_in _ (by have := HR.out.len; unfold maxLen at this; omega)]; omega
        obtain ⟨_, x', ex, hxp⟩ := HR.out.at_ i hil
        cases ex
        have hxp := hxp.new HN.out
        obtain ⟨y, hy⟩ : ∃ y, y = l[i] := ⟨_, rfl⟩
        have HY := Lib.hid hy
        rw [← hy] at hxp
        have qf := fun w => QF w y r
        have hxp := hxp.new NW
        obtain ⟨p0, p1, p2⟩ := hxp
        clear c0j hi hy
        cases hok : okR r with
        | false =>
          rw [hok] at qr
          have HKr := Lib.hid hok
          clear hok
          go_upto_region 4 with fail
          change Code.wp _ _ _ _ (wr.alloc (.cells #[.int .i64 r.f, .int .i64 r.t, .int .u8 (r.p : Int)] 33))
          generalize (wr.alloc (.cells #[.int .i64 r.f, .int .i64 r.t, .int .u8 (r.p : Int)] 33)) = W at *
          generalize wr.heap.size = rb at *
          have NW := Lib.hid NW
          obtain ⟨b0, b1, b2⟩ := BR.three
          clear c0 c1 c2 BR
          go_wp2_with fail
          have kd := (New.refl W).drew
          have hS : (fun w' : World => New W w' ∧ w'.cell? ⟨rb, 0, none⟩ = some (.int .i64 r.f) ∧ w'.cell? ⟨rb, 1, none⟩ = some (.int .i64 r.t) ∧ w'.cell? ⟨rb, 2, none⟩ = some (.int .u8 (r.p : Int))) W.drew := ⟨kd, kd.keeps b0, kd.keeps b1, kd.keeps b2⟩
          refine wp_region_held_drew (S := (fun w' : World => New W w' ∧ w'.cell? ⟨rb, 0, none⟩ = some (.int .i64 r.f) ∧ w'.cell? ⟨rb, 1, none⟩ = some (.int .i64 r.t) ∧ w'.cell? ⟨rb, 2, none⟩ = some (.int .u8 (r.p : Int)))) (by kernel_rfl) hS (fun _ => ?_)
          refine wpAnyH_take (i := 0) (v := ?_) rfl (by kernel_rfl) (by kernel_rfl) (by kernel_rfl) (fun _ _ _ h => h) (Or.inl ⟨by rfl, ?_⟩) hS ?_
          rotate_left
          · intro w hSw
            try dsimp only at hSw
            go_simp
            try with_reducible rfl
          try simp only [Act.put, List.setIfInBounds_toArray, List.set_cons_zero, List.set_cons_succ, List.getElem_toArray, List.getElem_cons_zero]
          refine wpAnyH_ready (rs := [1]) (by kernel_rfl) (by simp) (AllReadyH.cons rfl (fun K hK => ?_) AllReadyH.nil)
          go_simp
          refine (qr _).mono ?_
          rintro e wz ⟨rfl, hny⟩
          have hnx : New W wz := kd.trans hny
          have hS : New W wz ∧ wz.cell? ⟨rb, 0, none⟩ = some (.int .i64 r.f) ∧ wz.cell? ⟨rb, 1, none⟩ = some (.int .i64 r.t) ∧ wz.cell? ⟨rb, 2, none⟩ = some (.int .u8 (r.p : Int)) := ⟨hnx, hnx.keeps b0, hnx.keeps b1, hnx.keeps b2⟩
          refine hK.out _ _ hS (fun _ => ?_)
          clear hK K
          try simp only [Act.put, List.setIfInBounds_toArray, List.set_cons_zero, List.set_cons_succ, List.getElem_toArray, List.getElem_cons_zero, List.getElem_cons_succ]
          refine wpAnyH_take (i := 2) (v := ?_) rfl (by kernel_rfl) (by kernel_rfl) (by kernel_rfl) (fun _ _ _ h => h) (Or.inl ⟨by rfl, ?_⟩) hS ?_
          rotate_left
          · intro w hSw
            try dsimp only at hSw
            go_simp
            try with_reducible rfl
          try simp only [Act.put, List.setIfInBounds_toArray, List.set_cons_zero, List.set_cons_succ, List.getElem_toArray, List.getElem_cons_zero, List.getElem_cons_succ]
          refine wpAnyH_take (i := 3) (v := ?_) rfl (by kernel_rfl) (by kernel_rfl) (by kernel_rfl) (fun _ _ _ h => h) (Or.inl ⟨by rfl, ?_⟩) hS ?_
          rotate_left
          · intro w hSw
            try dsimp only at hSw
            go_simp
            try with_reducible rfl
          try simp only [Act.put, List.setIfInBounds_toArray, List.set_cons_zero, List.set_cons_succ, List.getElem_toArray, List.getElem_cons_zero, List.getElem_cons_succ]
          refine wpAnyH_take (i := 4) (v := undef) rfl (by kernel_rfl) (by kernel_rfl) (by kernel_rfl) (fun _ _ _ h => h) (Or.inr ⟨by rfl, rfl⟩) hS ?_
          try simp only [Act.put, List.setIfInBounds_toArray, List.set_cons_zero, List.set_cons_succ, List.getElem_toArray, List.getElem_cons_zero, List.getElem_cons_succ]
          refine wpAnyH_take (i := 5) (v := undef) rfl (by kernel_rfl) (by kernel_rfl) (by kernel_rfl) (fun _ _ _ h => h) (Or.inr ⟨by rfl, rfl⟩) hS ?_
          try simp only [Act.put, List.setIfInBounds_toArray, List.set_cons_zero, List.set_cons_succ, List.getElem_toArray, List.getElem_cons_zero, List.getElem_cons_succ]
          refine wpAnyH_take (i := 6) (v := undef) rfl (by kernel_rfl) (by kernel_rfl) (by kernel_rfl) (fun _ _ _ h => h) (Or.inr ⟨by rfl, rfl⟩) hS ?_
          try simp only [Act.put, List.setIfInBounds_toArray, List.set_cons_zero, List.set_cons_succ, List.getElem_toArray, List.getElem_cons_zero, List.getElem_cons_succ]
          refine wpAnyH_take (i := 7) (v := undef) rfl (by kernel_rfl) (by kernel_rfl) (by kernel_rfl) (fun _ _ _ h => h) (Or.inr ⟨by rfl, rfl⟩) hS ?_
          try simp only [Act.put, List.setIfInBounds_toArray, List.set_cons_zero, List.set_cons_succ, List.getElem_toArray, List.getElem_cons_zero, List.getElem_cons_succ]
          refine wpAnyH_take (i := 8) (v := undef) rfl (by kernel_rfl) (by kernel_rfl) (by kernel_rfl) (fun _ _ _ h => h) (Or.inr ⟨by rfl, rfl⟩) hS ?_
          try simp only [Act.put, List.setIfInBounds_toArray, List.set_cons_zero, List.set_cons_succ, List.getElem_toArray, List.getElem_cons_zero, List.getElem_cons_succ]
          refine wpAnyH_take (i := 9) (v := undef) rfl (by kernel_rfl) (by kernel_rfl) (by kernel_rfl) (fun _ _ _ h => h) (Or.inr ⟨by rfl, rfl⟩) hS ?_
          try simp only [Act.put, List.setIfInBounds_toArray, List.set_cons_zero, List.set_cons_succ, List.getElem_toArray, List.getElem_cons_zero, List.getElem_cons_succ]
          refine wpAnyH_take (i := 10) (v := undef) rfl (by kernel_rfl) (by kernel_rfl) (by kernel_rfl) (fun _ _ _ h => h) (Or.inr ⟨by rfl, rfl⟩) hS ?_
          try simp only [Act.put, List.setIfInBounds_toArray, List.set_cons_zero, List.set_cons_succ, List.getElem_toArray, List.getElem_cons_zero, List.getElem_cons_succ]
          refine wpAnyH_take (i := 11) (v := undef) rfl (by kernel_rfl) (by kernel_rfl) (by kernel_rfl) (fun _ _ _ h => h) (Or.inr ⟨by rfl, rfl⟩) hS ?_
          try simp only [Act.put, List.setIfInBounds_toArray, List.set_cons_zero, List.set_cons_succ, List.getElem_toArray, List.getElem_cons_zero, List.getElem_cons_succ]
          refine wpAnyH_take (i := 12) (v := undef) rfl (by kernel_rfl) (by kernel_rfl) (by kernel_rfl) (fun _ _ _ h => h) (Or.inr ⟨by rfl, rfl⟩) hS ?_
          try simp only [Act.put, List.setIfInBounds_toArray, List.set_cons_zero, List.set_cons_succ, List.getElem_toArray, List.getElem_cons_zero, List.getElem_cons_succ]
          refine wpAnyH_take (i := 13) (v := undef) rfl (by kernel_rfl) (by kernel_rfl) (by kernel_rfl) (fun _ _ _ h => h) (Or.inr ⟨by rfl, rfl⟩) hS ?_
          try simp only [Act.put, List.setIfInBounds_toArray, List.set_cons_zero, List.set_cons_succ, List.getElem_toArray, List.getElem_cons_zero, List.getElem_cons_succ]
          refine wpAnyH_take (i := 14) (v := undef) rfl (by kernel_rfl) (by kernel_rfl) (by kernel_rfl) (fun _ _ _ h => h) (Or.inr ⟨by rfl, rfl⟩) hS ?_
          try simp only [Act.put, List.setIfInBounds_toArray, List.set_cons_zero, List.set_cons_succ, List.getElem_toArray, List.getElem_cons_zero, List.getElem_cons_succ]
          refine wpAnyH_take (i := 15) (v := undef) rfl (by kernel_rfl) (by kernel_rfl) (by kernel_rfl) (fun _ _ _ h => h) (Or.inr ⟨by rfl, rfl⟩) hS ?_
          try simp only [Act.put, List.setIfInBounds_toArray, List.set_cons_zero, List.set_cons_succ, List.getElem_toArray, List.getElem_cons_zero, List.getElem_cons_succ]
          refine wpAnyH_take (i := 16) (v := ?_) rfl (by kernel_rfl) (by kernel_rfl) (by kernel_rfl) (fun _ _ _ h => h) (Or.inl ⟨by rfl, ?_⟩) hS ?_
          rotate_left
          · intro w hSw
            try dsimp only at hSw
            go_simp
            try with_reducible rfl
          try simp only [Act.put, List.setIfInBounds_toArray, List.set_cons_zero, List.set_cons_succ, List.getElem_toArray, List.getElem_cons_zero, List.getElem_cons_succ]
          refine wpAnyH_done (by kernel_rfl) ?_ _
          go_wp2
          go_ret
          have hno : ¬ ROk l := fun k => by
            have := (RCh.mem k l[j] (List.getElem_mem c))
            rw [← HRe.out, HKr.out] at this
            cases this
          have e22 : erN (chv l) = .iface 59 (.int .i64 22) := by rw [chv_no hno]; rfl
          refine ⟨Eq.trans ?_ (congrArg Ending.returned e22.symm), HN.out.trans (NW.out.trans hnx)⟩
          rfl
        | true =>
          rw [hok] at qr
          have HKr := Lib.hid hok
          clear hok
          cases hfo : folR y r with
          | false =>
            rw [hfo] at qf
            have HKf := Lib.hid hfo
            clear hfo
            go_upto_region 4 with fail
            change Code.wp _ _ _ _ (wr.alloc (.cells #[.int .i64 r.f, .int .i64 r.t, .int .u8 (r.p : Int)] 33))
            generalize (wr.alloc (.cells #[.int .i64 r.f, .int .i64 r.t, .int .u8 (r.p : Int)] 33)) = W at *
            generalize wr.heap.size = rb at *
            have NW := Lib.hid NW
            obtain ⟨b0, b1, b2⟩ := BR.three
            clear c0 c1 c2 BR
            go_wp2_with fail
            go_region_held3 (fun w' => New W w' ∧ w'.cell? ⟨rb, 0, none⟩ = some (.int .i64 r.f) ∧ w'.cell? ⟨rb, 1, none⟩ = some (.int .i64 r.t) ∧ w'.cell? ⟨rb, 2, none⟩ = some (.int .u8 (r.p : Int)) ∧ w'.cell? (x.add (i * 3)) = some (.int .i64 y.f) ∧ w'.cell? ⟨(x.add (i * 3)).block, (x.add (i * 3)).off + 1, none⟩ = some (.int .i64 y.t) ∧ w'.cell? ⟨(x.add (i * 3)).block, (x.add (i * 3)).off + 2, none⟩ = some (.int .u8 (y.p : Int)))
              (first
                | exact ⟨hnx, hnx.keeps b0, hnx.keeps b1, hnx.keeps b2, hnx.keeps p0, hnx.keeps p1, hnx.keeps p2⟩
                | (have hnx := (New.refl W).drew; exact ⟨hnx, hnx.keeps b0, hnx.keeps b1, hnx.keeps b2, hnx.keeps p0, hnx.keeps p1, hnx.keeps p2⟩))
              (first
                | (go_at_call 23; (with_reducible refine (qr _).mono ?_); rintro e wz ⟨rfl, hny⟩; have hnx : New W wz := New.trans (by first | exact hnx | exact (New.refl _).drew | exact New.refl _) hny)
                | (go_at_call 34; (with_reducible refine (qf _).mono ?_); rintro e wz ⟨rfl, hny⟩; have hnx : New W wz := New.trans (by first | exact hnx | exact (New.refl _).drew | exact New.refl _) hny))
            go_wp2
            go_ret
            have hno : ¬ ROk l := fun k => by
              have := ((rch_iff l).1 k j c).2 i HJ.out hil
              rw [← HRe.out, ← HY.out] at this
              have := HKf.out.symm.trans this
              cases this
            have e22 : erN (chv l) = .iface 59 (.int .i64 22) := by rw [chv_no hno]; rfl
            refine ⟨Eq.trans ?_ (congrArg Ending.returned e22.symm), HN.out.trans (NW.out.trans hnx)⟩
            rfl
          | true =>
            rw [hfo] at qf
            have HKf := Lib.hid hfo
            clear hfo
            go_upto_region 4 with fail
            change Code.wp _ _ _ _ (wr.alloc (.cells #[.int .i64 r.f, .int .i64 r.t, .int .u8 (r.p : Int)] 33))
            generalize (wr.alloc (.cells #[.int .i64 r.f, .int .i64 r.t, .int .u8 (r.p : Int)] 33)) = W at *
            generalize wr.heap.size = rb at *
            have NW := Lib.hid NW
            obtain ⟨b0, b1, b2⟩ := BR.three
            clear c0 c1 c2 BR
            go_wp2_with fail
            go_region_held3 (fun w' => New W w' ∧ w'.cell? ⟨rb, 0, none⟩ = some (.int .i64 r.f) ∧ w'.cell? ⟨rb, 1, none⟩ = some (.int .i64 r.t) ∧ w'.cell? ⟨rb, 2, none⟩ = some (.int .u8 (r.p : Int)) ∧ w'.cell? (x.add (i * 3)) = some (.int .i64 y.f) ∧ w'.cell? ⟨(x.add (i * 3)).block, (x.add (i * 3)).off + 1, none⟩ = some (.int .i64 y.t) ∧ w'.cell? ⟨(x.add (i * 3)).block, (x.add (i * 3)).off + 2, none⟩ = some (.int .u8 (y.p : Int)))
              (first
                | exact ⟨hnx, hnx.keeps b0, hnx.keeps b1, hnx.keeps b2, hnx.keeps p0, hnx.keeps p1, hnx.keeps p2⟩
                | (have hnx := (New.refl W).drew; exact ⟨hnx, hnx.keeps b0, hnx.keeps b1, hnx.keeps b2, hnx.keeps p0, hnx.keeps p1, hnx.keeps p2⟩))
              (first
                | (go_at_call 23; (with_reducible refine (qr _).mono ?_); rintro e wz ⟨rfl, hny⟩; have hnx : New W wz := New.trans (by first | exact hnx | exact (New.refl _).drew | exact New.refl _) hny)
                | (go_at_call 34; (with_reducible refine (qf _).mono ?_); rintro e wz ⟨rfl, hny⟩; have hnx : New W wz := New.trans (by first | exact hnx | exact (New.refl _).drew | exact New.refl _) hny))
            go_wp2
            go_roundg (l.length - (j + 1))
            case measure => have := J.out; omega
            case rel =>
              refine ⟨j + 1, by have := J.out; omega, by go_num, HN.out.trans (NW.out.trans hnx), fun q hq hqj => ?_⟩
              by_cases e : q < j
              · exact HO.out q hq e
              · obtain rfl : q = j := by omega
                refine ⟨by rw [← HRe.out]; exact HKr.out, fun z hz hzl => ?_⟩
                obtain rfl : z = i := by have := HJ.out; omega
                rw [← HRe.out, ← HY.out]; exact HKf.out
    · obtain rfl : j = l.length := by omega
      have e0 : erN (chv l) = .nilIface := by rw [chv_ok ((rch_iff l).2 fun i hi => hok i hi hi)]; rfl
      go_wp2
      go_ret
      refine ⟨Eq.trans ?_ (congrArg Ending.returned e0.symm), hn⟩
      rfl
end Go.Proofs.YtfkjgbenjdmedaaDoor
