/- What the package of frames tells of all that are taken: contracts, for any number of frames, in any world, behind which there are only new blocks. -/
import Derived.Test.YtajhlmiobibhjaaDoorFrA
import Derived.Deep.DeepCutAuto
import Derived.Deep.RegionHeld3
import Derived.Deep.CutBlock
namespace Go.Proofs.YtajhlmiobibhjaaDoor
open Go.RowKit
set_option linter.unusedVariables false
/-- a slice of whole numbers that the call made, or nil -/
def Own (base : Nat) (w : World) (v : Value) (l : List Int) : Prop := w.ownsRow base 3 1 v l.length (l.map (Value.int .i64))
/-- a slice of whole numbers that can be read -/
def Ints (w : World) (v : Value) (l : List Int) : Prop :=
  (v = .slice none 0 0 ∧ l = []) ∨ ∃ b cap, v = .slice (some ⟨b, 0, none⟩) l.length cap ∧ l.length ≤ cap ∧ cap ≤ maxLen ∧ b < w.heap.size ∧ ∀ i, i < l.length → w.cell? ⟨b, i, none⟩ = some (.int .i64 (l.getD i 0))
theorem Own.nil (base : Nat) (w : World) : Own base w (.slice none 0 0) [] := ⟨by simp, .inl ⟨rfl, rfl⟩⟩
theorem Own.new {base : Nat} {w w' : World} {v : Value} {l : List Int} (h : Own base w v l) (k : New w w') : Own base w' v l := by
  refine ⟨h.1, ?_⟩
  rcases h.2 with hn | ⟨g, cap, cur, rfl, hb, hg, rest⟩
  · exact .inl hn
  · exact .inr ⟨g, cap, cur, rfl, hb, by rw [k.block (Array.getElem?_eq_some_iff.1 hg).1]; exact hg, rest⟩
theorem Own.more {base base' : Nat} {w : World} {v : Value} {l : List Int} (h : Own base w v l) (k : base' ≤ base) : Own base' w v l := by
  refine ⟨h.1, ?_⟩
  rcases h.2 with hn | ⟨g, cap, cur, rfl, hb, rest⟩
  · exact .inl hn
  · exact .inr ⟨g, cap, cur, rfl, by omega, rest⟩
theorem Own.ints {base : Nat} {w : World} {v : Value} {l : List Int} (h : Own base w v l) : Ints w v l := by
  rcases h.2 with ⟨rfl, hn⟩ | ⟨g, cap, cur, rfl, hb, hg, h1, h2, h3, h4⟩
  · exact .inl ⟨rfl, by simpa using hn⟩
  · refine .inr ⟨g, cap, rfl, h1, h2, (Array.getElem?_eq_some_iff.1 hg).1, fun i hi => ?_⟩
    have e : (cur.toList.take (l.length * 1))[i]? = some (.int .i64 (l.getD i 0)) := by
      rw [h4, List.getElem?_map, List.getElem?_eq_getElem hi, List.getD_eq_getElem?_getD, List.getElem?_eq_getElem hi]; rfl
    rw [List.getElem?_take] at e
    split at e
    · simpa [World.cell?, hg] using e
    · cases e
theorem Ints.new {w w' : World} {v : Value} {l : List Int} (h : Ints w v l) (k : New w w') : Ints w' v l := by
  rcases h with h | ⟨b, cap, h1, h2, h3, h4, h5⟩
  · exact .inl h
  · exact .inr ⟨b, cap, h1, h2, h3, Nat.lt_of_lt_of_le h4 k.size, fun i hi => by rw [k.cell h4]; exact h5 i hi⟩
theorem Ints.len {w : World} {v : Value} {l : List Int} (h : Ints w v l) : ∃ p cap, v = .slice p l.length cap := by
  rcases h with ⟨rfl, rfl⟩ | ⟨b, cap, rfl, _⟩
  · exact ⟨_, _, rfl⟩
  · exact ⟨_, _, rfl⟩
theorem Own.push {base : Nat} {w0 wr w1 : World} {v v' : Value} {l : List Int} {n : Int} {o : Obj} (hnx : New w0 wr) (hb : base = w0.heap.size)
    (hown : Own base wr v l) (hown' : w1.ownsRow base 3 1 v' (l.length + 1) (l.map (Value.int .i64) ++ [.int .i64 n])) (hgrow : (wr.alloc o).grownBy w1 v.ownBlock) : Own base w1 v' (l ++ [n]) ∧ New w0 w1 := by
  subst hb
  refine ⟨?_, (hnx.allocO o).grown hgrow fun k hk => (World.ownsRow.lt hown k hk).1⟩
  unfold Own; simpa using hown'
/-- a list, and only new blocks -/
def Lists (l : List Int) (w : World) (e : Ending) (w' : World) : Prop := ∃ v, e = .returned v ∧ Own w.heap.size w' v l ∧ New w w'
set_option maxHeartbeats 1000000 in
theorem taken_any (w : World) {fb rb : Nat} {rs : List Int} (h : Fr w fb rb rs) :
    Calls Tryd.prog 22 #[.pointer (some ⟨fb, 0, none⟩)] w (Lists (tk rs rs.length) w) := by
  obtain ⟨i0, hi, hz0, hz1, hz2⟩ := info_parts int_info
  have hh := h.head
  have hb := h.1.2.1
  have HF := Lib.hid h
  clear h
  go_enter Tryd.func22, Tryd.ntmps22
  go_wp2
  go_loopg [3, 13] rs.length (fun k l i wr => ∃ j : Nat, j + k = rs.length ∧ i = .int .i64 (j : Int) ∧ Own w.heap.size wr l (tk rs j) ∧ New w wr)
  case atStart => exact ⟨0, by omega, rfl, Own.nil _ _, New.refl _⟩
  case round =>
    obtain ⟨j, hj, rfl, hown, hnx⟩ := hrel
    have hl := tk_len rs j
    by_cases c : j < rs.length
    · obtain ⟨hc, _⟩ := (HF.out.new hnx).cell j c
      by_cases d : 0 < rs.getD j 0
      · have P := Lib.hid (tk_push rs j d)
        have J := Lib.hid hj
        clear hj
        generalize rs.getD j 0 = x at *
        go_wp2_with (at_builtin; refine wpList_append_own _ rfl _ _ 33 rfl w.heap.size 3 i0 (.int .i64 0) 1 8 Tryd.underlying33 hi hz0 hz1 hz2 rfl (by decide) _ _ _ rfl (World.ownsRow.alloc hown _) ⟨wr.heap.size, 0, none⟩ 1 1 [.int .i64 (j : Int)] rfl rfl ?c1 ?c2 ?c3 ?c4 ?c5 ?_)
        try (case c1 => intro i u hu; rcases i with _ | i <;> simp at hu; subst hu; exact (World.cell?_alloc_at _ _ _ _ rfl).trans rfl)
        case c2 => first | rfl | (intro u hu; simp at hu; subst hu; rfl)
        case c3 => unfold maxLen; omega
        case c4 => omega
        case c5 => have := hnx.size; simp; omega
        intro v' w1 hown' hgrow _
        obtain ⟨o', hnx'⟩ := Own.push hnx rfl hown hown' hgrow
        rw [← P.out] at o'
        clear hown' hgrow hown hnx hc
        go_wp2
        go_roundg (rs.length - (j + 1))
        case measure => have := J.out; omega
        case rel => exact ⟨j + 1, by have := J.out; omega, by go_num, o', hnx'⟩
      · have P := Lib.hid (tk_skip rs j d)
        have J := Lib.hid hj
        clear hj
        rw [← P.out] at hown
        generalize rs.getD j 0 = x at *
        go_wp2
        go_roundg (rs.length - (j + 1))
        case measure => have := J.out; omega
        case rel => exact ⟨j + 1, by have := J.out; omega, by go_num, hown, hnx⟩
    · have hjl : j = rs.length := by omega
      clear hj c
      subst hjl
      go_wp2
      go_ret
      exact ⟨_, rfl, hown, hnx⟩
theorem taken_nil (w : World) :
    Calls Tryd.prog 22 #[.pointer none] w fun e w' => e = .returned (.slice none 0 0) ∧ w = w' := by
  go_enter Tryd.func22, Tryd.ntmps22
  go_wp2
  go_ret
  exact ⟨rfl, rfl⟩
theorem free_nil (w : World) :
    Calls Tryd.prog 37 #[.pointer none] w fun e w' => e = .returned (.int .i64 0) ∧ w = w' := by
  go_enter Tryd.func37, Tryd.ntmps37
  go_wp2
  go_ret
  exact ⟨rfl, rfl⟩
/-- a number, and only new blocks -/
def IntN (n : Int) (w : World) (e : Ending) (w' : World) : Prop := e = .returned (.int .i64 n) ∧ New w w'
/-- a slice of so many, and only new blocks -/
def LenN (k : Nat) (w : World) (e : Ending) (w' : World) : Prop := ∃ p cap, e = .returned (.slice p k cap) ∧ New w w'
theorem taken_len (w : World) {fb rb : Nat} {rs : List Int} (h : Fr w fb rb rs) :
    Calls Tryd.prog 22 #[.pointer (some ⟨fb, 0, none⟩)] w (LenN (tk rs rs.length).length w) := by
  refine (taken_any w h).mono ?_
  rintro e w1 ⟨v, rfl, hown, hnx⟩
  obtain ⟨p, cap, rfl⟩ := hown.ints.len
  exact ⟨p, cap, rfl, hnx⟩
set_option maxHeartbeats 1000000 in
theorem free_any (w : World) {fb rb : Nat} {rs : List Int} (h : Fr w fb rb rs) :
    Calls Tryd.prog 37 #[.pointer (some ⟨fb, 0, none⟩)] w (IntN (rs.length - (tk rs rs.length).length) w) := by
  have hh := h.head
  have hb := h.1.2.1
  have hl := tk_len rs rs.length
  have hlt := h.lt.1
  go_enter Tryd.func37, Tryd.ntmps37
  go_wp2
  go_region_held3 (fun w' => w'.cell? ⟨fb, 0, none⟩ = some (.slice (some ⟨rb, 0, none⟩) rs.length rs.length))
    (first | go_keep | (rw [hnx.cell (p := ⟨fb, 0, none⟩) (by simp; omega)]; simpa using hh))
    (first | (go_at_call 22; (refine (taken_len _ (h.new (by first | exact New.refl _ | exact (New.refl _).drew | exact (New.refl _).drewN _))).mono ?_); rintro e w1 ⟨p, cap, rfl, hnx⟩))
  go_wp2
  go_ret
  exact ⟨ret_int (by rw [IntKind.wrap_i64]; omega), by first | exact hnx | exact (((New.refl w).drew).trans hnx)⟩
end Go.Proofs.YtajhlmiobibhjaaDoor
