/- A slice of bytes that a call made: its row opened, bytes laid into it in place; the number of some of its bytes. -/
import Derived.Test.YtbkhmeongekdiaaByts
import Derived.Test.YtbkhmeongekdiaaCpMath
import Derived.Test.YtbkhmeongekdiaaRgL
import Derived.Test.YtbkhmeongekdiaaWhole
import Derived.Test.YtbkhmeongekdiaaBut
import Derived.Test.YtbkhmeongekdiaaWordJ
import Derived.Test.YtbkhmeongekdiaaNum
import Derived.Test.YtbkhmeongekdiaaIsC
import Derived.Defers
import Derived.Recover
import Derived.Test.YtbkhmeongekdiaaAlB
import Derived.Deep.RegionHeld3
import Derived.RegionTactic
namespace Go.Proofs.Ytbkhmeongekdiaa
open Go.RowKit Go.Joins
set_option linter.unusedVariables false
set_option maxRecDepth 100000
/-- the row of a slice of bytes that is not empty -/
def RowB (w : World) (g cap : Nat) (cur : List Value) (L : List Int) : Prop :=
  w.heap[g]? = some (.cells cur.toArray 5 (0, 0)) ∧ L.length ≤ cap ∧ cap ≤ maxLen ∧ cur.length = cap ∧ cur.take L.length = cells8 L
theorem OwnB.row {base : Nat} {w : World} {v : Value} {L : List Int} (h : OwnB base w v L) (hn : 0 < L.length) : ∃ g cap cur, v = .slice (some ⟨g, 0, none⟩) L.length cap ∧ base ≤ g ∧ RowB w g cap cur L := by
  rcases h.2 with ⟨rfl, h0⟩ | ⟨g, cap, cur, rfl, hb, hg, h1, h2, h3, h4⟩
  · omega
  · refine ⟨g, cap, cur.toList, rfl, hb, by simpa using hg, h1, h2, by simpa using h3, ?_⟩
    rw [Nat.mul_one] at h4; exact h4
theorem RowB.own {w : World} {g cap base : Nat} {cur : List Value} {L : List Int} (h : RowB w g cap cur L) (hb : base ≤ g) : OwnB base w (.slice (some ⟨g, 0, none⟩) L.length cap) L :=
  ⟨by rw [cells8_len, Nat.mul_one], .inr ⟨g, cap, cur.toArray, rfl, hb, h.1, h.2.1, h.2.2.1, by simpa using h.2.2.2.1, by rw [Nat.mul_one]; simpa using h.2.2.2.2⟩⟩
section
variable {w w' : World} {g cap : Nat} {cur : List Value} {L : List Int}
theorem RowB.cell (h : RowB w g cap cur L) (i : Nat) (hi : i < L.length) : w.cell? ⟨g, i, none⟩ = some (.int .u8 (L.getD i 0)) := by
  have e : (cur.take L.length)[i]? = some (.int .u8 (L.getD i 0)) := by
    rw [h.2.2.2.2, cells8, List.getElem?_map, List.getElem?_eq_getElem hi, getD_eq L i hi]; rfl
  rw [List.getElem?_take, if_pos hi] at e
  rw [cell_of_row w g i _ _ _ h.1, List.getElem?_toArray]; exact e
theorem RowB.unfrozen (h : RowB w g cap cur L) (i : Nat) : w.frozen? ⟨g, i, none⟩ = false := by simp [World.frozen?, h.1]
theorem RowB.lt (h : RowB w g cap cur L) : g < w.heap.size := (Array.getElem?_eq_some_iff.1 h.1).1
/-- bytes laid in place -/
theorem RowB.put (h : RowB w g cap cur L) (p : Nat) (b : List Int) (hp : p + b.length ≤ L.length) : RowB (w.setCells g p (cells8 b)) g cap (splice cur p (cells8 b)) (splice L p b) ∧ Far g w (w.setCells g p (cells8 b)) := by
  obtain ⟨h1, h2, h3, h4, h5⟩ := h
  have hl : (cells8 b).length = b.length := cells8_len b
  obtain ⟨r1, r2⟩ := setCells_row (cells8 b) p cur w h1 (by omega)
  refine ⟨⟨r1, by rw [splice_len L p b hp]; exact h2, h3, ?_, ?_⟩, r2⟩
  · unfold splice; rw [List.length_append, List.length_append, List.length_take, List.length_drop]; omega
  · rw [splice_len L p b hp, cells8_splice, ← h5]
    apply List.ext_getElem?
    intro j
    rw [List.getElem?_take, rsplice_get (by omega), rsplice_get (by rw [List.length_take]; omega), List.getElem?_take]
    by_cases hj : j < L.length
    · simp only [if_pos hj]
    · simp only [if_neg hj]; rw [if_neg (by omega)]
end
theorem bsn_1 (v : Int) : cells8 (bsn v 1) = [.int .u8 (v % 256)] := rfl
theorem bsn_4 (v : Int) : cells8 (bsn v 4) = [.int .u8 (v % 256), .int .u8 (v / 256 % 256), .int .u8 (v / 65536 % 256), .int .u8 (v / 16777216)] := rfl
theorem gtn_1 (L : List Int) (p : Nat) (h : hsn L p 1) : gtn L p 1 = L.getD p 0 := by
  unfold hsn at h
  show ldv 1 (cut L p 1) = _
  unfold ldv
  rw [if_pos rfl, cut_get L p 1 0 (by omega) (by omega)]; rfl
theorem gtn_4 (L : List Int) (p : Nat) (h : hsn L p 4) : gtn L p 4 = L.getD p 0 + 256 * L.getD (p + 1) 0 + 65536 * L.getD (p + 2) 0 + 16777216 * L.getD (p + 3) 0 := by
  unfold hsn at h
  show ldv 4 (cut L p 4) = _
  unfold ldv
  rw [if_neg (by omega), if_neg (by omega), if_pos rfl, cut_get L p 4 0 (by omega) (by omega), cut_get L p 4 1 (by omega) (by omega), cut_get L p 4 2 (by omega) (by omega), cut_get L p 4 3 (by omega) (by omega)]; rfl
end Go.Proofs.Ytbkhmeongekdiaa
namespace Go.Proofs.Ytbkhmeongekdiaa
open Go.RowKit Go.Joins
set_option linter.unusedVariables false
set_option maxRecDepth 100000
/-- a board in memory: its struct is block db, its bytes are v's -/
def Bd (w : World) (db : Nat) (v : Value) (L : List Int) (a s : Int) : Prop := Box w db #[v, .int .i64 a, .int .i64 s] 33 ∧ OwnB (db + 1) w v L ∧ Oct L ∧ L.length ≤ 1000
/-- the board's blocks -/
def SB (db : Nat) (v : Value) (k : Nat) : Prop := k = db ∨ v.ownBlock = some k
theorem OwnB.off {base : Nat} {S : Nat → Prop} {w w' : World} {v : Value} {L : List Int} (h : OwnB base w v L) (k : But S w w') (hn : ∀ i, base ≤ i → i < w.heap.size → ¬ S i) : OwnB base w' v L := by
  refine ⟨h.1, ?_⟩
  rcases h.2 with h0 | ⟨g, cap, cur, rfl, hb, hg, rest⟩
  · exact .inl h0
  · have hl := (Array.getElem?_eq_some_iff.1 hg).1
    exact .inr ⟨g, cap, cur, rfl, hb, by rw [k.block hl (hn g hb hl)]; exact hg, rest⟩
theorem RowB.far {rb : Nat} {w w' : World} {g cap : Nat} {cur : List Value} {L : List Int} (h : RowB w g cap cur L) (k : Far rb w w') (hr : g ≠ rb) : RowB w' g cap cur L :=
  ⟨by rw [k.block h.lt hr]; exact h.1, h.2⟩
section
variable {w w' : World} {db : Nat} {v : Value} {L : List Int} {a s : Int}
theorem Bd.off {S : Nat → Prop} (h : Bd w db v L a s) (k : But S w w') (hn : ∀ i, db ≤ i → i < w.heap.size → ¬ S i) : Bd w' db v L a s := ⟨h.1.but k (hn db (Nat.le_refl _) h.1.lt), h.2.1.off k fun i hi => hn i (by omega), h.2.2⟩
theorem Bd.fetch (h : Bd w db v L a s) (a' : Int) : Bd (w.setCell ⟨db, 1, none⟩ (.int .i64 a')) db v L a' s := ⟨h.1.set 1 _, h.2.1.far (Far.set w db 1 _) (by omega), h.2.2⟩
theorem Bd.store (h : Bd w db v L a s) (s' : Int) : Bd (w.setCell ⟨db, 2, none⟩ (.int .i64 s')) db v L a s' := ⟨h.1.set 2 _, h.2.1.far (Far.set w db 2 _) (by omega), h.2.2⟩
theorem Bd.put {g cap : Nat} {cur : List Value} (h : Bd w db (.slice (some ⟨g, 0, none⟩) L.length cap) L a s) (hr : RowB w g cap cur L) (hb : db + 1 ≤ g) (p : Nat) (b : List Int) (hp : p + b.length ≤ L.length) (ho : Oct b) (s' : Int) :
    Bd ((w.setCell ⟨db, 2, none⟩ (.int .i64 s')).setCells g p (cells8 b)) db (.slice (some ⟨g, 0, none⟩) L.length cap) (splice L p b) a s' ∧
      But (SB db (.slice (some ⟨g, 0, none⟩) L.length cap)) w ((w.setCell ⟨db, 2, none⟩ (.int .i64 s')).setCells g p (cells8 b)) := by
  have h1 := h.store s'
  have hf := Far.set w db 2 (.int .i64 s')
  have hr1 := hr.far hf (by omega)
  obtain ⟨r1, r2⟩ := hr1.put p b hp
  have hl := splice_len L p b hp
  have o1 := r1.own hb
  rw [hl] at o1
  refine ⟨⟨h1.1.but (S := fun k => k = g) (But.of_far r2 rfl) (fun e => by omega), o1, h.2.2.1.splice ho _, by rw [hl]; exact h.2.2.2⟩, (But.of_far hf (.inl rfl)).trans (But.of_far r2 (.inr rfl))⟩
theorem Bd.new (h : Bd w db v L a s) (k : New w w') : Bd w' db v L a s := ⟨h.1.new k, h.2.1.new k, h.2.2⟩
theorem bload_no (h : Bd w db v L a s) (p : Int) (n : Nat) (hn : n = 1 ∨ n = 4) (hp : 0 ≤ p) (hp1 : p ≤ 4294967295) (hh : ¬ hsn L p n) :
    Calls Try.prog 83 #[.pointer (some ⟨db, 0, none⟩), .int .u32 p, .int .i64 n] w fun e w' => e = .returned (.tuple #[.int .u32 0, .iface 64 (.int .i64 14)]) ∧ New w w' := by
  obtain ⟨q, cap, rfl⟩ := h.2.1.shape
  have c0 := h.1.three.1
  have hl := h.2.2.2
  unfold hsn at hh
  have hg : (L.length : Int) < p + n := by omega
  clear h hh
  rcases hn with rfl | rfl
  all_goals
    go_enter Try.func83, Try.ntmps83
    go_wp2
    go_ret2
    exact ⟨rfl, by first | exact New.refl _ | exact (New.refl _).drew | exact New.drewN (New.refl _) _⟩
theorem bload_4 (h : Bd w db v L a s) (p : Nat) (hp1 : p ≤ 4294967295) (hh : hsn L p 4) :
    Calls Try.prog 83 #[.pointer (some ⟨db, 0, none⟩), .int .u32 p, .int .i64 4] w fun e w' => e = .returned (.tuple #[.int .u32 (gtn L p 4), .nilIface]) ∧ New w w' := by
  have e0 := gtn_4 L p hh
  unfold hsn at hh
  obtain ⟨g, cap, cur, rfl, hb, hr⟩ := h.2.1.row (by omega)
  have c0 := h.1.three.1
  have hl := h.2.2.2
  have d0 := hr.cell p (by omega)
  have d1 := hr.cell (p + 1) (by omega)
  have d2 := hr.cell (p + 2) (by omega)
  have d3 := hr.cell (p + 3) (by omega)
  have b0 := oct_get h.2.2.1 p
  have b1 := oct_get h.2.2.1 (p + 1)
  have b2 := oct_get h.2.2.1 (p + 2)
  have b3 := oct_get h.2.2.1 (p + 3)
  have E := Lib.hid e0
  clear h hr e0
  generalize L.getD p 0 = x0 at *
  generalize L.getD (p + 1) 0 = x1 at *
  generalize L.getD (p + 2) 0 = x2 at *
  generalize L.getD (p + 3) 0 = x3 at *
  generalize L.length = n at *
  go_enter Try.func83, Try.ntmps83
  go_wp2
  go_rounds 5
  go_ret2
  exact ⟨ret_iv (by rw [E.out]; omega), by first | exact New.refl _ | exact (New.refl _).drew | exact New.drewN (New.refl _) _⟩
theorem bload_1 (h : Bd w db v L a s) (p : Nat) (hp1 : p ≤ 4294967295) (hh : hsn L p 1) :
    Calls Try.prog 83 #[.pointer (some ⟨db, 0, none⟩), .int .u32 p, .int .i64 1] w fun e w' => e = .returned (.tuple #[.int .u32 (gtn L p 1), .nilIface]) ∧ New w w' := by
  have e0 := gtn_1 L p hh
  unfold hsn at hh
  obtain ⟨g, cap, cur, rfl, hb, hr⟩ := h.2.1.row (by omega)
  have c0 := h.1.three.1
  have hl := h.2.2.2
  have d0 := hr.cell p (by omega)
  have b0 := oct_get h.2.2.1 p
  have E := Lib.hid e0
  clear h hr e0
  generalize L.getD p 0 = x0 at *
  generalize L.length = n at *
  go_enter Try.func83, Try.ntmps83
  go_wp2
  go_rounds 2
  go_ret2
  exact ⟨ret_iv (by rw [E.out]), by first | exact New.refl _ | exact (New.refl _).drew | exact New.drewN (New.refl _) _⟩
theorem bstore_no (h : Bd w db v L a s) (p x : Int) (n : Nat) (hn : n = 1 ∨ n = 4) (hp : 0 ≤ p) (hp1 : p ≤ 4294967295) (hh : ¬ hsn L p n) :
    Calls Try.prog 84 #[.pointer (some ⟨db, 0, none⟩), .int .u32 p, .int .i64 n, .int .u32 x] w fun e w' => e = .returned (.iface 64 (.int .i64 14)) ∧ New w w' := by
  obtain ⟨q, cap, rfl⟩ := h.2.1.shape
  have c0 := h.1.three.1
  have hl := h.2.2.2
  unfold hsn at hh
  have hg : (L.length : Int) < p + n := by omega
  clear h hh
  rcases hn with rfl | rfl
  all_goals
    go_enter Try.func84, Try.ntmps84
    go_wp2
    go_ret
    exact ⟨rfl, by first | exact New.refl _ | exact (New.refl _).drew | exact New.drewN (New.refl _) _⟩
theorem bstore_4 (h : Bd w db v L a s) (p : Nat) (hp1 : p ≤ 4294967295) (hh : hsn L p 4) (x : Int) (x0 : 0 ≤ x) (x1 : x ≤ 4294967295) :
    Calls Try.prog 84 #[.pointer (some ⟨db, 0, none⟩), .int .u32 p, .int .i64 4, .int .u32 x] w fun e w' => e = .returned .nilIface ∧ Bd w' db v (ptn L p 4 x) a (wrap64 (s + 1)) ∧ But (SB db v) w w' := by
  unfold hsn at hh
  obtain ⟨g, cap, cur, rfl, hb, hr⟩ := h.2.1.row (by omega)
  have hpost := Lib.hid (h.put hr hb p (bsn x 4) (by rw [bsn_len x 4 (.inr rfl)]; omega) (bsn_oct x 4 x0 x1) (wrap64 (s + 1)))
  have c0 := h.1.three.1
  have c2 := h.1.three.2.2
  have hl := h.2.2.2
  have f2 := h.1.unfrozen 2
  have d0 := hr.cell p (by omega)
  have d1 := hr.cell (p + 1) (by omega)
  have d2 := hr.cell (p + 2) (by omega)
  have d3 := hr.cell (p + 3) (by omega)
  have u0 := hr.unfrozen p
  have u1 := hr.unfrozen (p + 1)
  have u2 := hr.unfrozen (p + 2)
  have u3 := hr.unfrozen (p + 3)
  have ne : g ≠ db := by omega
  have ne2 : db ≠ g := by omega
  have e2 : x / 256 / 256 = x / 65536 := by omega
  have e3 : x / 256 / 256 / 256 % 256 = x / 16777216 := by omega
  have E2 := Lib.hid e2
  have E3 := Lib.hid e3
  clear h hr hb e2 e3
  obtain ⟨P, hP⟩ : ∃ P, ptn L (p : Int) 4 x = P := ⟨_, rfl⟩
  have hP' : splice L p (bsn x 4) = P := hP
  rw [hP'] at hpost
  rw [hP]
  clear hP hP'
  generalize L.length = n at *
  go_enter Try.func84, Try.ntmps84
  go_wp2
  go_rounds 5
  go_ret
  rw [E3.out, E2.out]
  exact ⟨rfl, hpost.out⟩
theorem bstore_1 (h : Bd w db v L a s) (p : Nat) (hp1 : p ≤ 4294967295) (hh : hsn L p 1) (x : Int) (x0 : 0 ≤ x) (x1 : x ≤ 4294967295) :
    Calls Try.prog 84 #[.pointer (some ⟨db, 0, none⟩), .int .u32 p, .int .i64 1, .int .u32 x] w fun e w' => e = .returned .nilIface ∧ Bd w' db v (ptn L p 1 x) a (wrap64 (s + 1)) ∧ But (SB db v) w w' := by
  unfold hsn at hh
  obtain ⟨g, cap, cur, rfl, hb, hr⟩ := h.2.1.row (by omega)
  have hpost := Lib.hid (h.put hr hb p (bsn x 1) (by rw [bsn_len x 1 (.inl rfl)]; omega) (bsn_oct x 1 x0 x1) (wrap64 (s + 1)))
  have c0 := h.1.three.1
  have c2 := h.1.three.2.2
  have hl := h.2.2.2
  have f2 := h.1.unfrozen 2
  have d0 := hr.cell p (by omega)
  have u0 := hr.unfrozen p
  have ne : g ≠ db := by omega
  have ne2 : db ≠ g := by omega
  clear h hr hb
  obtain ⟨P, hP⟩ : ∃ P, ptn L (p : Int) 1 x = P := ⟨_, rfl⟩
  have hP' : splice L p (bsn x 1) = P := hP
  rw [hP'] at hpost
  rw [hP]
  clear hP hP'
  generalize L.length = n at *
  go_enter Try.func84, Try.ntmps84
  go_wp2
  go_rounds 2
  go_ret
  exact ⟨rfl, hpost.out⟩
theorem bfetch_no (h : Bd w db v L a s) (p : Int) (hp : 0 ≤ p) (hp1 : p ≤ 4294967295) (hh : ¬ hsn L p 4) :
    Calls Try.prog 82 #[.pointer (some ⟨db, 0, none⟩), .int .u32 p] w fun e w' => e = .returned (.tuple #[.int .u32 0, .iface 64 (.int .i64 14)]) ∧ Bd w' db v L (wrap64 (a + 1)) s ∧ But (SB db v) w w' := by
  have h1 := h.fetch (wrap64 (a + 1))
  have q := bload_no h1 p 4 (.inr rfl) hp hp1 hh
  have hk : But (SB db v) w (w.setCell ⟨db, 1, none⟩ (.int .i64 (wrap64 (a + 1)))) := But.set w (.inl rfl) _
  have c1 := h.1.three.2.1
  have f1 := h.1.unfrozen 1
  clear h hh
  go_enter Try.func82, Try.ntmps82
  go_wp2_with fail
  refine q.mono ?_
  rintro e w' ⟨rfl, n1⟩
  go_wp2
  go_ret2
  exact ⟨rfl, h1.new n1, hk.trans (But.of_new _ n1)⟩
theorem bfetch_ok (h : Bd w db v L a s) (p : Nat) (hp1 : p ≤ 4294967295) (hh : hsn L p 4) :
    Calls Try.prog 82 #[.pointer (some ⟨db, 0, none⟩), .int .u32 p] w fun e w' => e = .returned (.tuple #[.int .u32 (gtn L p 4), .nilIface]) ∧ Bd w' db v L (wrap64 (a + 1)) s ∧ But (SB db v) w w' := by
  have h1 := h.fetch (wrap64 (a + 1))
  have q := bload_4 h1 p hp1 hh
  have hk : But (SB db v) w (w.setCell ⟨db, 1, none⟩ (.int .i64 (wrap64 (a + 1)))) := But.set w (.inl rfl) _
  have c1 := h.1.three.2.1
  have f1 := h.1.unfrozen 1
  clear h hh
  generalize gtn L (p : Int) 4 = G at *
  go_enter Try.func82, Try.ntmps82
  go_wp2_with fail
  refine q.mono ?_
  rintro e w' ⟨rfl, n1⟩
  go_wp2
  go_ret2
  exact ⟨rfl, h1.new n1, hk.trans (But.of_new _ n1)⟩
end
end Go.Proofs.Ytbkhmeongekdiaa
namespace Go.Proofs.Ytbkhmeongekdiaa
open Go.RowKit
set_option linter.unusedVariables false
def cc (B : Value) (x f : Nat → Int) (q : Int) : List Value := B :: (rc x f ++ [.int .u32 q])
section
variable {B : Value} {x f : Nat → Int} {q : Int}
theorem cc_len (B : Value) (x f : Nat → Int) (q : Int) : (cc B x f q).length = 24 := by simp [cc, rc_len]
theorem cc_b : (cc B x f q)[0]? = some B := rfl
theorem cc_r (i : Nat) (h : i < 22) : (cc B x f q)[1 + i]? = (rc x f)[i]? := by
  unfold cc
  rw [Nat.add_comm, List.getElem?_cons_succ, List.getElem?_append_left (by rw [rc_len]; exact h)]
theorem cc_x (i : Nat) (h : i < 18) : (cc B x f q)[1 + i]? = some (.int .u32 (x i)) := by rw [cc_r i (by omega), rc_x x f h]
theorem cc_f (k : Nat) (h : k < 4) : (cc B x f q)[19 + k]? = some (.int .u64 (f k)) := by rw [show 19 + k = 1 + (18 + k) by omega, cc_r _ (by omega), rc_f x f h]
theorem cc_q : (cc B x f q)[23]? = some (.int .u32 q) := by
  unfold cc
  rw [List.getElem?_cons_succ, List.getElem?_append_right (by rw [rc_len]; omega), rc_len]; rfl
theorem cc_set_r (i : Nat) (v : Value) (h : i < 22) : (cc B x f q).set (1 + i) v = B :: ((rc x f).set i v ++ [.int .u32 q]) := by
  unfold cc
  rw [Nat.add_comm, List.set_cons_succ, List.set_append_left _ _ (by rw [rc_len]; exact h)]
theorem cc_set_x (i : Nat) (v : Int) (h : i < 18) : (cc B x f q).set (1 + i) (.int .u32 v) = cc B (upd x i v) f q := by rw [cc_set_r i _ (by omega), rc_set_x x f i v h]; rfl
theorem cc_set_f (k : Nat) (v : Int) (h : k < 4) : (cc B x f q).set (19 + k) (.int .u64 v) = cc B x (upd f k v) q := by
  rw [show 19 + k = 1 + (18 + k) by omega, cc_set_r _ _ (by omega), rc_set_f x f k v h]; rfl
theorem cc_set_q (v : Int) : (cc B x f q).set 23 (.int .u32 v) = cc B x f v := by
  unfold cc
  rw [List.set_cons_succ, List.set_append_right _ _ (by rw [rc_len]; omega), rc_len]; rfl
theorem cc_regs : ((cc B x f q).drop 1).take 22 = rc x f := by
  unfold cc
  rw [List.drop_succ_cons, List.drop_zero, List.take_append_of_le_length (by rw [rc_len]; omega), List.take_of_length_le (by rw [rc_len]; omega)]
end
end Go.Proofs.Ytbkhmeongekdiaa
namespace Go.Proofs.Ytbkhmeongekdiaa
open Go.RowKit Go.Joins Go.Extern.Stop Go.Stop Go.Extern
set_option linter.unusedVariables false
set_option maxRecDepth 100000
theorem is_typeOf (v : Value) (w : World) : (ReflectliteType.typeOf #[.iface 64 v]).run Try.prog w = .ok (.iface 125 (.agg #[.pointer (some ⟨1, 64, none⟩)])) w := by kernel_rfl
/-- what stands in for a type's Comparable -/
def cmpM : Array Value → Sem Value := ReflectliteType.method fun t => do Rtype.noPackHeld "Comparable" t; pure (.bool (← typeInfo t).comparable)
theorem is_comparable (w : World) : (cmpM #[.agg #[.pointer (some ⟨1, 64, none⟩)]]).run Try.prog w = .ok (.bool true) w := by kernel_rfl
theorem is_method (h : Value) (w : World) : (Go.method 268 125 (.agg #[h]) "Comparable").run Try.prog w = .ok (89, .agg #[h]) w := by kernel_rfl
theorem is_equal (w : World) : (binOp .eql 57 (.iface 64 (.int .i64 14)) (.iface 64 (.int .i64 14))).run Try.prog w = .ok (.bool true) w := by kernel_rfl
set_option maxHeartbeats 1000000 in
theorem is_fault (w : World) : Calls Try.prog 37 #[.iface 64 (.int .i64 14), .iface 64 (.int .i64 14)] w fun e w' => e = .returned (.bool true) ∧ w = w' := by
  have h8 := @run_callFunc_extern Try.prog 53 _ ReflectliteType.typeOf Try.func53 (by kernel_rfl) (by kernel_rfl) (by kernel_rfl) (by kernel_rfl)
  have h32 := @run_callFunc_extern Try.prog 89 _ cmpM Try.func89 (by kernel_rfl) (by kernel_rfl) (by kernel_rfl) (by kernel_rfl)
  have tT := is_typeOf
  have cT := is_comparable
  have mR := is_method
  have heq := is_equal
  go_enter Try.func37, Try.ntmps37
  go_wp2
  refine wp_loop_rounds 1 ?_
  rw [rounds_succ]
  go_wp2
  go_ret
  exact ⟨rfl, rfl⟩
theorem align_ok (p by' : Int) (w : World) (h0 : 0 ≤ p) (hb : by' = 4 ∨ by' = 8) (h : p % by' = 0) : Calls Try.prog 25 #[.int .u32 p, .int .u32 by'] w fun e w' => e = .returned (.tuple #[]) ∧ w = w' := by
  rcases hb with rfl | rfl
  all_goals
    go_enter Try.func25, Try.ntmps25
    go_wp2
    go_end0
    exact ⟨rfl, rfl⟩
theorem align_no (p by' : Int) (w : World) (h0 : 0 ≤ p) (hb : by' = 4 ∨ by' = 8) (h : p % by' ≠ 0) : Calls Try.prog 25 #[.int .u32 p, .int .u32 by'] w fun e w' => e = .panicked [{ v := .iface 69 (.int .u32 p), recovered := false }] ∧ w = w' := by
  rcases hb with rfl | rfl
  all_goals
    go_enter Try.func25, Try.ntmps25
    go_wp2
    exact ⟨rfl, rfl, rfl⟩
theorem allow_nil (w : World) : Calls Try.prog 26 #[.nilIface] w fun e w' => e = .returned (.tuple #[]) ∧ w = w' := by
  go_enter Try.func26, Try.ntmps26
  go_wp2
  refine bodyPost_ret (results_none rfl _ _ _) rfl ?_
  exact ⟨rfl, rfl⟩
theorem allow_no (w : World) : Calls Try.prog 26 #[.iface 64 (.int .i64 14)] w fun e w' => e = .panicked [{ v := .iface 70 (.agg #[]), recovered := false }] ∧ w = w' := by
  go_enter Try.func26, Try.ntmps26
  go_wp2_with fail
  refine (is_fault _).mono ?_
  rintro e w1 ⟨rfl, rfl⟩
  go_wp2
  exact ⟨rfl, rfl, rfl⟩
end Go.Proofs.Ytbkhmeongekdiaa
namespace Go.Proofs.Ytbkhmeongekdiaa
open Go.RowKit Go.Joins
set_option linter.unusedVariables false
set_option maxRecDepth 100000
section
variable {w w' : World} {cb db : Nat} {v : Value} {L : List Int} {x f : Nat → Int} {q a s : Int}
/-- the bus -/
def bus (db : Nat) : Value := .iface 29 (.pointer (some ⟨db, 0, none⟩))
/-- the struct of an instruction in memory, its bus the board -/
def Co (w : World) (cb db : Nat) (x f : Nat → Int) (q : Int) : Prop := Box w cb (cc (bus db) x f q).toArray 61 ∧ cb ≠ db
def SC (cb db : Nat) (v : Value) (k : Nat) : Prop := k = cb ∨ SB db v k
theorem bus_fetch (p : Addr) (w : World) : (Go.method 268 29 (.pointer (some p)) "Fetch").run Try.prog w = .ok (82, .pointer (some p)) w := by kernel_rfl
theorem bus_load (p : Addr) (w : World) : (Go.method 268 29 (.pointer (some p)) "Load").run Try.prog w = .ok (83, .pointer (some p)) w := by kernel_rfl
theorem bus_store (p : Addr) (w : World) : (Go.method 268 29 (.pointer (some p)) "Store").run Try.prog w = .ok (84, .pointer (some p)) w := by kernel_rfl
theorem Co.busc (h : Co w cb db x f q) : w.cell? ⟨cb, 0, none⟩ = some (bus db) := h.1.cell 0
theorem Co.askc (h : Co w cb db x f q) : w.cell? ⟨cb, 23, none⟩ = some (.int .u32 q) := by rw [h.1.cell, List.getElem?_toArray]; exact cc_q
theorem Co.asked (h : Co w cb db x f q) (q' : Int) : Co (w.setCell ⟨cb, 23, none⟩ (.int .u32 q')) cb db x f q' := by
  have := h.1.setL 23 (.int .u32 q')
  rw [cc_set_q] at this
  exact ⟨this, h.2⟩
theorem Co.off {S : Nat → Prop} (h : Co w cb db x f q) (k : But S w w') (hn : ¬ S cb) : Co w' cb db x f q := ⟨h.1.but k hn, h.2⟩
theorem Co.new (h : Co w cb db x f q) (k : New w w') : Co w' cb db x f q := ⟨h.1.new k, h.2⟩
theorem OwnB.ne {base : Nat} {cs : Array Value} {t : TypeId} (h : OwnB base w v L) (hc : Box w cb cs t) (ht : t ≠ 5) : v.ownBlock ≠ some cb := by
  intro e
  rcases h.2 with ⟨rfl, _⟩ | ⟨g, cap, cur, rfl, hb, hg, rest⟩
  · cases e
  · have e' : g = cb := Option.some.inj e
    subst e'
    unfold Box at hc
    rw [hc] at hg
    cases hg; exact ht rfl
theorem notSB (hc : Co w cb db x f q) (h : Bd w db v L a s) : ¬ SB db v cb := by
  rintro (e | e)
  · exact hc.2 e
  · exact h.2.1.ne hc.1 (by decide) e
theorem Bd.far {ib : Nat} {cs : Array Value} {t : TypeId} (h : Bd w db v L a s) (hi : Box w ib cs t) (h1 : t ≠ 5) (h2 : t ≠ 33) (k : Far ib w w') : Bd w' db v L a s := by
  refine ⟨h.1.but (S := fun i => i = ib) (But.of_far k rfl) fun e => (Box.ne h.1 hi h2.symm) e, ⟨h.2.1.1, ?_⟩, h.2.2⟩
  have hne := h.2.1.ne hi h1
  rcases h.2.1.2 with h0 | ⟨g, cap, cur, rfl, hb, hg, rest⟩
  · exact .inl h0
  · exact .inr ⟨g, cap, cur, rfl, hb, by rw [k.block (Array.getElem?_eq_some_iff.1 hg).1 fun e => hne (congrArg some e)]; exact hg, rest⟩
theorem Bd.core (h : Bd w db v L a s) (hc : Co w cb db x f q) (k : Far cb w w') : Bd w' db v L a s := h.far hc.1 (by decide) (by decide) k
theorem Bd.not {ib : Nat} {cs : Array Value} {t : TypeId} (h : Bd w db v L a s) (hi : Box w ib cs t) (h1 : t ≠ 5) (h2 : t ≠ 33) : ¬ SB db v ib := by
  rintro (e | e)
  · exact Box.ne h.1 hi h2.symm e.symm
  · exact h.2.1.ne hi h1 e
theorem Co.far {ib : Nat} {cs : Array Value} {t : TypeId} (hc : Co w cb db x f q) (hi : Box w ib cs t) (h1 : t ≠ 61) (k : Far ib w w') : Co w' cb db x f q :=
  ⟨hc.1.but (S := fun i => i = ib) (But.of_far k rfl) fun e => (Box.ne hc.1 hi h1.symm) e, hc.2⟩
set_option maxHeartbeats 1000000 in
theorem cload_ok (hc : Co w cb db x f q) (h : Bd w db v L a s) (p n : Nat) (hn : n = 1 ∨ n = 4) (hp1 : p ≤ 4294967295) (hh : hsn L p n) :
    Calls Try.prog 29 #[.pointer (some ⟨cb, 0, none⟩), .int .u32 p, .int .i64 n] w fun e w' => e = .returned (.int .u32 (gtn L p n)) ∧ Co w' cb db x f p ∧ Bd w' db v L a s ∧ But (SC cb db v) w w' := by
  have mL := bus_load ⟨db, 0, none⟩
  have cb0 := hc.busc
  have cq := hc.askc
  have fq := hc.1.unfrozen 23
  have c1 := hc.asked (p : Int)
  have k1 := Far.set w cb 23 (.int .u32 (p : Int))
  have h1 := h.core hc k1
  have cb1 := c1.busc
  have s1 : But (SC cb db v) w (w.setCell ⟨cb, 23, none⟩ (.int .u32 (p : Int))) := But.of_far k1 (.inl rfl)
  unfold bus at cb0 cb1
  have q1 : ∀ w0, Bd w0 db v L a s → Calls Try.prog 83 #[.pointer (some ⟨db, 0, none⟩), .int .u32 p, .int .i64 n] w0 fun e w' => e = .returned (.tuple #[.int .u32 (gtn L p n), .nilIface]) ∧ New w0 w' := fun w0 h0 => by
    rcases hn with rfl | rfl
    · exact bload_1 h0 p hp1 hh
    · exact bload_4 h0 p hp1 hh
  generalize gtn L (p : Int) n = G at *
  clear hc h hh hn k1
  go_enter Try.func29, Try.ntmps29
  go_wp2_with fail
  refine (q1 _ h1).mono ?_
  rintro e W2 ⟨rfl, n2⟩
  go_wp2_with fail
  refine (allow_nil _).mono ?_
  rintro e W3 ⟨rfl, rfl⟩
  go_wp2_with fail
  go_ret
  exact ⟨rfl, c1.new n2, h1.new n2, s1.trans (But.of_new _ n2)⟩
set_option maxHeartbeats 1000000 in
theorem cload_no (hc : Co w cb db x f q) (h : Bd w db v L a s) (p n : Nat) (hn : n = 1 ∨ n = 4) (hp1 : p ≤ 4294967295) (hh : ¬ hsn L p n) :
    Calls Try.prog 29 #[.pointer (some ⟨cb, 0, none⟩), .int .u32 p, .int .i64 n] w fun e w' => e = .panicked [{ v := .iface 70 (.agg #[]), recovered := false }] ∧ Co w' cb db x f p ∧ Bd w' db v L a s ∧ But (SC cb db v) w w' := by
  have mL := bus_load ⟨db, 0, none⟩
  have cb0 := hc.busc
  have cq := hc.askc
  have fq := hc.1.unfrozen 23
  have c1 := hc.asked (p : Int)
  have k1 := Far.set w cb 23 (.int .u32 (p : Int))
  have h1 := h.core hc k1
  have cb1 := c1.busc
  have s1 : But (SC cb db v) w (w.setCell ⟨cb, 23, none⟩ (.int .u32 (p : Int))) := But.of_far k1 (.inl rfl)
  unfold bus at cb0 cb1
  have q1 := fun w0 (h0 : Bd w0 db v L a s) => bload_no h0 p n hn (by omega) (by omega) hh
  clear hc h hh hn k1
  go_enter Try.func29, Try.ntmps29
  go_wp2_with fail
  refine (q1 _ h1).mono ?_
  rintro e W2 ⟨rfl, n2⟩
  go_wp2_with fail
  refine (allow_no _).mono ?_
  rintro e W3 ⟨rfl, rfl⟩
  go_wp2
  exact ⟨rfl, rfl, c1.new n2, h1.new n2, s1.trans (But.of_new _ n2)⟩
set_option maxHeartbeats 1000000 in
theorem cstore_ok (hc : Co w cb db x f q) (h : Bd w db v L a s) (p n : Nat) (hn : n = 1 ∨ n = 4) (hp1 : p ≤ 4294967295) (hh : hsn L p n) (y : Int) (y0 : 0 ≤ y) (y1 : y ≤ 4294967295) :
    Calls Try.prog 30 #[.pointer (some ⟨cb, 0, none⟩), .int .u32 p, .int .i64 n, .int .u32 y] w fun e w' => e = .returned (.tuple #[]) ∧ Co w' cb db x f p ∧ Bd w' db v (ptn L p n y) a (wrap64 (s + 1)) ∧ But (SC cb db v) w w' := by
  have mL := bus_store ⟨db, 0, none⟩
  have cb0 := hc.busc
  have cq := hc.askc
  have fq := hc.1.unfrozen 23
  have c1 := hc.asked (p : Int)
  have k1 := Far.set w cb 23 (.int .u32 (p : Int))
  have h1 := h.core hc k1
  have cb1 := c1.busc
  have s1 : But (SC cb db v) w (w.setCell ⟨cb, 23, none⟩ (.int .u32 (p : Int))) := But.of_far k1 (.inl rfl)
  have n1 := notSB c1 h1
  unfold bus at cb0 cb1
  have q1 : ∀ w0, Bd w0 db v L a s → Calls Try.prog 84 #[.pointer (some ⟨db, 0, none⟩), .int .u32 p, .int .i64 n, .int .u32 y] w0 fun e w' => e = .returned .nilIface ∧ Bd w' db v (ptn L p n y) a (wrap64 (s + 1)) ∧ But (SB db v) w0 w' := fun w0 h0 => by
    rcases hn with rfl | rfl
    · exact bstore_1 h0 p hp1 hh y y0 y1
    · exact bstore_4 h0 p hp1 hh y y0 y1
  generalize ptn L (p : Int) n y = G at *
  clear hc h hh hn k1
  go_enter Try.func30, Try.ntmps30
  go_wp2_with fail
  refine (q1 _ h1).mono ?_
  rintro e W2 ⟨rfl, h2, k2⟩
  go_wp2_with fail
  refine (allow_nil _).mono ?_
  rintro e W3 ⟨rfl, rfl⟩
  go_wp2
  go_end0
  exact ⟨rfl, c1.off k2 n1, h2, s1.trans (k2.mono fun i _ hi => .inr hi)⟩
set_option maxHeartbeats 1000000 in
theorem cstore_no (hc : Co w cb db x f q) (h : Bd w db v L a s) (p n : Nat) (hn : n = 1 ∨ n = 4) (hp1 : p ≤ 4294967295) (hh : ¬ hsn L p n) (y : Int) :
    Calls Try.prog 30 #[.pointer (some ⟨cb, 0, none⟩), .int .u32 p, .int .i64 n, .int .u32 y] w fun e w' => e = .panicked [{ v := .iface 70 (.agg #[]), recovered := false }] ∧ Co w' cb db x f p ∧ Bd w' db v L a s ∧ But (SC cb db v) w w' := by
  have mL := bus_store ⟨db, 0, none⟩
  have cb0 := hc.busc
  have cq := hc.askc
  have fq := hc.1.unfrozen 23
  have c1 := hc.asked (p : Int)
  have k1 := Far.set w cb 23 (.int .u32 (p : Int))
  have h1 := h.core hc k1
  have cb1 := c1.busc
  have s1 : But (SC cb db v) w (w.setCell ⟨cb, 23, none⟩ (.int .u32 (p : Int))) := But.of_far k1 (.inl rfl)
  unfold bus at cb0 cb1
  have q1 := fun w0 (h0 : Bd w0 db v L a s) => bstore_no h0 p y n hn (by omega) (by omega) hh
  clear hc h hh hn k1
  go_enter Try.func30, Try.ntmps30
  go_wp2_with fail
  refine (q1 _ h1).mono ?_
  rintro e W2 ⟨rfl, n2⟩
  go_wp2_with fail
  refine (allow_no _).mono ?_
  rintro e W3 ⟨rfl, rfl⟩
  go_wp2
  exact ⟨rfl, rfl, c1.new n2, h1.new n2, s1.trans (But.of_new _ n2)⟩
end
end Go.Proofs.Ytbkhmeongekdiaa
namespace Go.Proofs.Ytbkhmeongekdiaa
open Go.RowKit Go.Joins
set_option linter.unusedVariables false
set_option maxRecDepth 100000
theorem ins_size : (Try.prog.info? 73).map (·.size) = some 4 := by kernel_rfl
section
variable {w w' : World} {cb db : Nat} {v : Value} {L : List Int} {x f : Nat → Int} {q a s : Int}
/-- the instruction of a number, as a value -/
def insV (n : Int) : Value := .agg #[.int .i64 (n / 16777216), .int .i64 (n / 1048576 % 16), .int .i64 (n / 65536 % 16), .int .i64 (imv n)]
theorem cfetch_odd (hc : Co w cb db x f q) (h : Bd w db v L a s) (p : Nat) (hp1 : p ≤ 4294967295) (hp : (p : Int) % 4 ≠ 0) :
    Calls Try.prog 20 #[.pointer (some ⟨cb, 0, none⟩), .int .u32 p] w fun e w' => e = .panicked [{ v := .iface 69 (.int .u32 p), recovered := false }] ∧ Co w' cb db x f q ∧ Bd w' db v L a s ∧ But (SC cb db v) w w' := by
  have n0 : New w (w.alloc (.cells #[.int .i64 0, .int .i64 0, .int .i64 0, .int .i64 0] 73)) := (New.refl w).alloc _ _
  have BI : Box (w.alloc (.cells #[.int .i64 0, .int .i64 0, .int .i64 0, .int .i64 0] 73)) w.heap.size #[.int .i64 0, .int .i64 0, .int .i64 0, .int .i64 0] 73 := Box.here w _ _ _ rfl
  have hc := hc.new n0
  have h := h.new n0
  have hle : w.heap.size ≤ w.heap.size := Nat.le_refl _
  have q1 := fun w => align_no p 4 w (by omega) (.inl rfl) hp
  clear BI
  go_enter Try.func20, Try.ntmps20
  go_upto_region 1 with fail
  change Code.wp _ _ _ _ (w.alloc (.cells #[.int .i64 0, .int .i64 0, .int .i64 0, .int .i64 0] 73))
  generalize (w.alloc (.cells #[.int .i64 0, .int .i64 0, .int .i64 0, .int .i64 0] 73)) = W at *
  generalize hib : w.heap.size = ib at *
  go_wp2_with fail
  refine (q1 _).mono ?_
  rintro e W2 ⟨rfl, rfl⟩
  go_wp2
  exact ⟨rfl, rfl, hc, h, But.of_new _ n0⟩
set_option maxHeartbeats 1000000 in
theorem cfetch_no (hc : Co w cb db x f q) (h : Bd w db v L a s) (p : Nat) (hp1 : p ≤ 4294967295) (hp : (p : Int) % 4 = 0) (hh : ¬ hsn L p 4) :
    Calls Try.prog 20 #[.pointer (some ⟨cb, 0, none⟩), .int .u32 p] w fun e w' => e = .panicked [{ v := .iface 70 (.agg #[]), recovered := false }] ∧ Co w' cb db x f p ∧ Bd w' db v L (wrap64 (a + 1)) s ∧ But (SC cb db v) w w' := by
  have n0 : New w (w.alloc (.cells #[.int .i64 0, .int .i64 0, .int .i64 0, .int .i64 0] 73)) := (New.refl w).alloc _ _
  have BI : Box (w.alloc (.cells #[.int .i64 0, .int .i64 0, .int .i64 0, .int .i64 0] 73)) w.heap.size #[.int .i64 0, .int .i64 0, .int .i64 0, .int .i64 0] 73 := Box.here w _ _ _ rfl
  have hc := hc.new n0
  have h := h.new n0
  have hle : w.heap.size ≤ w.heap.size := Nat.le_refl _
  have q0 := fun w => align_ok p 4 w (by omega) (.inl rfl) hp
  have mL := bus_fetch ⟨db, 0, none⟩
  have q1 := fun w0 (h0 : Bd w0 db v L a s) => bfetch_no h0 p (by omega) (by omega) hh
  clear BI
  go_enter Try.func20, Try.ntmps20
  go_upto_region 1 with fail
  change Code.wp _ _ _ _ (w.alloc (.cells #[.int .i64 0, .int .i64 0, .int .i64 0, .int .i64 0] 73))
  generalize (w.alloc (.cells #[.int .i64 0, .int .i64 0, .int .i64 0, .int .i64 0] 73)) = W at *
  generalize hib : w.heap.size = ib at *
  have cb0 := hc.busc
  have cq := hc.askc
  have fq := hc.1.unfrozen 23
  have c1 := hc.asked (p : Int)
  have k1 := Far.set W cb 23 (.int .u32 (p : Int))
  have h1 := h.core hc k1
  have cb1 := c1.busc
  have s1 : But (SC cb db v) w (W.setCell ⟨cb, 23, none⟩ (.int .u32 (p : Int))) := (But.of_new _ n0).trans (But.of_far k1 (.inl rfl))
  have n1 := notSB c1 h1
  unfold bus at cb0 cb1
  clear hc h hh k1 hp
  go_wp2_with fail
  refine (q0 _).mono ?_
  rintro e W1 ⟨rfl, rfl⟩
  go_wp2_with fail
  refine (q1 _ h1).mono ?_
  rintro e W2 ⟨rfl, h2, k2⟩
  go_wp2_with fail
  refine (allow_no _).mono ?_
  rintro e W3 ⟨rfl, rfl⟩
  go_wp2
  exact ⟨rfl, rfl, c1.off k2 n1, h2, s1.trans (k2.mono fun i _ hi => .inr hi)⟩
set_option maxHeartbeats 1000000 in
theorem cfetch_ill (hc : Co w cb db x f q) (h : Bd w db v L a s) (p : Nat) (hp1 : p ≤ 4294967295) (hp : (p : Int) % 4 = 0) (hh : hsn L p 4) (hi : 41 < gtn L p 4 / 16777216) :
    Calls Try.prog 20 #[.pointer (some ⟨cb, 0, none⟩), .int .u32 p] w fun e w' => e = .panicked [{ v := .iface 67 (.agg #[]), recovered := false }] ∧ Co w' cb db x f p ∧ Bd w' db v L (wrap64 (a + 1)) s ∧ But (SC cb db v) w w' := by
  have n0 : New w (w.alloc (.cells #[.int .i64 0, .int .i64 0, .int .i64 0, .int .i64 0] 73)) := (New.refl w).alloc _ _
  have BI : Box (w.alloc (.cells #[.int .i64 0, .int .i64 0, .int .i64 0, .int .i64 0] 73)) w.heap.size #[.int .i64 0, .int .i64 0, .int .i64 0, .int .i64 0] 73 := Box.here w _ _ _ rfl
  have hc := hc.new n0
  have h := h.new n0
  have hle : w.heap.size ≤ w.heap.size := Nat.le_refl _
  have q0 := fun w => align_ok p 4 w (by omega) (.inl rfl) hp
  have mL := bus_fetch ⟨db, 0, none⟩
  have q1 := fun w0 (h0 : Bd w0 db v L a s) => bfetch_ok h0 p hp1 hh
  have gb := gtn_bd h.2.2.1 p 4
  have q2 := fun w => idecode_no (gtn L p 4) w gb.1 gb.2 hi
  clear BI
  generalize gtn L (p : Int) 4 = G at *
  go_enter Try.func20, Try.ntmps20
  go_upto_region 1 with fail
  change Code.wp _ _ _ _ (w.alloc (.cells #[.int .i64 0, .int .i64 0, .int .i64 0, .int .i64 0] 73))
  generalize (w.alloc (.cells #[.int .i64 0, .int .i64 0, .int .i64 0, .int .i64 0] 73)) = W at *
  generalize hib : w.heap.size = ib at *
  have cb0 := hc.busc
  have cq := hc.askc
  have fq := hc.1.unfrozen 23
  have c1 := hc.asked (p : Int)
  have k1 := Far.set W cb 23 (.int .u32 (p : Int))
  have h1 := h.core hc k1
  have cb1 := c1.busc
  have s1 : But (SC cb db v) w (W.setCell ⟨cb, 23, none⟩ (.int .u32 (p : Int))) := (But.of_new _ n0).trans (But.of_far k1 (.inl rfl))
  have n1 := notSB c1 h1
  unfold bus at cb0 cb1
  clear hc h hh k1 hp hi gb
  go_wp2_with fail
  refine (q0 _).mono ?_
  rintro e W1 ⟨rfl, rfl⟩
  go_wp2_with fail
  refine (q1 _ h1).mono ?_
  rintro e W2 ⟨rfl, h2, k2⟩
  have C2 := c1.off k2 n1
  have s2 := s1.trans (k2.mono fun i _ hi => .inr hi)
  go_wp2_with fail
  refine (allow_nil _).mono ?_
  rintro e W3 ⟨rfl, rfl⟩
  go_wp2_with fail
  refine (q2 _).mono ?_
  rintro e W4 ⟨rfl, n4⟩
  have C4 := C2.new n4
  have h4 := h2.new n4
  have s4 := s2.trans (But.of_new _ n4)
  clear C2 h2 s2 n4 k2 c1 h1 s1 n1
  go_wp2
  have na := (New.refl W4).alloc #[.int .i64 0, .int .i64 0, .int .i64 0, .int .i64 0] 73
  exact ⟨rfl, rfl, C4.new na, h4.new na, s4.trans (But.of_new _ na)⟩
set_option maxHeartbeats 1000000 in
theorem cfetch_ok (hc : Co w cb db x f q) (h : Bd w db v L a s) (p : Nat) (hp1 : p ≤ 4294967295) (hp : (p : Int) % 4 = 0) (hh : hsn L p 4) (hi : gtn L p 4 / 16777216 ≤ 41) :
    Calls Try.prog 20 #[.pointer (some ⟨cb, 0, none⟩), .int .u32 p] w fun e w' => e = .returned (insV (gtn L p 4)) ∧ Co w' cb db x f p ∧ Bd w' db v L (wrap64 (a + 1)) s ∧ But (SC cb db v) w w' := by
  have n0 : New w (w.alloc (.cells #[.int .i64 0, .int .i64 0, .int .i64 0, .int .i64 0] 73)) := (New.refl w).alloc _ _
  have BI : Box (w.alloc (.cells #[.int .i64 0, .int .i64 0, .int .i64 0, .int .i64 0] 73)) w.heap.size #[.int .i64 0, .int .i64 0, .int .i64 0, .int .i64 0] 73 := Box.here w _ _ _ rfl
  have hc := hc.new n0
  have h := h.new n0
  have hle : w.heap.size ≤ w.heap.size := Nat.le_refl _
  have q0 := fun w => align_ok p 4 w (by omega) (.inl rfl) hp
  have mL := bus_fetch ⟨db, 0, none⟩
  have q1 := fun w0 (h0 : Bd w0 db v L a s) => bfetch_ok h0 p hp1 hh
  have gb := gtn_bd h.2.2.1 p 4
  have q2 := fun w => idecode_ok (gtn L p 4) w gb.1 gb.2 hi
  have BI := Lib.hid BI
  unfold insV
  generalize gtn L (p : Int) 4 = G at *
  generalize G / 16777216 = g1 at *
  generalize G / 1048576 % 16 = g2 at *
  generalize G / 65536 % 16 = g3 at *
  generalize imv G = g4 at *
  go_enter Try.func20, Try.ntmps20
  go_upto_region 1 with fail
  change Code.wp _ _ _ _ (w.alloc (.cells #[.int .i64 0, .int .i64 0, .int .i64 0, .int .i64 0] 73))
  generalize (w.alloc (.cells #[.int .i64 0, .int .i64 0, .int .i64 0, .int .i64 0] 73)) = W at *
  generalize hib : w.heap.size = ib at *
  have cb0 := hc.busc
  have cq := hc.askc
  have fq := hc.1.unfrozen 23
  have c1 := hc.asked (p : Int)
  have k1 := Far.set W cb 23 (.int .u32 (p : Int))
  have h1 := h.core hc k1
  have cb1 := c1.busc
  have s1 : But (SC cb db v) w (W.setCell ⟨cb, 23, none⟩ (.int .u32 (p : Int))) := (But.of_new _ n0).trans (But.of_far k1 (.inl rfl))
  have n1 := notSB c1 h1
  unfold bus at cb0 cb1
  have hc0 := hc
  clear hc h hh k1 hp hi gb
  go_wp2_with fail
  refine (q0 _).mono ?_
  rintro e W1 ⟨rfl, rfl⟩
  go_wp2_with fail
  refine (q1 _ h1).mono ?_
  rintro e W2 ⟨rfl, h2, k2⟩
  have BI2 : Box W2 ib #[.int .i64 0, .int .i64 0, .int .i64 0, .int .i64 0] 73 := by
    have b1 := BI.out.but (S := fun i => i = cb) (But.of_far (Far.set W cb 23 (.int .u32 (p : Int))) rfl) (fun e => Box.ne BI.out hc0.1 (by decide) e)
    exact b1.but k2 (h1.not b1 (by decide) (by decide))
  have C2 := c1.off k2 n1
  have s2 := s1.trans (k2.mono fun i _ hi => .inr hi)
  go_wp2_with fail
  refine (allow_nil _).mono ?_
  rintro e W3 ⟨rfl, rfl⟩
  go_wp2_with fail
  refine (q2 _).mono ?_
  rintro e W4 ⟨rfl, n4⟩
  have BI4 := BI2.new n4
  have C4 := C2.new n4
  have h4 := h2.new n4
  have s4 := s2.trans (But.of_new _ n4)
  have na := (New.refl W4).alloc #[.int .i64 g1, .int .i64 g2, .int .i64 g3, .int .i64 g4] 73
  have B5 : Box (W4.alloc (.cells #[.int .i64 g1, .int .i64 g2, .int .i64 g3, .int .i64 g4] 73)) ib [.int .i64 0, .int .i64 0, .int .i64 0, .int .i64 0].toArray 73 := BI4.new na
  have C5 := C4.new na
  have h5 := h4.new na
  have s5 := s4.trans (But.of_new _ na)
  have BH := Lib.hid B5
  clear BI BI2 BI4 C2 h2 s2 n4 k2 c1 h1 s1 n1 hc0 C4 h4 s4 na B5
  go_wp2_with ((with_reducible refine at_store 73 ?_); refine wpList_store_box rfl 73 _ _ rfl ib [.int .i64 g1, .int .i64 g2, .int .i64 g3, .int .i64 g4] [.int .i64 0, .int .i64 0, .int .i64 0, .int .i64 0] 73 rfl rfl BH.out rfl ins_size (by intro u hu; simp at hu; rcases hu with rfl | rfl | rfl | rfl <;> rfl) ?_)
  intro W6 B6 f6
  have hr : (loadVar 73 ⟨ib, 0, none⟩).run Try.prog W6 = .ok (.agg #[.int .i64 g1, .int .i64 g2, .int .i64 g3, .int .i64 g4]) W6 := run_loadVar_mid W6 _ 0 _ _ _ B6.range Try.underlying73 rfl ins_size
  have C6 := C5.far BH.out (by decide) f6
  have h6 := h5.far BH.out (by decide) (by decide) f6
  have s6 : But (SC cb db v) w W6 := ⟨f6.1.trans s5.1, f6.2.1.trans s5.2.1, f6.2.2.1.trans s5.2.2.1, Nat.le_trans s5.size f6.size, fun i hi hn => (f6.block (Nat.lt_of_lt_of_le hi s5.size) (by omega)).trans (s5.block hi hn)⟩
  clear C5 h5 s5 BH f6 B6
  go_wp2
  exact bodyPost_ret (v := .agg #[.int .i64 g1, .int .i64 g2, .int .i64 g3, .int .i64 g4]) (by simp [results, Try.results20, asAddr, hr]) rfl ⟨rfl, C6, h6, s6⟩
end
end Go.Proofs.Ytbkhmeongekdiaa
namespace Go.Proofs.Ytbkhmeongekdiaa
open Go.RowKit Go.Joins
set_option linter.unusedVariables false
set_option maxRecDepth 100000
/-- the struct and the board as they are, and what was there besides is as it was -/
def St (w0 : World) (cb db : Nat) (v : Value) (a s : Int) (x f : Nat → Int) (q : Int) (L : List Int) (w : World) : Prop := Co w cb db x f q ∧ Bd w db v L a s ∧ But (SC cb db v) w0 w
/-- counted so often more -/
def adds (s : Int) : Nat → Int
  | 0 => s
  | n + 1 => wrap64 (adds s n + 1)
/-- what an instruction that fails panics with -/
def pval (s a : Int) : Value := if s = 4 then .iface 67 (.agg #[]) else if s = 8 then .iface 68 (.agg #[]) else if s = 7 then .iface 69 (.int .u32 a) else .iface 70 (.agg #[])
/-- what came of it -/
def Came (rv : Value) (A : Ans) (w0 : World) (cb db : Nat) (v : Value) (a s : Int) (e : Ending) (w : World) : Prop :=
  e = (if A.k = 4 then .panicked [{ v := pval A.s A.a, recovered := false }] else .returned rv) ∧ ∃ x f q, St w0 cb db v a (adds s A.n) x f q A.L w ∧ (A.k ≠ 4 → x = A.x ∧ f = A.f) ∧ (A.s = 11 → q = A.a)
section
variable {w0 w w' : World} {cb db : Nat} {v : Value} {L : List Int} {x f : Nat → Int} {q a s : Int}
theorem St.start (hc : Co w cb db x f q) (h : Bd w db v L a s) : St w cb db v a s x f q L w := ⟨hc, h, But.refl _ _⟩
theorem St.new (h : St w0 cb db v a s x f q L w) (k : New w w') : St w0 cb db v a s x f q L w' := ⟨h.1.new k, h.2.1.new k, h.2.2.trans (But.of_new _ k)⟩
theorem St.setx (h : St w0 cb db v a s x f q L w) (i : Nat) (hi : i < 18) (y : Int) : St w0 cb db v a s (upd x i y) f q L (w.setCell ⟨cb, 1 + i, none⟩ (.int .u32 y)) := by
  have b := h.1.1.setL (1 + i) (.int .u32 y)
  rw [cc_set_x i y hi] at b
  exact ⟨⟨b, h.1.2⟩, h.2.1.core h.1 (Far.set _ _ _ _), h.2.2.trans (But.set w (.inl rfl) _)⟩
theorem St.setf (h : St w0 cb db v a s x f q L w) (i : Nat) (hi : i < 4) (y : Int) : St w0 cb db v a s x (upd f i y) q L (w.setCell ⟨cb, 19 + i, none⟩ (.int .u64 y)) := by
  have b := h.1.1.setL (19 + i) (.int .u64 y)
  rw [cc_set_f i y hi] at b
  exact ⟨⟨b, h.1.2⟩, h.2.1.core h.1 (Far.set _ _ _ _), h.2.2.trans (But.set w (.inl rfl) _)⟩
theorem St.trans {w1 : World} {x' f' : Nat → Int} {q' a' s' : Int} {L' : List Int} (h : St w0 cb db v a s x f q L w1) (k : St w1 cb db v a' s' x' f' q' L' w) : St w0 cb db v a' s' x' f' q' L' w := ⟨k.1, k.2.1, h.2.2.trans k.2.2⟩
theorem Co.rx (h : Co w cb db x f q) (i : Nat) (hi : i < 18) : w.cell? ⟨cb, 1 + i, none⟩ = some (.int .u32 (x i)) := by rw [h.1.cell, List.getElem?_toArray]; exact cc_x i hi
theorem Co.rf (h : Co w cb db x f q) (i : Nat) (hi : i < 4) : w.cell? ⟨cb, 19 + i, none⟩ = some (.int .u64 (f i)) := by rw [h.1.cell, List.getElem?_toArray]; exact cc_f i hi
theorem Co.un (h : Co w cb db x f q) (i : Nat) : w.frozen? ⟨cb, i, none⟩ = false := h.1.unfrozen i
theorem came_ok {rv : Value} {n : Nat} {k s1 a1 : Int} (hk : k ≠ 4) (hs : s1 ≠ 11) (h : St w0 cb db v a (adds s n) x f q L w) : Came rv ⟨x, f, L, n, k, s1, a1⟩ w0 cb db v a s (.returned rv) w :=
  ⟨(if_neg hk).symm, x, f, q, h, fun _ => ⟨rfl, rfl⟩, fun e => absurd e hs⟩
theorem came_no {rv : Value} {x1 f1 : Nat → Int} {n : Nat} {s1 a1 : Int} (hq : s1 = 11 → q = a1) (h : St w0 cb db v a (adds s n) x f q L w) : Came rv ⟨x1, f1, L, n, 4, s1, a1⟩ w0 cb db v a s (.panicked [{ v := pval s1 a1, recovered := false }]) w :=
  ⟨rfl, x, f, q, h, fun e => absurd rfl e, hq⟩
set_option maxHeartbeats 1000000 in
theorem reckon_any (hc : Co w cb db x f q) (h : Bd w db v L a s) (op m : Int) (i j : Nat) (hi : i < 16) (hj : j < 16) (hx : Bx x) (x1 f1 : Nat → Int) (pc : Int) :
    Calls Try.prog 21 #[.pointer (some ⟨cb, 0, none⟩), .agg #[.int .i64 op, .int .i64 i, .int .i64 j, .int .i64 m]] w
      (Came (.tuple #[]) (if doe op (x j) = 0 then okA (upd (upd x i (dov op (x i) (x j))) 17 (dof op (x i) (x j) (x 17))) f L else noA x1 f1 L 8 pc) w cb db v a s) := by
  have n0 := (New.refl w).alloc #[.int .i64 op, .int .i64 i, .int .i64 j, .int .i64 m] 73
  have BI := Box.here w _ #[.int .i64 op, .int .i64 i, .int .i64 j, .int .i64 m] 73 rfl
  have S1 := (St.start hc h).new n0
  have bi := hx i (by omega)
  have bj := hx j (by omega)
  have b17 := hx 17 (by omega)
  have q1 := fun w => do_any op (x i) (x j) (x 17) w bi.1 bi.2 bj.1 bj.2 b17.1 b17.2
  have i0 : (0 : Int) ≤ (i : Int) := by omega
  have i1 : (i : Int) < 16 := by omega
  have j0 : (0 : Int) ≤ (j : Int) := by omega
  have j1 : (j : Int) < 16 := by omega
  clear hc h hx n0
  by_cases c : doe op (x j) = 0
  · rw [if_pos c]
    rw [c, erN_zero] at q1
    generalize hD : dov op (x i) (x j) = D at *
    generalize hF : dof op (x i) (x j) (x 17) = F at *
    clear hD hF c
    go_enter Try.func21, Try.ntmps21
    go_upto_region 1 with fail
    change Code.wp _ _ _ _ (w.alloc (.cells #[.int .i64 op, .int .i64 i, .int .i64 j, .int .i64 m] 73))
    generalize (w.alloc (.cells #[.int .i64 op, .int .i64 i, .int .i64 j, .int .i64 m] 73)) = W at *
    generalize w.heap.size = ib at *
    obtain ⟨t0, t1, t2, t3⟩ := BI.four
    have ci := S1.1.rx i (by omega)
    have cj := S1.1.rx j (by omega)
    have c17 := S1.1.rx 17 (by omega)
    have S1 := Lib.hid S1
    have BI := Lib.hid BI
    generalize x i = y at *
    generalize x j = z at *
    generalize x 17 = u at *
    go_wp2_with fail
    go_region_held3 (fun w' => New W w' ∧ w'.cell? ⟨ib, 0, none⟩ = some (.int .i64 op) ∧ w'.cell? ⟨ib, 1, none⟩ = some (.int .i64 i) ∧ w'.cell? ⟨ib, 2, none⟩ = some (.int .i64 j) ∧
        w'.cell? ⟨cb, 1 + i, none⟩ = some (.int .u32 y) ∧ w'.cell? ⟨cb, 1 + j, none⟩ = some (.int .u32 z) ∧ w'.cell? ⟨cb, 1 + 17, none⟩ = some (.int .u32 u))
      (first
        | exact ⟨hnx, hnx.keeps t0, hnx.keeps t1, hnx.keeps t2, hnx.keeps ci, hnx.keeps cj, hnx.keeps c17⟩
        | (have hnx := (New.refl W).drew; exact ⟨hnx, hnx.keeps t0, hnx.keeps t1, hnx.keeps t2, hnx.keeps ci, hnx.keeps cj, hnx.keeps c17⟩))
      (first
        | (go_at_call 28; (with_reducible refine (q1 _).mono ?_); rintro e wz ⟨rfl, hny⟩; have hnx : New W wz := New.trans (by first | exact (New.refl _).drew | exact New.refl _) hny))
    have Sz := S1.out.new hnx
    have e1 := hnx.keeps t1
    have d1 := hnx.keeps ci
    have d17 : wz.cell? ⟨cb, 18, none⟩ = some (.int .u32 u) := hnx.keeps c17
    have u1 := Sz.1.un (1 + i)
    have u17 := Sz.1.un 18
    have Sf := Lib.hid ((Sz.setx i (by omega) D).setx 17 (by omega) F)
    clear Sz S1 hny hnx t0 t1 t2 t3 ci cj c17 BI q1
    go_wp2
    go_region
    all_goals
      go_wp2
      go_end0
      exact came_ok (n := 0) (k := 0) (s1 := 0) (a1 := 0) (by omega) (by omega) (Sf.out.new (New.refl _).drew)
  · rw [if_neg c]
    rw [erN_pos c] at q1
    generalize hD : dov op (x i) (x j) = D at *
    generalize hF : dof op (x i) (x j) (x 17) = F at *
    generalize doe op (x j) = E at *
    clear hD hF c
    go_enter Try.func21, Try.ntmps21
    go_upto_region 1 with fail
    change Code.wp _ _ _ _ (w.alloc (.cells #[.int .i64 op, .int .i64 i, .int .i64 j, .int .i64 m] 73))
    generalize (w.alloc (.cells #[.int .i64 op, .int .i64 i, .int .i64 j, .int .i64 m] 73)) = W at *
    generalize w.heap.size = ib at *
    obtain ⟨t0, t1, t2, t3⟩ := BI.four
    have ci := S1.1.rx i (by omega)
    have cj := S1.1.rx j (by omega)
    have c17 := S1.1.rx 17 (by omega)
    have S1 := Lib.hid S1
    have BI := Lib.hid BI
    generalize x i = y at *
    generalize x j = z at *
    generalize x 17 = u at *
    go_wp2_with fail
    go_region_held3 (fun w' => New W w' ∧ w'.cell? ⟨ib, 0, none⟩ = some (.int .i64 op) ∧ w'.cell? ⟨ib, 1, none⟩ = some (.int .i64 i) ∧ w'.cell? ⟨ib, 2, none⟩ = some (.int .i64 j) ∧
        w'.cell? ⟨cb, 1 + i, none⟩ = some (.int .u32 y) ∧ w'.cell? ⟨cb, 1 + j, none⟩ = some (.int .u32 z) ∧ w'.cell? ⟨cb, 1 + 17, none⟩ = some (.int .u32 u))
      (first
        | exact ⟨hnx, hnx.keeps t0, hnx.keeps t1, hnx.keeps t2, hnx.keeps ci, hnx.keeps cj, hnx.keeps c17⟩
        | (have hnx := (New.refl W).drew; exact ⟨hnx, hnx.keeps t0, hnx.keeps t1, hnx.keeps t2, hnx.keeps ci, hnx.keeps cj, hnx.keeps c17⟩))
      (first
        | (go_at_call 28; (with_reducible refine (q1 _).mono ?_); rintro e wz ⟨rfl, hny⟩; have hnx : New W wz := New.trans (by first | exact (New.refl _).drew | exact New.refl _) hny))
    go_wp2
    exact ⟨rfl, came_no (x1 := x1) (f1 := f1) (n := 0) (s1 := 8) (a1 := pc) (by omega) (S1.out.new hnx)⟩
end
end Go.Proofs.Ytbkhmeongekdiaa
