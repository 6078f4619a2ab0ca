/- Open files: what must come whatever the input is. -/
import Derived.Test.YtpapicnkhjcjoaaDoorFiUa
import Derived.Test.YtpapicnkhjcjoaaDoorFiY
import Derived.Test.YtpapicnkhjcjoaaDoorFiZ
namespace Go.Proofs.YtpapicnkhjcjoaaDoor
open Go.RowKit
set_option linter.unusedVariables false
set_option maxRecDepth 100000
theorem er0 : erN 0 = .nilIface := rfl
theorem Ftb.new {S : Nat → Prop} {w w' : World} {tb : Nat} {most : Int} {L : Ft} (h : Ftb S w tb most L) (k : New w w') : Ftb S w' tb most L := h.keep (But.of_new (fun _ => False) k) (fun _ _ c => c)
/-- the law's state: the table, in blocks that the call made and that are not the law's own (X) -/
def Ftx (X : Nat → Prop) (w0 w : World) (tb : Nat) (most : Int) (L : Ft) : Prop := ∃ S, Ftb S w tb most L ∧ (∀ g, S g → w0.heap.size ≤ g ∧ ¬ X g) ∧ New w0 w ∧ ∀ g, X g → g < w.heap.size
theorem Ftx.step {X : Nat → Prop} {w0 w w' : World} {tb : Nat} {most : Int} {L L' : Ft} {S : Nat → Prop} (hs : ∀ g, S g → w0.heap.size ≤ g ∧ ¬ X g) (n : New w0 w) (hx : ∀ g, X g → g < w.heap.size) (h : FtD S w w' tb most L') : Ftx X w0 w' tb most L' ∧ But (fun g => ¬ X g) w w' := by
  obtain ⟨S', h1, k, h3⟩ := h
  have hw : New w0 w' := ((But.of_new S n).trans k).new fun i hi c => by have := (hs i c).1; omega
  refine ⟨⟨S', h1, fun g hg => ?_, hw, fun g hg => Nat.lt_of_lt_of_le (hx g hg) k.size⟩, k.mono fun i _ c => (hs i c).2⟩
  rcases h3 g hg with c | c
  · exact hs g c
  · exact ⟨Nat.le_trans n.size c, fun d => by have := hx g d; omega⟩
theorem Ftx.new {X : Nat → Prop} {w0 w w' : World} {tb : Nat} {most : Int} {L : Ft} (h : Ftx X w0 w tb most L) (k : New w w') : Ftx X w0 w' tb most L := by
  obtain ⟨S, h1, h2, h3, h4⟩ := h
  exact ⟨S, h1.new k, h2, h3.trans k, fun g hg => Nat.lt_of_lt_of_le (h4 g hg) k.size⟩
/-- what the law has made itself is its own -/
theorem Ftx.take {X : Nat → Prop} {w0 w w' : World} {tb : Nat} {most : Int} {L : Ft} (h : Ftx X w0 w tb most L) (k : New w w') : Ftx (fun g => X g ∨ (w.heap.size ≤ g ∧ g < w'.heap.size)) w0 w' tb most L := by
  obtain ⟨S, h1, h2, h3, h4⟩ := h
  refine ⟨S, h1.new k, fun g hg => ⟨(h2 g hg).1, ?_⟩, h3.trans k, fun g hg => ?_⟩
  · rintro (c | c)
    · exact (h2 g hg).2 c
    · have := h1.lt g hg; omega
  · rcases hg with c | c
    · exact Nat.lt_of_lt_of_le (h4 g c) k.size
    · exact c.2
/-- the law writes into its own blocks -/
theorem Ftx.own {X : Nat → Prop} {w0 w w' : World} {tb : Nat} {most : Int} {L : Ft} (h : Ftx X w0 w tb most L) (k : But X w w') (hb : ∀ g, X g → w0.heap.size ≤ g) : Ftx X w0 w' tb most L := by
  obtain ⟨S, h1, h2, h3, h4⟩ := h
  exact ⟨S, h1.keep k fun g hg => (h2 g hg).2, h2, ((But.of_new X h3).trans k).new fun i hi c => (by have := hb i c; omega), fun g hg => Nat.lt_of_lt_of_le (h4 g hg) k.size⟩
theorem Ftx.world {X : Nat → Prop} {w0 w : World} {tb : Nat} {most : Int} {L : Ft} (h : Ftx X w0 w tb most L) : New w0 w := by obtain ⟨S, h1, h2, h3, h4⟩ := h; exact h3
theorem Ftx.inv {X : Nat → Prop} {w0 w : World} {tb : Nat} {most : Int} {L : Ft} (h : Ftx X w0 w tb most L) : L.length ≤ 32 ∧ ∀ q ∈ L, 1 ≤ q.2.rf ∧ q.2.rf ≤ 1048576 := by obtain ⟨S, h1, h2, h3, h4⟩ := h; exact h1.inv
section
variable {X : Nat → Prop} {w0 w : World} {tb : Nat} {most : Int} {L : Ft}
theorem ftx_new (most : Int) (w : World) (h : 1 ≤ most ∧ most ≤ 32) : Calls Tryd.prog 13 #[.int .i64 most] w fun e w' => ∃ tb, e = .returned (.tuple #[.pointer (some ⟨tb, 0, none⟩), .nilIface]) ∧ Ftx (fun _ => False) w w' tb most [] :=
  (fnew_ok most w h).mono fun e w' ⟨tb, S, he, h1, hs, n1⟩ => ⟨tb, he, S, h1, fun g hg => ⟨hs g hg, id⟩, n1, fun g hg => hg.elim⟩
theorem ftx_open (h : Ftx X w0 w tb most L) (f : Fl) : Calls Tryd.prog 6 #[.pointer (some ⟨tb, 0, none⟩), FlV f] w fun e w' => e = .returned (.tuple #[.int .i64 (foN most L f), erN (foE most L f)]) ∧ Ftx X w0 w' tb most (foL most L f) ∧ But (fun g => ¬ X g) w w' := by
  obtain ⟨S, h1, h2, h3, h4⟩ := h
  exact (fopen_any h1 f).mono fun e w' ⟨he, hd⟩ => ⟨he, Ftx.step (L := L) h2 h3 h4 hd⟩
theorem ftx_get (h : Ftx X w0 w tb most L) (n : Int) : Calls Tryd.prog 7 #[.pointer (some ⟨tb, 0, none⟩), .int .i64 n] w fun e w' => e = .returned (.tuple #[FlV (fgF L n), erN (fgE L n)]) ∧ Ftx X w0 w' tb most L ∧ But (fun g => ¬ X g) w w' := by
  obtain ⟨S, h1, h2, h3, h4⟩ := h
  exact (fget_any h1 n).mono fun e w' ⟨he, hd⟩ => ⟨he, Ftx.step (L := L) h2 h3 h4 hd⟩
theorem ftx_ref (h : Ftx X w0 w tb most L) (n : Int) : Calls Tryd.prog 10 #[.pointer (some ⟨tb, 0, none⟩), .int .i64 n] w fun e w' => e = .returned (erN (frE L n 1)) ∧ Ftx X w0 w' tb most (frL L n 1) ∧ But (fun g => ¬ X g) w w' := by
  obtain ⟨S, h1, h2, h3, h4⟩ := h
  exact (fref_any h1 n).mono fun e w' ⟨he, hd⟩ => ⟨he, Ftx.step (L := L) h2 h3 h4 hd⟩
theorem ftx_unref (h : Ftx X w0 w tb most L) (n : Int) : Calls Tryd.prog 8 #[.pointer (some ⟨tb, 0, none⟩), .int .i64 n] w fun e w' => e = .returned (.tuple #[FlV (frO L n (-1)), .bool (decide (frE L n (-1) = 0 ∧ (frO L n (-1)).rf = 0)), erN (frE L n (-1))]) ∧ Ftx X w0 w' tb most (frL L n (-1)) ∧ But (fun g => ¬ X g) w w' := by
  obtain ⟨S, h1, h2, h3, h4⟩ := h
  exact (funref_any h1 n).mono fun e w' ⟨he, hd⟩ => ⟨he, Ftx.step (L := L) h2 h3 h4 hd⟩
theorem ftx_move (h : Ftx X w0 w tb most L) (n off : Int) : Calls Tryd.prog 11 #[.pointer (some ⟨tb, 0, none⟩), .int .i64 n, .int .i64 off] w fun e w' => e = .returned (erN (fmE L n off)) ∧ Ftx X w0 w' tb most (fmL L n off) ∧ But (fun g => ¬ X g) w w' := by
  obtain ⟨S, h1, h2, h3, h4⟩ := h
  exact (fmove_any h1 n off).mono fun e w' ⟨he, hd⟩ => ⟨he, Ftx.step (L := L) h2 h3 h4 hd⟩
theorem ftx_list (h : Ftx X w0 w tb most L) : Calls Tryd.prog 12 #[.pointer (some ⟨tb, 0, none⟩)] w fun e w' => ∃ v l, e = .returned v ∧ Nums w' v l ∧ l.length = L.length ∧ (∀ n : Int, n ∈ l ↔ lget L n ≠ none) ∧ (Ftx X w0 w' tb most L ∧ But (fun g => ¬ X g) w w') ∧ (∀ g, v.ownBlock = some g → w.heap.size ≤ g) := by
  obtain ⟨S, h1, h2, h3, h4⟩ := h
  exact (flist_any h1).mono fun e w' ⟨v, l, he, k1, k2, k3, hd, k4⟩ => ⟨v, l, he, k1, k2, k3, Ftx.step (L := L) h2 h3 h4 hd, k4⟩
end
/-! the files of sure -/
def su0 : Fl := ⟨0, 3, 0, false, false, [97], 0⟩
def su1 : Ft := [(0, { su0 with rf := 1 })]
def su2 : Ft := [(0, { su0 with rf := 2 })]
theorem su_o : foN 2 [] su0 = 0 ∧ foE 2 [] su0 = 0 := by decide
theorem su_o2 : foL 2 [] su0 = su1 := rfl
theorem su_r : frE su1 0 1 = 0 := by decide
theorem su_r2 : frL su1 0 1 = su2 := rfl
theorem su_u : frE su2 0 (-1) = 0 ∧ (frO su2 0 (-1)).rf = 1 := by decide
theorem su_u2 : frL su2 0 (-1) = su1 := rfl
theorem su_s : skE Fl.zero (-1) 2 5 = 0 ∧ skN Fl.zero (-1) 2 5 = 4 := by decide
theorem su_t : skE ⟨1, 0, 0, false, false, [], 0⟩ 0 0 0 = 29 ∧ skN ⟨1, 0, 0, false, false, [], 0⟩ 0 0 0 = 0 := by decide
set_option maxHeartbeats 4000000 in
theorem fisure_any (w : World) (hl : Laid w) : Calls Tryd.prog 14 #[] w fun e w' => e = .returned (.bool true) ∧ New w w' := by
  have c := ftx_new 2 w (by omega)
  go_enter Tryd.func14, Tryd.ntmps14
  go_wp2_with fail
  refine c.mono ?_
  rintro e w1 ⟨tb, rfl, F⟩
  have c := ftx_open F su0
  clear F
  rw [su_o.1, su_o.2, er0, su_o2] at c
  unfold FlV su0 at c
  dsimp only at c
  go_wp2_with fail
  refine c.mono ?_
  rintro e w2 ⟨rfl, F, -⟩
  have c := ftx_ref F 0
  rw [su_r, er0, su_r2] at c
  clear F
  go_wp2_with fail
  refine c.mono ?_
  rintro e w3 ⟨rfl, F, -⟩
  have c := ftx_unref F 0
  rw [su_u2, su_u.1, er0, su_u.2, decide_eq_false (show ¬ ((0 : Int) = 0 ∧ (1 : Int) = 0) by omega)] at c
  clear F
  go_wp2_with fail
  refine c.mono ?_
  rintro e w4 ⟨rfl, F, -⟩
  unfold FlV
  generalize frO su2 0 (-1) = fo at *
  have F := F.new ((New.refl _).alloc #[.int .i64 fo.k, .int .i64 fo.id, .int .i64 fo.off, .bool fo.rd, .bool fo.wt, .string (ba fo.nm), .int .i64 fo.rf] 29)
  have c := fun W => fseek_any Fl.zero (-1) 2 5 (by omega) W
  rw [su_s.1, su_s.2, er0] at c
  unfold FlV Fl.zero at c
  dsimp only at c
  go_wp2_with fail
  refine (c _).mono ?_
  rintro e w5 ⟨rfl, n5⟩
  have F := F.new n5
  have c := fun W => fseek_any ⟨1, 0, 0, false, false, [], 0⟩ 0 0 0 (by omega) W
  rw [su_t.1, su_t.2, erN_pos (by omega)] at c
  unfold FlV at c
  dsimp only at c
  clear n5
  go_wp2_with fail
  refine (c _).mono ?_
  rintro e w6 ⟨rfl, n6⟩
  have F := F.new n6
  have c := num_er 29 w6 (hl.new F.world)
  rw [erN_pos (by omega)] at c
  clear n6
  go_wp2_with fail
  refine c.mono ?_
  rintro e w7 ⟨rfl, n7⟩
  have F := F.new n7
  have c := ftx_list F
  clear n7
  go_wp2_with fail
  refine c.mono ?_
  rintro e w8 ⟨v, l, rfl, hv, hvl, -, ⟨F, -⟩, -⟩
  obtain ⟨p, cap, rfl⟩ := hv.shape
  have hl1 : l.length = 1 := hvl
  have FW := Lib.hid F.world
  clear hv hvl F c
  rw [hl1]
  clear hl1
  go_wp2
  go_ret
  exact ⟨rfl, FW.out⟩
end Go.Proofs.YtpapicnkhjcjoaaDoor
