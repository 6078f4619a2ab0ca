/- The document's open files: Open in one form, Ref, Move, Seek. -/
import Derived.Test.YtpapicnkhjcjoaaDoorFiD
import Derived.Deep.RegionHeld3
namespace Go.Proofs.YtpapicnkhjcjoaaDoor
open Go.RowKit
set_option linter.unusedVariables false
set_option maxRecDepth 100000
section
variable {w w' : World} {u : Value} {L : Ft} {most : Int}
/-- what became of the table: rows of the call's own, new ones or the elder ones -/
def DtD (b : Nat) (u : Value) (w w' : World) (u' : Value) (L' : Ft) : Prop := OwnW RIt b w' u' (L'.map itC) ∧ (∀ g, u'.ownBlock = some g → w.heap.size ≤ g ∨ u.ownBlock = some g) ∧ New w w'
theorem rfopen_any {b : Nat} (h : OwnW RIt b w u (L.map itC)) (hb : b ≤ w.heap.size) (hl : L.length ≤ 100000) (f : Fl) : Calls Tryd.prog 17 #[DtV most u, FlV f] w fun e w' => ∃ u', e = .returned (.tuple #[DtV most u', .int .i64 (foN most L f), .int .i64 (foE most L f)]) ∧ DtD b u w w' u' (foL most L f) := by
  by_cases he : foE most L f = 0
  · refine (rfopen_ok h.rws hl f he).mono ?_
    rintro e w1 ⟨u', rfl, k1, k2⟩
    have e1 : foN most L f = frZ L := by unfold foN; rw [if_pos he]
    have e2 : foL most L f = L ++ [(frZ L, { f with rf := 1 })] := by unfold foL; rw [if_pos he]
    rw [e1, e2, he]
    exact ⟨u', rfl, k1.more hb, fun g hg => .inl (k1.ge hg), k2⟩
  · refine (rfopen_no h.rws hl f he).mono ?_
    rintro e w1 ⟨rfl, k2⟩
    have e1 : foN most L f = 0 := by unfold foN; rw [if_neg he]
    have e2 : foL most L f = L := by unfold foL; rw [if_neg he]
    rw [e1, e2]
    exact ⟨u, rfl, h.new k2, fun g hg => .inr hg, k2⟩
theorem Box.set2 {g : Nat} {t : TypeId} {a b : Value} (h : Box w g #[a, b] t) (x y : Value) : Box ((w.setCell ⟨g, 0, none⟩ x).setCell ⟨g, 1, none⟩ y) g #[x, y] t := by
  have := (h.set 0 x).set 1 y
  simpa using this
theorem New.set2 {a b : World} (h : New a b) {g : Nat} (hg : a.heap.size ≤ g) (x y : Value) : New a ((b.setCell ⟨g, 0, none⟩ x).setCell ⟨g, 1, none⟩ y) := (h.setCell (p := ⟨g, 0, none⟩) hg x).setCell (p := ⟨g, 1, none⟩) hg y
theorem Box.oth2 {g m : Nat} {cs : Array Value} {t : TypeId} (h : Box w m cs t) (k : g ≠ m) (x y : Value) : Box ((w.setCell ⟨g, 0, none⟩ x).setCell ⟨g, 1, none⟩ y) m cs t := (h.other (p := ⟨g, 0, none⟩) k x).other (p := ⟨g, 1, none⟩) k y
theorem Box.oth7 {g m : Nat} {cs : Array Value} {t : TypeId} (h : Box w m cs t) (k : g ≠ m) (x0 x1 x2 x3 x4 x5 x6 : Value) : Box (((((((w.setCell ⟨g, 0, none⟩ x0).setCell ⟨g, 1, none⟩ x1).setCell ⟨g, 2, none⟩ x2).setCell ⟨g, 3, none⟩ x3).setCell ⟨g, 4, none⟩ x4).setCell ⟨g, 5, none⟩ x5).setCell ⟨g, 6, none⟩ x6) m cs t :=
  ((((((h.other (p := ⟨g, 0, none⟩) k x0).other (p := ⟨g, 1, none⟩) k x1).other (p := ⟨g, 2, none⟩) k x2).other (p := ⟨g, 3, none⟩) k x3).other (p := ⟨g, 4, none⟩) k x4).other (p := ⟨g, 5, none⟩) k x5).other (p := ⟨g, 6, none⟩) k x6
set_option maxHeartbeats 8000000 in
theorem rfmove_any {b : Nat} (h0 : OwnW RIt b w u (L.map itC)) (hb : b ≤ w.heap.size) (hl : L.length ≤ 100000) (n off : Int) : Calls Tryd.prog 16 #[DtV most u, .int .i64 n, .int .i64 off] w fun e w' => ∃ u', e = .returned (.tuple #[DtV most u', .int .i64 (fmE L n off)]) ∧ DtD b u w w' u' (fmL L n off) := by
  have h : Its w u L := h0.rws
  have HOW := Lib.hid h0
  clear h0
  obtain ⟨p, cap, rfl, h1, h2⟩ := h.shape
  unfold maxLen at h2
  have H := Lib.hid h
  obtain ⟨E, hE⟩ : ∃ E, E = (w.alloc (.cells #[.int .i64 most, .slice p L.length cap] 44)).alloc (.cells #[.int .i64 0, .slice none 0 0] 44) := ⟨_, rfl⟩
  have n0 : New w E := by rw [hE]; exact ((New.refl w).alloc _ _).alloc _ _
  have bA : Box E w.heap.size #[.int .i64 most, .slice p L.length cap] 44 := by rw [hE]; exact (Box.here w _ _ _ rfl).alloc _
  have bZ : Box E (w.heap.size + 1) #[.int .i64 0, .slice none 0 0] 44 := by rw [hE]; exact Box.here _ _ _ _ (by rw [World.size_alloc])
  have X := rfget_any (w := E) (most := most) (h.new n0) (by omega) n
  have cW := fun W (k : New w W) (f : Fl) => rfwith_any (w := W) (most := most) (h.new k) hl n f
  unfold DtV FlV at *
  clear h
  by_cases hg : fgE L n = 0
  · rw [hg] at X
    by_cases ho : off < 0 ∨ 1073741824 < off
    · have e1 : fmE L n off = 22 := by unfold fmE; rw [if_neg (fun c => c hg), if_pos ho]
      have e2 : fmL L n off = L := by unfold fmL; rw [e1]; rfl
      rw [e1, e2]
      clear e1 e2 hg cW
      generalize fgF L n = f at *
      have HLN : L.length = L.length := rfl
      generalize hLN : L.length = ln at *
      rcases ho with ho | ho
      all_goals
        go_enter Tryd.func16, Tryd.ntmps16
        go_wp2_with fail
        rw [← hE]
        refine X.mono ?_
        rintro e w1 ⟨rfl, n1⟩
        have n2 := n0.trans n1
        have sz := n0.size
        have lE := bZ.lt
        have sz1 := n1.size
        have BA := Lib.hid (bA.new n1)
        have BZ := Lib.hid (bZ.new n1)
        obtain ⟨a0, a1⟩ := (bA.new n1).two
        have la := (bA.new n1).lt
        obtain ⟨z0, z1⟩ := (bZ.new n1).two
        have g0 := (bZ.new n1).unfrozen 0
        have g1 := (bZ.new n1).unfrozen 1
        have lz := (bZ.new n1).lt
        clear X hE bA bZ n1 n0
        go_wp2
        have BZf := (BZ.out.set2 (.int .i64 most) (.slice p ln cap)).new ((New.refl _).alloc #[.int .i64 f.k, .int .i64 f.id, .int .i64 f.off, .bool f.rd, .bool f.wt, .string (ba f.nm), .int .i64 f.rf] 45)
        have HR := BZf.rtb
        have HN := (n2.set2 (g := w.heap.size + 1) (by omega) (.int .i64 most) (.slice p ln cap)).alloc #[.int .i64 f.k, .int .i64 f.id, .int .i64 f.off, .bool f.rd, .bool f.wt, .string (ba f.nm), .int .i64 f.rf] 45
        exact bodyPost_ret (v := .tuple #[.agg #[.int .i64 most, .slice p ln cap], .int .i64 22]) (by simp [results, Tryd.results16, asAddr, HR]) rfl ⟨_, rfl, HOW.out.new HN, fun g hg => .inr hg, HN⟩
    · have e1 : fmE L n off = 0 := by unfold fmE; rw [if_neg (fun c => c hg), if_neg ho]
      have e2 : fmL L n off = lwith L n { fgF L n with off := off } := by unfold fmL; rw [if_pos e1]
      rw [e1, e2]
      have o1 : ¬ off < 0 := fun c => ho (.inl c)
      have o2 : ¬ 1073741824 < off := fun c => ho (.inr c)
      clear e1 e2 hg ho
      generalize fgF L n = f at *
      have cW := fun W k => cW W k { f with off := off }
      dsimp only at cW
      generalize lwith L n { f with off := off } = L' at *
      have CW := Lib.hid cW
      clear cW
      generalize hLN : L.length = ln at *
      go_enter Tryd.func16, Tryd.ntmps16
      go_wp2_with fail
      rw [← hE]
      refine X.mono ?_
      rintro e w1 ⟨rfl, n1⟩
      have n2 := n0.trans n1
      have sz := n0.size
      have lE := bZ.lt
      have sz1 := n1.size
      have BA := Lib.hid (bA.new n1)
      have BZ := Lib.hid (bZ.new n1)
      obtain ⟨a0, a1⟩ := (bA.new n1).two
      have la := (bA.new n1).lt
      obtain ⟨z0, z1⟩ := (bZ.new n1).two
      have g0 := (bZ.new n1).unfrozen 0
      have g1 := (bZ.new n1).unfrozen 1
      have lz := (bZ.new n1).lt
      clear X hE bA bZ n1 n0
      go_wp2_with fail
      have nF := (New.refl w1).alloc #[.int .i64 f.k, .int .i64 f.id, .int .i64 off, .bool f.rd, .bool f.wt, .string (ba f.nm), .int .i64 f.rf] 45
      have n3 := n2.trans nF
      refine (CW.out _ n3).mono ?_
      rintro e w4 ⟨u', rfl, o4, n4⟩
      obtain ⟨p4, c4, rfl, -, -⟩ := o4.shape
      have n5 := nF.trans n4
      have BZf := (BZ.out.new n5).set2 (.int .i64 most) (.slice p4 (L'.map itC).length c4)
      have KB := (But.set (S := fun g => g = w.heap.size + 1) w4 (p := ⟨w.heap.size + 1, 0, none⟩) rfl (.int .i64 most)).trans (But.set (S := fun g => g = w.heap.size + 1) _ (p := ⟨w.heap.size + 1, 1, none⟩) rfl (.slice p4 (L'.map itC).length c4))
      have NN := (n2.trans n5).set2 (g := w.heap.size + 1) (by omega) (.int .i64 most) (.slice p4 (L'.map itC).length c4)
      have szF := nF.size
      have PP := (o4.but KB (fun g hg c => by have := o4.ge hg; omega)).more (b2 := b) (by omega)
      have PG : ∀ g, (Value.slice p4 (L'.map itC).length c4).ownBlock = some g → w.heap.size ≤ g := fun g hg => by have := o4.ge hg; omega
      have END := Lib.hid (And.intro BZf.rtb (And.intro NN (And.intro PP PG)))
      clear z0 z1 g0 g1 lz
      obtain ⟨z0, z1⟩ := (BZ.out.new n5).two
      have g0 := (BZ.out.new n5).unfrozen 0
      have g1 := (BZ.out.new n5).unfrozen 1
      have lz := (BZ.out.new n5).lt
      clear BZf KB NN PP PG o4 n4 n5 nF n3 n2 CW
      generalize (L'.map itC).length = l4 at *
      go_wp2
      obtain ⟨HR, NN, PP, PG⟩ := END.out
      exact bodyPost_ret (v := .tuple #[.agg #[.int .i64 most, .slice p4 l4 c4], .int .i64 0]) (by simp [results, Tryd.results16, asAddr, HR]) rfl ⟨_, rfl, PP, fun g hg => .inl (PG g hg), NN⟩
  · have e1 : fmE L n off = fgE L n := by unfold fmE; rw [if_pos hg]
    have e3 : fgE L n = 9 := by
      unfold fgE at hg ⊢
      cases h : lget L n with
      | none => rfl
      | some x => rw [h] at hg; exact absurd rfl hg
    have e2 : fmL L n off = L := by unfold fmL; rw [e1, e3]; rfl
    rw [e1, e2]
    rw [e3] at X ⊢
    clear e1 e2 e3 hg cW
    generalize fgF L n = f at *
    generalize hLN : L.length = ln at *
    go_enter Tryd.func16, Tryd.ntmps16
    go_wp2_with fail
    rw [← hE]
    refine X.mono ?_
    rintro e w1 ⟨rfl, n1⟩
    have n2 := n0.trans n1
    have sz := n0.size
    have lE := bZ.lt
    have sz1 := n1.size
    have BA := Lib.hid (bA.new n1)
    have BZ := Lib.hid (bZ.new n1)
    obtain ⟨a0, a1⟩ := (bA.new n1).two
    have la := (bA.new n1).lt
    obtain ⟨z0, z1⟩ := (bZ.new n1).two
    have g0 := (bZ.new n1).unfrozen 0
    have g1 := (bZ.new n1).unfrozen 1
    have lz := (bZ.new n1).lt
    clear X hE bA bZ n1 n0
    go_wp2
    have BZf := (BZ.out.set2 (.int .i64 most) (.slice p ln cap)).new ((New.refl _).alloc #[.int .i64 f.k, .int .i64 f.id, .int .i64 f.off, .bool f.rd, .bool f.wt, .string (ba f.nm), .int .i64 f.rf] 45)
    have HR := BZf.rtb
    have HN := (n2.set2 (g := w.heap.size + 1) (by omega) (.int .i64 most) (.slice p ln cap)).alloc #[.int .i64 f.k, .int .i64 f.id, .int .i64 f.off, .bool f.rd, .bool f.wt, .string (ba f.nm), .int .i64 f.rf] 45
    exact bodyPost_ret (v := .tuple #[.agg #[.int .i64 most, .slice p ln cap], .int .i64 9]) (by simp [results, Tryd.results16, asAddr, HR]) rfl ⟨_, rfl, HOW.out.new HN, fun g hg => .inr hg, HN⟩
end
end Go.Proofs.YtpapicnkhjcjoaaDoor