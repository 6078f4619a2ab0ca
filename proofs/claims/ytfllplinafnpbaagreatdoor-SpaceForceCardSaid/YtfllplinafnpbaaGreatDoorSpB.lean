/- Spaces of pages in memory: what the layers below do beside them, step by step. Contracts, for any spaces over one row of frames, in any world. -/
import Derived.Test.YtfllplinafnpbaaGreatDoorSpA
namespace Go.Proofs.YtfllplinafnpbaaGreatDoor
open Go.RowKit
set_option linter.unusedVariables false
set_option maxRecDepth 100000
/-- an answer; frames and bytes then; nothing else has changed -/
def GDid (k fb rb mb qb : Nat) (rs bs : List Int) (S : List Sq) (v : Value) (w : World) (e : Ending) (w' : World) : Prop :=
  e = .returned v ∧ GM w' k fb rb mb qb rs bs S ∧ But (fun g => g = rb ∨ g = qb) w w'
/-- an entry's number laid down: in an upper part that has a frame, or in a new one -/
def layB (bs : List Int) (t p : Nat) (v : Int) (g : Nat) : List Int := if nm bs t (p / 64) = 0 then pt (nw bs t (p / 64) g) g (p % 64) v else pt bs (lof bs t (p / 64)) (p % 64) v
def layR (rs bs : List Int) (t p g : Nat) : List Int := if nm bs t (p / 64) = 0 then rs.set g 1 else rs
section
variable {w w' : World} {k fb rb mb qb : Nat} {rs bs qs cs : List Int} {S T : List Sq} {a : Nat → Prop}
theorem g_alloc_no (h : GM w k fb rb mb qb rs bs S) (hn : NoFree rs k) : Calls Tryz.prog 104 #[.pointer (some ⟨fb, 0, none⟩)] w (GDid k fb rb mb qb rs bs S (.tuple #[.int .i64 0, .iface 72 (.int .i64 12)]) w) :=
  (alloc_none w h.fr (by rw [h.len]; exact hn)).mono fun e w' ⟨h1, h2⟩ => ⟨h1, h2 ▸ h, h2 ▸ But.refl _ _⟩
theorem g_alloc (h : GM w k fb rb mb qb rs bs S) (g : Nat) (hg : g < k) (hn : NoFree rs g) (hz : rs.getD g 0 = 0) :
    Calls Tryz.prog 104 #[.pointer (some ⟨fb, 0, none⟩)] w (GDid k fb rb mb qb (rs.set g 1) bs S (.tuple #[.int .i64 g, .nilIface]) w) :=
  (did_alloc g h.fr (by rw [h.len]; exact hg) hn hz).mono fun e w' ⟨h1, h2, h3⟩ => by
    have b : But (fun g => g = rb ∨ g = qb) w w' := But.of_far h3 (.inl rfl)
    exact ⟨h1, h.turn b h2 (h.ph.off h3 (Box.ne h.ph.boxes.1 h.fr.boxes.2 (by decide)) (Box.ne h.ph.boxes.2 h.fr.boxes.2 (by decide))) (by rw [List.length_set]; exact h.len), b⟩
theorem g_ref (h : GM w k fb rb mb qb rs bs S) (g : Nat) (hg : g < k) (h1 : 0 < rs.getD g 0) (h2 : rs.getD g 0 < 1073741824) :
    Calls Tryz.prog 66 #[.pointer (some ⟨fb, 0, none⟩), .int .i64 g] w (GDid k fb rb mb qb (rs.set g (rs.getD g 0 + 1)) bs S .nilIface w) :=
  (did_ref g h.fr (by rw [h.len]; exact hg) h1 h2).mono fun e w' ⟨h1, h2, h3⟩ => by
    have b : But (fun g => g = rb ∨ g = qb) w w' := But.of_far h3 (.inl rfl)
    exact ⟨h1, h.turn b h2 (h.ph.off h3 (Box.ne h.ph.boxes.1 h.fr.boxes.2 (by decide)) (Box.ne h.ph.boxes.2 h.fr.boxes.2 (by decide))) (by rw [List.length_set]; exact h.len), b⟩
theorem g_unref (h : GM w k fb rb mb qb rs bs S) (g : Nat) (hg : g < k) (h1 : 0 < rs.getD g 0) :
    Calls Tryz.prog 67 #[.pointer (some ⟨fb, 0, none⟩), .int .i64 g] w (GDid k fb rb mb qb (rs.set g (rs.getD g 0 - 1)) bs S (.tuple #[.bool (rs.getD g 0 == 1), .nilIface]) w) :=
  (did_unref g h.fr (by rw [h.len]; exact hg) h1).mono fun e w' ⟨h1, h2, h3⟩ => by
    have b : But (fun g => g = rb ∨ g = qb) w w' := But.of_far h3 (.inl rfl)
    exact ⟨h1, h.turn b h2 (h.ph.off h3 (Box.ne h.ph.boxes.1 h.fr.boxes.2 (by decide)) (Box.ne h.ph.boxes.2 h.fr.boxes.2 (by decide))) (by rw [List.length_set]; exact h.len), b⟩
theorem g_refs (h : GM w k fb rb mb qb rs bs S) (g : Nat) (hg : g < k) : Calls Tryz.prog 106 #[.pointer (some ⟨fb, 0, none⟩), .int .i64 g] w fun e w' => e = .returned (.int .i64 (rs.getD g 0)) ∧ w = w' := by
  have := refs_any (g : Int) w h.fr
  rwa [rfs_in _ _ (by rw [h.len]; exact hg)] at this
theorem g_turn_ph (h : GM w k fb rb mb qb rs bs S) {c : List Int} {v : Value} {e : Ending} (x : DidP mb qb k c v w e w') : GDid k fb rb mb qb rs c S v w e w' := by
  obtain ⟨h1, h2, h3⟩ := x
  have b : But (fun g => g = rb ∨ g = qb) w w' := But.of_far h3 (.inr rfl)
  have l1 := h.fr.lt
  exact ⟨h1, h.turn b ⟨h.fr.1, h.fr.2.1, by rw [h3.block l1.1 (Box.ne h.fr.boxes.1 h.ph.boxes.2 (by decide))]; exact h.fr.2.2.1, by rw [h3.block l1.2 (Box.ne h.fr.boxes.2 h.ph.boxes.2 (by decide))]; exact h.fr.2.2.2⟩ h2 h.len, b⟩
theorem g_zero (h : GM w k fb rb mb qb rs bs S) (g : Nat) (hg : g < k) :
    Calls Tryz.prog 105 #[.pointer (some ⟨mb, 0, none⟩), .int .i64 g] w (GDid k fb rb mb qb rs (zr bs g) S .nilIface w) :=
  (zero_any g h.ph hg).mono fun e w' x => g_turn_ph h x
theorem g_copy (h : GM w k fb rb mb qb rs bs S) (g f : Nat) (hg : g < k) (hf : f < k) :
    Calls Tryz.prog 107 #[.pointer (some ⟨mb, 0, none⟩), .int .i64 g, .int .i64 f] w (GDid k fb rb mb qb rs (splice bs (g * 256 + 0) (fby bs f)) S .nilIface w) :=
  (copy_any g f h.ph hg hf).mono fun e w' x => g_turn_ph h x
theorem g_write (h : GM w k fb rb mb qb rs bs S) (g o : Nat) (v : Value) (l : List Int) (hv : Byts w v l) (hc : Oct l) (hg : g < k) (ho : o + l.length ≤ 256) :
    Calls Tryz.prog 42 #[.pointer (some ⟨mb, 0, none⟩), .int .i64 g, .int .i64 o, v] w (GDid k fb rb mb qb rs (splice bs (g * 256 + o) l) S .nilIface w) :=
  (write_any g o v l h.ph hv hc hg ho).mono fun e w' x => g_turn_ph h x
theorem g_turn_t (h : GM w k fb rb mb qb rs bs S) {qs cs : List Int} (hl : qs.length = k) {v : Value} {e : Ending} (x : DidT fb rb mb qb k qs cs v w e w') : GDid k fb rb mb qb qs cs S v w e w' :=
  ⟨x.1, h.turn x.2.2.2 x.2.1 x.2.2.1 hl, x.2.2.2⟩
theorem g_set {i : Nat} (h : GM w k fb rb mb qb rs bs S) (hi : i < S.length) (ho : S[i].on = true) (g : Good k a bs S[i].t) (p : Nat) (hp : p < 4096) (f q : Int) (c : Bool) (f0 : 0 ≤ f) (f1 : f < 1024) (q0 : 0 ≤ q) (q1 : q ≤ 7)
    (n : Nat) (hn : nm bs S[i].t (p / 64) = 0 → n < k ∧ NoFree rs n ∧ rs.getD n 0 = 0) :
    Calls Tryz.prog 41 #[.pointer (some ⟨S[i].tb, 0, none⟩), .int .i64 p, .agg #[.int .i64 f, .int .u8 q, .bool c]] w (GDid k fb rb mb qb (layR rs bs S[i].t p n) (layB bs S[i].t p (ennum f q c) n) S .nilIface w) := by
  have ht := (h.has hi ho).tab
  by_cases c0 : nm bs S[i].t (p / 64) = 0
  · obtain ⟨h1, h2, h3⟩ := hn c0
    unfold layR layB
    rw [if_pos c0, if_pos c0]
    exact (tset_new p n f q c ht h.fr h.ph (by rw [h.len]; exact Nat.le_refl _) g.lt hp f0 f1 q0 q1 c0 (by rw [h.len]; exact h1) h2 h3).mono fun e w' x => g_turn_t h (by rw [List.length_set]; exact h.len) x
  · unfold layR layB
    rw [if_neg c0, if_neg c0]
    exact (tset_old p k a f q c ht h.fr h.ph g (Nat.le_refl _) hp f0 f1 q0 q1 c0).mono fun e w' x => g_turn_t h h.len x
theorem g_set_no {i : Nat} (h : GM w k fb rb mb qb rs bs S) (hi : i < S.length) (ho : S[i].on = true) (g : Good k a bs S[i].t) (p : Nat) (hp : p < 4096) (f q : Int) (c : Bool) (f0 : 0 ≤ f) (f1 : f < 1024) (q0 : 0 ≤ q) (q1 : q ≤ 7)
    (h0 : nm bs S[i].t (p / 64) = 0) (hn : NoFree rs k) :
    Calls Tryz.prog 41 #[.pointer (some ⟨S[i].tb, 0, none⟩), .int .i64 p, .agg #[.int .i64 f, .int .u8 q, .bool c]] w (Said (.iface 72 (.int .i64 12)) w) :=
  tset_full p f q c (h.has hi ho).tab h.fr h.ph g.lt hp f0 f1 q0 q1 (by rw [h.len]; exact hn) h0
theorem g_clear {i : Nat} (h : GM w k fb rb mb qb rs bs S) (hi : i < S.length) (ho : S[i].on = true) (g : Good k a bs S[i].t) (p : Nat) (hp : p < 4096) (h0 : nm bs S[i].t (p / 64) ≠ 0) :
    Calls Tryz.prog 68 #[.pointer (some ⟨S[i].tb, 0, none⟩), .int .i64 p] w (GDid k fb rb mb qb rs (pt bs (lof bs S[i].t (p / 64)) (p % 64) 0) S .nilIface w) :=
  (tclear_some p k a (h.has hi ho).tab h.fr h.ph g (Nat.le_refl _) hp h0).mono fun e w' x => g_turn_t h h.len x
theorem GDid.trans {v v' : Value} {e e' : Ending} {w1 w2 : World} {r1 b1 r2 b2 : List Int} (h : GDid k fb rb mb qb r1 b1 S v w e w1) (h' : GDid k fb rb mb qb r2 b2 S v' w1 e' w2) : But (fun g => g = rb ∨ g = qb) w w2 := h.2.2.trans h'.2.2
/-- another block is no part of it -/
theorem GM.aside {eb : Nat} {es : Array Value} {ty : TypeId} (h : GM w k fb rb mb qb rs bs S) (B : Box w eb es ty) (h1 : ty ≠ 119) (h2 : ty ≠ 3) (h3 : ty ≠ 128) (h4 : ty ≠ 125) (h5 : ty ≠ 77) (h6 : ty ≠ 137) (h7 : ty ≠ 37)
    (b : But (fun g => g = eb) w w') : GM w' k fb rb mb qb rs bs S := by
  have n := fun {m : Nat} {cs : Array Value} {t : TypeId} (X : Box w m cs t) (ht : ty ≠ t) => Box.ne X B (fun e => ht e.symm)
  refine ⟨⟨h.fr.1, h.fr.2.1, Box.but h.fr.boxes.1 b (n h.fr.boxes.1 h1), Box.but h.fr.boxes.2 b (n h.fr.boxes.2 h2)⟩, ⟨h.ph.1, h.ph.2.1, h.ph.2.2.1, h.ph.2.2.2.1, h.ph.2.2.2.2.1, Box.but h.ph.boxes.1 b (n h.ph.boxes.1 h3), Box.but h.ph.boxes.2 b (n h.ph.boxes.2 h4)⟩, h.len, fun i hi => ?_, h.nsb, h.ntb⟩
  obtain ⟨c1, b1⟩ := (h.mem i hi).sb
  obtain ⟨c2, b2⟩ := (h.mem i hi).tb
  exact (h.mem i hi).but b (n b1 h5) (n b2 h6) (fun g hg => hg ▸ Box.not_row B h7)
/-- a slice of bytes that can be read, whatever becomes of some blocks -/
def BytsK (X : Nat → Prop) (w : World) (v : Value) (l : List Int) : Prop := ∀ w', But X w w' → Byts w' v l
theorem BytsK.now {X : Nat → Prop} {v : Value} {l : List Int} (h : BytsK X w v l) : Byts w v l := h w (But.refl _ _)
theorem BytsK.but {X : Nat → Prop} {v : Value} {l : List Int} (h : BytsK X w v l) (b : But X w w') : BytsK X w' v l := fun w2 b2 => h w2 (b.trans b2)
theorem OwnR.bytesk {X : Nat → Prop} {v : Value} {l : List Int} {base : Nat} (h : OwnB base w v l) (hX : ∀ g, X g → ∀ cur, w.heap[g]? ≠ some (.cells cur 5 (0, 0))) : BytsK X w v l := fun w' b => by
  refine OwnB.byts (base := base) ⟨h.1, ?_⟩
  rcases h.2 with hn | ⟨g, cap, cur, rfl, hb, hg, rest⟩
  · exact .inl hn
  · exact .inr ⟨g, cap, cur, rfl, hb, by rw [b.block (Array.getElem?_eq_some_iff.1 hg).1 (fun c => hX g c cur hg)]; exact hg, rest⟩
end
end Go.Proofs.YtfllplinafnpbaaGreatDoor
