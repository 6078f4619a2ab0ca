/- Spaces of pages in memory, several of them over one row of frames: what is where, and what stays where it is. -/
import Derived.Test.YtfllplinafnpbaaGreatDoorSpStep
import Derived.Test.YtfllplinafnpbaaGreatDoorReL
namespace Go.Proofs.YtfllplinafnpbaaGreatDoor
open Go.RowKit
set_option linter.unusedVariables false
set_option maxRecDepth 100000
/-- a space in memory -/
def SpB (w : World) (sb fb mb tb : Nat) (v : Value) : Prop := Box w sb #[.pointer (some ⟨fb, 0, none⟩), .pointer (some ⟨mb, 0, none⟩), .pointer (some ⟨tb, 0, none⟩), v] 77
/-- one that was freed -/
def Sp0 (w : World) (sb : Nat) : Prop := Box w sb #[.pointer none, .pointer none, .pointer none, .slice none 0 0] 77
theorem OwnR.but {T : TypeId} {base : Nat} {S : Nat → Prop} {w w' : World} {v : Value} {l : List Rg} (h : OwnR T base w v l) (k : But S w w') (hS : ∀ g, S g → ∀ cur, w.heap[g]? ≠ some (.cells cur T (0, 0))) : OwnR T base w' v l := by
  refine ⟨h.1, ?_⟩
  rcases h.2 with hn | ⟨g, cap, cur, rfl, hb, hg, rest⟩
  · exact .inl hn
  · exact .inr ⟨g, cap, cur, rfl, hb, by rw [k.block (Array.getElem?_eq_some_iff.1 hg).1 (fun c => hS g c cur hg)]; exact hg, rest⟩
theorem Box.not_row {w : World} {b : Nat} {cs : Array Value} {t T : TypeId} (h : Box w b cs t) (hne : t ≠ T) (cur : Array Value) : w.heap[b]? ≠ some (.cells cur T (0, 0)) := fun k => by
  have e := h.symm.trans k
  injection e with e
  injection e with e1 e2
  exact hne e2
/-- a space that is there -/
structure HasOn (w : World) (fb mb : Nat) (s : Sq) : Prop where
  box : ∃ v, SpB w s.sb fb mb s.tb v ∧ OwnR 37 0 w v s.L
  tab : Tb w s.tb fb mb s.t
/-- a space, or what is left of it -/
def Has (w : World) (fb mb : Nat) (s : Sq) : Prop := (s.on = true ∧ HasOn w fb mb s) ∨ (s.on = false ∧ Sp0 w s.sb ∧ Tb0 w s.tb)
/-- spaces over one row of frames, in memory -/
structure GM (w : World) (k fb rb mb qb : Nat) (rs bs : List Int) (S : List Sq) : Prop where
  fr : Fr w fb rb rs
  ph : Ph w mb qb k bs
  len : rs.length = k
  mem : ∀ i (hi : i < S.length), Has w fb mb S[i]
  nsb : (S.map Sq.sb).Nodup
  ntb : (S.map Sq.tb).Nodup
section
variable {w w' : World} {k fb rb mb qb : Nat} {rs bs qs cs : List Int} {S T : List Sq}
theorem Has.sb {s : Sq} (h : Has w fb mb s) : ∃ cs, Box w s.sb cs 77 := h.elim (fun h => by obtain ⟨v, h1, _⟩ := h.2.box; exact ⟨_, h1⟩) fun h => ⟨_, h.2.1⟩
theorem Has.tb {s : Sq} (h : Has w fb mb s) : ∃ cs, Box w s.tb cs 137 := h.elim (fun h => ⟨_, h.2.tab⟩) fun h => ⟨_, h.2.2⟩
theorem Has.but {X : Nat → Prop} {s : Sq} (h : Has w fb mb s) (b : But X w w') (h1 : ¬ X s.sb) (h2 : ¬ X s.tb) (h3 : ∀ g, X g → ∀ cur, w.heap[g]? ≠ some (.cells cur 37 (0, 0))) : Has w' fb mb s := by
  rcases h with ⟨ho, ⟨v, h4, h5⟩, h6⟩ | ⟨ho, h4, h5⟩
  · exact .inl ⟨ho, ⟨v, Box.but h4 b h1, h5.but b h3⟩, Box.but h6 b h2⟩
  · exact .inr ⟨ho, Box.but h4 b h1, Box.but h5 b h2⟩
theorem GM.has (h : GM w k fb rb mb qb rs bs S) {i : Nat} (hi : i < S.length) (ho : S[i].on = true) : HasOn w fb mb S[i] := (h.mem i hi).elim (fun x => x.2) fun x => by rw [ho] at x; cases x.1
theorem GM.bd (h : GM w k fb rb mb qb rs bs S) : 1 ≤ k ∧ k ≤ 1024 := h.ph.bd
theorem GM.fits (h : GM w k fb rb mb qb rs bs S) : Fits rs := h.fr.1
/-- where nothing is but frames and bytes -/
theorem GM.rbqb (h : GM w k fb rb mb qb rs bs S) : (∀ g, g = rb ∨ g = qb → ∀ cur, w.heap[g]? ≠ some (.cells cur 37 (0, 0))) ∧ (∀ i (hi : i < S.length), ¬ (S[i].sb = rb ∨ S[i].sb = qb) ∧ ¬ (S[i].tb = rb ∨ S[i].tb = qb)) := by
  refine ⟨?_, fun i hi => ?_⟩
  · rintro g (rfl | rfl)
    · exact Box.not_row h.fr.boxes.2 (by decide)
    · exact Box.not_row h.ph.boxes.2 (by decide)
  · obtain ⟨c1, b1⟩ := (h.mem i hi).sb
    obtain ⟨c2, b2⟩ := (h.mem i hi).tb
    exact ⟨fun c => c.elim (Box.ne b1 h.fr.boxes.2 (by decide)) (Box.ne b1 h.ph.boxes.2 (by decide)), fun c => c.elim (Box.ne b2 h.fr.boxes.2 (by decide)) (Box.ne b2 h.ph.boxes.2 (by decide))⟩
/-- frames and bytes are other ones, and nothing else is -/
theorem GM.turn (h : GM w k fb rb mb qb rs bs S) (b : But (fun g => g = rb ∨ g = qb) w w') (f : Fr w' fb rb qs) (p : Ph w' mb qb k cs) (l : qs.length = k) : GM w' k fb rb mb qb qs cs S :=
  ⟨f, p, l, fun i hi => (h.mem i hi).but b (h.rbqb.2 i hi).1 (h.rbqb.2 i hi).2 h.rbqb.1, h.nsb, h.ntb⟩
theorem GM.new (h : GM w k fb rb mb qb rs bs S) (n : New w w') : GM w' k fb rb mb qb rs bs S := h.turn (But.of_new _ n) (h.fr.new n) (h.ph.new n) h.len
theorem GM.sbne (h : GM w k fb rb mb qb rs bs S) {i j : Nat} (hi : i < S.length) (hj : j < S.length) (hne : i ≠ j) : S[i].sb ≠ S[j].sb ∧ S[i].tb ≠ S[j].tb := by
  have n1 := h.nsb
  have n2 := h.ntb
  rw [List.nodup_iff_pairwise_ne, List.pairwise_iff_getElem] at n1 n2
  rcases Nat.lt_or_gt_of_ne hne with c | c
  · exact ⟨by have := n1 i j (by simpa using hi) (by simpa using hj) c; simpa using this, by have := n2 i j (by simpa using hi) (by simpa using hj) c; simpa using this⟩
  · exact ⟨by have := n1 j i (by simpa using hj) (by simpa using hi) c; simp at this; exact fun e => this e.symm, by have := n2 j i (by simpa using hj) (by simpa using hi) c; simp at this; exact fun e => this e.symm⟩
/-- is there any frame free? -/
theorem GM.free_or (h : GM w k fb rb mb qb rs bs S) : ((tk rs k).length = k ∧ NoFree rs k) ∨ ((tk rs k).length < k ∧ ∃ g, g < k ∧ NoFree rs g ∧ rs.getD g 0 = 0) := by
  by_cases c : (tk rs k).length < k
  · exact .inr ⟨c, free_some h.fits h.len c⟩
  · have := tk_len rs k
    refine .inl ⟨by omega, fun j hj hz => ?_⟩
    have e := tk_len_set rs j 1 k (by rw [h.len]; exact hj)
    rw [if_pos hj, hz] at e
    have := tk_len (rs.set j 1) k
    simp at e; omega
/-- no space, or none any more -/
def GoneS (w : World) (v : Value) : Prop := v = .pointer none ∨ ∃ sb, v = .pointer (some ⟨sb, 0, none⟩) ∧ Sp0 w sb
theorem GoneS.new {v : Value} (h : GoneS w v) (n : New w w') : GoneS w' v := h.imp id fun ⟨sb, e, h⟩ => ⟨sb, e, Box.new h n⟩
theorem GM.gone (h : GM w k fb rb mb qb rs bs S) {i : Nat} (hi : i < S.length) (ho : S[i].on = false) : GoneS w (.pointer (some ⟨S[i].sb, 0, none⟩)) :=
  .inr ⟨_, rfl, (h.mem i hi).elim (fun x => by rw [ho] at x; cases x.1) fun x => x.2.1⟩
theorem sgone_yes {v : Value} (h : GoneS w v) : Calls Tryz.prog 26 #[v] w fun e w' => e = .returned (.bool true) ∧ w = w' := by
  rcases h with rfl | ⟨sb, rfl, h⟩
  · go_enter Tryz.func26, Tryz.ntmps26
    go_wp2
    go_ret
    exact ⟨rfl, rfl⟩
  · obtain ⟨c0, c1, c2, c3⟩ := Box.four h
    clear h
    go_enter Tryz.func26, Tryz.ntmps26
    go_wp2
    go_ret
    exact ⟨rfl, rfl⟩
theorem sgone_no {sb tb : Nat} {v : Value} (h : SpB w sb fb mb tb v) : Calls Tryz.prog 26 #[.pointer (some ⟨sb, 0, none⟩)] w fun e w' => e = .returned (.bool false) ∧ w = w' := by
  obtain ⟨c0, c1, c2, c3⟩ := Box.four h
  clear h
  go_enter Tryz.func26, Tryz.ntmps26
  go_wp2
  go_ret
  exact ⟨rfl, rfl⟩
/-- a page's number; 0 of a number that is no page -/
def pgI (bs : List Int) (t : Nat) (m : Int) : Int := if 0 ≤ m ∧ m < 4096 then pgn bs t m.toNat else 0
theorem pgI_in (bs : List Int) (t p : Nat) (hp : p < 4096) : pgI bs t p = pgn bs t p := by unfold pgI; rw [if_pos (by omega)]; simp
theorem pgI_out (bs : List Int) (t : Nat) (m : Int) (hm : ¬ (0 ≤ m ∧ m < 4096)) : pgI bs t m = 0 := by unfold pgI; rw [if_neg hm]
/-- what find answers -/
noncomputable def fndE (v : Int) : Value := .tuple #[.agg #[.int .i64 (dcf v), .int .u8 (dcp v), .bool (dcc v)], .bool (dcb v)]
set_option maxHeartbeats 1000000 in
theorem find_walk {sb fb mb tb : Nat} {v : Value} (m : Int) (hb : SpB w sb fb mb tb v) (x y : Int) (z b : Bool) (er : Value) (her : er = .nilIface ∨ er = .iface 72 (.int .i64 22)) (hbe : er ≠ .nilIface → b = false)
    (X : ∀ W, New w W → Calls Tryz.prog 84 #[.pointer (some ⟨tb, 0, none⟩), .int .i64 m] W fun e w' => e = .returned (.tuple #[.agg #[.int .i64 x, .int .u8 y, .bool z], .bool b, er]) ∧ New W w') :
    Calls Tryz.prog 40 #[.pointer (some ⟨sb, 0, none⟩), .int .i64 m] w (Said (.tuple #[.agg #[.int .i64 x, .int .u8 y, .bool z], .bool b]) w) := by
  obtain ⟨c0, c1, c2, c3⟩ := Box.four hb
  have hlt := Box.lt hb
  clear hb
  have n0 := (New.refl w).alloc #[.int .i64 0, .int .u8 0, .bool false] 91
  cases b with
  | false =>
    clear her hbe
    go_enter Tryz.func40, Tryz.ntmps40
    go_wp2_with fail
    refine (X _ n0).mono ?_
    rintro e w1 ⟨rfl, n1⟩
    have B1 := ((Box.here w _ #[.int .i64 0, .int .u8 0, .bool false] 91 rfl).new n1).alloc (.cells #[.int .i64 x, .int .u8 y, .bool z] 91)
    have B2 := Box.here w1 _ #[.int .i64 x, .int .u8 y, .bool z] 91 rfl
    have nn := (n0.trans n1).alloc #[.int .i64 x, .int .u8 y, .bool z] 91
    clear X n0 n1
    go_wp2_with fail
    generalize (w1.alloc (.cells #[.int .i64 x, .int .u8 y, .bool z] 91)) = W at *
    generalize w1.heap.size = b2 at *
    obtain ⟨hs1, k0, k1, k2, f0, f1, f2⟩ := B1.three'
    obtain ⟨hs2, j0, j1, j2, g0, g1, g2⟩ := B2.three'
    have B3 := Lib.hid (((B1.set 0 (.int .i64 x)).set 1 (.int .u8 y)).set 2 (.bool z))
    have N3 := Lib.hid (((nn.setCell (p := ⟨w.heap.size, 0, none⟩) (Nat.le_refl _) (.int .i64 x)).setCell (p := ⟨w.heap.size, 1, none⟩) (Nat.le_refl _) (.int .u8 y)).setCell (p := ⟨w.heap.size, 2, none⟩) (Nat.le_refl _) (.bool z)).drew
    go_region
    all_goals
      go_wp2
      obtain ⟨_, q0, q1, q2, _⟩ := (B3.out.new (New.refl _).drew).three'
      exact bodyPost_ret (v := .tuple #[.agg #[.int .i64 x, .int .u8 y, .bool z], .bool false]) (by simp [results, Tryz.results40, go_sem, q0, q1, q2]) rfl ⟨rfl, N3.out⟩
  | true =>
    obtain rfl : er = .nilIface := her.elim id fun e => absurd (hbe (by rw [e]; intro h; cases h)) (by simp)
    clear her hbe
    go_enter Tryz.func40, Tryz.ntmps40
    go_wp2_with fail
    refine (X _ n0).mono ?_
    rintro e w1 ⟨rfl, n1⟩
    have B1 := ((Box.here w _ #[.int .i64 0, .int .u8 0, .bool false] 91 rfl).new n1).alloc (.cells #[.int .i64 x, .int .u8 y, .bool z] 91)
    have B2 := Box.here w1 _ #[.int .i64 x, .int .u8 y, .bool z] 91 rfl
    have nn := (n0.trans n1).alloc #[.int .i64 x, .int .u8 y, .bool z] 91
    clear X n0 n1
    go_wp2_with fail
    generalize (w1.alloc (.cells #[.int .i64 x, .int .u8 y, .bool z] 91)) = W at *
    generalize w1.heap.size = b2 at *
    obtain ⟨hs1, k0, k1, k2, f0, f1, f2⟩ := B1.three'
    obtain ⟨hs2, j0, j1, j2, g0, g1, g2⟩ := B2.three'
    have B3 := Lib.hid (((B1.set 0 (.int .i64 x)).set 1 (.int .u8 y)).set 2 (.bool z))
    have N3 := Lib.hid (((nn.setCell (p := ⟨w.heap.size, 0, none⟩) (Nat.le_refl _) (.int .i64 x)).setCell (p := ⟨w.heap.size, 1, none⟩) (Nat.le_refl _) (.int .u8 y)).setCell (p := ⟨w.heap.size, 2, none⟩) (Nat.le_refl _) (.bool z)).drew
    go_region
    all_goals
      go_wp2
      obtain ⟨_, q0, q1, q2, _⟩ := (B3.out.new (New.refl _).drew).three'
      exact bodyPost_ret (v := .tuple #[.agg #[.int .i64 x, .int .u8 y, .bool z], .bool true]) (by simp [results, Tryz.results40, go_sem, q0, q1, q2]) rfl ⟨rfl, N3.out⟩
theorem sfind_any (m : Int) (h : GM w k fb rb mb qb rs bs S) {i : Nat} (hi : i < S.length) (ho : S[i].on = true) {a : Nat → Prop} (g : Good k a bs S[i].t) :
    Calls Tryz.prog 40 #[.pointer (some ⟨S[i].sb, 0, none⟩), .int .i64 m] w (Said (fndE (pgI bs S[i].t m)) w) := by
  obtain ⟨v, hb, _⟩ := (h.has hi ho).box
  have ht := (h.has hi ho).tab
  by_cases c : 0 ≤ m ∧ m < 4096
  · obtain ⟨p, rfl⟩ := Int.eq_ofNat_of_zero_le c.1
    rw [pgI_in _ _ _ (by omega)]
    exact find_walk _ hb _ _ _ _ _ (.inl rfl) (fun h => absurd rfl h) fun W n => tget_any p k a (ht.new n) (h.ph.new n) g (Nat.le_refl _) (by omega)
  · rw [pgI_out _ _ _ c]
    obtain ⟨e1, e2, e3, e4⟩ := dc_zero
    unfold fndE
    rw [e1, e2, e3, e4]
    exact find_walk _ hb _ _ _ _ _ (.inr rfl) (fun _ => rfl) fun W n => by have X := tget_bad m (ht.new n) c; rwa [gotE_zero] at X
end
end Go.Proofs.YtfllplinafnpbaaGreatDoor
