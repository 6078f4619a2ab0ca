/- Spaces of pages in memory, several of them over one row of frames: what is where, and what stays where it is. -/
import Derived.Test.YtgedimlhldfkaaaGreatDoorSpStep
import Derived.Test.YtgedimlhldfkaaaGreatDoorReL
import Derived.Lib.SliceRun
namespace Go.Proofs.YtgedimlhldfkaaaGreatDoor
open Go.RowKit
set_option linter.unusedVariables false
set_option maxRecDepth 100000
/-- a space in memory -/
def SpB (w : World) (sb fb mb tb : Nat) (v : Value) : Prop := Box w sb #[.pointer (some ⟨fb, 0, none⟩), .pointer (some ⟨mb, 0, none⟩), .pointer (some ⟨tb, 0, none⟩), v] 103
/-- one that was freed -/
def Sp0 (w : World) (sb : Nat) : Prop := Box w sb #[.pointer none, .pointer none, .pointer none, .slice none 0 0] 103
theorem OwnR.but {T : TypeId} {base : Nat} {S : Nat → Prop} {w w' : World} {v : Value} {l : List Rg} (h : OwnR T base w v l) (k : But S w w') (hS : ∀ g, S g → ∀ cur, w.heap[g]? ≠ some (.cells cur T (0, 0))) : OwnR T base w' v l := by
  refine ⟨h.1, ?_⟩
  rcases h.2 with hn | ⟨g, cap, cur, rfl, hb, hg, rest⟩
  · exact .inl hn
  · exact .inr ⟨g, cap, cur, rfl, hb, by rw [k.block (Array.getElem?_eq_some_iff.1 hg).1 (fun c => hS g c cur hg)]; exact hg, rest⟩
theorem Box.not_row {w : World} {b : Nat} {cs : Array Value} {t T : TypeId} (h : Box w b cs t) (hne : t ≠ T) (cur : Array Value) : w.heap[b]? ≠ some (.cells cur T (0, 0)) := fun k => by
  have e := h.symm.trans k
  injection e with e
  injection e with e1 e2
  exact hne e2
/-- a space that is there -/
structure HasOn (w : World) (fb mb : Nat) (s : Sq) : Prop where
  box : ∃ v, SpB w s.sb fb mb s.tb v ∧ OwnR 37 0 w v s.L
  tab : Tb w s.tb fb mb s.t
/-- a space, or what is left of it -/
def Has (w : World) (fb mb : Nat) (s : Sq) : Prop := (s.on = true ∧ HasOn w fb mb s) ∨ (s.on = false ∧ Sp0 w s.sb ∧ Tb0 w s.tb)
/-- spaces over one row of frames, in memory -/
structure GM (w : World) (k fb rb mb qb : Nat) (rs bs : List Int) (S : List Sq) : Prop where
  fr : Fr w fb rb rs
  ph : Ph w mb qb k bs
  len : rs.length = k
  mem : ∀ i (hi : i < S.length), Has w fb mb S[i]
  nsb : (S.map Sq.sb).Nodup
  ntb : (S.map Sq.tb).Nodup
section
variable {w w' : World} {k fb rb mb qb : Nat} {rs bs qs cs : List Int} {S T : List Sq}
theorem Has.sb {s : Sq} (h : Has w fb mb s) : ∃ cs, Box w s.sb cs 103 := h.elim (fun h => by obtain ⟨v, h1, _⟩ := h.2.box; exact ⟨_, h1⟩) fun h => ⟨_, h.2.1⟩
theorem Has.tb {s : Sq} (h : Has w fb mb s) : ∃ cs, Box w s.tb cs 171 := h.elim (fun h => ⟨_, h.2.tab⟩) fun h => ⟨_, h.2.2⟩
theorem Has.but {X : Nat → Prop} {s : Sq} (h : Has w fb mb s) (b : But X w w') (h1 : ¬ X s.sb) (h2 : ¬ X s.tb) (h3 : ∀ g, X g → ∀ cur, w.heap[g]? ≠ some (.cells cur 37 (0, 0))) : Has w' fb mb s := by
  rcases h with ⟨ho, ⟨v, h4, h5⟩, h6⟩ | ⟨ho, h4, h5⟩
  · exact .inl ⟨ho, ⟨v, Box.but h4 b h1, h5.but b h3⟩, Box.but h6 b h2⟩
  · exact .inr ⟨ho, Box.but h4 b h1, Box.but h5 b h2⟩
theorem GM.has (h : GM w k fb rb mb qb rs bs S) {i : Nat} (hi : i < S.length) (ho : S[i].on = true) : HasOn w fb mb S[i] := (h.mem i hi).elim (fun x => x.2) fun x => by rw [ho] at x; cases x.1
theorem GM.bd (h : GM w k fb rb mb qb rs bs S) : 1 ≤ k ∧ k ≤ 1024 := h.ph.bd
theorem GM.fits (h : GM w k fb rb mb qb rs bs S) : Fits rs := h.fr.1
/-- where nothing is but frames and bytes -/
theorem GM.rbqb (h : GM w k fb rb mb qb rs bs S) : (∀ g, g = rb ∨ g = qb → ∀ cur, w.heap[g]? ≠ some (.cells cur 37 (0, 0))) ∧ (∀ i (hi : i < S.length), ¬ (S[i].sb = rb ∨ S[i].sb = qb) ∧ ¬ (S[i].tb = rb ∨ S[i].tb = qb)) := by
  refine ⟨?_, fun i hi => ?_⟩
  · rintro g (rfl | rfl)
    · exact Box.not_row h.fr.boxes.2 (by decide)
    · exact Box.not_row h.ph.boxes.2 (by decide)
  · obtain ⟨c1, b1⟩ := (h.mem i hi).sb
    obtain ⟨c2, b2⟩ := (h.mem i hi).tb
    exact ⟨fun c => c.elim (Box.ne b1 h.fr.boxes.2 (by decide)) (Box.ne b1 h.ph.boxes.2 (by decide)), fun c => c.elim (Box.ne b2 h.fr.boxes.2 (by decide)) (Box.ne b2 h.ph.boxes.2 (by decide))⟩
/-- frames and bytes are other ones, and nothing else is -/
theorem GM.turn (h : GM w k fb rb mb qb rs bs S) (b : But (fun g => g = rb ∨ g = qb) w w') (f : Fr w' fb rb qs) (p : Ph w' mb qb k cs) (l : qs.length = k) : GM w' k fb rb mb qb qs cs S :=
  ⟨f, p, l, fun i hi => (h.mem i hi).but b (h.rbqb.2 i hi).1 (h.rbqb.2 i hi).2 h.rbqb.1, h.nsb, h.ntb⟩
theorem GM.new (h : GM w k fb rb mb qb rs bs S) (n : New w w') : GM w' k fb rb mb qb rs bs S := h.turn (But.of_new _ n) (h.fr.new n) (h.ph.new n) h.len
theorem GM.sbne (h : GM w k fb rb mb qb rs bs S) {i j : Nat} (hi : i < S.length) (hj : j < S.length) (hne : i ≠ j) : S[i].sb ≠ S[j].sb ∧ S[i].tb ≠ S[j].tb := by
  have n1 := h.nsb
  have n2 := h.ntb
  rw [List.nodup_iff_pairwise_ne, List.pairwise_iff_getElem] at n1 n2
  rcases Nat.lt_or_gt_of_ne hne with c | c
  · exact ⟨by have := n1 i j (by simpa using hi) (by simpa using hj) c; simpa using this, by have := n2 i j (by simpa using hi) (by simpa using hj) c; simpa using this⟩
  · exact ⟨by have := n1 j i (by simpa using hj) (by simpa using hi) c; simp at this; exact fun e => this e.symm, by have := n2 j i (by simpa using hj) (by simpa using hi) c; simp at this; exact fun e => this e.symm⟩
/-- is there any frame free? -/
theorem GM.free_or (h : GM w k fb rb mb qb rs bs S) : ((tk rs k).length = k ∧ NoFree rs k) ∨ ((tk rs k).length < k ∧ ∃ g, g < k ∧ NoFree rs g ∧ rs.getD g 0 = 0) := by
  by_cases c : (tk rs k).length < k
  · exact .inr ⟨c, free_some h.fits h.len c⟩
  · have := tk_len rs k
    refine .inl ⟨by omega, fun j hj hz => ?_⟩
    have e := tk_len_set rs j 1 k (by rw [h.len]; exact hj)
    rw [if_pos hj, hz] at e
    have := tk_len (rs.set j 1) k
    simp at e; omega
/-- no space, or none any more -/
def GoneS (w : World) (v : Value) : Prop := v = .pointer none ∨ ∃ sb, v = .pointer (some ⟨sb, 0, none⟩) ∧ Sp0 w sb
theorem GoneS.new {v : Value} (h : GoneS w v) (n : New w w') : GoneS w' v := h.imp id fun ⟨sb, e, h⟩ => ⟨sb, e, Box.new h n⟩
theorem GM.gone (h : GM w k fb rb mb qb rs bs S) {i : Nat} (hi : i < S.length) (ho : S[i].on = false) : GoneS w (.pointer (some ⟨S[i].sb, 0, none⟩)) :=
  .inr ⟨_, rfl, (h.mem i hi).elim (fun x => by rw [ho] at x; cases x.1) fun x => x.2.1⟩
theorem sgone_yes {v : Value} (h : GoneS w v) : Calls Tryz.prog 41 #[v] w fun e w' => e = .returned (.bool true) ∧ w = w' := by
  rcases h with rfl | ⟨sb, rfl, h⟩
  · go_enter Tryz.func41, Tryz.ntmps41
    go_wp2
    go_ret
    exact ⟨rfl, rfl⟩
  · obtain ⟨c0, c1, c2, c3⟩ := Box.four h
    clear h
    go_enter Tryz.func41, Tryz.ntmps41
    go_wp2
    go_ret
    exact ⟨rfl, rfl⟩
theorem sgone_no {sb tb : Nat} {v : Value} (h : SpB w sb fb mb tb v) : Calls Tryz.prog 41 #[.pointer (some ⟨sb, 0, none⟩)] w fun e w' => e = .returned (.bool false) ∧ w = w' := by
  obtain ⟨c0, c1, c2, c3⟩ := Box.four h
  clear h
  go_enter Tryz.func41, Tryz.ntmps41
  go_wp2
  go_ret
  exact ⟨rfl, rfl⟩
/-- a page's number; 0 of a number that is no page -/
def pgI (bs : List Int) (t : Nat) (m : Int) : Int := if 0 ≤ m ∧ m < 4096 then pgn bs t m.toNat else 0
theorem pgI_in (bs : List Int) (t p : Nat) (hp : p < 4096) : pgI bs t p = pgn bs t p := by unfold pgI; rw [if_pos (by omega)]; simp
theorem pgI_out (bs : List Int) (t : Nat) (m : Int) (hm : ¬ (0 ≤ m ∧ m < 4096)) : pgI bs t m = 0 := by unfold pgI; rw [if_neg hm]
/-- what find answers -/
noncomputable def fndE (v : Int) : Value := .tuple #[.agg #[.int .i64 (dcf v), .int .u8 (dcp v), .bool (dcc v)], .bool (dcb v)]
set_option maxHeartbeats 1000000 in
theorem find_walk {sb fb mb tb : Nat} {v : Value} (m : Int) (hb : SpB w sb fb mb tb v) (x y : Int) (z b : Bool) (er : Value) (her : er = .nilIface ∨ er = .iface 98 (.int .i64 22)) (hbe : er ≠ .nilIface → b = false)
    (X : ∀ W, New w W → Calls Tryz.prog 109 #[.pointer (some ⟨tb, 0, none⟩), .int .i64 m] W fun e w' => e = .returned (.tuple #[.agg #[.int .i64 x, .int .u8 y, .bool z], .bool b, er]) ∧ New W w') :
    Calls Tryz.prog 55 #[.pointer (some ⟨sb, 0, none⟩), .int .i64 m] w (Said (.tuple #[.agg #[.int .i64 x, .int .u8 y, .bool z], .bool b]) w) := by
  obtain ⟨c0, c1, c2, c3⟩ := Box.four hb
  have hlt := Box.lt hb
  clear hb
  have n0 := (New.refl w).alloc #[.int .i64 0, .int .u8 0, .bool false] 117
  cases b with
  | false =>
    clear her hbe
    go_enter Tryz.func55, Tryz.ntmps55
    go_wp2_with fail
    refine (X _ n0).mono ?_
    rintro e w1 ⟨rfl, n1⟩
    have B1 := ((Box.here w _ #[.int .i64 0, .int .u8 0, .bool false] 117 rfl).new n1).alloc (.cells #[.int .i64 x, .int .u8 y, .bool z] 117)
    have B2 := Box.here w1 _ #[.int .i64 x, .int .u8 y, .bool z] 117 rfl
    have nn := (n0.trans n1).alloc #[.int .i64 x, .int .u8 y, .bool z] 117
    clear X n0 n1
    go_wp2_with fail
    generalize (w1.alloc (.cells #[.int .i64 x, .int .u8 y, .bool z] 117)) = W at *
    generalize w1.heap.size = b2 at *
    obtain ⟨hs1, k0, k1, k2, f0, f1, f2⟩ := B1.three'
    obtain ⟨hs2, j0, j1, j2, g0, g1, g2⟩ := B2.three'
    have B3 := Lib.hid (((B1.set 0 (.int .i64 x)).set 1 (.int .u8 y)).set 2 (.bool z))
    have N3 := Lib.hid (((nn.setCell (p := ⟨w.heap.size, 0, none⟩) (Nat.le_refl _) (.int .i64 x)).setCell (p := ⟨w.heap.size, 1, none⟩) (Nat.le_refl _) (.int .u8 y)).setCell (p := ⟨w.heap.size, 2, none⟩) (Nat.le_refl _) (.bool z)).drew
    go_region
    all_goals
      go_wp2
      obtain ⟨_, q0, q1, q2, _⟩ := (B3.out.new (New.refl _).drew).three'
      exact bodyPost_ret (v := .tuple #[.agg #[.int .i64 x, .int .u8 y, .bool z], .bool false]) (by simp [results, Tryz.results55, go_sem, q0, q1, q2]) rfl ⟨rfl, N3.out⟩
  | true =>
    obtain rfl : er = .nilIface := her.elim id fun e => absurd (hbe (by rw [e]; intro h; cases h)) (by simp)
    clear her hbe
    go_enter Tryz.func55, Tryz.ntmps55
    go_wp2_with fail
    refine (X _ n0).mono ?_
    rintro e w1 ⟨rfl, n1⟩
    have B1 := ((Box.here w _ #[.int .i64 0, .int .u8 0, .bool false] 117 rfl).new n1).alloc (.cells #[.int .i64 x, .int .u8 y, .bool z] 117)
    have B2 := Box.here w1 _ #[.int .i64 x, .int .u8 y, .bool z] 117 rfl
    have nn := (n0.trans n1).alloc #[.int .i64 x, .int .u8 y, .bool z] 117
    clear X n0 n1
    go_wp2_with fail
    generalize (w1.alloc (.cells #[.int .i64 x, .int .u8 y, .bool z] 117)) = W at *
    generalize w1.heap.size = b2 at *
    obtain ⟨hs1, k0, k1, k2, f0, f1, f2⟩ := B1.three'
    obtain ⟨hs2, j0, j1, j2, g0, g1, g2⟩ := B2.three'
    have B3 := Lib.hid (((B1.set 0 (.int .i64 x)).set 1 (.int .u8 y)).set 2 (.bool z))
    have N3 := Lib.hid (((nn.setCell (p := ⟨w.heap.size, 0, none⟩) (Nat.le_refl _) (.int .i64 x)).setCell (p := ⟨w.heap.size, 1, none⟩) (Nat.le_refl _) (.int .u8 y)).setCell (p := ⟨w.heap.size, 2, none⟩) (Nat.le_refl _) (.bool z)).drew
    go_region
    all_goals
      go_wp2
      obtain ⟨_, q0, q1, q2, _⟩ := (B3.out.new (New.refl _).drew).three'
      exact bodyPost_ret (v := .tuple #[.agg #[.int .i64 x, .int .u8 y, .bool z], .bool true]) (by simp [results, Tryz.results55, go_sem, q0, q1, q2]) rfl ⟨rfl, N3.out⟩
theorem sfind_any (m : Int) (h : GM w k fb rb mb qb rs bs S) {i : Nat} (hi : i < S.length) (ho : S[i].on = true) {a : Nat → Prop} (g : Good k a bs S[i].t) :
    Calls Tryz.prog 55 #[.pointer (some ⟨S[i].sb, 0, none⟩), .int .i64 m] w (Said (fndE (pgI bs S[i].t m)) w) := by
  obtain ⟨v, hb, _⟩ := (h.has hi ho).box
  have ht := (h.has hi ho).tab
  by_cases c : 0 ≤ m ∧ m < 4096
  · obtain ⟨p, rfl⟩ := Int.eq_ofNat_of_zero_le c.1
    rw [pgI_in _ _ _ (by omega)]
    exact find_walk _ hb _ _ _ _ _ (.inl rfl) (fun h => absurd rfl h) fun W n => tget_any p k a (ht.new n) (h.ph.new n) g (Nat.le_refl _) (by omega)
  · rw [pgI_out _ _ _ c]
    obtain ⟨e1, e2, e3, e4⟩ := dc_zero
    unfold fndE
    rw [e1, e2, e3, e4]
    exact find_walk _ hb _ _ _ _ _ (.inr rfl) (fun _ => rfl) fun W n => by have X := tget_bad m (ht.new n) c; rwa [gotE_zero] at X
end
end Go.Proofs.YtgedimlhldfkaaaGreatDoor
namespace Go.Proofs.YtgedimlhldfkaaaGreatDoor
open Go.RowKit
set_option linter.unusedVariables false
set_option maxRecDepth 100000
/-- an answer; frames and bytes then; nothing else has changed -/
def GDid (k fb rb mb qb : Nat) (rs bs : List Int) (S : List Sq) (v : Value) (w : World) (e : Ending) (w' : World) : Prop :=
  e = .returned v ∧ GM w' k fb rb mb qb rs bs S ∧ But (fun g => g = rb ∨ g = qb) w w'
/-- an entry's number laid down: in an upper part that has a frame, or in a new one -/
def layB (bs : List Int) (t p : Nat) (v : Int) (g : Nat) : List Int := if nm bs t (p / 64) = 0 then pt (nw bs t (p / 64) g) g (p % 64) v else pt bs (lof bs t (p / 64)) (p % 64) v
def layR (rs bs : List Int) (t p g : Nat) : List Int := if nm bs t (p / 64) = 0 then rs.set g 1 else rs
section
variable {w w' : World} {k fb rb mb qb : Nat} {rs bs qs cs : List Int} {S T : List Sq} {a : Nat → Prop}
theorem g_alloc_no (h : GM w k fb rb mb qb rs bs S) (hn : NoFree rs k) : Calls Tryz.prog 132 #[.pointer (some ⟨fb, 0, none⟩)] w (GDid k fb rb mb qb rs bs S (.tuple #[.int .i64 0, .iface 98 (.int .i64 12)]) w) :=
  (alloc_none w h.fr (by rw [h.len]; exact hn)).mono fun e w' ⟨h1, h2⟩ => ⟨h1, h2 ▸ h, h2 ▸ But.refl _ _⟩
theorem g_alloc (h : GM w k fb rb mb qb rs bs S) (g : Nat) (hg : g < k) (hn : NoFree rs g) (hz : rs.getD g 0 = 0) :
    Calls Tryz.prog 132 #[.pointer (some ⟨fb, 0, none⟩)] w (GDid k fb rb mb qb (rs.set g 1) bs S (.tuple #[.int .i64 g, .nilIface]) w) :=
  (did_alloc g h.fr (by rw [h.len]; exact hg) hn hz).mono fun e w' ⟨h1, h2, h3⟩ => by
    have b : But (fun g => g = rb ∨ g = qb) w w' := But.of_far h3 (.inl rfl)
    exact ⟨h1, h.turn b h2 (h.ph.off h3 (Box.ne h.ph.boxes.1 h.fr.boxes.2 (by decide)) (Box.ne h.ph.boxes.2 h.fr.boxes.2 (by decide))) (by rw [List.length_set]; exact h.len), b⟩
theorem g_ref (h : GM w k fb rb mb qb rs bs S) (g : Nat) (hg : g < k) (h1 : 0 < rs.getD g 0) (h2 : rs.getD g 0 < 1073741824) :
    Calls Tryz.prog 91 #[.pointer (some ⟨fb, 0, none⟩), .int .i64 g] w (GDid k fb rb mb qb (rs.set g (rs.getD g 0 + 1)) bs S .nilIface w) :=
  (did_ref g h.fr (by rw [h.len]; exact hg) h1 h2).mono fun e w' ⟨h1, h2, h3⟩ => by
    have b : But (fun g => g = rb ∨ g = qb) w w' := But.of_far h3 (.inl rfl)
    exact ⟨h1, h.turn b h2 (h.ph.off h3 (Box.ne h.ph.boxes.1 h.fr.boxes.2 (by decide)) (Box.ne h.ph.boxes.2 h.fr.boxes.2 (by decide))) (by rw [List.length_set]; exact h.len), b⟩
theorem g_unref (h : GM w k fb rb mb qb rs bs S) (g : Nat) (hg : g < k) (h1 : 0 < rs.getD g 0) :
    Calls Tryz.prog 92 #[.pointer (some ⟨fb, 0, none⟩), .int .i64 g] w (GDid k fb rb mb qb (rs.set g (rs.getD g 0 - 1)) bs S (.tuple #[.bool (rs.getD g 0 == 1), .nilIface]) w) :=
  (did_unref g h.fr (by rw [h.len]; exact hg) h1).mono fun e w' ⟨h1, h2, h3⟩ => by
    have b : But (fun g => g = rb ∨ g = qb) w w' := But.of_far h3 (.inl rfl)
    exact ⟨h1, h.turn b h2 (h.ph.off h3 (Box.ne h.ph.boxes.1 h.fr.boxes.2 (by decide)) (Box.ne h.ph.boxes.2 h.fr.boxes.2 (by decide))) (by rw [List.length_set]; exact h.len), b⟩
theorem g_refs (h : GM w k fb rb mb qb rs bs S) (g : Nat) (hg : g < k) : Calls Tryz.prog 134 #[.pointer (some ⟨fb, 0, none⟩), .int .i64 g] w fun e w' => e = .returned (.int .i64 (rs.getD g 0)) ∧ w = w' := by
  have := refs_any (g : Int) w h.fr
  rwa [rfs_in _ _ (by rw [h.len]; exact hg)] at this
theorem g_turn_ph (h : GM w k fb rb mb qb rs bs S) {c : List Int} {v : Value} {e : Ending} (x : DidP mb qb k c v w e w') : GDid k fb rb mb qb rs c S v w e w' := by
  obtain ⟨h1, h2, h3⟩ := x
  have b : But (fun g => g = rb ∨ g = qb) w w' := But.of_far h3 (.inr rfl)
  have l1 := h.fr.lt
  exact ⟨h1, h.turn b ⟨h.fr.1, h.fr.2.1, by rw [h3.block l1.1 (Box.ne h.fr.boxes.1 h.ph.boxes.2 (by decide))]; exact h.fr.2.2.1, by rw [h3.block l1.2 (Box.ne h.fr.boxes.2 h.ph.boxes.2 (by decide))]; exact h.fr.2.2.2⟩ h2 h.len, b⟩
theorem g_zero (h : GM w k fb rb mb qb rs bs S) (g : Nat) (hg : g < k) :
    Calls Tryz.prog 133 #[.pointer (some ⟨mb, 0, none⟩), .int .i64 g] w (GDid k fb rb mb qb rs (zr bs g) S .nilIface w) :=
  (zero_any g h.ph hg).mono fun e w' x => g_turn_ph h x
theorem g_copy (h : GM w k fb rb mb qb rs bs S) (g f : Nat) (hg : g < k) (hf : f < k) :
    Calls Tryz.prog 135 #[.pointer (some ⟨mb, 0, none⟩), .int .i64 g, .int .i64 f] w (GDid k fb rb mb qb rs (splice bs (g * 256 + 0) (fby bs f)) S .nilIface w) :=
  (copy_any g f h.ph hg hf).mono fun e w' x => g_turn_ph h x
theorem g_write (h : GM w k fb rb mb qb rs bs S) (g o : Nat) (v : Value) (l : List Int) (hv : Byts w v l) (hc : Oct l) (hg : g < k) (ho : o + l.length ≤ 256) :
    Calls Tryz.prog 57 #[.pointer (some ⟨mb, 0, none⟩), .int .i64 g, .int .i64 o, v] w (GDid k fb rb mb qb rs (splice bs (g * 256 + o) l) S .nilIface w) :=
  (write_any g o v l h.ph hv hc hg ho).mono fun e w' x => g_turn_ph h x
theorem g_turn_t (h : GM w k fb rb mb qb rs bs S) {qs cs : List Int} (hl : qs.length = k) {v : Value} {e : Ending} (x : DidT fb rb mb qb k qs cs v w e w') : GDid k fb rb mb qb qs cs S v w e w' :=
  ⟨x.1, h.turn x.2.2.2 x.2.1 x.2.2.1 hl, x.2.2.2⟩
theorem g_set {i : Nat} (h : GM w k fb rb mb qb rs bs S) (hi : i < S.length) (ho : S[i].on = true) (g : Good k a bs S[i].t) (p : Nat) (hp : p < 4096) (f q : Int) (c : Bool) (f0 : 0 ≤ f) (f1 : f < 1024) (q0 : 0 ≤ q) (q1 : q ≤ 7)
    (n : Nat) (hn : nm bs S[i].t (p / 64) = 0 → n < k ∧ NoFree rs n ∧ rs.getD n 0 = 0) :
    Calls Tryz.prog 56 #[.pointer (some ⟨S[i].tb, 0, none⟩), .int .i64 p, .agg #[.int .i64 f, .int .u8 q, .bool c]] w (GDid k fb rb mb qb (layR rs bs S[i].t p n) (layB bs S[i].t p (ennum f q c) n) S .nilIface w) := by
  have ht := (h.has hi ho).tab
  by_cases c0 : nm bs S[i].t (p / 64) = 0
  · obtain ⟨h1, h2, h3⟩ := hn c0
    unfold layR layB
    rw [if_pos c0, if_pos c0]
    exact (tset_new p n f q c ht h.fr h.ph (by rw [h.len]; exact Nat.le_refl _) g.lt hp f0 f1 q0 q1 c0 (by rw [h.len]; exact h1) h2 h3).mono fun e w' x => g_turn_t h (by rw [List.length_set]; exact h.len) x
  · unfold layR layB
    rw [if_neg c0, if_neg c0]
    exact (tset_old p k a f q c ht h.fr h.ph g (Nat.le_refl _) hp f0 f1 q0 q1 c0).mono fun e w' x => g_turn_t h h.len x
theorem g_set_no {i : Nat} (h : GM w k fb rb mb qb rs bs S) (hi : i < S.length) (ho : S[i].on = true) (g : Good k a bs S[i].t) (p : Nat) (hp : p < 4096) (f q : Int) (c : Bool) (f0 : 0 ≤ f) (f1 : f < 1024) (q0 : 0 ≤ q) (q1 : q ≤ 7)
    (h0 : nm bs S[i].t (p / 64) = 0) (hn : NoFree rs k) :
    Calls Tryz.prog 56 #[.pointer (some ⟨S[i].tb, 0, none⟩), .int .i64 p, .agg #[.int .i64 f, .int .u8 q, .bool c]] w (Said (.iface 98 (.int .i64 12)) w) :=
  tset_full p f q c (h.has hi ho).tab h.fr h.ph g.lt hp f0 f1 q0 q1 (by rw [h.len]; exact hn) h0
theorem g_clear {i : Nat} (h : GM w k fb rb mb qb rs bs S) (hi : i < S.length) (ho : S[i].on = true) (g : Good k a bs S[i].t) (p : Nat) (hp : p < 4096) (h0 : nm bs S[i].t (p / 64) ≠ 0) :
    Calls Tryz.prog 93 #[.pointer (some ⟨S[i].tb, 0, none⟩), .int .i64 p] w (GDid k fb rb mb qb rs (pt bs (lof bs S[i].t (p / 64)) (p % 64) 0) S .nilIface w) :=
  (tclear_some p k a (h.has hi ho).tab h.fr h.ph g (Nat.le_refl _) hp h0).mono fun e w' x => g_turn_t h h.len x
theorem GDid.trans {v v' : Value} {e e' : Ending} {w1 w2 : World} {r1 b1 r2 b2 : List Int} (h : GDid k fb rb mb qb r1 b1 S v w e w1) (h' : GDid k fb rb mb qb r2 b2 S v' w1 e' w2) : But (fun g => g = rb ∨ g = qb) w w2 := h.2.2.trans h'.2.2
/-- another block is no part of it -/
theorem GM.aside {eb : Nat} {es : Array Value} {ty : TypeId} (h : GM w k fb rb mb qb rs bs S) (B : Box w eb es ty) (h1 : ty ≠ 141) (h2 : ty ≠ 3) (h3 : ty ≠ 162) (h4 : ty ≠ 159) (h5 : ty ≠ 103) (h6 : ty ≠ 171) (h7 : ty ≠ 37)
    (b : But (fun g => g = eb) w w') : GM w' k fb rb mb qb rs bs S := by
  have n := fun {m : Nat} {cs : Array Value} {t : TypeId} (X : Box w m cs t) (ht : ty ≠ t) => Box.ne X B (fun e => ht e.symm)
  refine ⟨⟨h.fr.1, h.fr.2.1, Box.but h.fr.boxes.1 b (n h.fr.boxes.1 h1), Box.but h.fr.boxes.2 b (n h.fr.boxes.2 h2)⟩, ⟨h.ph.1, h.ph.2.1, h.ph.2.2.1, h.ph.2.2.2.1, h.ph.2.2.2.2.1, Box.but h.ph.boxes.1 b (n h.ph.boxes.1 h3), Box.but h.ph.boxes.2 b (n h.ph.boxes.2 h4)⟩, h.len, fun i hi => ?_, h.nsb, h.ntb⟩
  obtain ⟨c1, b1⟩ := (h.mem i hi).sb
  obtain ⟨c2, b2⟩ := (h.mem i hi).tb
  exact (h.mem i hi).but b (n b1 h5) (n b2 h6) (fun g hg => hg ▸ Box.not_row B h7)
/-- a slice of bytes that can be read, whatever becomes of some blocks -/
def BytsK (X : Nat → Prop) (w : World) (v : Value) (l : List Int) : Prop := ∀ w', But X w w' → Byts w' v l
theorem BytsK.now {X : Nat → Prop} {v : Value} {l : List Int} (h : BytsK X w v l) : Byts w v l := h w (But.refl _ _)
theorem BytsK.but {X : Nat → Prop} {v : Value} {l : List Int} (h : BytsK X w v l) (b : But X w w') : BytsK X w' v l := fun w2 b2 => h w2 (b.trans b2)
theorem OwnR.bytesk {X : Nat → Prop} {v : Value} {l : List Int} {base : Nat} (h : OwnB base w v l) (hX : ∀ g, X g → ∀ cur, w.heap[g]? ≠ some (.cells cur 5 (0, 0))) : BytsK X w v l := fun w' b => by
  refine OwnB.byts (base := base) ⟨h.1, ?_⟩
  rcases h.2 with hn | ⟨g, cap, cur, rfl, hb, hg, rest⟩
  · exact .inl hn
  · exact .inr ⟨g, cap, cur, rfl, hb, by rw [b.block (Array.getElem?_eq_some_iff.1 hg).1 (fun c => hX g c cur hg)]; exact hg, rest⟩
end
end Go.Proofs.YtgedimlhldfkaaaGreatDoor
namespace Go.Proofs.YtgedimlhldfkaaaGreatDoor
open Go.RowKit
set_option linter.unusedVariables false
set_option maxRecDepth 100000
/-- do so many bytes at an address lie in one page? -/
def plc (at_ : Nat) (n : Int) : Bool := decide (at_ / 256 < 4096) && decide (0 ≤ n) && decide ((at_ % 256 : Nat) + n ≤ 256)
theorem plc_iff {a : Nat} {n : Int} : plc a n = true ↔ a / 256 < 4096 ∧ 0 ≤ n ∧ (a % 256 : Nat) + n ≤ 256 := by unfold plc; simp [and_assoc]
/-- what place answers -/
def plcV (a : Nat) (n : Int) : Value := if plc a n = true then .tuple #[.int .i64 ((a / 256 : Nat) : Int), .int .i64 ((a % 256 : Nat) : Int), .nilIface] else .tuple #[.int .i64 0, .int .i64 0, .iface 98 (.int .i64 14)]
theorem place_any (w : World) (a : Nat) (n : Int) (ha : a < 4294967296) (hn : -9223372036854775808 ≤ n ∧ n ≤ 9223372036854775807) : Calls Tryz.prog 42 #[.int .u32 a, .int .i64 n] w fun e w' => e = .returned (plcV a n) ∧ w = w' := by
  have E1 : ((a / 256 : Nat) : Int) = (a : Int) / 256 := by omega
  have E2 : ((a % 256 : Nat) : Int) = (a : Int) % 256 := by omega
  unfold plcV
  rw [E1, E2]
  by_cases c1 : a / 256 < 4096
  · have d1 : decide (4096 ≤ (a : Int) / 256) = false := by simp; omega
    by_cases c2 : 0 ≤ n
    · have d2 : decide (n < 0) = false := by simp; omega
      by_cases c3 : ((a % 256 : Nat) : Int) + n ≤ 256
      · have d3 : decide (256 - (a : Int) % 256 < n) = false := by simp; omega
        rw [if_pos (plc_iff.2 ⟨c1, c2, c3⟩)]
        have f1 : ¬ 256 - (a : Int) % 256 < n := by omega
        clear c1 c3
        go_enter Tryz.func42, Tryz.ntmps42
        go_wp2
        exact bodyPost_ret (v := .tuple #[.int .i64 ((a : Int) / 256), .int .i64 ((a : Int) % 256), .nilIface]) (by simp [results, Tryz.results42, go_sem]) rfl ⟨rfl, rfl⟩
      · have d3 : decide (256 - (a : Int) % 256 < n) = true := by simp; omega
        rw [if_neg (fun k => c3 (plc_iff.1 k).2.2)]
        have f1 : 256 - (a : Int) % 256 < n := by omega
        clear c1 c3
        go_enter Tryz.func42, Tryz.ntmps42
        go_wp2
        exact bodyPost_ret (v := .tuple #[.int .i64 0, .int .i64 0, .iface 98 (.int .i64 14)]) (by simp [results, Tryz.results42, go_sem]) rfl ⟨rfl, rfl⟩
    · have d2 : decide (n < 0) = true := by simp; omega
      rw [if_neg (fun k => c2 (plc_iff.1 k).2.1)]
      have f1 : n < 0 := by omega
      clear c1 c2
      go_enter Tryz.func42, Tryz.ntmps42
      go_wp2
      exact bodyPost_ret (v := .tuple #[.int .i64 0, .int .i64 0, .iface 98 (.int .i64 14)]) (by simp [results, Tryz.results42, go_sem]) rfl ⟨rfl, rfl⟩
  · have d1 : decide (4096 ≤ (a : Int) / 256) = true := by simp; omega
    rw [if_neg (fun k => c1 (plc_iff.1 k).1)]
    have f1 : 4096 ≤ (a : Int) / 256 := by omega
    clear c1
    go_enter Tryz.func42, Tryz.ntmps42
    go_wp2
    exact bodyPost_ret (v := .tuple #[.int .i64 0, .int .i64 0, .iface 98 (.int .i64 14)]) (by simp [results, Tryz.results42, go_sem]) rfl ⟨rfl, rfl⟩
/-- one page more: how many frames, which upper part was last -/
def tbs1 (s : Int × Int) (p : Int) : Int × Int := if p / 64 = s.2 then s else (s.1 + 1, p / 64)
/-- how many frames a table takes for some pages -/
def tbs (l : List Int) : Int × Int := l.foldl tbs1 (1, -1)
theorem tbs_push (l : List Int) (p : Int) : tbs (l ++ [p]) = tbs1 (tbs l) p := by simp [tbs]
theorem tbs_bd (l : List Int) (h : ∀ x ∈ l, 0 ≤ x ∧ x < 4096) : 1 ≤ (tbs l).1 ∧ (tbs l).1 ≤ 1 + l.length ∧ -1 ≤ (tbs l).2 ∧ (tbs l).2 < 64 := by
  have key : ∀ m : List Int, (∀ x ∈ m, 0 ≤ x ∧ x < 4096) → 1 ≤ (tbs m.reverse).1 ∧ (tbs m.reverse).1 ≤ 1 + m.length ∧ -1 ≤ (tbs m.reverse).2 ∧ (tbs m.reverse).2 < 64 := by
    intro m
    induction m with
    | nil => intro _; simp [tbs]
    | cons x m ih =>
      intro h
      have h0 := h x List.mem_cons_self
      obtain ⟨h1, h2, h3, h4⟩ := ih fun y hy => h y (List.mem_cons_of_mem _ hy)
      rw [List.reverse_cons, tbs_push, List.length_cons]
      unfold tbs1
      split
      · omega
      · dsimp only; omega
  have := key l.reverse (by simpa using h)
  simpa using this
set_option maxHeartbeats 1000000 in
theorem tables_any (w : World) (v : Value) (l : List Int) (h : Ints w v l) (hb : ∀ x ∈ l, 0 ≤ x ∧ x < 4096) (hl : l.length ≤ 4096) : Calls Tryz.prog 45 #[v] w fun e w' => e = .returned (.int .i64 (tbs l).1) ∧ w = w' := by
  obtain ⟨p, cap, rfl, hc, hm⟩ : ∃ p cap, v = .slice p l.length cap ∧ True ∧ True := by obtain ⟨p, cap, e⟩ := h.len; exact ⟨p, cap, e, trivial, trivial⟩
  have HI := Lib.hid h
  have HB := Lib.hid hb
  clear h hb hc hm
  go_enter Tryz.func45, Tryz.ntmps45
  go_wp2
  go_loopg [3, 4, 9] l.length (fun k x y i wr => ∃ j : Nat, j + k = l.length ∧ i = .int .i64 (j : Int) ∧ w = wr ∧ x = .int .i64 (tbs (l.take j)).1 ∧ y = .int .i64 (tbs (l.take j)).2)
  case atStart => exact ⟨0, by omega, rfl, rfl, rfl, rfl⟩
  case round =>
    obtain ⟨j, hj, rfl, rfl, rfl, rfl⟩ := hrel
    by_cases c : j < l.length
    · have hT := take_snoc_int l j c
      have hm : l.getD j 0 ∈ l := getD_mem c rfl
      obtain ⟨x, hx, hx2⟩ : ∃ x : Nat, l.getD j 0 = (x : Int) ∧ x < 4096 := by
        have := HB.out _ hm
        exact ⟨(l.getD j 0).toNat, by omega, by omega⟩
      have hcell : ∃ b, p = some ⟨b, 0, none⟩ ∧ w.cell? ⟨b, j, none⟩ = some (.int .i64 x) := by
        rcases HI.out with ⟨e, e2⟩ | ⟨b, cap', e, _, _, _, hh⟩
        · rw [e2] at c; exact absurd c (Nat.not_lt_zero _)
        · cases e; exact ⟨b, rfl, by rw [hh j c, hx]⟩
      obtain ⟨b, rfl, c0⟩ := hcell
      have hbd := tbs_bd (l.take j) fun y hy => HB.out y (List.mem_of_mem_take hy)
      have hl2 : (l.take j).length ≤ 4096 := by rw [List.length_take]; omega
      have T1 : tbs (l.take (j + 1)) = tbs1 (tbs (l.take j)) x := by rw [hT, tbs_push, hx]
      have HT1 := Lib.hid T1
      have J := Lib.hid hj
      generalize tbs (l.take j) = s at *
      obtain ⟨s1, s2⟩ := s
      dsimp only at *
      have f1 : j < l.length := c
      clear hT hm hx T1 hj c
      by_cases hq : (x : Int) / 64 = s2
      · have g1 : ((x : Int) / 64 != s2) = false := by simpa using hq
        have H2 := Lib.hid hq
        clear hq
        go_wp2
        go_roundg (l.length - (j + 1))
        case measure => have := J.out; omega
        case rel => exact ⟨j + 1, by have := J.out; omega, by go_num, rfl, by rw [HT1.out]; unfold tbs1; rw [if_pos H2.out], by rw [HT1.out]; unfold tbs1; rw [if_pos H2.out]⟩
      · have g1 : ((x : Int) / 64 != s2) = true := by simpa using hq
        have H2 := Lib.hid hq
        go_wp2
        go_roundg (l.length - (j + 1))
        case measure => have := J.out; omega
        case rel => exact ⟨j + 1, by have := J.out; omega, by go_num, rfl, by rw [HT1.out]; unfold tbs1; rw [if_neg H2.out], by rw [HT1.out]; unfold tbs1; rw [if_neg H2.out]⟩
    · obtain rfl : j = l.length := by omega
      rw [List.take_length]
      go_wp2
      go_ret
      exact ⟨rfl, rfl⟩
end Go.Proofs.YtgedimlhldfkaaaGreatDoor
namespace Go.Proofs.YtgedimlhldfkaaaGreatDoor
open Go.RowKit
set_option linter.unusedVariables false
set_option maxRecDepth 100000
/-- not within the range -/
def outR (a b x : Int) : Bool := decide (x < a) || decide (b ≤ x)
theorem fill_clo (W : World) (x a b : Int) (ab bb : Nat) (ha : W.cell? ⟨ab, 0, none⟩ = some (.int .i64 a)) (hb : W.cell? ⟨bb, 0, none⟩ = some (.int .i64 b)) :
    Calls Tryz.prog 108 #[.int .i64 x, .pointer (some ⟨ab, 0, none⟩), .pointer (some ⟨bb, 0, none⟩)] W fun e w' => e = .returned (.bool (outR a b x)) ∧ W = w' := by
  unfold outR
  by_cases c : x < a
  · have d : decide (x < a) = true := by simpa using c
    rw [d]
    go_enter Tryz.func108, Tryz.ntmps108
    go_wp2
    go_ret
    exact ⟨rfl, rfl⟩
  · have d : decide (x < a) = false := by simpa using c
    rw [d]
    go_enter Tryz.func108, Tryz.ntmps108
    go_wp2
    go_ret
    exact ⟨rfl, rfl⟩
/-- the first one's place that meets a condition -/
def FstI (g : Int → Bool) (l : List Int) (i : Nat) : Prop := i < l.length ∧ g (l.getD i 0) = true ∧ ∀ j, j < i → g (l.getD j 0) = false
section
variable {w1 w : World} {v ca cb : Value} {l : List Int} {g : Int → Bool}
set_option maxHeartbeats 1000000 in
theorem idx_fill (h : Ints w v l) (hB : l.length ≤ 9223372036854775807)
    (HF : ∀ x : Int, Calls Tryz.prog 108 #[.int .i64 x, ca, cb] w (fun e w' => e = .returned (.bool (g x)) ∧ w = w')) :
    Calls Tryz.prog 149 #[v, .func (.func 108) #[] #[ca, cb]] w fun e w' => w = w' ∧ ((e = .returned (.int .i64 (-1)) ∧ ∀ j, j < l.length → g (l.getD j 0) = false) ∨ ∃ i : Nat, FstI g l i ∧ e = .returned (.int .i64 i)) := by
  obtain ⟨p, cap, rfl⟩ := h.len
  have HI := Lib.hid h
  clear h
  go_enter Tryz.func149, Tryz.ntmps149
  go_wp2
  go_loopg [8] l.length (fun k i wr => ∃ j : Nat, j + k = l.length ∧ i = .int .i64 (j : Int) ∧ w = wr ∧ ∀ i, i < j → g (l.getD i 0) = false)
  case atStart => exact ⟨0, by omega, rfl, rfl, fun i h => absurd h (Nat.not_lt_zero _)⟩
  case round =>
    obtain ⟨j, hj, rfl, rfl, hok⟩ := hrel
    by_cases c : j < l.length
    · have hcell : ∃ b, p = some ⟨b, 0, none⟩ ∧ w.cell? ⟨b, j, none⟩ = some (.int .i64 (l.getD j 0)) := by
        rcases HI.out with ⟨e, e2⟩ | ⟨b, cap', e, _, _, _, hh⟩
        · rw [e2] at c; exact absurd c (Nat.not_lt_zero _)
        · cases e; exact ⟨b, rfl, hh j c⟩
      obtain ⟨b, rfl, c0⟩ := hcell
      have X := HF (l.getD j 0)
      have HO := Lib.hid hok
      have J := Lib.hid hj
      have C := Lib.hid c
      cases hg : g (l.getD j 0) with
      | true =>
        rw [hg] at X
        obtain ⟨x, hx⟩ : ∃ x, l.getD j 0 = x := ⟨_, rfl⟩
        have XE := Lib.hid hx
        rw [hx] at X c0 hg
        have HG := Lib.hid hg
        clear hg hok hj hx
        go_wp2_with (go_at_call 108; (with_reducible refine X.mono ?_); rintro e w' ⟨rfl, rfl⟩)
        go_ret
        exact ⟨rfl, .inr ⟨j, ⟨C.out, by rw [XE.out]; exact HG.out, HO.out⟩, rfl⟩⟩
      | false =>
        rw [hg] at X
        obtain ⟨x, hx⟩ : ∃ x, l.getD j 0 = x := ⟨_, rfl⟩
        have XE := Lib.hid hx
        rw [hx] at X c0 hg
        have HG := Lib.hid hg
        clear hg hok hj hx
        go_wp2_with (go_at_call 108; (with_reducible refine X.mono ?_); rintro e w' ⟨rfl, rfl⟩)
        go_roundg (l.length - (j + 1))
        case measure => have := J.out; omega
        case rel => exact ⟨j + 1, by have := J.out; omega, by go_num, rfl, fun i hi => by
          rcases Nat.lt_or_ge i j with h | h
          · exact HO.out i h
          · obtain rfl : i = j := by omega
            rw [XE.out]; exact HG.out⟩
    · obtain rfl : j = l.length := by omega
      go_wp2
      go_ret
      exact ⟨rfl, .inl ⟨rfl, hok⟩⟩
/-- behind so many of a list: those that are kept, and the rest as it was -/
structure Kp (g : Int → Bool) (l X : List Int) (a b : Nat) : Prop where
  len : X.length = l.length
  lt : a < b
  le : b ≤ l.length
  fst : X.take a = (l.take b).filter fun x => !g x
  snd : X.drop b = l.drop b
theorem getD_drop (l : List Int) (b i : Nat) : (l.drop b).getD i 0 = l.getD (b + i) 0 := by simp [List.getD_eq_getElem?_getD]
theorem Kp.at_ {X : List Int} {a b : Nat} (h : Kp g l X a b) : X.getD b 0 = l.getD b 0 := by
  have e := getD_drop X b 0
  rw [h.snd, getD_drop] at e
  simpa using e.symm
theorem Kp.start {i : Nat} (h : FstI g l i) : Kp g l l i (i + 1) := by
  refine ⟨rfl, by omega, h.1, ?_, rfl⟩
  rw [take_snoc_int l i h.1, List.filter_append, List.filter_eq_self.2 ?_]
  · have e := h.2.1
    generalize l.getD i 0 = y at e ⊢
    simp [e]
  · intro x hx
    obtain ⟨j, hj, rfl⟩ := List.mem_iff_getElem.1 hx
    have hj' : j < i := by rw [List.length_take] at hj; omega
    have := h.2.2 j hj'
    rw [List.getElem_take]
    rw [List.getD_eq_getElem?_getD, List.getElem?_eq_getElem (by have := h.1; omega)] at this
    simpa using this
theorem Kp.skip {X : List Int} {a b : Nat} (h : Kp g l X a b) (hb : b < l.length) (hg : g (l.getD b 0) = true) : Kp g l X a (b + 1) := by
  refine ⟨h.len, by have := h.lt; omega, hb, ?_, ?_⟩
  · rw [take_snoc_int l b hb, List.filter_append, h.fst]
    generalize l.getD b 0 = y at hg ⊢
    simp [hg]
  · rw [← List.drop_drop, h.snd, List.drop_drop]
theorem Kp.keep {X : List Int} {a b : Nat} (h : Kp g l X a b) (hb : b < l.length) (hg : g (l.getD b 0) = false) : Kp g l (X.set a (l.getD b 0)) (a + 1) (b + 1) := by
  have hl := h.len
  have ha := h.lt
  refine ⟨by rw [List.length_set]; exact hl, by omega, hb, ?_, ?_⟩
  · rw [take_snoc_int l b hb, List.filter_append, ← h.fst, take_snoc_int _ a (by rw [List.length_set]; omega), List.take_set_of_le (Nat.le_refl _), getD_set _ _ _ _ (by omega), if_pos rfl]
    generalize l.getD b 0 = y at hg ⊢
    simp [hg]
  · rw [List.drop_set_of_lt (by omega), ← List.drop_drop, h.snd, List.drop_drop]
theorem filter_of_none (h : ∀ j, j < l.length → g (l.getD j 0) = false) : l.filter (fun x => !g x) = l := List.filter_eq_self.2 fun x hx => by
  obtain ⟨j, hj, rfl⟩ := List.mem_iff_getElem.1 hx
  have := h j hj
  rw [List.getD_eq_getElem?_getD, List.getElem?_eq_getElem hj] at this
  simpa using this
theorem Own.form {base : Nat} (h : Own base w v l) : ∃ p k c, v = .slice p k c := by
  rcases h.2 with ⟨rfl, _⟩ | ⟨g, cap, cur, rfl, _⟩
  · exact ⟨_, _, _, rfl⟩
  · exact ⟨_, _, _, rfl⟩
/-- a row of numbers whose cells are known whole: numbers, then what else is there -/
def IRw (w : World) (gb : Nat) (X : List Int) (R : List Value) : Prop := Box w gb (X.map (Value.int .i64) ++ R).toArray 3
theorem IRw.cell {gb : Nat} {X : List Int} {R : List Value} (h : IRw w gb X R) (i : Nat) (hi : i < X.length) : w.cell? ⟨gb, i, none⟩ = some (.int .i64 (X.getD i 0)) ∧ w.frozen? ⟨gb, i, none⟩ = false := by
  refine ⟨?_, Box.unfrozen h i⟩
  rw [Box.cell h i, List.getElem?_toArray, List.getElem?_append_left (by simpa using hi), List.getElem?_map, List.getElem?_eq_getElem hi, List.getD_eq_getElem?_getD, List.getElem?_eq_getElem hi]; rfl
theorem IRw.set {gb : Nat} {X : List Int} {R : List Value} (h : IRw w gb X R) (i : Nat) (hi : i < X.length) (x : Int) : IRw (w.setCell ⟨gb, i, none⟩ (.int .i64 x)) gb (X.set i x) R := by
  have := Box.set h i (.int .i64 x)
  unfold IRw
  rw [List.map_set, ← List.set_append_left _ _ (by simpa using hi)]
  simpa using this
set_option maxHeartbeats 2000000 in
theorem del_fill (n : New w1 w) (h : Own w1.heap.size w v l)
    (HF : ∀ W, New w1 W → ∀ x : Int, Calls Tryz.prog 108 #[.int .i64 x, ca, cb] W (fun e w' => e = .returned (.bool (g x)) ∧ W = w')) :
    Calls Tryz.prog 107 #[v, .func (.func 108) #[] #[ca, cb]] w fun e w' => ∃ v', e = .returned v' ∧ Own w1.heap.size w' v' (l.filter fun x => !g x) ∧ New w1 w' := by
  have hB : l.length ≤ 9223372036854775807 := by
    rcases h.2 with ⟨rfl, hn⟩ | ⟨gb, cap, cur, rfl, hb, hg, h1, h2, h3, h4⟩
    · omega
    · unfold maxLen at h2; omega
  have X := idx_fill (g := g) h.ints hB (fun x => HF w n x)
  obtain ⟨p, k, c, rfl⟩ := Own.form h
  have HW := Lib.hid h
  go_enter Tryz.func107, Tryz.ntmps107
  go_wp2_with fail
  refine X.mono ?_
  rintro e w' ⟨rfl, ⟨rfl, hno⟩ | ⟨i, hi, rfl⟩⟩
  · have HN := Lib.hid hno
    have N1 := Lib.hid n
    clear hno h X
    go_wp2
    go_ret
    exact ⟨_, rfl, by rw [filter_of_none HN.out]; exact HW.out, N1.out⟩
  · have hil := hi.1
    obtain ⟨gb, cap, cur, e0, hb, hg, h1, h2, h3, h4⟩ : ∃ g cap cur, Value.slice p k c = .slice (some ⟨g, 0, none⟩) l.length cap ∧ w1.heap.size ≤ g ∧ w.heap[g]? = some (.cells cur 3 (0, 0)) ∧ l.length ≤ cap ∧ cap ≤ maxLen ∧ cur.size = cap * 1 ∧ cur.toList.take (l.length * 1) = l.map (Value.int .i64) :=
      h.2.resolve_left fun x => by have := x.2; omega
    obtain ⟨rfl, rfl, rfl⟩ : p = some ⟨gb, 0, none⟩ ∧ k = l.length ∧ c = cap := by injection e0 with a b c; exact ⟨a, b, c⟩
    obtain ⟨R, hR, hRl⟩ : ∃ R, cur = (l.map (Value.int .i64) ++ R).toArray ∧ l.length + R.length = c := ⟨cur.toList.drop l.length, by
      have := List.take_append_drop l.length cur.toList
      rw [Nat.mul_one] at h4
      rw [h4] at this
      rw [this], by have : cur.toList.length = c := by simpa using h3
                    rw [List.length_drop]; omega⟩
    subst hR
    have W0 : IRw w gb l R := hg
    have HK := Lib.hid (Kp.start hi)
    have HC := Lib.hid (show l.length ≤ c ∧ c ≤ maxLen ∧ l.length + R.length = c from ⟨h1, h2, hRl⟩)
    have HBs := Lib.hid hb
    have HN := Lib.hid n
    clear h hi X hg h3 h4 e0
    go_wp2_with fail
    go_loopg [5, 6] (l.length - (i + 1)) (fun k x y wr => ∃ a b : Nat, ∃ X : List Int, b + k = l.length ∧ x = .int .i64 (a : Int) ∧ y = .int .i64 (b : Int) ∧ Kp g l X a b ∧ IRw wr gb X R ∧ New w1 wr)
    case atStart => exact ⟨i, i + 1, l, by omega, rfl, by go_num, HK.out, W0, HN.out⟩
    case round =>
      obtain ⟨a, b, X, hj, rfl, rfl, hk, hw, hn⟩ := hrel
      have hlt := hk.lt
      have hlen := hk.len
      obtain ⟨_, _, hz0, hz1, hz2⟩ := info_parts int_info
      by_cases c0 : b < l.length
      · have c1 := (hw.cell b (by omega)).1
        rw [hk.at_] at c1
        have Y := HF wr hn (l.getD b 0)
        have HKp := Lib.hid hk
        have HW2 := Lib.hid hw
        have HN2 := Lib.hid hn
        have J := Lib.hid hj
        have C := Lib.hid c0
        obtain ⟨x, hx⟩ : ∃ x, l.getD b 0 = x := ⟨_, rfl⟩
        have XE := Lib.hid hx
        rw [hx] at Y c1
        have c2 := hw.cell a (by omega)
        cases hg : g x with
        | true =>
          rw [hg] at Y
          have HG := Lib.hid hg
          clear hg hk hw hn hj hx
          go_wp2_with (go_at_call 108; (with_reducible refine Y.mono ?_); rintro e w' ⟨rfl, rfl⟩)
          go_roundg (l.length - (b + 1))
          case measure => have := J.out; omega
          case rel => exact ⟨a, b + 1, X, by have := J.out; omega, rfl, by go_num, HKp.out.skip C.out (by rw [XE.out]; exact HG.out), HW2.out, HN2.out⟩
        | false =>
          rw [hg] at Y
          have HG := Lib.hid hg
          have hla : a < l.length := by omega
          have n2 := Lib.hid (hn.setCell (p := ⟨gb, a, none⟩) HBs.out (.int .i64 x))
          have w2 := Lib.hid (hw.set a (by omega) x)
          obtain ⟨c3, c4⟩ := c2
          clear hg hk hw hn hj hx
          go_wp2_with (go_at_call 108; (with_reducible refine Y.mono ?_); rintro e w' ⟨rfl, rfl⟩)
          go_roundg (l.length - (b + 1))
          case measure => have := J.out; omega
          case rel => exact ⟨a + 1, b + 1, X.set a x, by have := J.out; omega, by go_num, by go_num, by have := HKp.out.keep C.out (by rw [XE.out]; exact HG.out); rwa [XE.out] at this, w2.out, n2.out⟩
      · have hbl : b = l.length := by have := hk.le; omega
        subst hbl
        have hc := HC.out
        have hcl : ∀ ty, (Builtin.clear_ #[43] ty #[.slice (some ⟨gb, a, none⟩) (l.length - a) (c - a)]).run Tryz.prog wr = .ok (.tuple #[]) (wr.setCells gb a (List.replicate (l.length - a) (.int .i64 0))) :=
          fun ty => by
            have := Lib.run_clear_slice wr 43 3 ty (.int .i64 0) (P := Tryz.prog) (by kernel_rfl) (fun w => by kernel_rfl) rfl rfl gb a (l.length - a) (c - a) (by omega) (fun j hj => by rw [(hw.cell (a + j) (by omega)).1]; rfl) (fun j hj => (hw.cell (a + j) (by omega)).2)
            exact this
        have hrow := setCells_row (t := 3) (List.replicate (l.length - a) (.int .i64 0)) a (X.map (Value.int .i64) ++ R) wr hw (by simp; omega)
        have HO : Own w1.heap.size (wr.setCells gb a (List.replicate (l.length - a) (.int .i64 0))) (.slice (some ⟨gb, 0, none⟩) a c) (l.filter fun x => !g x) := by
          have e := hk.fst
          rw [List.take_length] at e
          rw [← e]
          have hla : (X.take a).length = a := by rw [List.length_take]; omega
          refine ⟨by simp, .inr ⟨gb, c, _, by rw [hla], HBs.out, hrow.1, by omega, hc.2.1, ?_, ?_⟩⟩
          · simp only [List.size_toArray, Nat.mul_one]
            simp [splice]; omega
          · rw [hla, Nat.mul_one]
            show (splice (X.map (Value.int .i64) ++ R) a _).take a = _
            unfold splice
            rw [List.take_append_of_le_length (by simp; omega), List.take_append_of_le_length (by simp; omega), List.take_take, Nat.min_self, List.map_take]
        have N3 : New w1 (wr.setCells gb a (List.replicate (l.length - a) (.int .i64 0))) := hrow.2.new hn HBs.out
        have H3 := Lib.hid HO
        have H4 := Lib.hid N3
        have f1 : a < l.length := by omega
        have f2 : a ≤ c := by omega
        have f3 : ¬ c = a := by omega
        have f4 : l.length ≤ c := by omega
        clear hk hw hn hj HO N3 hrow c0
        go_wp2
        go_ret
        exact ⟨_, rfl, H3.out, H4.out⟩
set_option maxHeartbeats 1000000 in
/-- the pages of a range -/
theorem filled_any {w : World} {k fb rb mb qb : Nat} {rs bs : List Int} {S : List Sq} (h : GM w k fb rb mb qb rs bs S) {i : Nat} (hi : i < S.length) (ho : S[i].on = true) {a : Nat → Prop} (gd : Good k a bs S[i].t) (x y : Int) :
    Calls Tryz.prog 54 #[.pointer (some ⟨S[i].sb, 0, none⟩), .int .i64 x, .int .i64 y] w (Lists ((pgs (pgn bs S[i].t) 4096).filter fun p => !outR x y p) w) := by
  obtain ⟨v, hb, _⟩ := (h.has hi ho).box
  have ht := (h.has hi ho).tab
  obtain ⟨c0, c1, c2, c3⟩ := Box.four hb
  have hlt := Box.lt hb
  have n0 := ((New.refl w).alloc #[.int .i64 x] 3).alloc #[.int .i64 y] 3
  have B1 := (Box.here w _ #[.int .i64 x] 3 rfl).alloc (.cells #[.int .i64 y] 3)
  have B2 := Box.here (w.alloc (.cells #[.int .i64 x] 3)) _ #[.int .i64 y] 3 rfl
  have X := tpages_any (ht.new n0) (h.ph.new n0) gd (Nat.le_refl _)
  generalize pgs (pgn bs S[i].t) 4096 = L at *
  clear h hb ht gd
  go_enter Tryz.func54, Tryz.ntmps54
  go_wp2_with fail
  refine X.mono ?_
  rintro e w1 ⟨v1, rfl, o1, n1⟩
  have Y := del_fill (g := outR x y) n1 o1 (fun W n z => fill_clo W z x y _ _ (B1.new n).one (B2.new n).one)
  rw [World.size_alloc] at Y
  clear X o1
  go_wp2_with fail
  with_reducible refine Y.mono ?_
  rintro e w2 ⟨v2, rfl, o2, n2⟩
  go_wp2
  go_ret
  exact ⟨_, rfl, o2.more n0.size, n0.trans n2⟩
end
end Go.Proofs.YtgedimlhldfkaaaGreatDoor
