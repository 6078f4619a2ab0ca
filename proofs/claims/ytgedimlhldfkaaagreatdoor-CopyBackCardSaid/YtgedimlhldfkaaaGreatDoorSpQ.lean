/- What the statements on spaces of pages begin with: one space over so many frames, and the document's. -/
import Derived.Test.YtgedimlhldfkaaaGreatDoorSpY
import Derived.Test.YtgedimlhldfkaaaGreatDoorNumF
namespace Go.Proofs.YtgedimlhldfkaaaGreatDoor
open Go.RowKit
set_option linter.unusedVariables false
set_option maxRecDepth 100000
section
variable {w w' : World} {k fb rb mb qb many : Nat} {rs bs qs cs : List Int} {S T : List Sq} {i : Nat}
set_option maxHeartbeats 1000000 in
theorem rnew_first (w : World) (m : Nat) (hm : 1 ≤ m) : Calls Tryz.prog 62 #[.agg #[.int .i64 m, .int .i64 0, .slice none 0 0, .slice none 0 0]] w fun e w' =>
    e = .returned (.tuple #[.agg #[.int .i64 m, .int .i64 1, .slice none 0 0, .slice none 0 0], .agg #[.slice none 0 0, .slice none 0 0, .slice none 0 0, .bool false], .int .i64 0]) ∧ New w w' := by
  have d : decide ((m : Int) ≤ 0) = false := by simp; omega
  go_enter Tryz.func62, Tryz.ntmps62
  go_wp2
  exact bodyPost_ret (v := .tuple #[.agg #[.int .i64 m, .int .i64 1, .slice none 0 0, .slice none 0 0], .agg #[.slice none 0 0, .slice none 0 0, .slice none 0 0, .bool false], .int .i64 0]) (by simp [results, Tryz.results62, go_sem]) rfl ⟨rfl, by
    repeat (first | exact New.refl _ | refine New.setCell ?_ (by simp <;> omega) _ | refine New.alloc ?_ _ _)⟩
/-- a party: its frames, bytes, spaces; the document's world and spaces -/
def Pty (w : World) (pb fb mb : Nat) (v : Value) (m t : Int) (vb vr vx : Value) : Prop := Box w pb #[.pointer (some ⟨fb, 0, none⟩), .pointer (some ⟨mb, 0, none⟩), v, .int .i64 m, .int .i64 t, vb, vr, vx] 66
/-- one space, and the document's -/
def LaidP (m : Nat) (w : World) (e : Ending) (w' : World) : Prop :=
  ∃ pb fb rb mb qb sl xl sb tb bs, e = .returned (.pointer (some ⟨pb, 0, none⟩)) ∧ New w w' ∧ (w.heap.size ≤ pb ∧ w.heap.size ≤ fb ∧ w.heap.size ≤ rb ∧ w.heap.size ≤ mb ∧ w.heap.size ≤ qb ∧ w.heap.size ≤ sl ∧ w.heap.size ≤ xl ∧ w.heap.size ≤ sb ∧ w.heap.size ≤ tb) ∧
    Pty w' pb fb mb (.slice (some ⟨sl, 0, none⟩) 1 1) m 1 (.slice none 0 0) (.slice none 0 0) (.slice (some ⟨xl, 0, none⟩) 1 1) ∧ Box w' sl #[.pointer (some ⟨sb, 0, none⟩)] 23 ∧ Box w' xl #[.slice none 0 0, .slice none 0 0, .slice none 0 0, .bool false] 84 ∧
    GM w' m fb rb mb qb ((List.replicate m 0).set 0 1) bs [⟨sb, tb, 0, [], true⟩] ∧ Pst m ((List.replicate m 0).set 0 1) bs [⟨sb, tb, 0, [], true⟩] ∧ (∀ u, u < 64 → nm bs 0 u = 0)
set_option maxHeartbeats 2000000 in
theorem laid_any (w : World) (m : Nat) (h1 : 1 ≤ m) (h2 : m ≤ 1024) : Calls Tryz.prog 21 #[.int .i64 m] w (LaidP m w) := by
  have X1 := made_any m w h1 h2
  have X2 := fun w => pmade_any m w h1 h2
  have X4 := fun w => rnew_first w m h1
  go_enter Tryz.func21, Tryz.ntmps21
  go_wp2_with fail
  refine X1.mono ?_
  rintro e w1 ⟨rfl, f1, n1⟩
  go_wp2_with fail
  refine (X2 _).mono ?_
  rintro e w2 ⟨rfl, p2, n2⟩
  have f2 := f1.new n2
  have G0 := GM.zero f2 p2
  have S0 := Pst.zero (k := m) (bs := List.replicate (m * 256) 0) h1 (by simp)
  have X3 := snew_ok G0 0 (by omega) (NoFree.zero _) (zeros_get _ _)
  have n12 := n1.trans n2
  have s1 := n1.size
  have s2 := n2.size
  clear X1 X2 f1 n1 n2 p2 f2
  go_wp2_with fail
  refine X3.mono ?_
  rintro e w3 ⟨sb, tb, rfl, l1, l2, g3, b3⟩
  have hl := G0.fr.lt
  have hq := G0.ph.lt
  have n3 : New w w3 := n12.but b3 (by rintro i (rfl | rfl) <;> omega)
  obtain ⟨P3, _, Z3, _⟩ := S0.push (g := 0) (by omega) (zeros_get _ _) (⟨sb, tb, 0, [], true⟩ : Sq) rfl rfl (show ROk [] from trivial)
  generalize w1.heap.size = qb at *
  generalize hf : w.heap.size + 1 = fb at *
  clear X3 b3 G0 S0 hl hq
  go_wp2_with fail
  refine (X4 _).mono ?_
  rintro e w4 ⟨rfl, n4⟩
  have g4 := g3.new n4
  have n34 := n3.trans n4
  have s4 := n4.size
  clear X4 g3 n3 n4
  go_wp2
  go_ret
  have N5 : New w4 (((((w4.alloc (.cells #[.int .i64 m, .int .i64 1, .slice none 0 0, .slice none 0 0] 63)).alloc (.cells #[.slice none 0 0, .slice none 0 0, .slice none 0 0, .bool false] 84)).alloc (.cells #[.pointer (some ⟨sb, 0, none⟩)] 23)).alloc (.cells #[.slice none 0 0, .slice none 0 0, .slice none 0 0, .bool false] 84)).alloc (.cells #[.pointer (some ⟨fb, 0, none⟩), .pointer (some ⟨qb + 1, 0, none⟩), .slice (some ⟨w4.heap.size + 2, 0, none⟩) 1 1, .int .i64 m, .int .i64 1, .slice none 0 0, .slice none 0 0, .slice (some ⟨w4.heap.size + 3, 0, none⟩) 1 1] 66)) := by
    repeat (first | exact New.refl _ | refine New.alloc ?_ _ _)
  have z1 := n34.size
  refine ⟨w4.heap.size + 4, fb, w.heap.size, qb + 1, qb, w4.heap.size + 2, w4.heap.size + 3, sb, tb, _, rfl, n34.trans N5, ⟨by omega, by omega, Nat.le_refl _, by omega, s1, by omega, by omega, by omega, by omega⟩, ?_, ?_, ?_, g4.new N5, P3, Z3⟩
  · exact Box.here _ _ _ _ (by simp)
  · exact (((Box.here _ _ _ _ (by simp)).alloc _).alloc _)
  · exact (Box.here _ _ _ _ (by simp)).alloc _
end
end Go.Proofs.YtgedimlhldfkaaaGreatDoor
namespace Go.Proofs.YtgedimlhldfkaaaGreatDoor
open Go.RowKit
set_option linter.unusedVariables false
set_option maxRecDepth 100000
section
variable {k : Nat} {rs bs qs cs c1 : List Int} {S : List Sq} {i p f : Nat}
/-- a page made reachable, and bytes of it written -/
theorem Eff.write {nf : Option Nat} {R : Nat → Int} {D : Nat → List Int} {dt : Int} {o : Nat} {l : List Int} (h : Eff k rs bs qs c1 S i p nf R D dt) (hi : i < S.length) (ho : S[i].on = true) (hp : p < 4096) (hf : pf c1 S[i].t p = some f) (hD : EffD k c1 cs S (fun x => if x = f then splice (fby c1 f) o l else fby c1 x)) :
    Eff k rs bs qs cs S i p nf R (fun x => if x = f then splice (D f) o l else D x) dt := by
  have hPF : ∀ x, PF cs S x → PF c1 S x := fun x ⟨j, hj, hoj, q, hq, e⟩ => ⟨j, hj, hoj, q, hq, by rw [← hD.pg j hj hoj q hq]; exact e⟩
  refine ⟨fun j hj hoj q hq => by rw [hD.pg j hj hoj q hq, h.pg j hj hoj q hq], fun j hj hoj u hu => by rw [hD.up j hj hoj u hu, h.up j hj hoj u hu], fun j hj hoj => by rw [hD.nu j hj hoj, h.nu j hj hoj], fun x hx => h.rf x (hPF x hx), fun x hx => ?_, h.tk⟩
  rw [hD.da x hx]
  by_cases c : x = f
  · subst c; rw [if_pos rfl, if_pos rfl, h.da x ⟨i, hi, ho, p, hp, hf⟩]
  · rw [if_neg c, if_neg c, h.da x (hPF x hx)]
theorem pgs_of (g h : Nat → Int) (H : ∀ q, q < 4096 → (g q = 0 ↔ h q = 0)) : pgs g 4096 = pgs h 4096 := by
  have key : ∀ n, n ≤ 4096 → pgs g n = pgs h n := fun n => by
    induction n with
    | zero => intro _; rfl
    | succ n ih =>
      intro hn
      have e := H n (by omega)
      by_cases c : g n = 0
      · rw [pgs_skip c, pgs_skip (e.1 c), ih (by omega)]
      · rw [pgs_push c, pgs_push (fun x => c (e.2 x)), ih (by omega)]
  exact key 4096 (Nat.le_refl _)
theorem pgs_single (p : Nat) (hp : p < 4096) (g : Nat → Int) (H : ∀ q, q < 4096 → (g q = 0 ↔ q ≠ p)) : pgs g 4096 = [(p : Int)] := by
  have key : ∀ n, n ≤ 4096 → pgs g n = if p < n then [(p : Int)] else [] := fun n => by
    induction n with
    | zero => intro _; rfl
    | succ n ih =>
      intro hn
      have e := H n (by omega)
      by_cases c : g n = 0
      · have := e.1 c
        rw [pgs_skip c, ih (by omega)]
        by_cases d : p < n
        · rw [if_pos d, if_pos (by omega)]
        · rw [if_neg d, if_neg (by omega)]
      · have : n = p := by
          by_cases x : n = p
          · exact x
          · exact absurd (e.2 x) c
        subst this
        rw [pgs_push c, ih (by omega), if_neg (by omega), if_pos (by omega)]; rfl
  rw [key 4096 (Nat.le_refl _), if_pos hp]
theorem pf_zero {t : Nat} {q : Nat} : pgn bs t q = 0 ↔ pf bs t q = none := pf_none.symm
/-- a page made reachable is right -/
theorem rchE_old {s : Sq} {m u : Int} {b : Bool} {P : Nat} (h1 : rpg s.L m = some P) (h2 : b = true ∨ usP P u = true) (h3 : pgI bs s.t m ≠ 0) (h4 : u = 2 → 1 < rs.getD (fo (pgI bs s.t m)) 0 → (tk rs k).length ≠ k) : rchE k rs bs s m u b = 0 := by
  unfold rchE
  rw [h1]
  dsimp only
  rw [if_neg (by rintro ⟨rfl, x⟩; rcases h2 with h2 | h2; cases h2; rw [h2] at x; cases x), if_neg h3, if_neg (fun x => h4 x.1 x.2.1 x.2.2)]
theorem rchE_new {s : Sq} {m u : Int} {b : Bool} {P : Nat} (h1 : rpg s.L m = some P) (h2 : b = true ∨ usP P u = true) (h3 : pgI bs s.t m = 0) (h4 : (if nm bs s.t (m.toNat / 64) = 0 then 2 else 1) ≤ (k : Int) - (tk rs k).length) : rchE k rs bs s m u b = 0 := by
  unfold rchE
  rw [h1]
  dsimp only
  rw [if_neg (by rintro ⟨rfl, x⟩; rcases h2 with h2 | h2; cases h2; rw [h2] at x; cases x), if_pos h3, if_neg (by omega)]
theorem rchE_full {s : Sq} {m u : Int} {b : Bool} {P : Nat} (h1 : rpg s.L m = some P) (h2 : b = true ∨ usP P u = true) (h3 : pgI bs s.t m = 0) (h4 : (k : Int) - (tk rs k).length < 1) : rchE k rs bs s m u b = 12 := by
  unfold rchE
  rw [h1]
  dsimp only
  rw [if_neg (by rintro ⟨rfl, x⟩; rcases h2 with h2 | h2; cases h2; rw [h2] at x; cases x), if_pos h3, if_pos (by split <;> omega)]
theorem rchE_out {s : Sq} {m u : Int} {b : Bool} (h1 : rpg s.L m = none) : rchE k rs bs s m u b = 14 := by
  unfold rchE; rw [h1]
theorem rchE_may {s : Sq} {m u : Int} {P : Nat} (h1 : rpg s.L m = some P) (h2 : usP P u = false) : rchE k rs bs s m u false = 14 := by
  unfold rchE; rw [h1]; dsimp only; rw [if_pos ⟨rfl, h2⟩]
end
end Go.Proofs.YtgedimlhldfkaaaGreatDoor
namespace Go.Proofs.YtgedimlhldfkaaaGreatDoor
open Go.RowKit
set_option linter.unusedVariables false
set_option maxRecDepth 100000
section
variable {w w' : World} {k fb rb mb qb many : Nat} {rs bs qs cs : List Int} {S T : List Sq} {i : Nat}
theorem adE_first {r : Rg} (h : okR r = true) : adE [] r = 0 ∧ adL [] r = [r] := by
  have e : adE [] r = 0 := by
    unfold adE
    rw [if_pos ⟨rokb_iff.2 trivial, h⟩, if_pos (by simp [fiN])]
  refine ⟨e, ?_⟩
  unfold adL
  rw [if_pos e]
  rfl
/-- the first region laid down -/
theorem map_first {sb tb t : Nat} (h : GM w k fb rb mb qb rs bs [⟨sb, tb, t, [], true⟩]) (st : Pst k rs bs [⟨sb, tb, t, [], true⟩]) (r : Rg) (hr : okR r = true) :
    Calls Tryz.prog 13 #[.pointer (some ⟨sb, 0, none⟩), .agg #[.int .i64 r.f, .int .i64 r.t, .int .u8 (r.p : Int)]] w fun e w' => e = .returned .nilIface ∧ GM w' k fb rb mb qb rs bs [⟨sb, tb, t, [r], true⟩] ∧ But (fun g => g = sb) w w' ∧ Pst k rs bs [⟨sb, tb, t, [r], true⟩] := by
  obtain ⟨a1, a2⟩ := adE_first hr
  refine (Map_st h st (i := 0) (by simp) rfl r).mono ?_
  rintro e w' ⟨T, h1, h2, h3⟩
  have e1 : adE ([⟨sb, tb, t, [], true⟩] : List Sq)[0].L r = 0 := a1
  rw [if_pos e1] at h3
  have h3' : T = [⟨sb, tb, t, [r], true⟩] := by rw [h3]; show [Sq.lay _ (adL [] r)] = _; rw [a2]; rfl
  subst h3'
  obtain ⟨l1, l2, l3⟩ := h1
  exact ⟨by rw [l1, e1]; rfl, l2, l3, h2⟩
/-- bytes written into a page that had no frame -/
theorem write_fill (h : GM w k fb rb mb qb rs bs S) (st : Pst k rs bs S) (hi : i < S.length) (ho : S[i].on = true) (at_ : Nat) (p : Option Addr) (cap : Nat) (l : List Int) (b : Bool) (ha : at_ < 4294967296) (hc : Oct l) (hv : BytsK (fun g => g = rb ∨ g = qb) w (.slice p l.length cap) l)
    (hp : plc at_ l.length = true) {P : Nat} (h1 : rpg S[i].L ((at_ / 256 : Nat) : Int) = some P) (h2 : b = true ∨ usP P 2 = true) (h3 : pf bs S[i].t (at_ / 256) = none) (h4 : (if nm bs S[i].t (at_ / 256 / 64) = 0 then 2 else 1) ≤ (k : Int) - (tk rs k).length) :
    Calls Tryz.prog 16 #[.pointer (some ⟨S[i].sb, 0, none⟩), .int .u32 at_, .slice p l.length cap, .bool b] w fun e w' => e = .returned .nilIface ∧ ∃ g qs cs, GM w' k fb rb mb qb qs cs S ∧ But (fun g => g = rb ∨ g = qb) w w' ∧ Pst k qs cs S ∧ g < k ∧
      (∀ j (hj : j < S.length), S[j].on = true → ∀ q, q < 4096 → pf bs S[j].t q ≠ some g) ∧ Eff k rs bs qs cs S i (at_ / 256) (some g) (fun f => if f = g then 1 else rs.getD f 0) (fun x => if x = g then splice (List.replicate 256 0) (at_ % 256) l else fby bs x) (1 + b2 (nm bs S[i].t (at_ / 256 / 64) = 0)) := by
  have hq := plc_iff.1 hp
  have e0 : wrE k rs bs S[i] at_ l.length b = 0 := by
    unfold wrE
    rw [if_pos hp]
    refine rchE_new h1 h2 ?_ ?_
    · rw [pgI_in _ _ _ hq.1]; exact pf_none.1 h3
    · rw [show (((at_ / 256 : Nat) : Int)).toNat = at_ / 256 from Int.toNat_natCast _]; exact h4
  refine (Write_st h st hi ho at_ p cap l b ha (by unfold maxLen; omega) hc hv).mono ?_
  rintro e w' ⟨qs, cs, rfl, g1, b1, s1, hx⟩
  rw [e0] at hx ⊢
  obtain ⟨_, _, f, c1, hr, s2, hf, hpf, hD⟩ := hx.resolve_left fun y => y.1 rfl
  cases hr with
  | keep f y1 _ _ => rw [h3] at y1; cases y1
  | split f g _ y1 _ _ _ _ => rw [h3] at y1; cases y1
  | fill g y1 y2 y3 y4 =>
    have E := y4.write hi ho hq.1 hpf hD
    refine ⟨rfl, f, qs, cs, g1, b1, s1, hf, y2, ⟨E.pg, E.up, E.nu, E.rf, fun x hx => ?_, E.tk⟩⟩
    rw [E.da x hx]
    by_cases c : x = f
    · rw [if_pos c, if_pos c, if_pos rfl]
    · rw [if_neg c, if_neg c, if_neg c]
/-- bytes written into a page that is shared -/
theorem write_split (h : GM w k fb rb mb qb rs bs S) (st : Pst k rs bs S) (hi : i < S.length) (ho : S[i].on = true) (at_ : Nat) (p : Option Addr) (cap : Nat) (l : List Int) (b : Bool) (ha : at_ < 4294967296) (hc : Oct l) (hv : BytsK (fun g => g = rb ∨ g = qb) w (.slice p l.length cap) l)
    (hp : plc at_ l.length = true) {P f0 : Nat} (h1 : rpg S[i].L ((at_ / 256 : Nat) : Int) = some P) (h2 : b = true ∨ usP P 2 = true) (h3 : pf bs S[i].t (at_ / 256) = some f0) (h4 : 1 < rs.getD f0 0) (h5 : (tk rs k).length ≠ k) :
    Calls Tryz.prog 16 #[.pointer (some ⟨S[i].sb, 0, none⟩), .int .u32 at_, .slice p l.length cap, .bool b] w fun e w' => e = .returned .nilIface ∧ ∃ g qs cs, GM w' k fb rb mb qb qs cs S ∧ But (fun g => g = rb ∨ g = qb) w w' ∧ Pst k qs cs S ∧ g < k ∧
      (∀ j (hj : j < S.length), S[j].on = true → ∀ q, q < 4096 → pf bs S[j].t q ≠ some g) ∧ Eff k rs bs qs cs S i (at_ / 256) (some g) (fun x => if x = f0 then rs.getD f0 0 - 1 else if x = g then 1 else rs.getD x 0) (fun x => if x = g then splice (fby bs f0) (at_ % 256) l else fby bs x) 1 := by
  have hq := plc_iff.1 hp
  have hnz := (pf_some.1 h3)
  have e0 : wrE k rs bs S[i] at_ l.length b = 0 := by
    unfold wrE
    rw [if_pos hp]
    refine rchE_old h1 h2 ?_ fun _ _ => h5
    rw [pgI_in _ _ _ hq.1]; exact hnz.1
  refine (Write_st h st hi ho at_ p cap l b ha (by unfold maxLen; omega) hc hv).mono ?_
  rintro e w' ⟨qs, cs, rfl, g1, b1, s1, hx⟩
  rw [e0] at hx ⊢
  obtain ⟨_, _, f, c1, hr, s2, hf, hpf, hD⟩ := hx.resolve_left fun y => y.1 rfl
  cases hr with
  | keep f y1 y2 _ =>
    rw [h3] at y1
    obtain rfl := Option.some.inj y1
    exact absurd h4 (y2 rfl)
  | fill g y1 y2 y3 y4 => rw [h3] at y1; cases y1
  | split f' g _ y1 y2 y3 y4 y5 =>
    rw [h3] at y1
    obtain rfl := Option.some.inj y1
    have E := y5.write hi ho hq.1 hpf hD
    refine ⟨rfl, f, qs, cs, g1, b1, s1, hf, y3, ⟨E.pg, E.up, E.nu, E.rf, fun x hx => ?_, E.tk⟩⟩
    rw [E.da x hx]
    by_cases c : x = f
    · rw [if_pos c, if_pos c, if_pos rfl]
    · rw [if_neg c, if_neg c, if_neg c]
/-- bytes written that may not be, or not now -/
theorem write_err (h : GM w k fb rb mb qb rs bs S) (st : Pst k rs bs S) (hi : i < S.length) (ho : S[i].on = true) (at_ : Nat) (p : Option Addr) (cap : Nat) (l : List Int) (b : Bool) (ha : at_ < 4294967296) (hl : l.length ≤ maxLen) (hc : Oct l) (hv : BytsK (fun g => g = rb ∨ g = qb) w (.slice p l.length cap) l) (c : Int) (h0 : c ≠ 0) (he : wrE k rs bs S[i] at_ l.length b = c) :
    Calls Tryz.prog 16 #[.pointer (some ⟨S[i].sb, 0, none⟩), .int .u32 at_, .slice p l.length cap, .bool b] w fun e w' => e = .returned (.iface 98 (.int .i64 c)) ∧ GM w' k fb rb mb qb rs bs S ∧ But (fun g => g = rb ∨ g = qb) w w' := by
  refine (Write_st h st hi ho at_ p cap l b ha hl hc hv).mono ?_
  rintro e w' ⟨qs, cs, rfl, g1, b1, s1, hx⟩
  rw [he] at hx ⊢
  rcases hx with ⟨_, rfl, rfl⟩ | ⟨y, _⟩
  · exact ⟨by rw [erN_pos h0], g1, b1⟩
  · exact absurd y h0
/-- bytes read of a page that has a frame -/
theorem read_old (h : GM w k fb rb mb qb rs bs S) (st : Pst k rs bs S) (hi : i < S.length) (ho : S[i].on = true) (at_ n : Nat) (u : Int) (ha : at_ < 4294967296) (hu : u ≠ 2)
    (hp : plc at_ n = true) {P f0 : Nat} (h1 : rpg S[i].L ((at_ / 256 : Nat) : Int) = some P) (h2 : (u == 0) = true ∨ usP P u = true) (h3 : pf bs S[i].t (at_ / 256) = some f0) :
    Calls Tryz.prog 9 #[.pointer (some ⟨S[i].sb, 0, none⟩), .int .u32 at_, .int .i64 n, .int .u8 u] w fun e w' => ∃ v cs, e = .returned (.tuple #[v, .nilIface]) ∧ OwnB w.heap.size w' v (cut (fby bs f0) (at_ % 256) n) ∧ GM w' k fb rb mb qb rs cs S ∧ But (fun g => g = rb ∨ g = qb) w w' ∧ Pst k rs cs S ∧
      Eff k rs bs rs cs S i (at_ / 256) (some f0) (fun x => rs.getD x 0) (fby bs) 0 := by
  have hq := plc_iff.1 hp
  have hnz := (pf_some.1 h3)
  have e0 : rdE k rs bs S[i] at_ n u = 0 := by
    unfold rdE
    rw [if_pos hp]
    refine rchE_old h1 h2 ?_ fun x => absurd x hu
    rw [pgI_in _ _ _ hq.1]; exact hnz.1
  refine (Read_st h st hi ho at_ n u ha (by omega)).mono ?_
  rintro e w' ⟨v, l, qs, cs, rfl, o1, g1, b1, s1, hx⟩
  rw [e0] at hx ⊢
  obtain ⟨_, _, f, hr, hf, hl⟩ := hx.resolve_left fun y => y.1 rfl
  cases hr with
  | fill g y1 y2 y3 y4 => rw [h3] at y1; cases y1
  | split f' g y0 y1 y2 y3 y4 y5 => exact absurd y0 hu
  | keep f y1 y2 y3 =>
    rw [h3] at y1
    obtain rfl := Option.some.inj y1
    have hPF : PF cs S f0 := ⟨i, hi, ho, at_ / 256, hq.1, by rw [y3.pg i hi ho _ hq.1, if_pos ⟨rfl, rfl⟩]⟩
    rw [y3.da f0 hPF] at hl
    subst hl
    exact ⟨v, cs, rfl, by simpa using o1, g1, b1, s1, y3⟩
/-- bytes read that may not be, or not now -/
theorem read_err (h : GM w k fb rb mb qb rs bs S) (st : Pst k rs bs S) (hi : i < S.length) (ho : S[i].on = true) (at_ : Nat) (n u : Int) (ha : at_ < 4294967296) (hn : -9223372036854775808 ≤ n ∧ n ≤ 9223372036854775807) (c : Int) (h0 : c ≠ 0) (he : rdE k rs bs S[i] at_ n u = c) :
    Calls Tryz.prog 9 #[.pointer (some ⟨S[i].sb, 0, none⟩), .int .u32 at_, .int .i64 n, .int .u8 u] w fun e w' => ∃ v, e = .returned (.tuple #[v, .iface 98 (.int .i64 c)]) ∧ OwnB w.heap.size w' v [] ∧ GM w' k fb rb mb qb rs bs S ∧ But (fun g => g = rb ∨ g = qb) w w' := by
  refine (Read_st h st hi ho at_ n u ha hn).mono ?_
  rintro e w' ⟨v, l, qs, cs, rfl, o1, g1, b1, s1, hx⟩
  rw [he] at hx ⊢
  rcases hx with ⟨_, rfl, rfl, rfl⟩ | ⟨y, _⟩
  · exact ⟨v, by rw [erN_pos h0], o1, g1, b1⟩
  · exact absurd y h0
end
end Go.Proofs.YtgedimlhldfkaaaGreatDoor
namespace Go.Proofs.YtgedimlhldfkaaaGreatDoor
open Go.RowKit
set_option linter.unusedVariables false
set_option maxRecDepth 100000
section
variable {w w' : World} {k fb rb mb qb many : Nat} {rs bs qs cs : List Int} {S T : List Sq} {i : Nat}
theorem GM.byts (h : GM w k fb rb mb qb rs bs S) (x : Int) : BytsK (fun g => g = rb ∨ g = qb) (w.alloc (.cells #[.int .u8 x] 5)) (.slice (some ⟨w.heap.size, 0, none⟩) 1 1) [x] := by
  have o : OwnB w.heap.size (w.alloc (.cells #[.int .u8 x] 5)) (.slice (some ⟨w.heap.size, 0, none⟩) 1 1) [x] :=
    ⟨by simp [cells8], .inr ⟨w.heap.size, 1, _, rfl, Nat.le_refl _, heap_alloc_new w _, Nat.le_refl _, by unfold maxLen; omega, rfl, rfl⟩⟩
  have h2 := h.new ((New.refl w).alloc #[.int .u8 x] 5)
  refine OwnR.bytesk o fun g hg cur => ?_
  rcases hg with rfl | rfl
  · exact Box.not_row h2.fr.boxes.2 (by decide) cur
  · exact Box.not_row h2.ph.boxes.2 (by decide) cur
theorem OwnB.but {X : Nat → Prop} {base : Nat} {v : Value} {l : List Int} (h : OwnB base w v l) (b : But X w w') (hX : ∀ g, X g → g < base) : OwnB base w' v l := by
  refine ⟨h.1, ?_⟩
  rcases h.2 with hn | ⟨g, cap, cur, rfl, hb, hg, rest⟩
  · exact .inl hn
  · exact .inr ⟨g, cap, cur, rfl, hb, by rw [b.block (Array.getElem?_eq_some_iff.1 hg).1 (fun c => by have := hX g c; omega)]; exact hg, rest⟩
/-- the space that sure begins with: the first two pages but one, and the second one has a frame -/
structure Su1 (w : World) (fb rb mb qb sb tb g : Nat) (rs bs : List Int) : Prop where
  gm : GM w 8 fb rb mb qb rs bs [⟨sb, tb, 0, [⟨1, 3, 3⟩], true⟩]
  st : Pst 8 rs bs [⟨sb, tb, 0, [⟨1, 3, 3⟩], true⟩]
  pg : ∀ q, q < 4096 → pf bs 0 q = if q = 1 then some g else none
  rf : rs.getD g 0 = 1
  da : fby bs g = splice (List.replicate 256 0) 2 [5]
  tk : (tk rs 8).length = 3
theorem su_write1 {sb tb : Nat} (h : GM w 8 fb rb mb qb rs bs [⟨sb, tb, 0, [⟨1, 3, 3⟩], true⟩]) (st : Pst 8 rs bs [⟨sb, tb, 0, [⟨1, 3, 3⟩], true⟩]) (hz : ∀ u, u < 64 → nm bs 0 u = 0) (ht : (tk rs 8).length = 1) :
    Calls Tryz.prog 16 #[.pointer (some ⟨sb, 0, none⟩), .int .u32 258, .slice (some ⟨w.heap.size, 0, none⟩) 1 1, .bool false] (w.alloc (.cells #[.int .u8 5] 5)) fun e w' => e = .returned .nilIface ∧ ∃ g qs cs, Su1 w' fb rb mb qb sb tb g qs cs ∧ But (fun g => g = rb ∨ g = qb) (w.alloc (.cells #[.int .u8 5] 5)) w' := by
  have h2 := h.new ((New.refl w).alloc #[.int .u8 5] 5)
  have hz1 : nm bs ([⟨sb, tb, 0, [⟨1, 3, 3⟩], true⟩] : List Sq)[0].t (258 / 256 / 64) = 0 := hz _ (by omega)
  have X := write_fill h2 st (i := 0) (by simp) rfl 258 (some ⟨w.heap.size, 0, none⟩) 1 [5] false (by omega) (fun x hx => by simp at hx; omega) (h.byts 5) rfl (P := 3) rfl (.inr rfl) (pf_none.2 (pgn_none hz 1 (by omega))) (by
    rw [if_pos hz1]; omega)
  refine X.mono ?_
  rintro e w' ⟨rfl, g, qs, cs, g1, b1, s1, hg, hfr, E⟩
  have hpg : ∀ q, q < 4096 → pf cs 0 q = if q = 1 then some g else none := fun q hq => by
    have := E.pg 0 (by simp) rfl q hq
    rw [show pf cs 0 q = pf cs ([⟨sb, tb, 0, [⟨1, 3, 3⟩], true⟩] : List Sq)[0].t q from rfl, this]
    by_cases c : q = 1
    · subst c; rfl
    · rw [if_neg (fun x => c x.2), if_neg c]; exact pf_none.2 (pgn_none hz q hq)
  have hPF : PF cs [⟨sb, tb, 0, [⟨1, 3, 3⟩], true⟩] g := ⟨0, by simp, rfl, 1, by omega, by have := hpg 1 (by omega); rw [if_pos rfl] at this; exact this⟩
  refine ⟨rfl, g, qs, cs, ⟨g1, s1, hpg, ?_, ?_, ?_⟩, b1⟩
  · rw [E.rf g hPF, if_pos rfl]
  · rw [E.da g hPF, if_pos rfl]
  · have := E.tk
    rw [b2_yes hz1, ht] at this
    omega
/-- two spaces, that share a page, or do not any more -/
structure Su2 (w : World) (fb rb mb qb sb cb f g : Nat) (n : Int) (t : Nat) (rs bs : List Int) (S : List Sq) : Prop where
  gm : GM w 8 fb rb mb qb rs bs S
  st : Pst 8 rs bs S
  len : S.length = 2
  s0 : ∀ h : 0 < S.length, S[0].on = true ∧ S[0].L = [⟨1, 3, 3⟩] ∧ S[0].sb = sb ∧ pf bs S[0].t 1 = some f
  s1 : ∀ h : 1 < S.length, S[1].on = true ∧ S[1].L = [⟨1, 3, 3⟩] ∧ S[1].sb = cb ∧ pf bs S[1].t 1 = some g
  rf : rs.getD g 0 = n
  tk : (tk rs 8).length = t
theorem su_fork {sb tb g : Nat} (h : Su1 w fb rb mb qb sb tb g rs bs) :
    Calls Tryz.prog 10 #[.pointer (some ⟨sb, 0, none⟩)] w fun e w' => ∃ cb qs cs T, e = .returned (.tuple #[.pointer (some ⟨cb, 0, none⟩), .nilIface]) ∧ w.heap.size ≤ cb ∧ Su2 w' fb rb mb qb sb cb g g 2 5 qs cs T ∧ fby cs g = splice (List.replicate 256 0) 2 [5] ∧ But (fun g => g = rb ∨ g = qb) w w' := by
  have hL : pgs (pgn bs 0) 4096 = [1] := pgs_single 1 (by omega) (pgn bs 0) fun q hq => by
    have e := h.pg q hq
    rw [pf_zero, e]
    by_cases c : q = 1
    · rw [if_pos c]; simp [c]
    · rw [if_neg c]; simp [c]
  have hPF : PF bs [⟨sb, tb, 0, [⟨1, 3, 3⟩], true⟩] g := ⟨0, by simp, rfl, 1, by omega, by have := h.pg 1 (by omega); rw [if_pos rfl] at this; exact this⟩
  refine (Fork_st h.gm h.st (i := 0) (by simp) rfl (by simp)).mono ?_
  intro e w' hx
  have hL' : pgs (pgn bs ([⟨sb, tb, 0, [⟨1, 3, 3⟩], true⟩] : List Sq)[0].t) 4096 = [1] := hL
  rw [hL', h.tk] at hx
  have hT : (tbs [1]).1 = 2 := rfl
  rw [hT] at hx
  rcases hx with ⟨x, _⟩ | ⟨_, cb, qs, cs, T, rfl, l1, g1, b1, s1, F, hsb⟩
  · omega
  · have hlen : T.length = 2 := F.len
    have h0 : 0 < T.length := by omega
    have h1 : 1 < T.length := by omega
    have e0 := F.old 0 (by simp) h0
    obtain ⟨n1, n2, n3, n4, n5⟩ := F.new h1
    have hpf := h.pg 1 (by omega)
    rw [if_pos rfl] at hpf
    refine ⟨cb, qs, cs, T, rfl, l1, ⟨g1, s1, hlen, fun _ => ?_, fun _ => ⟨n1, n2, hsb h1, (n3 1 (by omega)).trans hpf⟩, ?_, ?_⟩, by rw [F.da g hPF]; exact h.da, b1⟩
    · rw [e0]
      exact ⟨rfl, rfl, rfl, by
        have e2 : pf cs 0 1 = pf bs 0 1 := F.pg 0 (by simp) rfl 1 (by omega)
        exact e2.trans hpf⟩
    · have := F.rf g hPF
      rw [h.rf] at this
      rw [this]
      have : cf bs ([⟨sb, tb, 0, [⟨1, 3, 3⟩], true⟩] : List Sq)[0].t [1] g = 1 := by
        unfold cf
        rw [List.countP_cons, List.countP_nil]
        show 0 + (if decide (pf bs 0 1 = some g) = true then 1 else 0) = 1
        rw [hpf]; simp
      rw [this]; rfl
    · have := F.tk
      rw [h.tk, hT] at this
      omega
theorem su_write2 {sb cb g : Nat} (h : Su2 w fb rb mb qb sb cb g g 2 5 rs bs S) (hd : fby bs g = splice (List.replicate 256 0) 2 [5]) :
    Calls Tryz.prog 16 #[.pointer (some ⟨cb, 0, none⟩), .int .u32 258, .slice (some ⟨w.heap.size, 0, none⟩) 1 1, .bool false] (w.alloc (.cells #[.int .u8 6] 5)) fun e w' => e = .returned .nilIface ∧ ∃ g2 qs cs, Su2 w' fb rb mb qb sb cb g g2 1 6 qs cs S ∧ fby cs g = splice (List.replicate 256 0) 2 [5] ∧ fby cs g2 = splice (splice (List.replicate 256 0) 2 [5]) 2 [6] ∧ But (fun g => g = rb ∨ g = qb) (w.alloc (.cells #[.int .u8 6] 5)) w' := by
  have h2 := h.gm.new ((New.refl w).alloc #[.int .u8 6] 5)
  have hl := h.len
  have l0 : 0 < S.length := by omega
  have l1 : 1 < S.length := by omega
  obtain ⟨a1, a2, a3, a4⟩ := h.s0 l0
  obtain ⟨b1, b2, b3, b4⟩ := h.s1 l1
  have X := write_split h2 h.st (i := 1) l1 b1 258 (some ⟨w.heap.size, 0, none⟩) 1 [6] false (by omega) (fun x hx => by simp at hx; omega) (h.gm.byts 6) rfl (P := 3) (by rw [b2]; rfl) (.inr rfl) b4 (by rw [h.rf]; omega) (by rw [h.tk]; omega)
  rw [b3] at X
  refine X.mono ?_
  rintro e w' ⟨rfl, g2, qs, cs, g1, bb1, s1, hg, hfr, E⟩
  have hne : g2 ≠ g := fun e => hfr 0 l0 a1 1 (by omega) (by rw [a4, e])
  have p0 : pf cs S[0].t 1 = some g := by
    have := E.pg 0 l0 a1 1 (by omega)
    rw [this, if_neg (by omega)]; exact a4
  have p1 : pf cs S[1].t 1 = some g2 := by
    have := E.pg 1 l1 b1 1 (by omega)
    rw [this]; rfl
  refine ⟨rfl, g2, qs, cs, ⟨g1, s1, hl, fun _ => ⟨a1, a2, a3, p0⟩, fun _ => ⟨b1, b2, b3, p1⟩, ?_, ?_⟩, ?_, ?_, bb1⟩
  · rw [E.rf g2 ⟨1, l1, b1, 1, by omega, p1⟩, if_neg hne, if_pos rfl]
  · have := E.tk
    rw [h.tk] at this
    omega
  · rw [E.da g ⟨0, l0, a1, 1, by omega, p0⟩, if_neg (fun e => hne e.symm)]; exact hd
  · rw [E.da g2 ⟨1, l1, b1, 1, by omega, p1⟩, if_pos rfl, hd]
theorem su_read0 {sb cb f g : Nat} {n : Int} {t : Nat} {A B : List Int} (h : Su2 w fb rb mb qb sb cb f g n t rs bs S) (hf : fby bs f = A) (hg : fby bs g = B) :
    Calls Tryz.prog 9 #[.pointer (some ⟨sb, 0, none⟩), .int .u32 258, .int .i64 1, .int .u8 1] w fun e w' => ∃ v cs, e = .returned (.tuple #[v, .nilIface]) ∧ OwnB w.heap.size w' v (cut A 2 1) ∧ Su2 w' fb rb mb qb sb cb f g n t rs cs S ∧ fby cs f = A ∧ fby cs g = B ∧ But (fun g => g = rb ∨ g = qb) w w' := by
  have hl := h.len
  have l0 : 0 < S.length := by omega
  have l1 : 1 < S.length := by omega
  obtain ⟨a1, a2, a3, a4⟩ := h.s0 l0
  obtain ⟨b1, b2, b3, b4⟩ := h.s1 l1
  have X := read_old h.gm h.st (i := 0) l0 a1 258 1 1 (by omega) (by decide) rfl (P := 3) (by rw [a2]; rfl) (.inr rfl) a4
  rw [a3] at X
  refine X.mono ?_
  rintro e w' ⟨v, cs, rfl, o1, g1, bb1, s1, E⟩
  have p0 : pf cs S[0].t 1 = some f := by
    have := E.pg 0 l0 a1 1 (by omega)
    rw [this]; rfl
  have p1 : pf cs S[1].t 1 = some g := by
    have := E.pg 1 l1 b1 1 (by omega)
    rw [this, if_neg (by omega)]; exact b4
  rw [hf] at o1
  exact ⟨v, cs, rfl, o1, ⟨g1, s1, hl, fun _ => ⟨a1, a2, a3, p0⟩, fun _ => ⟨b1, b2, b3, p1⟩, h.rf, h.tk⟩, by rw [E.da f ⟨0, l0, a1, 1, by omega, p0⟩]; exact hf, by rw [E.da g ⟨1, l1, b1, 1, by omega, p1⟩]; exact hg, bb1⟩
theorem su_read1 {sb cb f g : Nat} {n : Int} {t : Nat} {A B : List Int} (h : Su2 w fb rb mb qb sb cb f g n t rs bs S) (hf : fby bs f = A) (hg : fby bs g = B) :
    Calls Tryz.prog 9 #[.pointer (some ⟨cb, 0, none⟩), .int .u32 258, .int .i64 1, .int .u8 1] w fun e w' => ∃ v cs, e = .returned (.tuple #[v, .nilIface]) ∧ OwnB w.heap.size w' v (cut B 2 1) ∧ Su2 w' fb rb mb qb sb cb f g n t rs cs S ∧ fby cs f = A ∧ fby cs g = B ∧ But (fun g => g = rb ∨ g = qb) w w' := by
  have hl := h.len
  have l0 : 0 < S.length := by omega
  have l1 : 1 < S.length := by omega
  obtain ⟨a1, a2, a3, a4⟩ := h.s0 l0
  obtain ⟨b1, b2, b3, b4⟩ := h.s1 l1
  have X := read_old h.gm h.st (i := 1) l1 b1 258 1 1 (by omega) (by decide) rfl (P := 3) (by rw [b2]; rfl) (.inr rfl) b4
  rw [b3] at X
  refine X.mono ?_
  rintro e w' ⟨v, cs, rfl, o1, g1, bb1, s1, E⟩
  have p0 : pf cs S[0].t 1 = some f := by
    have := E.pg 0 l0 a1 1 (by omega)
    rw [this, if_neg (by omega)]; exact a4
  have p1 : pf cs S[1].t 1 = some g := by
    have := E.pg 1 l1 b1 1 (by omega)
    rw [this]; rfl
  rw [hg] at o1
  exact ⟨v, cs, rfl, o1, ⟨g1, s1, hl, fun _ => ⟨a1, a2, a3, p0⟩, fun _ => ⟨b1, b2, b3, p1⟩, h.rf, h.tk⟩, by rw [E.da f ⟨0, l0, a1, 1, by omega, p0⟩]; exact hf, by rw [E.da g ⟨1, l1, b1, 1, by omega, p1⟩]; exact hg, bb1⟩
theorem su_read2 {sb cb f g : Nat} {n : Int} {t : Nat} (h : Su2 w fb rb mb qb sb cb f g n t rs bs S) :
    Calls Tryz.prog 9 #[.pointer (some ⟨cb, 0, none⟩), .int .u32 900, .int .i64 1, .int .u8 1] w fun e w' => ∃ v, e = .returned (.tuple #[v, .iface 98 (.int .i64 14)]) ∧ GM w' 8 fb rb mb qb rs bs S ∧ But (fun g => g = rb ∨ g = qb) w w' := by
  have hl := h.len
  have l1 : 1 < S.length := by omega
  obtain ⟨b1, b2, b3, b4⟩ := h.s1 l1
  have X := read_err h.gm h.st (i := 1) l1 b1 900 1 1 (by omega) (by omega) 14 (by decide) (by
    unfold rdE
    rw [if_pos (show plc 900 1 = true from rfl)]
    exact rchE_out (by rw [b2]; rfl))
  rw [b3] at X
  exact X.mono fun e w' ⟨v, h1, _, h3, h4⟩ => ⟨v, h1, h3, h4⟩
set_option maxHeartbeats 4000000 in
theorem spsure_any (w : World) (hl : Laid w) : Calls Tryz.prog 24 #[] w fun e w' => e = .returned (.bool true) ∧ New w w' := by
  have X1 : Calls Tryz.prog 60 #[.int .i64 8] w (Made 8 w) := made_any 8 w (by omega) (by omega)
  have X2 : ∀ w, Calls Tryz.prog 61 #[.int .i64 8] w (MadeP 8 w) := fun w => pmade_any 8 w (by omega) (by omega)
  go_enter Tryz.func24, Tryz.ntmps24
  go_wp2_with fail
  refine X1.mono ?_
  rintro e w1 ⟨rfl, f1, n1⟩
  go_wp2_with fail
  refine (X2 _).mono ?_
  rintro e w2 ⟨rfl, p2, n2⟩
  have f2 := f1.new n2
  have G0 := GM.zero f2 p2
  have S0 := Pst.zero (k := 8) (bs := List.replicate (8 * 256) 0) (by omega) (by simp)
  have X3 := snew_ok G0 0 (by omega) (NoFree.zero _) (zeros_get _ _)
  have n12 := n1.trans n2
  have s1 := n1.size
  have s2 := n2.size
  have hlt := G0.fr.lt
  have hqt := G0.ph.lt
  clear X1 X2 f1 n1 n2 p2 f2 G0
  go_wp2_with fail
  refine X3.mono ?_
  rintro e w3 ⟨sb, tb, rfl, l1, l2, g3, b3⟩
  obtain ⟨P3, _, Z3, _⟩ := S0.push (g := 0) (by omega) (zeros_get _ _) (⟨sb, tb, 0, [], true⟩ : Sq) rfl rfl (show ROk [] from trivial)
  have T3 := tk_start 8 (by omega)
  generalize w1.heap.size = qb at *
  generalize hfb : w.heap.size + 1 = fb at *
  generalize hrb : w.heap.size = rb at *
  have NEW : ∀ a b : World, New w a → But (fun g => g = rb ∨ g = qb) a b → New w b := fun a b n c => n.but c (by rintro i (rfl | rfl) <;> omega)
  have NEWS : ∀ a b : World, New w a → But (fun g => g = sb) a b → New w b := fun a b n c => n.but c (by rintro i rfl; omega)
  have n3 : New w w3 := NEW _ _ n12 b3
  generalize (List.replicate 8 (0 : Int)).set 0 1 = r3 at *
  generalize zr (List.replicate (8 * 256) 0) 0 = c3 at *
  have X4 := map_first (sb := sb) (tb := tb) (t := 0) g3 P3 ⟨1, 3, 3⟩ rfl
  clear X3 b3 S0 n12 l1 l2 P3 g3 hlt hqt
  go_wp2_with fail
  refine X4.mono ?_
  rintro e w4 ⟨rfl, g4, b4, P4⟩
  have n4 := NEWS _ _ n3 b4
  have X5 := su_write1 g4 P4 Z3 T3
  clear X4 n3 b4 g4 P4 Z3 T3
  go_wp2_with fail
  refine X5.mono ?_
  rintro e w5 ⟨rfl, g, r5, c5, s5, b5⟩
  have n5 := NEW _ _ (n4.alloc #[.int .u8 5] 5) b5
  have X6 := su_fork s5
  clear X5 n4 b5 s5
  go_wp2_with fail
  refine X6.mono ?_
  rintro e w6 ⟨cb, r6, c6, T, rfl, l6, s6, d6, b6⟩
  have n6 := NEW _ _ n5 b6
  have X7 := su_write2 s6 d6
  clear X6 n5 b6 s6 d6 l6
  go_wp2_with fail
  refine X7.mono ?_
  rintro e w7 ⟨rfl, g2, r7, c7, s7, d7, e7, b7⟩
  have n7 := NEW _ _ (n6.alloc #[.int .u8 6] 5) b7
  have lt7 : rb < w7.heap.size ∧ qb < w7.heap.size := ⟨s7.gm.fr.lt.2, s7.gm.ph.lt.2⟩
  have X8 := su_read0 s7 d7 e7
  clear X7 n6 b7 s7 d7 e7
  go_wp2_with fail
  refine X8.mono ?_
  rintro e w8 ⟨v8, c8, rfl, o8, s8, d8, e8, b8⟩
  have n8 := NEW _ _ n7 b8
  have lt8 : rb < w8.heap.size ∧ qb < w8.heap.size := ⟨s8.gm.fr.lt.2, s8.gm.ph.lt.2⟩
  have X9 := su_read1 s8 d8 e8
  clear X8 n7 b8 s8 d8 e8
  go_wp2_with fail
  refine X9.mono ?_
  rintro e w9 ⟨v9, c9, rfl, o9, s9, d9, e9, b9⟩
  have n9 := NEW _ _ n8 b9
  have X10 := su_read2 s9
  have t9 := s9.tk
  have o8' := o8.but b9 (by rintro i (rfl | rfl) <;> omega)
  clear X9 n8 b9 s9 d9 e9 o8
  go_wp2_with fail
  refine X10.mono ?_
  rintro e w10 ⟨v10, rfl, g10, b10⟩
  have n10 := NEW _ _ n9 b10
  have o8 := o8'.but b10 (by rintro i (rfl | rfl) <;> omega)
  have o9' := o9.but b10 (by rintro i (rfl | rfl) <;> omega)
  rw [show cut (splice (List.replicate 256 0) 2 [5]) 2 1 = [5] from rfl] at o8
  rw [show cut (splice (splice (List.replicate 256 0) 2 [5]) 2 [6]) 2 1 = [6] from rfl] at o9'
  have C8 : (convert 28 9 v8).run Tryz.prog w10 = .ok (.string ⟨#[5]⟩) w10 := str_of o8.byts
  have C9 : (convert 28 9 v9).run Tryz.prog w10 = .ok (.string ⟨#[6]⟩) w10 := str_of o9'.byts
  obtain ⟨p8, q8, ev8⟩ := o8.shape
  obtain ⟨p9, q9, ev9⟩ := o9'.shape
  obtain rfl : v8 = .slice p8 1 q8 := ev8
  obtain rfl : v9 = .slice p9 1 q9 := ev9
  have X11 := numf_err 14 w10 (hl.new n10)
  have HG := Lib.hid g10
  have HN := Lib.hid n10
  have HT := Lib.hid t9
  clear X10 n9 b10 o8 o9 o8' o9' g10 n10 t9 lt7 lt8
  go_wp2_with fail
  refine X11.mono ?_
  rintro e w11 ⟨rfl, n11⟩
  have X12 := g_free (HG.out.new n11)
  rw [HT.out] at X12
  go_wp2_with fail
  refine X12.mono ?_
  rintro e w12 ⟨rfl, n12⟩
  go_wp2
  go_ret
  exact ⟨rfl, (HN.out.trans n11).trans n12⟩
end
end Go.Proofs.YtgedimlhldfkaaaGreatDoor
