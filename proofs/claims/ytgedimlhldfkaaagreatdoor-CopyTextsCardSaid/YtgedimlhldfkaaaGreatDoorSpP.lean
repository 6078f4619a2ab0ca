/- Spaces of pages in memory: a page that is written by force, and the fork that shares it. -/
import Derived.Test.YtgedimlhldfkaaaGreatDoorSpQ
namespace Go.Proofs.YtgedimlhldfkaaaGreatDoor
open Go.RowKit
set_option linter.unusedVariables false
set_option maxRecDepth 100000
section
variable {w w' : World} {k fb rb mb qb many : Nat} {rs bs qs cs : List Int} {S T : List Sq} {i : Nat}
theorem GM.byts2 (h : GM w k fb rb mb qb rs bs S) (x y : Int) : BytsK (fun g => g = rb ∨ g = qb) (w.alloc (.cells #[.int .u8 x, .int .u8 y] 5)) (.slice (some ⟨w.heap.size, 0, none⟩) 2 2) [x, y] := by
  have o : OwnB w.heap.size (w.alloc (.cells #[.int .u8 x, .int .u8 y] 5)) (.slice (some ⟨w.heap.size, 0, none⟩) 2 2) [x, y] :=
    ⟨by simp [cells8], .inr ⟨w.heap.size, 2, _, rfl, Nat.le_refl _, heap_alloc_new w _, Nat.le_refl _, by unfold maxLen; omega, rfl, rfl⟩⟩
  have h2 := h.new ((New.refl w).alloc #[.int .u8 x, .int .u8 y] 5)
  refine OwnR.bytesk o fun g hg cur => ?_
  rcases hg with rfl | rfl
  · exact Box.not_row h2.fr.boxes.2 (by decide) cur
  · exact Box.not_row h2.ph.boxes.2 (by decide) cur
/-- bytes that came in stay as they are -/
theorem byts_keep {X : Nat → Prop} {v : Value} {l : List Int} (h : Byts w v l) (n : New w w') (hX : ∀ g, X g → w.heap.size ≤ g) : BytsK X w' v l :=
  fun w2 b => h.new (n.but b hX)
theorem rpg_3 (P : Nat) : rpg [⟨3, 4, P⟩] ((3 : Nat) : Int) = some P := by
  rw [rpg_one, if_pos]
  rw [inR_iff]; dsimp only; omega
/-- bytes written into a page of its own -/
theorem write_keep (h : GM w k fb rb mb qb rs bs S) (st : Pst k rs bs S) (hi : i < S.length) (ho : S[i].on = true) (at_ : Nat) (p : Option Addr) (cap : Nat) (l : List Int) (b : Bool) (ha : at_ < 4294967296) (hc : Oct l) (hv : BytsK (fun g => g = rb ∨ g = qb) w (.slice p l.length cap) l)
    (hp : plc at_ l.length = true) {P f0 : Nat} (h1 : rpg S[i].L ((at_ / 256 : Nat) : Int) = some P) (h2 : b = true ∨ usP P 2 = true) (h3 : pf bs S[i].t (at_ / 256) = some f0) (h4 : ¬ 1 < rs.getD f0 0) :
    Calls Tryz.prog 16 #[.pointer (some ⟨S[i].sb, 0, none⟩), .int .u32 at_, .slice p l.length cap, .bool b] w fun e w' => e = .returned .nilIface ∧ ∃ qs cs, GM w' k fb rb mb qb qs cs S ∧ But (fun g => g = rb ∨ g = qb) w w' ∧ Pst k qs cs S ∧
      Eff k rs bs qs cs S i (at_ / 256) (some f0) (fun x => rs.getD x 0) (fun x => if x = f0 then splice (fby bs f0) (at_ % 256) l else fby bs x) 0 := by
  have hq := plc_iff.1 hp
  have hnz := (pf_some.1 h3)
  have e0 : wrE k rs bs S[i] at_ l.length b = 0 := by
    unfold wrE
    rw [if_pos hp]
    refine rchE_old h1 h2 ?_ fun _ x => absurd x ?_
    · rw [pgI_in _ _ _ hq.1]; exact hnz.1
    · rw [pgI_in _ _ _ hq.1, hnz.2]; exact h4
  refine (Write_st h st hi ho at_ p cap l b ha (by unfold maxLen; omega) hc hv).mono ?_
  rintro e w' ⟨qs, cs, rfl, g1, b1, s1, hx⟩
  rw [e0] at hx ⊢
  obtain ⟨_, _, f, c1, hr, s2, hf, hpf, hD⟩ := hx.resolve_left fun y => y.1 rfl
  cases hr with
  | fill g y1 y2 y3 y4 => rw [h3] at y1; cases y1
  | split f' g _ y1 y2 y3 y4 y5 =>
    rw [h3] at y1
    obtain rfl := Option.some.inj y1
    exact absurd y2 h4
  | keep f y1 y2 y3 =>
    rw [h3] at y1
    obtain rfl := Option.some.inj y1
    have E := y3.write hi ho hq.1 hpf hD
    refine ⟨rfl, rs, cs, g1, b1, s1, ⟨E.pg, E.up, E.nu, E.rf, fun x hx => ?_, E.tk⟩⟩
    rw [E.da x hx]
/-- one space with one page, written by force -/
structure Fs (w : World) (fb rb mb qb sb tb g P : Nat) (rs bs : List Int) : Prop where
  gm : GM w 16 fb rb mb qb rs bs [⟨sb, tb, 0, [⟨3, 4, P⟩], true⟩]
  st : Pst 16 rs bs [⟨sb, tb, 0, [⟨3, 4, P⟩], true⟩]
  pg : ∀ q, q < 4096 → pf bs 0 q = if q = 3 then some g else none
  rf : rs.getD g 0 = 1
  da : fby bs g = splice (List.replicate 256 0) 0 [9, 9]
  tk : (tk rs 16).length = 3
theorem Fs.new {sb tb g P : Nat} (h : Fs w fb rb mb qb sb tb g P rs bs) (k : New w w') : Fs w' fb rb mb qb sb tb g P rs bs := ⟨h.gm.new k, h.st, h.pg, h.rf, h.da, h.tk⟩
theorem fo_write0 {sb tb P : Nat} (h : GM w 16 fb rb mb qb rs bs [⟨sb, tb, 0, [⟨3, 4, P⟩], true⟩]) (st : Pst 16 rs bs [⟨sb, tb, 0, [⟨3, 4, P⟩], true⟩]) (hz : ∀ u, u < 64 → nm bs 0 u = 0) (ht : (tk rs 16).length = 1) :
    Calls Tryz.prog 16 #[.pointer (some ⟨sb, 0, none⟩), .int .u32 768, .slice (some ⟨w.heap.size, 0, none⟩) 2 2, .bool true] (w.alloc (.cells #[.int .u8 9, .int .u8 9] 5)) fun e w' => e = .returned .nilIface ∧ ∃ g qs cs, Fs w' fb rb mb qb sb tb g P qs cs ∧ But (fun g => g = rb ∨ g = qb) (w.alloc (.cells #[.int .u8 9, .int .u8 9] 5)) w' := by
  have h2 := h.new ((New.refl w).alloc #[.int .u8 9, .int .u8 9] 5)
  have hz1 : nm bs ([⟨sb, tb, 0, [⟨3, 4, P⟩], true⟩] : List Sq)[0].t (768 / 256 / 64) = 0 := hz _ (by omega)
  have X := write_fill h2 st (i := 0) (by simp) rfl 768 (some ⟨w.heap.size, 0, none⟩) 2 [9, 9] true (by omega) (fun x hx => by simp at hx; omega) (h.byts2 9 9) rfl (P := P) (rpg_3 P) (.inl rfl) (pf_none.2 (pgn_none hz 3 (by omega))) (by
    rw [if_pos hz1]; omega)
  refine X.mono ?_
  rintro e w' ⟨rfl, g, qs, cs, g1, b1, s1, hg, hfr, E⟩
  have hpg : ∀ q, q < 4096 → pf cs 0 q = if q = 3 then some g else none := fun q hq => by
    have := E.pg 0 (by simp) rfl q hq
    rw [show pf cs 0 q = pf cs ([⟨sb, tb, 0, [⟨3, 4, P⟩], true⟩] : List Sq)[0].t q from rfl, this]
    by_cases c : q = 3
    · subst c; rfl
    · rw [if_neg (fun x => c x.2), if_neg c]; exact pf_none.2 (pgn_none hz q hq)
  have hPF : PF cs [⟨sb, tb, 0, [⟨3, 4, P⟩], true⟩] g := ⟨0, by simp, rfl, 3, by omega, by have := hpg 3 (by omega); rw [if_pos rfl] at this; exact this⟩
  refine ⟨rfl, g, qs, cs, ⟨g1, s1, hpg, ?_, ?_, ?_⟩, b1⟩
  · rw [E.rf g hPF, if_pos rfl]
  · rw [E.da g hPF, if_pos rfl]
  · have := E.tk
    rw [b2_yes hz1, ht] at this
    omega
/-- two spaces that share a page, or do not any more -/
structure Fo (w : World) (fb rb mb qb sb cb f g P : Nat) (A B : List Int) (rs bs : List Int) (S : List Sq) : Prop where
  gm : GM w 16 fb rb mb qb rs bs S
  st : Pst 16 rs bs S
  len : S.length = 2
  s0 : ∀ h : 0 < S.length, S[0].on = true ∧ S[0].L = [⟨3, 4, P⟩] ∧ S[0].sb = sb ∧ pf bs S[0].t 3 = some f
  s1 : ∀ h : 1 < S.length, S[1].on = true ∧ S[1].L = [⟨3, 4, P⟩] ∧ S[1].sb = cb ∧ pf bs S[1].t 3 = some g
  rf : rs.getD f 0 = if f = g then 2 else 1
  da : fby bs f = A
  db : fby bs g = B
  tk : (tk rs 16).length = if f = g then 5 else 6
theorem Fo.new {sb cb f g P : Nat} {A B : List Int} (h : Fo w fb rb mb qb sb cb f g P A B rs bs S) (k : New w w') : Fo w' fb rb mb qb sb cb f g P A B rs bs S := ⟨h.gm.new k, h.st, h.len, h.s0, h.s1, h.rf, h.da, h.db, h.tk⟩
theorem fo_fork {sb tb g P : Nat} (h : Fs w fb rb mb qb sb tb g P rs bs) :
    Calls Tryz.prog 10 #[.pointer (some ⟨sb, 0, none⟩)] w fun e w' => ∃ cb qs cs T, e = .returned (.tuple #[.pointer (some ⟨cb, 0, none⟩), .nilIface]) ∧ Fo w' fb rb mb qb sb cb g g P (splice (List.replicate 256 0) 0 [9, 9]) (splice (List.replicate 256 0) 0 [9, 9]) qs cs T ∧ But (fun g => g = rb ∨ g = qb) w w' := by
  have hL : pgs (pgn bs 0) 4096 = [3] := pgs_single 3 (by omega) (pgn bs 0) fun q hq => by
    have e := h.pg q hq
    rw [pf_zero, e]
    by_cases c : q = 3
    · rw [if_pos c]; simp [c]
    · rw [if_neg c]; simp [c]
  have hPF : PF bs [⟨sb, tb, 0, [⟨3, 4, P⟩], true⟩] g := ⟨0, by simp, rfl, 3, by omega, by have := h.pg 3 (by omega); rw [if_pos rfl] at this; exact this⟩
  refine (Fork_st h.gm h.st (i := 0) (by simp) rfl (by simp)).mono ?_
  intro e w' hx
  have hL' : pgs (pgn bs ([⟨sb, tb, 0, [⟨3, 4, P⟩], true⟩] : List Sq)[0].t) 4096 = [3] := hL
  rw [hL', h.tk] at hx
  have hT : (tbs [3]).1 = 2 := rfl
  rw [hT] at hx
  rcases hx with ⟨x, _⟩ | ⟨_, cb, qs, cs, T, rfl, l1, g1, b1, s1, F, hsb⟩
  · omega
  · have hlen : T.length = 2 := F.len
    have h0 : 0 < T.length := by omega
    have h1 : 1 < T.length := by omega
    have e0 := F.old 0 (by simp) h0
    obtain ⟨n1, n2, n3, n4, n5⟩ := F.new h1
    have hpf := h.pg 3 (by omega)
    rw [if_pos rfl] at hpf
    have hd : fby cs g = splice (List.replicate 256 0) 0 [9, 9] := by rw [F.da g hPF]; exact h.da
    refine ⟨cb, qs, cs, T, rfl, ⟨g1, s1, hlen, fun _ => ?_, fun _ => ⟨n1, n2, hsb h1, (n3 3 (by omega)).trans hpf⟩, ?_, hd, hd, ?_⟩, b1⟩
    · rw [e0]
      exact ⟨rfl, rfl, rfl, by
        have e2 : pf cs 0 3 = pf bs 0 3 := F.pg 0 (by simp) rfl 3 (by omega)
        exact e2.trans hpf⟩
    · have := F.rf g hPF
      rw [h.rf] at this
      rw [this, if_pos rfl]
      have : cf bs ([⟨sb, tb, 0, [⟨3, 4, P⟩], true⟩] : List Sq)[0].t [3] g = 1 := by
        unfold cf
        rw [List.countP_cons, List.countP_nil]
        show 0 + (if decide (pf bs 0 3 = some g) = true then 1 else 0) = 1
        rw [hpf]; simp
      rw [this]; rfl
    · have := F.tk
      rw [h.tk, hT] at this
      rw [if_pos rfl]; omega
/-- a page's bytes, told -/
def PageIs (L : List Int) (w : World) (e : Ending) (w' : World) : Prop := ∃ b, e = .returned (.slice (some ⟨b, 0, none⟩) 256 256) ∧ Byts w' (.slice (some ⟨b, 0, none⟩) 256 256) L ∧ New w w'
theorem page_is (h : GM w k fb rb mb qb rs bs S) (st : Pst k rs bs S) (hi : i < S.length) (ho : S[i].on = true) {m f : Nat} (hm : m < 4096) (hf : pf bs S[i].t m = some f) {L : List Int} (hL : fby bs f = L) :
    Calls Tryz.prog 20 #[.pointer (some ⟨S[i].sb, 0, none⟩), .int .i64 m] w (PageIs L w) := by
  have gd := st.pur.good i hi ho
  obtain ⟨d1, d2, _⟩ := page_dc gd hm hf
  have hfk : f < k := (st.pur.pf_not ⟨i, hi, ho, m, hm, hf⟩).2
  have hl := fby_len h.ph.len hfk
  refine (Page_some h hi ho gd (m : Int) (by rw [pgI_in _ _ _ hm]; exact d1) f hfk (by rw [pgI_in _ _ _ hm]; exact d2)).mono ?_
  rintro e w' ⟨b, rfl, _, hb, n⟩
  rw [hL] at hb hl
  have := byts_of_block (cap := 256) hb (by rw [hl]; unfold maxLen; omega)
  rw [hl] at this
  exact ⟨b, rfl, this, n⟩
section
variable {sb cb f g P : Nat} {A B : List Int}
theorem fo_page0 (h : Fo w fb rb mb qb sb cb f g P A B rs bs S) : Calls Tryz.prog 20 #[.pointer (some ⟨sb, 0, none⟩), .int .i64 3] w (PageIs A w) := by
  have l0 : 0 < S.length := by rw [h.len]; omega
  obtain ⟨a1, a2, a3, a4⟩ := h.s0 l0
  have := page_is h.gm h.st l0 a1 (m := 3) (by omega) a4 h.da
  rwa [a3] at this
theorem fo_page1 (h : Fo w fb rb mb qb sb cb f g P A B rs bs S) : Calls Tryz.prog 20 #[.pointer (some ⟨cb, 0, none⟩), .int .i64 3] w (PageIs B w) := by
  have l0 : 1 < S.length := by rw [h.len]; omega
  obtain ⟨a1, a2, a3, a4⟩ := h.s1 l0
  have := page_is h.gm h.st l0 a1 (m := 3) (by omega) a4 h.db
  rwa [a3] at this
theorem fo_write (h : Fo w fb rb mb qb sb cb f g P A B rs bs S) (o : Nat) (p : Option Addr) (cap : Nat) (l : List Int) (b : Bool) (ho : o + l.length ≤ 256) (ho2 : o < 256) (hc : Oct l) (hv : BytsK (fun g => g = rb ∨ g = qb) w (.slice p l.length cap) l) (hb : b = true ∨ usP P 2 = true) :
    Calls Tryz.prog 16 #[.pointer (some ⟨sb, 0, none⟩), .int .u32 (768 + (o : Int)), .slice p l.length cap, .bool b] w fun e w' => e = .returned .nilIface ∧ ∃ f2 qs cs, Fo w' fb rb mb qb sb cb f2 g P (splice A o l) B qs cs S ∧ But (fun g => g = rb ∨ g = qb) w w' := by
  have hl := h.len
  have l0 : 0 < S.length := by omega
  have l1 : 1 < S.length := by omega
  obtain ⟨a1, a2, a3, a4⟩ := h.s0 l0
  obtain ⟨b1, b2, b3, b4⟩ := h.s1 l1
  have e1 : (768 + o) / 256 = 3 := by omega
  have e2 : (768 + o) % 256 = o := by omega
  have hp : plc (768 + o) l.length = true := plc_iff.2 ⟨by omega, by omega, by omega⟩
  by_cases c : f = g
  · subst c
    have hr := h.rf
    rw [if_pos rfl] at hr
    have ht := h.tk
    rw [if_pos rfl] at ht
    have X := write_split h.gm h.st (i := 0) l0 a1 (768 + o) p cap l b (by omega) hc hv hp (P := P) (by rw [e1, a2]; exact rpg_3 P) hb (by rw [e1]; exact a4) (by rw [hr]; omega) (by omega)
    rw [e1, e2, a3, show ((768 + o : Nat) : Int) = 768 + (o : Int) from by omega] at X
    refine X.mono ?_
    rintro e w' ⟨rfl, g2, qs, cs, g1, bb1, s1, hg, hfr, E⟩
    have hne : g2 ≠ f := fun e => hfr 0 l0 a1 3 (by omega) (by rw [a4, e])
    have p0 : pf cs S[0].t 3 = some g2 := by
      have := E.pg 0 l0 a1 3 (by omega)
      rw [this]; rfl
    have p1 : pf cs S[1].t 3 = some f := by
      have := E.pg 1 l1 b1 3 (by omega)
      rw [this, if_neg (by omega)]; exact b4
    refine ⟨rfl, g2, qs, cs, ⟨g1, s1, hl, fun _ => ⟨a1, a2, a3, p0⟩, fun _ => ⟨b1, b2, b3, p1⟩, ?_, ?_, ?_, ?_⟩, bb1⟩
    · rw [if_neg hne, E.rf g2 ⟨0, l0, a1, 3, by omega, p0⟩, if_neg hne, if_pos rfl]
    · rw [E.da g2 ⟨0, l0, a1, 3, by omega, p0⟩, if_pos rfl, h.da]
    · rw [E.da f ⟨1, l1, b1, 3, by omega, p1⟩, if_neg (fun e => hne e.symm)]; exact h.db
    · have := E.tk
      rw [if_neg hne]; omega
  · have hr := h.rf
    rw [if_neg c] at hr
    have X := write_keep h.gm h.st (i := 0) l0 a1 (768 + o) p cap l b (by omega) hc hv hp (P := P) (by rw [e1, a2]; exact rpg_3 P) hb (by rw [e1]; exact a4) (by rw [hr]; omega)
    rw [e1, e2, a3, show ((768 + o : Nat) : Int) = 768 + (o : Int) from by omega] at X
    refine X.mono ?_
    rintro e w' ⟨rfl, qs, cs, g1, bb1, s1, E⟩
    have p0 : pf cs S[0].t 3 = some f := by
      have := E.pg 0 l0 a1 3 (by omega)
      rw [this]; rfl
    have p1 : pf cs S[1].t 3 = some g := by
      have := E.pg 1 l1 b1 3 (by omega)
      rw [this, if_neg (by omega)]; exact b4
    refine ⟨rfl, f, qs, cs, ⟨g1, s1, hl, fun _ => ⟨a1, a2, a3, p0⟩, fun _ => ⟨b1, b2, b3, p1⟩, ?_, ?_, ?_, ?_⟩, bb1⟩
    · rw [if_neg c, E.rf f ⟨0, l0, a1, 3, by omega, p0⟩]; exact hr
    · rw [E.da f ⟨0, l0, a1, 3, by omega, p0⟩, if_pos rfl, h.da]
    · rw [E.da g ⟨1, l1, b1, 3, by omega, p1⟩, if_neg (fun e => c e.symm)]; exact h.db
    · have := E.tk
      have ht := h.tk
      rw [if_neg c] at ht ⊢
      omega
theorem fo_wno (h : Fo w fb rb mb qb sb cb f g P A B rs bs S) (o : Nat) (p : Option Addr) (cap : Nat) (l : List Int) (ho : o + l.length ≤ 256) (ho2 : o < 256) (hc : Oct l) (hv : BytsK (fun g => g = rb ∨ g = qb) w (.slice p l.length cap) l) (hb : usP P 2 = false) :
    Calls Tryz.prog 16 #[.pointer (some ⟨sb, 0, none⟩), .int .u32 (768 + (o : Int)), .slice p l.length cap, .bool false] w fun e w' => e = .returned (.iface 98 (.int .i64 14)) ∧ Fo w' fb rb mb qb sb cb f g P A B rs bs S ∧ But (fun g => g = rb ∨ g = qb) w w' := by
  have l0 : 0 < S.length := by rw [h.len]; omega
  obtain ⟨a1, a2, a3, a4⟩ := h.s0 l0
  have e1 : (768 + o) / 256 = 3 := by omega
  have hp : plc (768 + o) l.length = true := plc_iff.2 ⟨by omega, by omega, by omega⟩
  have X := write_err h.gm h.st (i := 0) l0 a1 (768 + o) p cap l false (by omega) (by unfold maxLen; omega) hc hv 14 (by decide) (by
    unfold wrE
    rw [if_pos hp, e1]
    exact rchE_may (P := P) (by rw [a2]; exact rpg_3 P) hb)
  rw [a3, show ((768 + o : Nat) : Int) = 768 + (o : Int) from by omega] at X
  exact X.mono fun e w' ⟨x1, x2, x3⟩ => ⟨x1, ⟨x2, h.st, h.len, h.s0, h.s1, h.rf, h.da, h.db, h.tk⟩, x3⟩
theorem fo_keep (h : Fo w fb rb mb qb sb cb f g P A B rs bs S) (l0 : 0 < S.length) (a1 : S[0].on = true) (g1 : GM w' 16 fb rb mb qb rs cs S) (s1 : Pst 16 rs cs S) (E : Eff 16 rs bs rs cs S 0 3 (some f) (fun x => rs.getD x 0) (fby bs) 0) : Fo w' fb rb mb qb sb cb f g P A B rs cs S := by
  have hl := h.len
  have l1 : 1 < S.length := by omega
  obtain ⟨_, a2, a3, a4⟩ := h.s0 l0
  obtain ⟨b1, b2, b3, b4⟩ := h.s1 l1
  have p0 : pf cs S[0].t 3 = some f := by
    have := E.pg 0 l0 a1 3 (by omega)
    rw [this]; rfl
  have p1 : pf cs S[1].t 3 = some g := by
    have := E.pg 1 l1 b1 3 (by omega)
    rw [this, if_neg (by omega)]; exact b4
  exact ⟨g1, s1, hl, fun _ => ⟨a1, a2, a3, p0⟩, fun _ => ⟨b1, b2, b3, p1⟩, h.rf, by rw [E.da f ⟨0, l0, a1, 3, by omega, p0⟩]; exact h.da, by rw [E.da g ⟨1, l1, b1, 3, by omega, p1⟩]; exact h.db, h.tk⟩
theorem fo_read (h : Fo w fb rb mb qb sb cb f g P A B rs bs S) (o n : Nat) (ho : o + n ≤ 256) (ho2 : o < 256) :
    Calls Tryz.prog 9 #[.pointer (some ⟨sb, 0, none⟩), .int .u32 (768 + (o : Int)), .int .i64 n, .int .u8 0] w fun e w' => ∃ v cs, e = .returned (.tuple #[v, .nilIface]) ∧ OwnB w.heap.size w' v (cut A o n) ∧ Fo w' fb rb mb qb sb cb f g P A B rs cs S ∧ But (fun g => g = rb ∨ g = qb) w w' := by
  have l0 : 0 < S.length := by rw [h.len]; omega
  obtain ⟨a1, a2, a3, a4⟩ := h.s0 l0
  have e1 : (768 + o) / 256 = 3 := by omega
  have e2 : (768 + o) % 256 = o := by omega
  have hp : plc (768 + o) n = true := plc_iff.2 ⟨by omega, by omega, by omega⟩
  have X := read_old h.gm h.st (i := 0) l0 a1 (768 + o) n 0 (by omega) (by decide) hp (P := P) (by rw [e1, a2]; exact rpg_3 P) (.inl rfl) (by rw [e1]; exact a4)
  rw [e1, e2, a3, show ((768 + o : Nat) : Int) = 768 + (o : Int) from by omega, h.da] at X
  exact X.mono fun e w' ⟨v, cs, x1, x2, x3, x4, x5, x6⟩ => ⟨v, cs, x1, x2, fo_keep h l0 a1 x3 x5 x6, x4⟩
theorem fo_reads (h : Fo w fb rb mb qb sb cb f g P A B rs bs S) (hb : usP P 1 = true) :
    Calls Tryz.prog 9 #[.pointer (some ⟨sb, 0, none⟩), .int .u32 768, .int .i64 1, .int .u8 1] w fun e w' => ∃ v cs, e = .returned (.tuple #[v, .nilIface]) ∧ Fo w' fb rb mb qb sb cb f g P A B rs cs S ∧ But (fun g => g = rb ∨ g = qb) w w' := by
  have l0 : 0 < S.length := by rw [h.len]; omega
  obtain ⟨a1, a2, a3, a4⟩ := h.s0 l0
  have X := read_old h.gm h.st (i := 0) l0 a1 768 1 1 (by omega) (by decide) rfl (P := P) (by rw [a2]; exact rpg_3 P) (.inr hb) a4
  rw [a3] at X
  exact X.mono fun e w' ⟨v, cs, x1, x2, x3, x4, x5, x6⟩ => ⟨v, cs, x1, fo_keep h l0 a1 x3 x5 x6, x4⟩
theorem fo_readno (h : Fo w fb rb mb qb sb cb f g P A B rs bs S) (hb : usP P 1 = false) :
    Calls Tryz.prog 9 #[.pointer (some ⟨sb, 0, none⟩), .int .u32 768, .int .i64 1, .int .u8 1] w fun e w' => ∃ v, e = .returned (.tuple #[v, .iface 98 (.int .i64 14)]) ∧ Fo w' fb rb mb qb sb cb f g P A B rs bs S ∧ But (fun g => g = rb ∨ g = qb) w w' := by
  have l0 : 0 < S.length := by rw [h.len]; omega
  obtain ⟨a1, a2, a3, a4⟩ := h.s0 l0
  have X := read_err h.gm h.st (i := 0) l0 a1 768 1 1 (by omega) (by omega) 14 (by decide) (by
    unfold rdE
    rw [if_pos (show plc 768 1 = true from rfl)]
    exact rchE_may (P := P) (by rw [a2]; exact rpg_3 P) hb)
  rw [a3] at X
  exact X.mono fun e w' ⟨v, x1, _, x2, x3⟩ => ⟨v, x1, ⟨x2, h.st, h.len, h.s0, h.s1, h.rf, h.da, h.db, h.tk⟩, x3⟩
end
end
end Go.Proofs.YtgedimlhldfkaaaGreatDoor
