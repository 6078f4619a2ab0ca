/- A node is made; a name is taken away. -/
import Derived.Test.YtgoecdmnefjdnaaDoorInD
import Derived.BigQuiet
import Derived.Deep.RegionWith
namespace Go.Proofs.YtgoecdmnefjdnaaDoor
open Go.RowKit
open Go.Maps (Keyed)
set_option linter.unusedVariables false
set_option maxRecDepth 100000
/-- a new node in memory -/
def DidN (i k : Int) (w : World) (e : Ending) (w' : World) : Prop := ∃ n : Nd, e = .returned (.pointer (some ⟨n.bk, 0, none⟩)) ∧ NdM w' n ∧ n.p = fresh i k ∧ w.heap.size ≤ n.bk ∧ (n.p.fd = true → w.heap.size ≤ n.nb ∧ n.nb ≠ n.bk) ∧ n.dv.ownBlock = none ∧ New w w'
theorem newnode_any (i k : Int) (w : World) (hk : k = 0 ∨ k = 1) (hi : Ok64 i) : Calls Tryd.prog 20 #[.int .i64 i, .int .i64 k] w (DidN i k w) := by
  rcases hk with rfl | rfl
  · go_enter Tryd.func20, Tryd.ntmps20
    go_wp2
    go_ret
    exact ⟨⟨fresh i 0, .slice none 0 0, w.heap.size, 0⟩, rfl, ⟨Box.here w _ _ _ rfl, ⟨rfl, .inl ⟨rfl, rfl⟩⟩, Oct.nil, Nat.zero_le _, (fun e => (by cases e)), (fun _ => rfl), ⟨by show (0 : Int) ≤ 0; omega, by show (0 : Int) ≤ 1073741824; omega⟩, hi, (fun x hx => (by cases hx))⟩, rfl, Nat.le_refl _, (fun e => (by cases e)), rfl, (New.refl w).alloc _ _⟩
  · have hmm := @run_makeMap Tryd.prog
    go_enter Tryd.func20, Tryd.ntmps20
    go_wp2
    go_ret
    have b1 := (Box.here w w.heap.size #[.int .i64 1, .int .i64 i, .bool true, .int .i64 0, .slice none 0 0, .map (some (w.heap.size + 1))] 62 rfl).alloc (.map #[] 0)
    have m1 := Mp.made (w.alloc (.cells #[.int .i64 1, .int .i64 i, .bool true, .int .i64 0, .slice none 0 0, .map (some (w.heap.size + 1))] 62)) Tryd.prog 9
    have e1 : (w.alloc (.cells #[.int .i64 1, .int .i64 i, .bool true, .int .i64 0, .slice none 0 0, .map (some (w.heap.size + 1))] 62)).heap.size = w.heap.size + 1 := by simp
    rw [e1] at m1
    exact ⟨⟨fresh i 1, .slice none 0 0, w.heap.size, w.heap.size + 1⟩, rfl, ⟨b1, ⟨rfl, .inl ⟨rfl, rfl⟩⟩, Oct.nil, Nat.zero_le _, (fun _ => m1), (fun e => (by cases e)), ⟨by show (0 : Int) ≤ 0; omega, by show (0 : Int) ≤ 1073741824; omega⟩, hi, (fun x hx => (by cases hx))⟩, rfl, Nat.le_refl _, (fun _ => ⟨by show w.heap.size ≤ w.heap.size + 1; omega, by show w.heap.size + 1 ≠ w.heap.size; omega⟩), rfl, ((New.refl w).alloc _ _).allocO _⟩
section
variable {X : Nat → Prop} {w w' : World} {tb mb : Nat} {most : Int} {N : List (Int × Nd)} {tg : Nat → Option (Int × Nat)} {i k : Int} {n : Nd} {s : List UInt8}
def mkR (most : Int) (L : Pt) (i : Int) (s : List UInt8) (k : Int) : Pt := if mkE most L i s k = 0 then mkL L i s k else L
def MkP (X : Nat → Prop) (tb : Nat) (most : Int) (L : Pt) (i : Int) (s : List UInt8) (k : Int) (w : World) (e : Ending) (w' : World) : Prop := DidI X tb most (mkR most L i s k) (.tuple #[.int .i64 (mkV most L i s k), erN (mkE most L i s k)]) w e w'
theorem MkP.bad {L : Pt} {c : Int} (h : Tr X w tb most L) (hc : mkE most L i s k = c) (h0 : c ≠ 0) : MkP X tb most L i s k w (.returned (.tuple #[.int .i64 0, .iface 50 (.int .i64 c)])) w := by
  unfold MkP
  have e1 : mkR most L i s k = L := by unfold mkR; rw [hc, if_neg h0]
  have e2 : mkV most L i s k = 0 := by unfold mkV; rw [hc, if_neg h0]
  rw [e1, e2, hc, erN_pos h0]
  exact ⟨rfl, h, But.refl _ _⟩
theorem MkP.badn {L : Pt} {c : Int} {W : World} (h : Tr X w tb most L) (n : New w W) (hc : mkE most L i s k = c) (h0 : c ≠ 0) : MkP X tb most L i s k w (.returned (.tuple #[.int .i64 0, .iface 50 (.int .i64 c)])) W := by
  obtain ⟨a, b, c⟩ := MkP.bad (h.new n) hc h0
  exact ⟨a, b, But.of_new _ n⟩
theorem Ok64.free {L : Pt} (h : (L.length : Int) ≤ 64) : Ok64 (frN L) ∧ 1 ≤ frN L ∧ frN L ≤ 1000 := by
  obtain ⟨r, e, h1, h2, -⟩ := frN_spec L
  rw [e]; exact ⟨ok64 (by omega), by omega, by omega⟩
theorem mk_fd {L : Pt} (h : fdE L i ≠ 0) : mkE most L i s k = fdE L i := by unfold mkE; rw [if_pos h]
theorem mk_ck {L : Pt} (h : fdE L i = 0) (h2 : ckN s ≠ 0) : mkE most L i s k = ckN s := by unfold mkE; rw [if_neg (by simp [h]), if_pos h2]
theorem mk_ex {L : Pt} (h : fdE L i = 0) (h2 : ckN s = 0) (h3 : fnE L i s = 0) : mkE most L i s k = 17 := by unfold mkE; rw [if_neg (by simp [h]), if_neg (by simp [h2]), if_pos h3]
theorem mk_kd {L : Pt} (h : fdE L i = 0) (h2 : ckN s = 0) (h3 : fnE L i s ≠ 0) (h4 : k ≠ 0 ∧ k ≠ 1) : mkE most L i s k = 22 := by unfold mkE; rw [if_neg (by simp [h]), if_neg (by simp [h2]), if_neg h3, if_pos h4]
theorem mk_nm {L : Pt} (h : fdE L i = 0) (h2 : ckN s = 0) (h3 : fnE L i s ≠ 0) (h4 : k = 0 ∨ k = 1) (h5 : (nat L i).nam = false) : mkE most L i s k = 2 := by unfold mkE; rw [if_neg (by simp [h]), if_neg (by simp [h2]), if_neg h3, if_neg (by omega), if_pos h5]
theorem mk_sp {L : Pt} (h : fdE L i = 0) (h2 : ckN s = 0) (h3 : fnE L i s ≠ 0) (h4 : k = 0 ∨ k = 1) (h5 : (nat L i).nam = true) (h6 : most ≤ L.length) : mkE most L i s k = 28 := by unfold mkE; rw [if_neg (by simp [h]), if_neg (by simp [h2]), if_neg h3, if_neg (by omega), if_neg (by simp [h5]), if_pos h6]
theorem mk_ok {L : Pt} (h : fdE L i = 0) (h2 : ckN s = 0) (h3 : fnE L i s ≠ 0) (h4 : k = 0 ∨ k = 1) (h5 : (nat L i).nam = true) (h6 : ¬ most ≤ (L.length : Int)) : mkE most L i s k = 0 := by unfold mkE; rw [if_neg (by simp [h]), if_neg (by simp [h2]), if_neg h3, if_neg (by omega), if_neg (by simp [h5]), if_neg h6]
theorem MkP.good {L : Pt} {w7 : World} (hc : mkE most L i s k = 0) (h : Tr X w7 tb most (mkL L i s k)) (b : But (fun g => ¬ X g) w w7) : MkP X tb most L i s k w (.returned (.tuple #[.int .i64 (frN L), .nilIface])) w7 := by
  unfold MkP
  have e1 : mkR most L i s k = mkL L i s k := by unfold mkR; rw [if_pos hc]
  have e2 : mkV most L i s k = frN L := by unfold mkV; rw [if_pos hc]
  rw [e1, e2, hc]
  exact ⟨rfl, h, b⟩
theorem fn_bad {L : Pt} (h : fdE L i = 0) (h2 : fnE L i s ≠ 0) : s ≠ s1 ∧ s ≠ s2 ∧ sget (nat L i).nms s = none := by
  unfold fnE at h2
  rw [if_neg (by simp [h])] at h2
  by_cases c : s = s1 ∨ s = s2
  · rw [if_pos c] at h2; exact absurd rfl h2
  · rw [if_neg c] at h2
    refine ⟨fun e => c (.inl e), fun e => c (.inr e), ?_⟩
    cases hh : sget (nat L i).nms s with
    | none => rfl
    | some x => rw [hh] at h2; exact absurd rfl h2
theorem ck_len (h : ckN s = 0) : s.length ≤ 16 := by
  unfold ckN at h
  by_cases c : s = []
  · rw [c]; simp
  · rw [if_neg c] at h
    by_cases c2 : 16 < s.length
    · rw [if_pos c2] at h; cases h
    · omega
theorem nget_left {α : Type} {L R : List (Int × α)} {i : Int} {x : α} (h : nget L i = some x) : nget (L ++ R) i = some x := by
  obtain ⟨A, B, rfl, h2, -, -⟩ := nget_some h
  rw [List.append_assoc, nget_append i A _ h2, List.cons_append, nget_cons, if_pos rfl]
theorem nset_left {α : Type} : ∀ {L : List (Int × α)} {R : List (Int × α)} {i : Int} {x : α} (h : nget L i = some x) (y : α), nset (L ++ R) i y = nset L i y ++ R
  | [], _, _, _, h, _ => by cases h
  | q :: r, R, i, x, h, y => by
    rw [nget_cons] at h
    rw [List.cons_append]
    unfold nset
    by_cases e : q.1 = i
    · rw [if_pos e, if_pos e]; rfl
    · rw [if_neg e] at h
      rw [if_neg e, if_neg e, nset_left h y]; rfl
/-- the new node's number is stored -/
theorem mk_store1 {fr : Int} (h : TrM X w tb mb most N tg) (hg : nget N i = some n) (of1 : Ok64 fr) (of2 : 1 ≤ fr) (of3 : fr ≤ 1000) (nf : nget N fr = none) (hl : ((plL N).length : Int) < most) : ∀ (W w4 : World) (m : Nd), New w W → New W w4 → NdM w4 m → m.p = fresh i k → W.heap.size ≤ m.bk → (m.p.fd = true → W.heap.size ≤ m.nb ∧ m.nb ≠ m.bk) → m.dv.ownBlock = none →
    ∃ w5 tg', (Instr.mapUpdate 53 (.map (some mb)) (.int .i64 fr) (.pointer (some ⟨m.bk, 0, none⟩))).run Tryd.prog w4 = .ok () w5 ∧ TrM X w5 tb mb most (N ++ [(fr, m)]) tg' ∧ But (fun g => g = mb) w4 w5 ∧ NdM w5 n ∧ But (fun g => ¬ X g) w w5 := by
  intro W w4 m nW n4 d1 d2 d3 d4 d5
  have hW := h.new nW
  have hs : N.length < maxLen := by rw [plL_len] at hl; have := h.mst; unfold maxLen; omega
  obtain ⟨w5, hrun, m5, k5⟩ := (hW.new n4).mp.store_new keyI Tryd.underlying53 (val := .pointer (some ⟨m.bk, 0, none⟩)) (Maps.keyOf_int_mk Tryd.underlying3 of1) (TrM.noKey nf) (by simpa [ndE] using hs)
  have kk : But (fun g => g = mb) W w5 := (But.of_new _ n4).trans (k5 _ rfl)
  have hmb := hW.mp.lt
  have d1' : NdM w5 m := d1.but (k5 (fun g => g = mb) rfl) (by show ¬ m.bk = mb; omega) (fun e => by have := (d4 e).1; show ¬ m.nb = mb; omega) (fun g hg => by rw [d5] at hg; cases hg)
  obtain ⟨tg', t5⟩ := hW.add (i := fr) (n := m) kk (by simpa [ndE] using m5) d1' d3 d4 d5 ⟨of2, of3⟩ (by rw [plL_len] at hl; exact hl)
  refine ⟨w5, tg', hrun, t5, k5 _ rfl, node_cell t5 (nget_left hg), (But.of_new _ (nW.trans n4)).trans ((k5 (fun g => ¬ X g) (h.not_aside h.tmb)))⟩
/-- the name is stored -/
theorem mk_store2 {fr : Int} {W w6 : World} {m : Nd} (hg : nget N i = some n) (hf : n.p.fd = true) (of1 : Ok64 fr) (hs : s.length ≤ maxLen) (hq : sget n.p.nms s = none) (hb : n.p.nms.length < 1000000) (t5 : TrM X W tb mb most (N ++ [(fr, m)]) tg) (n6 : New W w6) :
    ∃ w7, (Instr.mapUpdate 60 (.map (some n.nb)) (.string (ba s)) (.int .i64 fr)).run Tryd.prog w6 = .ok () w7 ∧ Tr X w7 tb most (nset (plL N) i { n.p with nms := n.p.nms ++ [(s, fr)] } ++ [(fr, m.p)]) ∧ But (fun g => ¬ X g) W w7 := by
  have t6 := t5.new n6
  have hgg := nget_left (R := [(fr, m)]) hg
  have hN := node_cell t6 hgg
  obtain ⟨w7, hrun, m7, k7⟩ := (hN.mp hf).store_new keyS Tryd.underlying60 (val := .int .i64 fr) (WideMaps.keyOf_string_mk Tryd.underlying9 (by rw [ba_size]; exact hs)) (names_no hq) (by simp [nmE]; unfold maxLen; omega)
  have hS := k7 (fun g => g = n.nb) rfl
  have tn := t6.tnb _ (nget_mem hgg) hf
  have hN' : NdM w7 { n with p := { n.p with nms := n.p.nms ++ [(s, fr)] } } := by
    refine ⟨hN.box.but hS (fun e => hN.nne hf e.symm), own_but hN.own hS (fun g hgd e => ?_), hN.oct, hN.len, (fun _ => by simpa [nmE] using m7), (fun e => by rw [hf] at e; cases e), hN.hol, hN.wfp, fun x hx => ?_⟩
    · have e1 := t6.tdv _ (nget_mem hgg) g hgd
      rw [e, tn] at e1; simp at e1
    · simp only [List.mem_append, List.mem_singleton] at hx
      rcases hx with hx | rfl
      · exact hN.wfn x hx
      · exact of1
  obtain ⟨tg', t7⟩ := t6.put hgg hS (fun g e => ⟨1, by rw [e]; exact tn⟩) hN' rfl rfl rfl (fun g hg => .inl hg)
  refine ⟨w7, hrun, ⟨mb, _, tg', t7, ?_⟩, (But.of_new _ n6).trans (k7 _ (t6.not_aside tn))⟩
  rw [nset_left hg, plL_join, nset_pl hg]; rfl
set_option maxHeartbeats 1000000 in
theorem make_any {L : Pt} (h : Tr X w tb most L) (hi : Ok64 i) (hs : s.length ≤ maxLen) (hb : (nat L i).nms.length < 1000000) : Calls Tryd.prog 8 #[.pointer (some ⟨tb, 0, none⟩), .int .i64 i, .string (ba s), .int .i64 k] w (MkP X tb most L i s k w) := by
  have H0 := h
  obtain ⟨mb, N, tg, h, rfl⟩ := h
  by_cases hc : fdE (plL N) i = 0
  · cases hg : nget N i with
    | none => rw [fdE_none (pl_none hg)] at hc; cases hc
    | some n =>
      have hf : n.p.fd = true := by rw [fdE_some (pl_some hg)] at hc; cases e : n.p.fd with | false => rw [e] at hc; cases hc | true => rfl
      have c := folder_hit h hi hg hf
      have cK := fun W => pcheck_any s W hs
      by_cases h2 : ckN s = 0
      · rw [h2, er0] at cK
        have cF := fun W (q : New w W) => find_m (h.new q) hi hs
        by_cases h3 : fnE (plL N) i s = 0
        · rw [h3, er0] at cF
          have HB := Lib.hid (fun W (q : New w W) => MkP.badn H0 q (mk_ex (k := k) hc h2 h3) (by decide))
          clear hc h2 h3 hg hf h H0
          go_enter Tryd.func8, Tryd.ntmps8
          go_wp2_with fail
          refine c.mono ?_
          rintro e w1 ⟨rfl, rfl⟩
          go_wp2_with fail
          refine (cK _).mono ?_
          rintro e w2 ⟨rfl, n2⟩
          go_wp2_with fail
          refine (cF _ n2).mono ?_
          rintro e w3 ⟨rfl, rfl⟩
          go_wp2
          go_ret2
          exact HB.out _ n2
        · have E3 := erN_pos h3
          rw [E3] at cF
          by_cases h4 : k = 0 ∨ k = 1
          · have hk1 : ¬ (k ≠ 0 ∧ k ≠ 1) := by omega
            have hN := node_cell h hg
            obtain ⟨-, -, c2, -, -, c5⟩ := hN.six
            rw [hf, if_pos rfl] at c5
            have en := nat_pl hg
            cases h5 : n.p.nam with
            | false =>
              rw [h5] at c2
              have HB := Lib.hid (fun W (q : New w W) => MkP.badn H0 q (mk_nm (most := most) hc h2 h3 h4 (by rw [en]; exact h5)) (by decide))
              generalize fnE (plL N) i s = c3 at *
              clear hc h2 h3 hg hf h H0 hN en h5 E3
              rcases h4 with rfl | rfl <;> (
              go_enter Tryd.func8, Tryd.ntmps8
              go_wp2_with fail
              refine c.mono ?_
              rintro e w1 ⟨rfl, rfl⟩
              go_wp2_with fail
              refine (cK _).mono ?_
              rintro e w2 ⟨rfl, n2⟩
              have c2' := n2.keeps c2
              go_wp2_with fail
              refine (cF _ n2).mono ?_
              rintro e w3 ⟨rfl, rfl⟩
              go_wp2
              go_ret2
              exact HB.out _ n2)
            | true =>
              rw [h5] at c2
              obtain ⟨b0, b1⟩ := h.box.two
              have hl := fun W (q : New w W) ty => (h.new q).mp.len Tryd.underlying53 ty
              have e1 : (ndE N).length = (plL N).length := by simp [ndE, plL]
              rw [e1] at hl
              by_cases h6 : most ≤ ((plL N).length : Int)
              · have HB := Lib.hid (fun W (q : New w W) => MkP.badn H0 q (mk_sp hc h2 h3 h4 (by rw [en]; exact h5) h6) (by decide))
                generalize fnE (plL N) i s = c3 at *
                generalize (plL N).length = m at *
                clear hc h2 h3 hg hf h H0 hN en h5 E3 e1
                rcases h4 with rfl | rfl <;> (
                go_enter Tryd.func8, Tryd.ntmps8
                go_wp2_with fail
                refine c.mono ?_
                rintro e w1 ⟨rfl, rfl⟩
                go_wp2_with fail
                refine (cK _).mono ?_
                rintro e w2 ⟨rfl, n2⟩
                have c2' := n2.keeps c2
                have b0' := n2.keeps b0
                have b1' := n2.keeps b1
                go_wp2_with fail
                refine (cF _ n2).mono ?_
                rintro e w3 ⟨rfl, rfl⟩
                have hl0 := fun ty => hl _ n2 ty
                have hl1 := fun j ty => hl _ (n2.drewN j) ty
                clear hl b0 b1 c2
                go_wp2_with fail
                go_quiet (fail)
                go_wp2
                go_ret2
                exact HB.out _ (n2.drewN _))
              · have h6' : ((plL N).length : Int) < most := by omega
                have h64 : ((plL N).length : Int) ≤ 64 := by have := h.mst; omega
                obtain ⟨of1, of2, of3⟩ := Ok64.free h64
                have nf : nget N (frN (plL N)) = none := by
                  obtain ⟨r, e, -, -, e4⟩ := frN_spec (plL N)
                  rw [e]; rw [nget_pl] at e4
                  cases hh : nget N (r : Int) with
                  | none => rfl
                  | some x => rw [hh] at e4; cases e4
                obtain ⟨q1, q2, hq⟩ := fn_bad hc h3
                rw [nat_pl hg] at hq
                have HR := Lib.hid (fun w7 (r1 : Tr X w7 tb most (mkL (plL N) i s k)) (r2 : But (fun g => ¬ X g) w w7) => MkP.good (w := w) (most := most) (k := k) (mk_ok hc h2 h3 h4 (by rw [en]; exact h5) h6) r1 r2)
                have HM := Lib.hid (show mkL (plL N) i s k = nset (plL N) i { n.p with nms := n.p.nms ++ [(s, frN (plL N))] } ++ [(frN (plL N), fresh i k)] by unfold mkL; rw [en])
                have hb' : n.p.nms.length < 1000000 := by rw [← en]; exact hb
                have cR := fun W (q : New w W) => free_any (h.new q)
                have cN := fun W => newnode_any i k W h4 hi
                have cC := fun W => clone_any s W (by have := ck_len h2; omega)
                have HST := Lib.hid (mk_store1 (k := k) h hg of1 of2 of3 nf h6')
                have HST2 := fun (W w6 : World) tg' m => mk_store2 (X := X) (W := W) (w6 := w6) (tb := tb) (mb := mb) (most := most) (N := N) (tg := tg') (m := m) (s := s) hg hf of1 hs hq hb'
                generalize fnE (plL N) i s = c3 at *
                generalize (plL N).length = ml at *
                generalize frN (plL N) = fr at *
                have hk1 : k = 0 ∨ k = 1 := h4
                clear hc h2 h3 hg h H0 hN en h5 E3 e1 hb nf hq
                rcases h4 with rfl | rfl <;> (
                  go_enter Tryd.func8, Tryd.ntmps8
                  go_wp2_with fail
                  refine c.mono ?_
                  rintro e w1 ⟨rfl, rfl⟩
                  go_wp2_with fail
                  refine (cK _).mono ?_
                  rintro e w2 ⟨rfl, n2⟩
                  have c2' := n2.keeps c2
                  have b0' := n2.keeps b0
                  have b1' := n2.keeps b1
                  go_wp2_with fail
                  refine (cF _ n2).mono ?_
                  rintro e w3 ⟨rfl, rfl⟩
                  have hl0 := fun ty => hl _ n2 ty
                  have hl1 := fun j ty => hl _ (n2.drewN j) ty
                  clear hl c2
                  go_wp2_with fail
                  go_quiet (fail)
                  go_wp2_with fail
                  refine (cR _ (n2.drewN _)).mono ?_
                  rintro e w4 ⟨rfl, rfl⟩
                  have n4 := n2.drewN nq
                  generalize World.drewN _ _ = W4 at *
                  have b1'' := n4.keeps b1
                  clear b0' b1' hl0 hl1 c2' n2
                  go_wp2_with fail
                  go_region_with (go_at_call 20; refine (cN _).mono ?_; rintro e w5 ⟨m, rfl, d1, d2, d3, d4, d5, n5⟩; have nb1 := (n4.drew.trans n5).keeps b1; obtain ⟨w6, tg', hrun, t6, k6, hN6, K6⟩ := HST.out _ _ m n4.drew n5 d1 d2 d3 d4 d5)
                  all_goals (
                    obtain ⟨-, -, -, -, -, c5'⟩ := hN6.six
                    rw [hf, if_pos rfl] at c5'
                    clear hrun n5 d1 d3 d4 d5
                    go_wp2_with fail
                    go_region_with (go_at_call 25; refine (cC _).mono ?_; rintro e w7 ⟨rfl, n7⟩; obtain ⟨w8, hrun, t8, k8⟩ := HST2 _ _ _ m t6 ((New.refl w6).drew.trans n7); have c5'' := ((New.refl w6).drew.trans n7).keeps c5')
                    all_goals (
                      have HT := Lib.hid t8
                      have HK := Lib.hid k8
                      clear hrun t8 k8
                      go_wp2
                      go_ret2
                      exact HR.out _ (by rw [HM.out, ← d2]; exact HT.out) (K6.trans HK.out))))
          · have HB := Lib.hid (fun W (q : New w W) => MkP.badn H0 q (mk_kd (most := most) hc h2 h3 ⟨fun e => h4 (.inl e), fun e => h4 (.inr e)⟩) (by decide))
            have k0 : ¬ k = 0 := by omega
            have k1 : ¬ k = 1 := by omega
            have kb0 : (k != 0) = true := bne_iff_ne.2 k0
            have kb1 : (k != 1) = true := bne_iff_ne.2 k1
            have kb2 : (k != 0 && k != 1) = true := by rw [kb0, kb1]; rfl
            generalize fnE (plL N) i s = c3 at *
            clear hc h2 h3 hg hf h H0 h4 E3
            go_enter Tryd.func8, Tryd.ntmps8
            go_wp2_with fail
            refine c.mono ?_
            rintro e w1 ⟨rfl, rfl⟩
            go_wp2_with fail
            refine (cK _).mono ?_
            rintro e w2 ⟨rfl, n2⟩
            go_wp2_with fail
            refine (cF _ n2).mono ?_
            rintro e w3 ⟨rfl, rfl⟩
            go_wp2
            go_ret2
            exact HB.out _ n2
      · have HB := Lib.hid (fun W (q : New w W) => MkP.badn H0 q (mk_ck (most := most) (k := k) hc h2) h2)
        have E2 := erN_pos h2
        rw [E2] at cK
        generalize ckN s = c3 at *
        clear hc h2 hg hf h H0 E2
        go_enter Tryd.func8, Tryd.ntmps8
        go_wp2_with fail
        refine c.mono ?_
        rintro e w1 ⟨rfl, rfl⟩
        go_wp2_with fail
        refine (cK _).mono ?_
        rintro e w2 ⟨rfl, n2⟩
        go_wp2
        go_ret2
        exact HB.out _ n2
  · have c := folder_err h hi hc
    have HB := Lib.hid (MkP.bad H0 (mk_fd (most := most) (s := s) (k := k) hc) hc)
    generalize fdE (plL N) i = c3 at *
    clear hc h H0
    go_enter Tryd.func8, Tryd.ntmps8
    go_wp2_with fail
    refine c.mono ?_
    rintro e w1 ⟨rfl, rfl⟩
    go_wp2
    go_ret2
    exact HB.out
end
end Go.Proofs.YtgoecdmnefjdnaaDoor
