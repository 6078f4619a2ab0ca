/- A name is taken away. -/
import Derived.Test.YtgoecdmnefjdnaaDoorInE
namespace Go.Proofs.YtgoecdmnefjdnaaDoor
open Go.RowKit
open Go.Maps (Keyed)
set_option linter.unusedVariables false
set_option maxRecDepth 100000
section
variable {X : Nat → Prop} {w w' : World} {tb mb : Nat} {most : Int} {N : List (Int × Nd)} {tg : Nat → Option (Int × Nat)} {i k : Int} {n m : Nd} {s : List UInt8}
def unR (L : Pt) (i : Int) (s : List UInt8) : Pt := if unE L i s = 0 then unL L i s else L
def UnP (X : Nat → Prop) (tb : Nat) (most : Int) (L : Pt) (i : Int) (s : List UInt8) (w : World) (e : Ending) (w' : World) : Prop := DidI X tb most (unR L i s) (erN (unE L i s)) w e w'
theorem UnP.bad {L : Pt} {c : Int} (h : Tr X w tb most L) (hc : unE L i s = c) (h0 : c ≠ 0) : UnP X tb most L i s w (.returned (.iface 50 (.int .i64 c))) w := by
  unfold UnP
  have e1 : unR L i s = L := by unfold unR; rw [hc, if_neg h0]
  rw [e1, hc, erN_pos h0]
  exact ⟨rfl, h, But.refl _ _⟩
theorem UnP.good {L : Pt} {w7 : World} (hc : unE L i s = 0) (h : Tr X w7 tb most (unL L i s)) (b : But (fun g => ¬ X g) w w7) : UnP X tb most L i s w (.returned .nilIface) w7 := by
  unfold UnP
  have e1 : unR L i s = unL L i s := by unfold unR; rw [if_pos hc]
  rw [e1, hc]
  exact ⟨rfl, h, b⟩
theorem un_fd {L : Pt} (h : fdE L i ≠ 0) : unE L i s = fdE L i := by unfold unE; rw [if_pos h]
theorem un_dot {L : Pt} (h : fdE L i = 0) (h2 : s = s1 ∨ s = s2) : unE L i s = 22 := by unfold unE; rw [if_neg (by simp [h]), if_pos h2]
theorem un_fn {L : Pt} (h : fdE L i = 0) (h2 : ¬ (s = s1 ∨ s = s2)) (h3 : fnE L i s ≠ 0) : unE L i s = fnE L i s := by unfold unE; rw [if_neg (by simp [h]), if_neg h2, if_pos h3]
theorem un_full {L : Pt} (h : fdE L i = 0) (h2 : ¬ (s = s1 ∨ s = s2)) (h3 : fnE L i s = 0) (h4 : (nat L (fnV L i s)).nms ≠ []) : unE L i s = 39 := by unfold unE; rw [if_neg (by simp [h]), if_neg h2, if_neg (by simp [h3]), if_pos h4]
theorem un_ok {L : Pt} (h : fdE L i = 0) (h2 : ¬ (s = s1 ∨ s = s2)) (h3 : fnE L i s = 0) (h4 : (nat L (fnV L i s)).nms = []) : unE L i s = 0 := by unfold unE; rw [if_neg (by simp [h]), if_neg h2, if_neg (by simp [h3]), if_neg (by simp [h4])]
theorem fn_good {L : Pt} (h : fdE L i = 0) (h2 : ¬ (s = s1 ∨ s = s2)) (h3 : fnE L i s = 0) : sget (nat L i).nms s = some (fnV L i s) := by
  unfold fnE at h3
  rw [if_neg (by simp [h]), if_neg h2] at h3
  unfold fnV
  rw [if_neg (by simp [h]), if_neg (fun e => h2 (.inl e)), if_neg (fun e => h2 (.inr e))]
  cases hh : sget (nat L i).nms s with
  | none => rw [hh] at h3; cases h3
  | some x => rfl
/-- a name is taken out of a folder in memory -/
theorem un_drop (h : TrM X w tb mb most N tg) (hg : nget N i = some n) (hf : n.p.fd = true) (hs : s.length ≤ maxLen) {j : Int} (hq : sget n.p.nms s = some j) : ∃ w' tg', (∀ ty, (Builtin.delete_ #[60, 9] ty #[.map (some n.nb), .string (ba s)]).run Tryd.prog w = .ok (.tuple #[]) w') ∧
    TrM X w' tb mb most (nset N i { n with p := { n.p with nms := sdel n.p.nms s } }) tg' ∧ But (fun g => ¬ X g) w w' := by
  have hN := node_cell h hg
  obtain ⟨l1, l2, e1, e2⟩ := sget_some hq
  have hm : Mp Tryd.prog 9 w n.nb (nmE l1 ++ (.string (ba s), .int .i64 j) :: nmE l2) := by have := hN.mp hf; rw [e1] at this; simpa [nmE] using this
  have key := fun ty => hm.drop_hit keyS Tryd.underlying60 (WideMaps.keyOf_string_mk Tryd.underlying9 (by rw [ba_size]; exact hs)) ty
  obtain ⟨w', hr, m', k'⟩ := key 0
  have hS := k' (fun g => g = n.nb) rfl
  have tn := h.tnb _ (nget_mem hg) hf
  have hN' : NdM w' { n with p := { n.p with nms := sdel n.p.nms s } } := by
    refine ⟨hN.box.but hS (fun e => hN.nne hf e.symm), own_but hN.own hS (fun g hgd e => ?_), hN.oct, hN.len, (fun _ => by rw [e2]; simpa [nmE] using m'), (fun e => by rw [hf] at e; cases e), hN.hol, hN.wfp, fun x hx => hN.wfn x ?_⟩
    · have e1 := h.tdv _ (nget_mem hg) g hgd
      rw [e, tn] at e1; simp at e1
    · show x ∈ n.p.nms
      have hx : x ∈ sdel n.p.nms s := hx
      rw [e2] at hx
      rw [e1]; simp only [List.mem_append, List.mem_cons] at hx ⊢; exact hx.elim .inl fun e => .inr (.inr e)
  obtain ⟨tg', t'⟩ := h.put hg hS (fun g e => ⟨1, by rw [e]; exact tn⟩) hN' rfl rfl rfl (fun g hg => .inl hg)
  exact ⟨w', tg', fun ty => hr, t', k' _ (h.not_aside tn)⟩
theorem nset_other {α : Type} {L : List (Int × α)} {i j : Int} {x y : α} (hi : nget L i = some x) (hne : j ≠ i) : nget (nset L i y) j = nget L j := by
  obtain ⟨A, B, rfl, h2, h3, -⟩ := nget_some hi
  rw [h3]
  clear hi h3 h2
  induction A with
  | nil => rw [List.nil_append, List.nil_append, nget_cons, nget_cons, if_neg (fun e => hne e.symm), if_neg (fun e => hne e.symm)]
  | cons q r ih => rw [List.cons_append, List.cons_append, nget_cons, nget_cons, ih]
set_option maxHeartbeats 1000000 in
/-- the number that the name had must have a node -/
theorem unlink_any {L : Pt} (h : Tr X w tb most L) (hi : Ok64 i) (hs : s.length ≤ maxLen) (hb : unE L i s = 0 ∨ unE L i s = 39 → (nget L (fnV L i s)).isSome = true) : Calls Tryd.prog 11 #[.pointer (some ⟨tb, 0, none⟩), .int .i64 i, .string (ba s)] w (UnP X tb most L i s w) := by
  have H0 := h
  obtain ⟨mb, N, tg, h, rfl⟩ := h
  by_cases hc : fdE (plL N) i = 0
  · cases hg : nget N i with
    | none => rw [fdE_none (pl_none hg)] at hc; cases hc
    | some n =>
      have hf : n.p.fd = true := by rw [fdE_some (pl_some hg)] at hc; cases e : n.p.fd with | false => rw [e] at hc; cases hc | true => rfl
      have c := folder_hit h hi hg hf
      by_cases h2 : s = s1 ∨ s = s2
      · have HB := Lib.hid (UnP.bad H0 (un_dot hc h2) (by decide))
        clear hc hg hf h H0 hb
        rcases h2 with rfl | rfl
        · have k1 : ((ba s1).toList == [46]) = true := by rw [ba_list]; rfl
          go_enter Tryd.func11, Tryd.ntmps11
          go_wp2_with fail
          refine c.mono ?_
          rintro e w1 ⟨rfl, rfl⟩
          go_wp2
          go_ret
          exact HB.out
        · have k1 : ((ba s2).toList == [46]) = false := by rw [ba_list]; rfl
          have k2 : ((ba s2).toList == [46, 46]) = true := by rw [ba_list]; rfl
          go_enter Tryd.func11, Tryd.ntmps11
          go_wp2_with fail
          refine c.mono ?_
          rintro e w1 ⟨rfl, rfl⟩
          go_wp2
          go_ret
          exact HB.out
      · have k1 : ((ba s).toList == [46]) = false := by rw [ba_list]; exact beq_eq_false_iff_ne.2 (fun e => h2 (.inl e))
        have k2 : ((ba s).toList == [46, 46]) = false := by rw [ba_list]; exact beq_eq_false_iff_ne.2 (fun e => h2 (.inr e))
        have cF := find_m h hi hs
        by_cases h3 : fnE (plL N) i s = 0
        · rw [h3, er0] at cF
          have hq := fn_good hc h2 h3
          have en := nat_pl hg
          rw [en] at hq
          have hN := node_cell h hg
          have oj : Ok64 (fnV (plL N) i s) := by
            obtain ⟨l1, l2, e1, -⟩ := sget_some hq
            exact hN.wfn (s, fnV (plL N) i s) (by rw [e1]; simp)
          obtain ⟨b0, b1⟩ := h.box.two
          obtain ⟨-, -, -, -, -, c5⟩ := hN.six
          rw [hf, if_pos rfl] at c5
          have hbs : (nget (plL N) (fnV (plL N) i s)).isSome = true := by
            by_cases c : (nat (plL N) (fnV (plL N) i s)).nms = []
            · exact hb (.inl (un_ok hc h2 h3 c))
            · exact hb (.inr (un_full hc h2 h3 c))
          obtain ⟨j, ej⟩ : ∃ j, fnV (plL N) i s = j := ⟨_, rfl⟩
          rw [ej] at hq oj hbs cF
          cases hj : nget N j with
          | none => rw [pl_none hj] at hbs; cases hbs
          | some m =>
            have hr := h.hit false oj hj
            rw [if_neg (by simp)] at hr
            have hM := node_cell h hj
            obtain ⟨-, -, -, -, -, m5⟩ := hM.six
            have em := nat_pl hj
            by_cases h4 : m.p.nms = []
            · have h5 := un_ok hc h2 h3 (by rw [ej, em]; exact h4)
              have HG := Lib.hid (fun w7 (r1 : Tr X w7 tb most (unL (plL N) i s)) (r2 : But (fun g => ¬ X g) w w7) => UnP.good (w := w) h5 r1 r2)
              obtain ⟨w2, tg2, hd, t2, k3⟩ := un_drop h hg hf hs hq
              -- the node that had the name
              obtain ⟨m', hm', em1, em2, em3⟩ : ∃ m', nget (nset N i { n with p := { n.p with nms := sdel n.p.nms s } }) j = some m' ∧ m'.bk = m.bk ∧ m'.p.fd = m.p.fd ∧ m'.nb = m.nb := by
                by_cases e : j = i
                · subst e
                  rw [hg] at hj; cases hj
                  exact ⟨_, nget_nset hg _, rfl, rfl, rfl⟩
                · exact ⟨m, by rw [nset_other hg e]; exact hj, rfl, rfl, rfl⟩
              have hM' := node_cell t2 hm'
              have S2 := hM'.setNam false
              have f2 := hM'.free 2
              obtain ⟨-, -, d2, -⟩ := hM'.six
              rw [em1] at f2 d2
              have tk := t2.tbk _ (nget_mem hm')
              obtain ⟨tg3, t3⟩ := t2.put hm' (But.set (S := fun g => g = m'.bk) w2 (p := ⟨m'.bk, 2, none⟩) rfl (.bool false)) (fun g e => ⟨0, by rw [e]; exact tk⟩) S2 rfl rfl rfl (fun g hg => .inl hg)
              have k4 := But.set (S := fun g => ¬ X g) w2 (p := ⟨m'.bk, 2, none⟩) (t2.not_aside tk) (.bool false)
              have cT := tidy_m t3 oj (nget_nset hm' _)
              have EL : tidyL (plL (nset (nset N i { n with p := { n.p with nms := sdel n.p.nms s } }) j { m' with p := { m'.p with nam := false } })) j { m'.p with nam := false } = unL (plL N) i s := by
                unfold unL unB unA
                rw [ej, en, nset_pl hm', nset_pl hg]
                have g2 := pl_some hm'
                rw [nset_pl hg] at g2
                rw [nat_some g2, nat_some (nget_nset g2 _)]
              have em1' : ({ m' with p := { m'.p with nam := false } } : Nd).bk = m.bk := em1
              rw [EL, em1'] at cT
              rw [em1] at k4
              have HK := Lib.hid (k3.trans k4)
              have mm' : ∀ ty, (Builtin.len_ #[60] ty #[.map (if m.p.fd then some m.nb else none)]).run Tryd.prog w = .ok (.int .i64 0) w := fun ty => by
                cases e : m.p.fd with
                | true => have := (hM.mp e).len Tryd.underlying60 ty; rw [h4] at this; exact this
                | false => exact Maps.len_nil Tryd.underlying60 ty
              generalize (if m.p.fd then some m.nb else none) = mo at *
              clear k3 k4 EL em1' t3 S2 hM' hm' t2 tk em em2 em3 h5 hbs hM hN hq en h3 hb h H0 hc hg ej h4 hj
              go_enter Tryd.func11, Tryd.ntmps11
              go_wp2_with fail
              refine c.mono ?_
              rintro e w1 ⟨rfl, rfl⟩
              go_wp2_with fail
              refine cF.mono ?_
              rintro e w3 ⟨rfl, rfl⟩
              go_wp2_with fail
              refine cT.mono ?_
              rintro e w4 ⟨rfl, t4, k5⟩
              go_wp2
              go_ret
              exact HG.out _ t4 (HK.out.trans k5)
            · have HB := Lib.hid (UnP.bad H0 (un_full hc h2 h3 (by rw [ej, em]; exact h4)) (by decide))
              have hmf : m.p.fd = true := by
                cases e : m.p.fd with
                | true => rfl
                | false => exact absurd (hM.fil e) h4
              have mm' := fun ty => (hM.mp hmf).len Tryd.underlying60 ty
              have hpos : (0 : Int) < ((nmE m.p.nms).length : Int) := by
                cases hh : m.p.nms with
                | nil => exact absurd hh h4
                | cons x r => simp only [nmE, List.map_cons, List.length_cons]; omega
              rw [hmf, if_pos rfl] at m5
              generalize (nmE m.p.nms).length = ml at *
              clear em hbs hM hN hq en h3 hb h H0 hc hg ej h4 hj
              go_enter Tryd.func11, Tryd.ntmps11
              go_wp2_with fail
              refine c.mono ?_
              rintro e w1 ⟨rfl, rfl⟩
              go_wp2_with fail
              refine cF.mono ?_
              rintro e w3 ⟨rfl, rfl⟩
              go_wp2
              go_ret
              exact HB.out
        · have HB := Lib.hid (UnP.bad H0 (un_fn hc h2 h3) h3)
          have E3 := erN_pos h3
          rw [E3] at cF
          generalize fnE (plL N) i s = c3 at *
          clear hc hg hf h H0 hb h2 E3
          go_enter Tryd.func11, Tryd.ntmps11
          go_wp2_with fail
          refine c.mono ?_
          rintro e w1 ⟨rfl, rfl⟩
          go_wp2_with fail
          refine cF.mono ?_
          rintro e w2 ⟨rfl, rfl⟩
          go_wp2
          go_ret
          exact HB.out
  · have c := folder_err h hi hc
    have HB := Lib.hid (UnP.bad H0 (un_fd (s := s) hc) hc)
    generalize fdE (plL N) i = c3 at *
    clear hc h H0 hb
    go_enter Tryd.func11, Tryd.ntmps11
    go_wp2_with fail
    refine c.mono ?_
    rintro e w1 ⟨rfl, rfl⟩
    go_wp2
    go_ret
    exact HB.out
end
end Go.Proofs.YtgoecdmnefjdnaaDoor
