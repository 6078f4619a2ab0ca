/- The bytes of a file: written. -/
import Derived.Test.YtgoecdmnefjdnaaDoorInF
import Derived.Test.YtgoecdmnefjdnaaDoorApz
import Derived.Deep.AppendLies
import Derived.Deep.RegionLaw
namespace Go.Proofs.YtgoecdmnefjdnaaDoor
open Go.RowKit
open Go.Maps (Keyed)
set_option linter.unusedVariables false
set_option maxRecDepth 100000
theorem addb (a : Addr) (n : Nat) : (a.add n).block = a.block := by unfold Addr.add; split <;> rfl
theorem cells8_app (a b : List Int) : cells8 (a ++ b) = cells8 a ++ cells8 b := by simp [cells8]
theorem take_splice {α : Type} (l : List α) (o : Nat) (b : List α) (k : Nat) (h : o + b.length ≤ k) (hk : k ≤ l.length) : (splice l o b).take k = splice (l.take k) o b := by
  unfold splice
  have e1 : (l.take k).take o = l.take o := by rw [List.take_take, Nat.min_eq_left (by omega)]
  have e2 : (l.take k).drop (o + b.length) = (l.drop (o + b.length)).take (k - (o + b.length)) := by rw [List.drop_take]
  rw [e1, e2, List.take_append, List.take_append]
  have l1 : (l.take o).length = o := by rw [List.length_take]; omega
  have l2 : List.take k (List.take o l) = List.take o l := List.take_of_length_le (by omega)
  have l3 : List.take (k - (List.take o l).length) b = b := List.take_of_length_le (by omega)
  rw [l2, l3, l1, Nat.sub_sub]
section
variable {X : Nat → Prop} {w w' : World} {tb mb : Nat} {most : Int} {N : List (Int × Nd)} {tg : Nat → Option (Int × Nat)} {i off k : Int} {n m : Nd}
def WrP (X : Nat → Prop) (tb : Nat) (most : Int) (L : Pt) (i off : Int) (b : List Int) (w : World) (e : Ending) (w' : World) : Prop := DidI X tb most (wrR L i off b) (.tuple #[.int .i64 (wrV L i off b), erN (wrE L i off b)]) w e w'
theorem WrP.bad {L : Pt} {b : List Int} {c : Int} (h : Tr X w tb most L) (hc : wrE L i off b = c) (h0 : c ≠ 0) : WrP X tb most L i off b w (.returned (.tuple #[.int .i64 0, .iface 50 (.int .i64 c)])) w := by
  unfold WrP
  have e1 : wrR L i off b = L := by unfold wrR; rw [hc, if_neg h0]
  have e2 : wrV L i off b = 0 := by unfold wrV; rw [hc, if_neg h0]
  rw [e1, e2, hc, erN_pos h0]
  exact ⟨rfl, h, But.refl _ _⟩
theorem WrP.nothing {L : Pt} (h : Tr X w tb most L) (hc : wrE L i off [] = 0) : WrP X tb most L i off [] w (.returned (.tuple #[.int .i64 0, .nilIface])) w := by
  unfold WrP
  have e1 : wrR L i off [] = L := by unfold wrR; rw [hc, if_pos rfl]; unfold wrL; rw [if_pos rfl]
  have e2 : wrV L i off [] = 0 := by unfold wrV; rw [hc, if_pos rfl, if_pos rfl]
  rw [e1, e2, hc]
  exact ⟨rfl, h, But.refl _ _⟩
theorem WrP.good {L : Pt} {b : List Int} {w7 : World} {cnt : Nat} (hc : wrE L i off b = 0) (h0 : b ≠ []) (hl : (wrB off b).length = cnt) (h : Tr X w7 tb most (wrL L i off b)) (k : But (fun g => ¬ X g) w w7) : WrP X tb most L i off b w (.returned (.tuple #[.int .i64 (cnt : Int), .nilIface])) w7 := by
  unfold WrP
  have e1 : wrR L i off b = wrL L i off b := by unfold wrR; rw [if_pos hc]
  have e2 : wrV L i off b = (cnt : Int) := by unfold wrV; rw [if_pos hc, if_neg h0, hl]
  rw [e1, e2, hc]
  exact ⟨rfl, h, k⟩
theorem wr_neg {L : Pt} {b : List Int} (h : off < 0) : wrE L i off b = 22 := by unfold wrE; rw [if_pos h]
theorem wr_fl {L : Pt} {b : List Int} (h : ¬ off < 0) (h2 : flE L i ≠ 0) : wrE L i off b = flE L i := by unfold wrE; rw [if_neg h, if_pos h2]
theorem wr_nil {L : Pt} (h : ¬ off < 0) (h2 : flE L i = 0) : wrE L i off [] = 0 := by unfold wrE; rw [if_neg h, if_neg (by simp [h2]), if_pos rfl]
theorem wr_far {L : Pt} {b : List Int} (h : ¬ off < 0) (h2 : flE L i = 0) (h3 : b ≠ []) (h4 : 4096 ≤ off) : wrE L i off b = 28 := by unfold wrE; rw [if_neg h, if_neg (by simp [h2]), if_neg h3, if_pos h4]
theorem wr_ok {L : Pt} {b : List Int} (h : ¬ off < 0) (h2 : flE L i = 0) (h3 : b ≠ []) (h4 : ¬ 4096 ≤ off) : wrE L i off b = 0 := by unfold wrE; rw [if_neg h, if_neg (by simp [h2]), if_neg h3, if_neg h4]
/-- bytes laid into a file's row -/
theorem wr_copy (h : TrM X w tb mb most N tg) (hg : nget N i = some n) {g cap o : Nat} {bt : List Int} {cur : List Value} (hv : n.dv = .slice (some ⟨g, 0, none⟩) n.p.dat.length cap) (hcur : w.heap[g]? = some (.cells cur.toArray 5 (0, 0))) (ho : o + bt.length ≤ n.p.dat.length) (hO : Oct bt)
    (hn : w'.heap[g]? = some (.cells (splice cur o (cells8 bt)).toArray 5 (0, 0))) (hf : Far g w w') : ∃ tg', TrM X w' tb mb most (nset N i { n with p := { n.p with dat := splice n.p.dat o bt } }) tg' ∧ But (fun g => ¬ X g) w w' := by
  have hN := node_cell h hg
  have hd : n.dv.ownBlock = some g := by rw [hv]; rfl
  have tn := h.tdv _ (nget_mem hg) g hd
  have hb : But (fun x => x = g) w w' := But.of_far hf rfl
  have hlen : (splice n.p.dat o bt).length = n.p.dat.length := splice_len _ _ _ ho
  have hN' : NdM w' { n with p := { n.p with dat := splice n.p.dat o bt } } := by
    refine ⟨hN.box.but hb (fun e => hN.dne hd e.symm), ?_, hN.oct.splice hO o, by show (splice n.p.dat o bt).length ≤ 4096; rw [hlen]; exact hN.len, fun e => (hN.mp e).but hb (fun c => ?_), hN.fil, hN.hol, hN.wfp, hN.wfn⟩
    · show w'.ownsRow 0 5 1 n.dv (splice n.p.dat o bt).length (cells8 (splice n.p.dat o bt))
      have h1 := hN.own
      rw [hv] at h1 ⊢
      rw [hlen]
      refine ⟨by rw [cells8_len, hlen]; omega, .inr ⟨g, cap, _, rfl, Nat.zero_le _, hn, ?_⟩⟩
      rcases h1.2 with ⟨e, -⟩ | ⟨g2, cap2, cur2, e, -, hg2, q1, q2, q3, q4⟩
      · cases e
      · cases e
        rw [hcur] at hg2
        cases hg2
        have l1 : (cells8 n.p.dat).length = n.p.dat.length := cells8_len _
        have q3' : cur.length = cap := by simpa using q3
        refine ⟨q1, q2, ?_, ?_⟩
        · simp only [List.size_toArray]
          rw [length_splice _ _ _ (by rw [cells8_len]; omega)]; omega
        · rw [cells8_splice]
          have e2 : cur.take n.p.dat.length = cells8 n.p.dat := by simpa using q4
          rw [← e2]
          simp only [Nat.mul_one]
          exact take_splice cur o (cells8 bt) n.p.dat.length (by rw [cells8_len]; exact ho) (by omega)
    · have e1 := h.tnb _ (nget_mem hg) e
      rw [c, tn] at e1; simp at e1
  obtain ⟨tg', t'⟩ := h.put hg hb (fun x e => ⟨2, by rw [e]; exact tn⟩) hN' rfl rfl rfl (fun g hg => .inl hg)
  exact ⟨tg', t', But.of_far hf (h.not_aside tn)⟩
/-- the row of a file's bytes -/
theorem NdM.row (h : NdM w n) (hp : 0 < n.p.dat.length) : ∃ g cap cur, n.dv = .slice (some ⟨g, 0, none⟩) n.p.dat.length cap ∧ w.heap[g]? = some (.cells (List.toArray cur) 5 (0, 0)) ∧ cur.length = cap ∧ n.p.dat.length ≤ cap ∧ cap ≤ maxLen := by
  rcases h.own.2 with ⟨-, e⟩ | ⟨g, cap, cur, e, -, hg, q1, q2, q3, q4⟩
  · omega
  · exact ⟨g, cap, cur.toList, e, by simpa using hg, by simpa using q3, q1, q2⟩
theorem grown_but {row : Option Nat} (h : w.grownBy w' row) : But (fun x => row = some x) w w' := ⟨h.os, h.tape, h.output, h.size, fun k hk hn => h.block k hk (fun e => hn e.symm)⟩
theorem nset_nset {α : Type} {L : List (Int × α)} {i : Int} {x : α} (hg : nget L i = some x) (y z : α) : nset (nset L i y) i z = nset L i z := by
  obtain ⟨A, B, rfl, h2, h3, -⟩ := nget_some hg
  rw [h3, h3]
  clear hg h3
  induction A with
  | nil => simp [nset]
  | cons q r ih =>
    have hq := h2 q List.mem_cons_self
    simp only [List.cons_append, nset, if_neg hq]
    rw [ih fun x hx => h2 x (List.mem_cons_of_mem _ hx)]
/-- a file's bytes made longer by zeros -/
theorem wr_grow (h : TrM X w tb mb most N tg) (hg : nget N i = some n) (k : Nat) (hk : 0 < k) (hl : n.p.dat.length + k ≤ 4096) : ∃ g cap w2,
    (Builtin.append_ #[23, 3] 23 #[n.dv, .int .i64 (k : Int)]).run Tryd.prog w.drew = .ok (.slice (some ⟨g, 0, none⟩) (n.p.dat.length + k) cap) w2 ∧ w2.cell? ⟨n.bk, 4, none⟩ = some n.dv ∧ w2.frozen? ⟨n.bk, 4, none⟩ = false ∧
    ∃ tg', TrM X (w2.setCell ⟨n.bk, 4, none⟩ (.slice (some ⟨g, 0, none⟩) (n.p.dat.length + k) cap)) tb mb most (nset N i { n with p := { n.p with dat := n.p.dat ++ List.replicate k 0 }, dv := .slice (some ⟨g, 0, none⟩) (n.p.dat.length + k) cap }) tg' ∧ But (fun g => ¬ X g) w (w2.setCell ⟨n.bk, 4, none⟩ (.slice (some ⟨g, 0, none⟩) (n.p.dat.length + k) cap)) := by
  have hN := node_cell h hg
  obtain ⟨i0, hi, hz0, hz1, hz2⟩ := info_parts byte_info
  have nd : New w w.drew := (New.refl w).drew
  have hown := (OwnB.new (show OwnB 0 w n.dv n.p.dat from hN.own) nd : OwnB 0 w.drew n.dv n.p.dat)
  obtain ⟨v', w2, hr, o2, g2, loc⟩ := run_zeros_own (P := Tryd.prog) w.drew 0 23 3 23 5 i0 (.int .u8 0) .i64 1 Tryd.underlying23 Tryd.underlying3 hi hz0 hz1 hz2 (by omega) rfl rfl n.dv _ _ hown k hk (by omega) (Nat.zero_le _)
  obtain ⟨g, cap, rfl, -, glt⟩ := o2.form (by omega)
  have kb : But (fun x => n.dv.ownBlock = some x) w w2 := (But.of_new _ nd).trans (grown_but g2)
  have hbk : ¬ n.dv.ownBlock = some n.bk := fun e => hN.dne e rfl
  have hlt : n.bk < w.heap.size := hN.box.lt
  have b2 := hN.box.but kb hbk
  have tk := h.tbk _ (nget_mem hg)
  have loc' : n.dv.ownBlock = some g ∨ w.heap.size ≤ g := by
    rcases loc with e | e
    · exact .inl (by rw [← e]; rfl)
    · right; simp [Value.ownBlock] at e; omega
  have gne : g ≠ n.bk := by
    rcases loc' with e | e
    · exact hN.dne e
    · omega
  have k3 : But (fun x => x = n.bk ∨ n.dv.ownBlock = some x) w (w2.setCell ⟨n.bk, 4, none⟩ (.slice (some ⟨g, 0, none⟩) (n.p.dat.length + k) cap)) :=
    (kb.mono fun _ _ e => .inr e).trans (But.set (S := fun x => x = n.bk ∨ n.dv.ownBlock = some x) w2 (p := ⟨n.bk, 4, none⟩) (.inl rfl) _)
  have l2 : (n.p.dat ++ List.replicate k (0 : Int)).length = n.p.dat.length + k := by simp
  have hN' : NdM (w2.setCell ⟨n.bk, 4, none⟩ (.slice (some ⟨g, 0, none⟩) (n.p.dat.length + k) cap)) { n with p := { n.p with dat := n.p.dat ++ List.replicate k 0 }, dv := .slice (some ⟨g, 0, none⟩) (n.p.dat.length + k) cap } := by
    refine ⟨b2.set 4 _, ?_, ?_, by show (n.p.dat ++ List.replicate k (0 : Int)).length ≤ 4096; rw [l2]; exact hl, fun e => ?_, hN.fil, hN.hol, hN.wfp, hN.wfn⟩
    · show World.ownsRow _ 0 5 1 _ (n.p.dat ++ List.replicate k (0 : Int)).length (cells8 (n.p.dat ++ List.replicate k 0))
      rw [l2, cells8_app, cells8_zeros]
      exact own_but o2 (But.set (S := fun x => x = n.bk) w2 (p := ⟨n.bk, 4, none⟩) rfl _) (fun x hx e => by simp [Value.ownBlock] at hx; exact gne (hx.trans e))
    · intro x hx
      rcases List.mem_append.1 hx with hx | hx
      · exact hN.oct x hx
      · exact Oct.zeros k x hx
    · refine (hN.mp e).but k3 (fun c => ?_)
      rcases c with c | c
      · exact hN.nne e c
      · have e1 := h.tdv _ (nget_mem hg) _ c
        rw [h.tnb _ (nget_mem hg) e] at e1; simp at e1
  obtain ⟨tg', t'⟩ := h.put hg k3 (fun x e => by
    rcases e with rfl | e
    · exact ⟨0, tk⟩
    · exact ⟨2, h.tdv _ (nget_mem hg) x e⟩) hN' rfl rfl rfl (fun x hx => by simp [Value.ownBlock] at hx; rw [← hx]; exact loc')
  refine ⟨g, cap, w2, hr, b2.cell 4, b2.unfrozen 4, tg', t', k3.mono fun x _ e => ?_⟩
  rcases e with rfl | e
  · exact h.not_aside tk
  · exact h.not_aside (h.tdv _ (nget_mem hg) x e)
set_option maxHeartbeats 1000000 in
theorem write_any {L : Pt} {u : Value} {b : List Int} (h : Tr X w tb most L) (hi : Ok64 i) (hu : Byts w u b) (hX : b ≠ [] → ∀ g, u.ownBlock = some g → X g) (hb : b.length ≤ 100000) (hO : Oct b) : Calls Tryd.prog 9 #[.pointer (some ⟨tb, 0, none⟩), .int .i64 i, .int .i64 off, u] w (WrP X tb most L i off b w) := by
  have H0 := h
  obtain ⟨mb, N, tg, h, rfl⟩ := h
  obtain ⟨up, uc, rfl, -, hcells⟩ := id hu
  by_cases h0 : off < 0
  · have HB := Lib.hid (WrP.bad H0 (wr_neg (i := i) (b := b) h0) (by decide))
    clear h H0 hcells
    go_enter Tryd.func9, Tryd.ntmps9
    go_wp2
    go_ret2
    exact HB.out
  · by_cases hfl : flE (plL N) i = 0
    · cases hg : nget N i with
      | none => rw [flE_none (pl_none hg)] at hfl; cases hfl
      | some n =>
        have hfd : n.p.fd = false := by rw [flE_some (pl_some hg)] at hfl; cases e : n.p.fd with | true => rw [e] at hfl; cases hfl | false => rfl
        have c := file_hit h hi hg hfd
        by_cases hb0 : b = []
        · subst hb0
          have HB := Lib.hid (WrP.nothing H0 (wr_nil h0 hfl))
          clear h H0 hg hfl hcells
          simp only [List.length_nil] at *
          go_enter Tryd.func9, Tryd.ntmps9
          go_wp2_with fail
          refine c.mono ?_
          rintro e w1 ⟨rfl, rfl⟩
          go_wp2
          go_ret2
          exact HB.out
        · have hbl : 0 < b.length := by cases b with | nil => exact absurd rfl hb0 | cons x r => simp
          have hbz : ¬ (b.length : Int) = 0 := by omega
          by_cases h4 : 4096 ≤ off
          · have HB := Lib.hid (WrP.bad H0 (wr_far h0 hfl hb0 h4) (by decide))
            clear h H0 hg hfl hcells
            generalize b.length = bl at *
            go_enter Tryd.func9, Tryd.ntmps9
            go_wp2_with fail
            refine c.mono ?_
            rintro e w1 ⟨rfl, rfl⟩
            go_wp2
            go_ret2
            exact HB.out
          · obtain ⟨o, rfl⟩ : ∃ o : Nat, off = (o : Int) := ⟨off.toNat, by omega⟩
            have ho : o < 4096 := by omega
            obtain ⟨bt, hbt⟩ : ∃ bt, b.take (4096 - o) = bt := ⟨_, rfl⟩
            have hwB : wrB (o : Int) b = bt := by unfold wrB; rw [← hbt, show (4096 - (o : Int)).toNat = 4096 - o by omega]
            have hcl : bt.length = Nat.min (4096 - o) b.length := by rw [← hbt, List.length_take]
            have hc1 : 0 < bt.length ∧ o + bt.length ≤ 4096 ∧ bt.length ≤ b.length ∧ Nat.min b.length bt.length = bt.length := by
              have : Nat.min (4096 - o) b.length = 4096 - o ∨ Nat.min (4096 - o) b.length = b.length := by
                rcases Nat.le_total (4096 - o) b.length with c | c
                · exact .inl (Nat.min_eq_left c)
                · exact .inr (Nat.min_eq_right c)
              have m1 : Nat.min (4096 - o) b.length ≤ 4096 - o := Nat.min_le_left _ _
              have m2 : Nat.min (4096 - o) b.length ≤ b.length := Nat.min_le_right _ _
              refine ⟨by omega, by omega, by omega, Nat.min_eq_right (by omega)⟩
            have hmin : min (b.length : Int) (4096 - (o : Int)) = (bt.length : Int) := by
              rw [hcl]
              rcases Nat.le_total (4096 - o) b.length with c | c
              · rw [Int.min_eq_right (by omega), show Nat.min (4096 - o) b.length = 4096 - o from Nat.min_eq_left c]; omega
              · rw [Int.min_eq_left (by omega), show Nat.min (4096 - o) b.length = b.length from Nat.min_eq_right c]
            have hOt : Oct bt := fun x hx => hO x (by rw [← hbt] at hx; exact List.mem_of_mem_take hx)
            have hE := wr_ok h0 hfl hb0 h4
            have HR := Lib.hid (fun w7 (r1 : Tr X w7 tb most (nset (plL N) i { n.p with dat := lay n.p.dat o bt })) (r2 : But (fun g => ¬ X g) w w7) => WrP.good (w := w) (cnt := bt.length) hE hb0 (by rw [hwB]) (show Tr X w7 tb most (wrL (plL N) i o b) by unfold wrL; rw [if_neg hb0, nat_pl hg, hwB]; exact r1) r2)
            have hsrc : ∀ W : World, (∀ g, X g → W.heap[g]? = w.heap[g]?) → ∃ ad, up = some ad ∧ ∀ j v, (cells8 bt)[j]? = some v → W.cell? (ad.add j) = some v := by
              intro W hW
              obtain ⟨a, rfl, -⟩ := hcells 0 hbl
              refine ⟨a, rfl, fun j v hv => ?_⟩
              obtain ⟨hj, rfl⟩ := cells8_get hv
              obtain ⟨a', e, hc⟩ := hcells j (by omega)
              cases e
              have e5 : W.cell? (a.add j) = w.cell? (a.add j) := World.cell?_of_block (by rw [addb]; exact hW _ (hX hb0 _ rfl))
              rw [e5, hc]
              congr 2
              rw [← hbt]
              simp only [List.getD_eq_getElem?_getD, List.getElem?_take]
              rw [if_pos (by omega)]
            obtain ⟨z1, z2, z3, z4⟩ := hc1
            have hN := node_cell h hg
            obtain ⟨-, -, -, -, c4, -⟩ := hN.six
            have hHG := Lib.hid hg
            have hH := Lib.hid h
            have hNL := hN.len
            by_cases hA : o + bt.length ≤ n.p.dat.length
            · obtain ⟨g, cap, cur, hv, hcur, hcc, hlc, hcm⟩ := hN.row (by omega)
              have e1 : lay n.p.dat o bt = splice n.p.dat o bt := by unfold lay; rw [Nat.sub_eq_zero_of_le hA]; simp
              rw [e1] at HR
              have HC := Lib.hid (fun (w' : World) q r => wr_copy (w' := w') h hg hv hcur hA hOt q r)
              have HS := Lib.hid (hsrc w (fun _ _ => rfl))
              rw [hv] at c4
              have hne : ¬ cap = o := by omega
              have hg1 : ¬ (n.p.dat.length : Int) < (o : Int) + (bt.length : Int) := by omega
              have hcm' : cap ≤ 9223372036854775807 := hcm
              have h8 : (cells8 bt).length = bt.length := cells8_len _
              generalize n.p.dat.length = ln at *
              generalize hct : bt.length = cnt at *
              generalize b.length = bl at *
              clear e1 hsrc hE h hg hfl hcells hbt hwB hcl hN hv hb0 hO H0
              go_enter Tryd.func9, Tryd.ntmps9
              go_wp2_with fail
              refine c.mono ?_
              rintro e w1 ⟨rfl, rfl⟩
              go_wp2_with ((with_reducible refine at_slot 68 ?_); (refine wpList_copy_far rfl _ _ _ _ rfl 5 Tryd.underlying23 byte_size _ _ _ _ _ _ rfl rfl g o cur 5 hcur (cells8 bt) ?c2 ?c3 ?c4 cells8_one ?_))
              case c2 => rw [h8]; first | exact z4.symm | (rw [Nat.add_sub_cancel_left]; exact z4.symm)
              case c3 => first | exact fun _ => ⟨rfl, HS.out⟩ | exact fun _ => HS.out | exact HS.out
              case c4 => rw [h8, hcc]; omega
              intro w2 hg2 hf2
              go_wp2
              go_ret2
              obtain ⟨tg', t', k'⟩ := HC.out w2 hg2.out hf2
              exact HR.out w2 ⟨mb, _, tg', t', nset_pl hHG.out _⟩ k'
            · obtain ⟨k, hk⟩ : ∃ k : Nat, n.p.dat.length + k = o + bt.length := ⟨o + bt.length - n.p.dat.length, by omega⟩
              obtain ⟨g, cap, w2, hr, d4, f4, tg1, t1, k1⟩ := wr_grow h hg k (by omega) (by omega)
              have e1 : lay n.p.dat o bt = splice (n.p.dat ++ List.replicate k 0) o bt := by unfold lay; rw [show o + bt.length - n.p.dat.length = k by omega]
              rw [e1] at HR
              have hM := node_cell t1 (nget_nset hg _)
              have l2 : (n.p.dat ++ List.replicate k (0 : Int)).length = o + bt.length := by rw [List.length_append, List.length_replicate]; exact hk
              obtain ⟨g', cap', cur, hv', hcur, hcc, hlc, hcm⟩ := hM.row (by show 0 < (n.p.dat ++ List.replicate k (0 : Int)).length; rw [l2]; omega)
              have hv2 : (Value.slice (some ⟨g, 0, none⟩) (n.p.dat.length + k) cap) = .slice (some ⟨g', 0, none⟩) (n.p.dat ++ List.replicate k (0 : Int)).length cap' := hv'
              simp only [Value.slice.injEq, Option.some.injEq, Addr.mk.injEq, and_true] at hv2
              obtain ⟨rfl, -, rfl⟩ := hv2
              have HC := Lib.hid (fun (w' : World) q r => wr_copy (w' := w') (bt := bt) (o := o) t1 (nget_nset hg _) hv' hcur (by show o + bt.length ≤ (n.p.dat ++ List.replicate k (0 : Int)).length; rw [l2]; exact Nat.le_refl _) hOt q r)
              have HS := Lib.hid (hsrc _ (fun x hx => k1.block (h.xlt x hx) (fun c => c hx)))
              have HCur := Lib.hid hcur
              have hNN := Lib.hid (fun y z => nset_nset hg y z)
              have K1 := Lib.hid k1
              obtain ⟨p0, c0, hdv⟩ := OwnB.shape (show OwnB 0 w n.dv n.p.dat from hN.own)
              rw [hdv] at c4 hr
              have hlc' : o + bt.length ≤ cap := by rw [← hk]; simpa using hlc
              have hne : ¬ cap = o := by omega
              have hg1 : (n.p.dat.length : Int) < (o : Int) + (bt.length : Int) := by omega
              have hwk : IntKind.i64.wrap (k : Int) = (k : Int) := by rw [IntKind.wrap_i64]; omega
              have hk2 : (o : Int) + (bt.length : Int) - (n.p.dat.length : Int) = (k : Int) := by omega
              have hcm' : cap ≤ 9223372036854775807 := hcm
              have h8 : (cells8 bt).length = bt.length := cells8_len _
              rw [hk] at hr
              rw [hk] at k1 t1 HS HC HCur K1
              have c4' := hM.six.2.2.2.2.1
              have c4'' : (w2.setCell ⟨n.bk, 4, none⟩ (.slice (some ⟨g, 0, none⟩) (n.p.dat.length + k) cap)).cell? ⟨n.bk, 4, none⟩ = some (.slice (some ⟨g, 0, none⟩) (n.p.dat.length + k) cap) := c4'
              rw [hk] at hcur c4''
              clear c4'
              generalize n.p.dat.length = ln at *
              have hnz : nset (plL N) i { n.p with dat := splice (n.p.dat ++ List.replicate k 0) o bt } = plL (nset (nset N i { n with p := { n.p with dat := n.p.dat ++ List.replicate k 0 }, dv := .slice (some ⟨g, 0, none⟩) (o + bt.length) cap }) i { n with p := { n.p with dat := splice (n.p.dat ++ List.replicate k 0) o bt }, dv := .slice (some ⟨g, 0, none⟩) (o + bt.length) cap }) := by
                rw [hNN.out, nset_pl hHG.out]
              have HZ := Lib.hid hnz
              generalize hct : bt.length = cnt at *
              generalize b.length = bl at *
              clear hnz e1 hsrc hE h hg hfl hcells hbt hwB hcl hN hdv hb0 hO H0 hv' hM t1 k1 l2
              go_enter Tryd.func9, Tryd.ntmps9
              go_wp2_with fail
              refine c.mono ?_
              rintro e w1 ⟨rfl, rfl⟩
              go_wp2_with fail
              go_region_law (refine step_zeros rfl (.tmp 49) (.tmp 56) 23 3 rfl _ w2 (.slice p0 ln c0) (.int .i64 (k : Int)) rfl rfl hr ?_)
              all_goals (
                clear hr d4 f4
                generalize World.setCell _ _ _ = W3 at *
                go_wp2_with ((with_reducible refine at_slot 68 ?_); (refine wpList_copy_far rfl _ _ _ _ rfl 5 Tryd.underlying23 byte_size _ _ _ _ _ _ rfl rfl g o cur 5 HCur.out (cells8 bt) ?d2 ?d3 ?d4 cells8_one ?_))
                case d2 => rw [h8]; first | exact z4.symm | (rw [Nat.add_sub_cancel_left]; exact z4.symm)
                case d3 => first | exact fun _ => ⟨rfl, HS.out⟩ | exact fun _ => HS.out | exact HS.out
                case d4 => rw [h8, hcc]; omega
                intro w4 hg4 hf4
                go_wp2
                go_ret2
                obtain ⟨tg', t', k'⟩ := HC.out w4 hg4.out hf4
                exact HR.out w4 ⟨mb, _, tg', t', HZ.out.symm⟩ (K1.out.trans k'))
    · have c := file_err h hi hfl
      have HB := Lib.hid (WrP.bad H0 (wr_fl (b := b) h0 hfl) hfl)
      generalize flE (plL N) i = c3 at *
      clear hfl h H0 hcells
      go_enter Tryd.func9, Tryd.ntmps9
      go_wp2_with fail
      refine c.mono ?_
      rintro e w1 ⟨rfl, rfl⟩
      go_wp2
      go_ret2
      exact HB.out
end
end Go.Proofs.YtgoecdmnefjdnaaDoor
