/- Holding and letting go; a node that nobody can reach is removed. -/
import Derived.Test.YtgoecdmnefjdnaaDoorInC
namespace Go.Proofs.YtgoecdmnefjdnaaDoor
open Go.RowKit
open Go.Maps (Keyed)
set_option linter.unusedVariables false
set_option maxRecDepth 100000
/-- what a call leaves of a tree -/
def DidI (X : Nat → Prop) (tb : Nat) (most : Int) (L' : Pt) (c : Value) (w : World) (e : Ending) (w' : World) : Prop := e = .returned c ∧ Tr X w' tb most L' ∧ But (fun g => ¬ X g) w w'
section
variable {X : Nat → Prop} {w w' : World} {tb mb : Nat} {most : Int} {N N1 N2 : List (Int × Nd)} {tg : Nat → Option (Int × Nat)} {i : Int} {n : Nd}
theorem NdM.dne (h : NdM w n) {g : Nat} (hg : n.dv.ownBlock = some g) : g ≠ n.bk := by
  rcases h.own.2 with ⟨e, -⟩ | ⟨g', cap, cur, e, -, hb, -⟩
  · rw [e] at hg; cases hg
  · rw [e] at hg
    cases hg
    rintro e2
    have := h.box
    unfold Box at this
    rw [← e2] at this
    rw [this] at hb
    simp at hb
theorem NdM.nne (h : NdM w n) (hf : n.p.fd = true) : n.nb ≠ n.bk := fun e => (h.mp hf).notCells h.box e.symm
/-- the rest of a node, when one of its cells is stored to -/
theorem NdM.rest (h : NdM w n) (j : Nat) (v : Value) : (w.setCell ⟨n.bk, j, none⟩ v).ownsRow 0 5 1 n.dv n.p.dat.length (cells8 n.p.dat) ∧ (n.p.fd = true → Mp Tryd.prog 9 (w.setCell ⟨n.bk, j, none⟩ v) n.nb (nmE n.p.nms)) ∧ But (fun g => g = n.bk) w (w.setCell ⟨n.bk, j, none⟩ v) := by
  have k : But (fun g => g = n.bk) w (w.setCell ⟨n.bk, j, none⟩ v) := But.set (S := fun g => g = n.bk) w (p := ⟨n.bk, j, none⟩) rfl v
  exact ⟨own_but h.own k fun g hg => h.dne hg, fun hf => (h.mp hf).but k (h.nne hf), k⟩
theorem NdM.setHol (h : NdM w n) (v : Int) (hv : 0 ≤ v ∧ v ≤ 1073741824) : NdM (w.setCell ⟨n.bk, 3, none⟩ (.int .i64 v)) { n with p := { n.p with hol := v } } :=
  ⟨h.box.set 3 _, (h.rest 3 _).1, h.oct, h.len, (h.rest 3 _).2.1, h.fil, hv, h.wfp, h.wfn⟩
theorem NdM.setNam (h : NdM w n) (b : Bool) : NdM (w.setCell ⟨n.bk, 2, none⟩ (.bool b)) { n with p := { n.p with nam := b } } :=
  ⟨h.box.set 2 _, (h.rest 2 _).1, h.oct, h.len, (h.rest 2 _).2.1, h.fil, h.hol, h.wfp, h.wfn⟩
theorem TrM.not_aside (h : TrM X w tb mb most N tg) {g : Nat} {c : Int × Nat} (hg : tg g = some c) : ¬ X g := fun e => by rw [h.aside g e] at hg; cases hg
theorem plL_split (A B : List (Int × Nd)) (q : Int × Nd) : plL (A ++ q :: B) = plL A ++ (q.1, q.2.p) :: plL B := by simp [plL]
theorem plL_join (A B : List (Int × Nd)) : plL (A ++ B) = plL A ++ plL B := by simp [plL]
theorem nset_pl (hg : nget N i = some n) (m : Nd) : plL (nset N i m) = nset (plL N) i m.p := by
  obtain ⟨A, B, rfl, h2, h3, -⟩ := nget_some hg
  rw [h3, plL_split, plL_split]
  have h4 : ∀ q ∈ plL A, q.1 ≠ i := by intro q hq; obtain ⟨x, hx, rfl⟩ := List.mem_map.1 hq; exact h2 x hx
  clear hg h3 h2
  generalize plL A = C at *
  induction C with
  | nil => simp [nset]
  | cons q r ih =>
    have hq := h4 q List.mem_cons_self
    simp only [List.cons_append, nset, if_neg hq]
    rw [ih fun x hx => h4 x (List.mem_cons_of_mem _ hx)]
theorem ndel_pl (hg : nget N i = some n) : plL (ndel N i) = ndel (plL N) i := by
  obtain ⟨A, B, rfl, h2, -, h4⟩ := nget_some hg
  rw [h4, plL_split, plL_join]
  have h5 : ∀ q ∈ plL A, q.1 ≠ i := by intro q hq; obtain ⟨x, hx, rfl⟩ := List.mem_map.1 hq; exact h2 x hx
  clear hg h4 h2
  generalize plL A = C at *
  induction C with
  | nil => simp [ndel]
  | cons q r ih =>
    have hq := h5 q List.mem_cons_self
    simp only [List.cons_append, ndel, if_neg hq]
    rw [ih fun x hx => h5 x (List.mem_cons_of_mem _ hx)]
/-- the tree behind a change of one node -/
theorem TrM.put {S : Nat → Prop} {n' : Nd} (h : TrM X w tb mb most N tg) (hg : nget N i = some n) (k : But S w w') (hS : ∀ g, S g → ∃ c, tg g = some (i, c)) (hn : NdM w' n') (hbk : n'.bk = n.bk) (hfd : n'.p.fd = n.p.fd) (hnb : n'.nb = n.nb)
    (hdv : ∀ g, n'.dv.ownBlock = some g → n.dv.ownBlock = some g ∨ w.heap.size ≤ g) : ∃ tg', TrM X w' tb mb most (nset N i n') tg' := by
  obtain ⟨A, B, rfl, h2, h3, -⟩ := nget_some hg
  rw [h3]
  exact h.step k hS hn hbk hfd hnb hdv
theorem nget_nset {α : Type} {L : List (Int × α)} {i : Int} {x : α} (hg : nget L i = some x) (y : α) : nget (nset L i y) i = some y := by
  obtain ⟨A, B, rfl, h2, h3, -⟩ := nget_some hg
  rw [h3, nget_append i A _ h2, nget_cons, if_pos rfl]
theorem tidy_m (h : TrM X w tb mb most N tg) (hi : Ok64 i) (hg : nget N i = some n) : Calls Tryd.prog 28 #[.pointer (some ⟨tb, 0, none⟩), .int .i64 i, .pointer (some ⟨n.bk, 0, none⟩)] w (DidI X tb most (tidyL (plL N) i n.p) (.tuple #[]) w) := by
  obtain ⟨b0, b1⟩ := h.box.two
  have hN := node_cell h hg
  obtain ⟨-, -, c2, c3, -, -⟩ := hN.six
  have stay : ∀ W, W = w → tidyL (plL N) i n.p = plL N → DidI X tb most (tidyL (plL N) i n.p) (.tuple #[]) w (.returned (.tuple #[])) W := by
    rintro W rfl e
    rw [e]
    exact ⟨rfl, ⟨mb, N, tg, h, rfl⟩, But.refl _ _⟩
  cases hn : n.p.nam with
  | true =>
    rw [hn] at c2
    have HS := Lib.hid (stay w rfl (by unfold tidyL; rw [if_neg]; rw [hn]; simp))
    clear stay
    go_enter Tryd.func28, Tryd.ntmps28
    go_wp2
    go_end0
    exact HS.out
  | false =>
    rw [hn] at c2
    by_cases h0 : n.p.hol = 0
    · obtain ⟨A, B, rfl, h2, -, h4⟩ := nget_some hg
      have hm : Mp Tryd.prog 3 w mb (ndE A ++ (.int .i64 i, .pointer (some ⟨n.bk, 0, none⟩)) :: ndE B) := by have := h.mp; simpa [ndE] using this
      have e1 : tidyL (plL (A ++ (i, n) :: B)) i n.p = plL (A ++ B) := by
        unfold tidyL
        rw [if_pos ⟨hn, h0⟩, ← ndel_pl hg, h4]
      rw [e1]
      rw [h0] at c3
      have HH := Lib.hid h
      clear stay hg h4 h h2 hn h0 e1
      go_enter Tryd.func28, Tryd.ntmps28
      go_wp2_with (at_delete; refine wpList_drop_hit _ rfl _ _ 53 3 rfl 51 keyI Tryd.underlying53 mb (ndE A) (ndE B) _ _ rfl hm (.int .i64 i) rfl (Maps.keyOf_int_mk Tryd.underlying3 hi) ?_; intro w1 m1 k1)
      go_end0
      refine ⟨rfl, ⟨mb, A ++ B, tg, HH.out.del (k1 _ rfl) (by simpa [ndE] using m1), rfl⟩, k1 _ (HH.out.not_aside HH.out.tmb)⟩
    · have HS := Lib.hid (stay w rfl (by unfold tidyL; rw [if_neg]; exact fun c => h0 c.2))
      clear stay
      go_enter Tryd.func28, Tryd.ntmps28
      go_wp2
      go_end0
      exact HS.out
theorem DidI.same {L : Pt} {c : Value} {L' : Pt} (h : Tr X w tb most L) (e : L' = L) : DidI X tb most L' c w (.returned c) w := ⟨rfl, by rw [e]; exact h, But.refl _ _⟩
theorem kdE_some {L : Pt} {p : Pn} (hg : nget L i = some p) : kdE L i = 0 := by unfold kdE; rw [hg]; rfl
theorem kdE_none {L : Pt} (hg : nget L i = none) : kdE L i = 2 := by unfold kdE; rw [hg]; rfl
theorem nat_some {L : Pt} {p : Pn} (hg : nget L i = some p) : nat L i = p := by unfold nat; rw [hg]; rfl
def hoR (L : Pt) (i : Int) : Pt := if hoE L i = 0 then hoL L i else L
def drR (L : Pt) (i : Int) : Pt := if drE L i = 0 then drL L i else L
theorem hold_any {L : Pt} (h : Tr X w tb most L) (hi : Ok64 i) : Calls Tryd.prog 10 #[.pointer (some ⟨tb, 0, none⟩), .int .i64 i] w (DidI X tb most (hoR L i) (erN (hoE L i)) w) := by
  have H0 := h
  obtain ⟨mb, N, tg, h, rfl⟩ := h
  cases hg : nget N i with
  | none =>
    have c := node_miss h hi hg
    have e1 : hoE (plL N) i = 2 := by unfold hoE; rw [kdE_none (pl_none hg), if_pos (by decide)]
    have e2 : hoR (plL N) i = plL N := by unfold hoR; rw [e1, if_neg (by decide)]
    have HS := Lib.hid (DidI.same (c := erN (hoE (plL N) i)) H0 e2)
    have e3 : erN (hoE (plL N) i) = .iface 50 (.int .i64 2) := by rw [e1]; rfl
    rw [e3] at HS ⊢
    go_enter Tryd.func10, Tryd.ntmps10
    go_wp2_with fail
    refine c.mono ?_
    rintro e w' ⟨rfl, rfl⟩
    go_wp2
    go_ret
    exact HS.out
  | some n =>
    have c := node_hit h hi hg
    have hN := node_cell h hg
    obtain ⟨-, -, -, c3, -, -⟩ := hN.six
    have hp := pl_some hg
    by_cases h0 : n.p.hol = 1073741824
    · have e1 : hoE (plL N) i = 22 := by unfold hoE; rw [kdE_some hp, if_neg (by decide), nat_some hp, if_pos h0]
      have e2 : hoR (plL N) i = plL N := by unfold hoR; rw [e1, if_neg (by decide)]
      have HS := Lib.hid (DidI.same (c := erN (hoE (plL N) i)) H0 e2)
      have e3 : erN (hoE (plL N) i) = .iface 50 (.int .i64 22) := by rw [e1]; rfl
      rw [e3] at HS ⊢
      rw [h0] at c3
      clear h0
      go_enter Tryd.func10, Tryd.ntmps10
      go_wp2_with fail
      refine c.mono ?_
      rintro e w' ⟨rfl, rfl⟩
      go_wp2
      go_ret
      exact HS.out
    · have e1 : hoE (plL N) i = 0 := by unfold hoE; rw [kdE_some hp, if_neg (by decide), nat_some hp, if_neg h0]
      have hb := hN.hol
      have S1 := Lib.hid (hN.setHol (n.p.hol + 1) (by omega))
      have f3 := hN.free 3
      have e3 : erN (hoE (plL N) i) = .nilIface := by rw [e1]; rfl
      have HE := Lib.hid (show hoR (plL N) i = plL (nset N i { n with p := { n.p with hol := n.p.hol + 1 } }) by rw [nset_pl hg]; unfold hoR hoL; rw [e1, if_pos rfl, nat_some hp])
      have HH := Lib.hid h
      have HG := Lib.hid hg
      have h1 : -9223372036854775808 ≤ n.p.hol + 1 := by omega
      have h2 : n.p.hol + 1 ≤ 9223372036854775807 := by omega
      rw [e3]
      clear hg hp H0 h e1 e3 hN
      go_enter Tryd.func10, Tryd.ntmps10
      go_wp2_with fail
      refine c.mono ?_
      rintro e w' ⟨rfl, rfl⟩
      go_wp2
      go_ret
      obtain ⟨tg', t1⟩ := HH.out.put HG.out (But.set (S := fun g => g = n.bk) w' (p := ⟨n.bk, 3, none⟩) rfl _) (fun g hg => ⟨0, by rw [hg]; exact HH.out.tbk _ (nget_mem HG.out)⟩) S1.out rfl rfl rfl (fun g hg => .inl hg)
      refine ⟨rfl, ⟨mb, _, tg', t1, HE.out.symm⟩, But.set (S := fun g => ¬ X g) w' (p := ⟨n.bk, 3, none⟩) (HH.out.not_aside (HH.out.tbk _ (nget_mem HG.out))) _⟩
theorem drop_any {L : Pt} (h : Tr X w tb most L) (hi : Ok64 i) : Calls Tryd.prog 12 #[.pointer (some ⟨tb, 0, none⟩), .int .i64 i] w (DidI X tb most (drR L i) (erN (drE L i)) w) := by
  have H0 := h
  obtain ⟨mb, N, tg, h, rfl⟩ := h
  cases hg : nget N i with
  | none =>
    have c := node_miss h hi hg
    have e1 : drE (plL N) i = 2 := by unfold drE; rw [kdE_none (pl_none hg), if_pos (by decide)]
    have e2 : drR (plL N) i = plL N := by unfold drR; rw [e1, if_neg (by decide)]
    have HS := Lib.hid (DidI.same (c := erN (drE (plL N) i)) H0 e2)
    have e3 : erN (drE (plL N) i) = .iface 50 (.int .i64 2) := by rw [e1]; rfl
    rw [e3] at HS ⊢
    go_enter Tryd.func12, Tryd.ntmps12
    go_wp2_with fail
    refine c.mono ?_
    rintro e w' ⟨rfl, rfl⟩
    go_wp2
    go_ret
    exact HS.out
  | some n =>
    have c := node_hit h hi hg
    have hN := node_cell h hg
    obtain ⟨-, -, -, c3, -, -⟩ := hN.six
    have hp := pl_some hg
    by_cases h0 : n.p.hol = 0
    · have e1 : drE (plL N) i = 22 := by unfold drE; rw [kdE_some hp, if_neg (by decide), nat_some hp, if_pos h0]
      have e2 : drR (plL N) i = plL N := by unfold drR; rw [e1, if_neg (by decide)]
      have HS := Lib.hid (DidI.same (c := erN (drE (plL N) i)) H0 e2)
      have e3 : erN (drE (plL N) i) = .iface 50 (.int .i64 22) := by rw [e1]; rfl
      rw [e3] at HS ⊢
      rw [h0] at c3
      clear h0
      go_enter Tryd.func12, Tryd.ntmps12
      go_wp2_with fail
      refine c.mono ?_
      rintro e w' ⟨rfl, rfl⟩
      go_wp2
      go_ret
      exact HS.out
    · have e1 : drE (plL N) i = 0 := by unfold drE; rw [kdE_some hp, if_neg (by decide), nat_some hp, if_neg h0]
      have hb := hN.hol
      have S1 := Lib.hid (hN.setHol (n.p.hol - 1) (by omega))
      have f3 := hN.free 3
      have e3 : erN (drE (plL N) i) = .nilIface := by rw [e1]; rfl
      have G2 := nget_nset hg { n with p := { n.p with hol := n.p.hol - 1 } }
      have HE := Lib.hid (show drR (plL N) i = tidyL (plL (nset N i { n with p := { n.p with hol := n.p.hol - 1 } })) i { n.p with hol := n.p.hol - 1 } by
        rw [nset_pl hg]; unfold drR drL drA; rw [e1, if_pos rfl, nat_some hp, nat_some (nget_nset hp _)])
      have HH := Lib.hid h
      have HG := Lib.hid hg
      have HG2 := Lib.hid G2
      have h1 : -9223372036854775808 ≤ n.p.hol - 1 := by omega
      have h2 : n.p.hol - 1 ≤ 9223372036854775807 := by omega
      rw [e3]
      clear hg hp H0 h e1 e3 hN G2
      go_enter Tryd.func12, Tryd.ntmps12
      go_wp2_with fail
      refine c.mono ?_
      rintro e w' ⟨rfl, rfl⟩
      go_wp2_with fail
      obtain ⟨tg', t1⟩ := HH.out.put HG.out (But.set (S := fun g => g = n.bk) w' (p := ⟨n.bk, 3, none⟩) rfl _) (fun g hg => ⟨0, by rw [hg]; exact HH.out.tbk _ (nget_mem HG.out)⟩) S1.out rfl rfl rfl (fun g hg => .inl hg)
      have k1 := But.set (S := fun g => ¬ X g) w' (p := ⟨n.bk, 3, none⟩) (HH.out.not_aside (HH.out.tbk _ (nget_mem HG.out))) (.int .i64 (n.p.hol - 1))
      refine (tidy_m t1 hi HG2.out).mono ?_
      rintro e w2 ⟨rfl, t2, k2⟩
      go_wp2
      go_ret
      exact ⟨rfl, by rw [HE.out]; exact t2, k1.trans k2⟩
end
end Go.Proofs.YtgoecdmnefjdnaaDoor
