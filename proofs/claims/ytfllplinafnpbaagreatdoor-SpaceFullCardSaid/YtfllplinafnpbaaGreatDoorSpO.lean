/- Spaces of pages in memory: one space whose frames are all taken, page by page. -/
import Derived.Test.YtfllplinafnpbaaGreatDoorSpQ
namespace Go.Proofs.YtfllplinafnpbaaGreatDoor
open Go.RowKit
set_option linter.unusedVariables false
set_option maxRecDepth 100000
section
variable {w w' : World} {n fb rb mb qb : Nat} {rs bs qs cs : List Int} {S T : List Sq}
/-- the first i pages have frames -/
structure Fu (w : World) (fb rb mb qb sb tb n i : Nat) (rs bs : List Int) : Prop where
  gm : GM w n fb rb mb qb rs bs [⟨sb, tb, 0, [⟨0, 60, 3⟩], true⟩]
  st : Pst n rs bs [⟨sb, tb, 0, [⟨0, 60, 3⟩], true⟩]
  pg : ∀ q, q < 4096 → (pf bs 0 q ≠ none ↔ q < i)
  up : nm bs 0 0 = 0 ↔ i = 0
  tk : (tk rs n).length = if i = 0 then 1 else 2 + i
  one : ∀ q f, q < 4096 → pf bs 0 q = some f → rs.getD f 0 = 1
theorem Fu.new {sb tb i : Nat} (h : Fu w fb rb mb qb sb tb n i rs bs) (k : New w w') : Fu w' fb rb mb qb sb tb n i rs bs := ⟨h.gm.new k, h.st, h.pg, h.up, h.tk, h.one⟩
theorem rpg_60 (q : Nat) (hq : q < 60) : rpg [⟨0, 60, 3⟩] (q : Int) = some 3 := by
  rw [rpg_one, if_pos]
  rw [inR_iff]; dsimp only; omega
theorem fu_write {sb tb i : Nat} (x : Int) (hx : 0 ≤ x ∧ x ≤ 255) (h : Fu w fb rb mb qb sb tb n i rs bs) (hi : i + 2 < n) (hn : n ≤ 22) :
    Calls Tryz.prog 15 #[.pointer (some ⟨sb, 0, none⟩), .int .u32 (256 * (i : Int)), .slice (some ⟨w.heap.size, 0, none⟩) 1 1, .bool false] (w.alloc (.cells #[.int .u8 x] 5)) fun e w' => e = .returned .nilIface ∧ ∃ qs cs, Fu w' fb rb mb qb sb tb n (i + 1) qs cs ∧ But (fun g => g = rb ∨ g = qb) (w.alloc (.cells #[.int .u8 x] 5)) w' := by
  have h2 := h.gm.new ((New.refl w).alloc #[.int .u8 x] 5)
  have e1 : 256 * i / 256 = i := by omega
  have ht := h.tk
  have hu := h.up
  have hpf : pf bs 0 i = none := by
    cases c : pf bs 0 i with
    | none => rfl
    | some f => have := (h.pg i (by omega)).1 (by rw [c]; simp); omega
  have X := write_fill h2 h.st (i := 0) (by simp) rfl (256 * i) (some ⟨w.heap.size, 0, none⟩) 1 [x] false (by omega) (fun y hy => by simp at hy; omega) (h.gm.byts x) (plc_iff.2 ⟨by omega, by simp, by simp⟩) (P := 3) (by rw [e1]; exact rpg_60 i (by omega)) (.inr rfl) (by rw [e1]; exact hpf) (by
    rw [e1]
    have e2 : i / 64 = 0 := by omega
    rw [e2]
    show (if nm bs 0 0 = 0 then 2 else 1) ≤ _
    by_cases c : i = 0
    · rw [if_pos (hu.2 c)]; rw [if_pos c] at ht; omega
    · rw [if_neg (fun y => c (hu.1 y))]; rw [if_neg c] at ht; omega)
  rw [e1, show ((256 * i : Nat) : Int) = 256 * (i : Int) from by omega] at X
  refine X.mono ?_
  rintro e w' ⟨rfl, g, qs, cs, g1, b1, s1, hg, hfr, E⟩
  have e2 : i / 64 = 0 := by omega
  have hpg : ∀ q, q < 4096 → pf cs 0 q = if q = i then some g else pf bs 0 q := fun q hq => by
    have := E.pg 0 (by simp) rfl q hq
    rw [show pf cs 0 q = pf cs ([⟨sb, tb, 0, [⟨0, 60, 3⟩], true⟩] : List Sq)[0].t q from rfl, this]
    by_cases c : q = i
    · rw [if_pos ⟨rfl, c⟩, if_pos c]
    · rw [if_neg (fun x => c x.2), if_neg c]; rfl
  refine ⟨rfl, qs, cs, ⟨g1, s1, fun q hq => ?_, ?_, ?_, fun q f hq hf => ?_⟩, b1⟩
  · rw [hpg q hq]
    by_cases c : q = i
    · rw [if_pos c]; simp; omega
    · rw [if_neg c, h.pg q hq]; omega
  · have := E.up 0 (by simp) rfl 0 (by omega)
    rw [e2] at this
    have t : nm cs 0 0 ≠ 0 := this.2 (.inr ⟨rfl, rfl, by simp⟩)
    exact ⟨fun x => absurd x t, fun x => by omega⟩
  · have t := E.tk
    rw [e2] at t
    have t2 : ((tk qs n).length : Int) = (tk rs n).length + (1 + b2 (nm bs 0 0 = 0)) := t
    rw [if_neg (by omega)]
    by_cases c : i = 0
    · rw [b2_yes (hu.2 c)] at t2; rw [if_pos c] at ht; omega
    · rw [b2_no (fun y => c (hu.1 y))] at t2; rw [if_neg c] at ht; omega
  · have hPF : PF cs [⟨sb, tb, 0, [⟨0, 60, 3⟩], true⟩] f := ⟨0, by simp, rfl, q, hq, hf⟩
    rw [E.rf f hPF]
    by_cases c : f = g
    · rw [if_pos c]
    · rw [if_neg c]
      rw [hpg q hq] at hf
      split at hf
      · exact absurd (Option.some.inj hf).symm c
      · exact h.one q f hq hf
theorem fu_isfull {sb tb i : Nat} (h : Fu w fb rb mb qb sb tb n i rs bs) (hi : i + 2 = n) (h3 : 3 ≤ n) : (tk rs n).length = n := by rw [h.tk, if_neg (by omega)]; omega
theorem fu_full {sb tb i : Nat} (h : Fu w fb rb mb qb sb tb n i rs bs) (hi : i + 2 = n) (h3 : 3 ≤ n) (hn : n ≤ 22) :
    Calls Tryz.prog 15 #[.pointer (some ⟨sb, 0, none⟩), .int .u32 (256 * (i : Int)), .slice (some ⟨w.heap.size, 0, none⟩) 1 1, .bool false] (w.alloc (.cells #[.int .u8 1] 5)) fun e w' => e = .returned (.iface 72 (.int .i64 12)) ∧ Fu w' fb rb mb qb sb tb n i rs bs ∧ But (fun g => g = rb ∨ g = qb) (w.alloc (.cells #[.int .u8 1] 5)) w' := by
  have h2 := h.gm.new ((New.refl w).alloc #[.int .u8 1] 5)
  have e1 : 256 * i / 256 = i := by omega
  have hf := fu_isfull h hi h3
  have hpf : pf bs 0 i = none := by
    cases c : pf bs 0 i with
    | none => rfl
    | some f => have := (h.pg i (by omega)).1 (by rw [c]; simp); omega
  have X := write_err h2 h.st (i := 0) (by simp) rfl (256 * i) (some ⟨w.heap.size, 0, none⟩) 1 [1] false (by omega) (by unfold maxLen; simp) (fun y hy => by simp at hy; omega) (h.gm.byts 1) 12 (by decide) (by
    unfold wrE
    rw [if_pos (plc_iff.2 ⟨by omega, by simp, by simp⟩)]
    refine rchE_full (P := 3) (by rw [e1]; exact rpg_60 i (by omega)) (.inr rfl) ?_ (by omega)
    rw [e1, pgI_in _ _ _ (by omega)]
    exact pf_none.1 hpf)
  rw [show ((256 * i : Nat) : Int) = 256 * (i : Int) from by omega] at X
  exact X.mono fun e w' ⟨x1, x2, x3⟩ => ⟨x1, ⟨x2, h.st, h.pg, h.up, h.tk, h.one⟩, x3⟩
theorem fu_fork {sb tb i : Nat} (h : Fu w fb rb mb qb sb tb n i rs bs) (hi : i + 2 = n) (h3 : 3 ≤ n) :
    Calls Tryz.prog 9 #[.pointer (some ⟨sb, 0, none⟩)] w fun e w' => e = .returned (.tuple #[.pointer none, .iface 72 (.int .i64 12)]) ∧ New w w' := by
  have hf := fu_isfull h hi h3
  refine (Fork_st h.gm h.st (i := 0) (by simp) rfl (by simp)).mono ?_
  intro e w' hx
  have hb := tbs_bd (pgs (pgn bs ([⟨sb, tb, 0, [⟨0, 60, 3⟩], true⟩] : List Sq)[0].t) 4096) fun x hx => by
    obtain ⟨p, h1, h2, _⟩ := pgs_mem.1 hx
    omega
  rcases hx with ⟨_, x⟩ | ⟨x, _⟩
  · exact x
  · omega
theorem pgs_count (g : Nat → Int) (i : Nat) (H : ∀ q, q < 4096 → (g q ≠ 0 ↔ q < i)) : ∀ m, m ≤ 4096 → (pgs g m).length = min m i
  | 0, _ => by simp [pgs]
  | m + 1, hm => by
    have ih := pgs_count g i H m (by omega)
    have e := H m (by omega)
    by_cases c : g m = 0
    · rw [pgs_skip c, ih]
      have : ¬ m < i := fun x => (e.2 x) c
      omega
    · rw [pgs_push c, List.length_append, ih]
      have := e.1 c
      simp; omega
theorem fu_pages {sb tb i : Nat} (h : Fu w fb rb mb qb sb tb n i rs bs) (hi : i ≤ 4096) : Calls Tryz.prog 17 #[.pointer (some ⟨sb, 0, none⟩)] w (LenN i w) := by
  refine (Pages_any h.gm (i := 0) (by simp) rfl (h.st.pur.good 0 (by simp) rfl)).mono ?_
  rintro e w' ⟨v, rfl, o, n1⟩
  obtain ⟨p, cap, rfl⟩ := o.ints.len
  have : (pgs (pgn bs ([⟨sb, tb, 0, [⟨0, 60, 3⟩], true⟩] : List Sq)[0].t) 4096).length = i := by
    have := pgs_count (pgn bs 0) i (fun q hq => by rw [← h.pg q hq, ne_eq, ne_eq, pf_none]) 4096 (Nat.le_refl _)
    rw [Nat.min_eq_right hi] at this
    exact this
  rw [this]
  exact ⟨p, cap, rfl, n1⟩
/-- one page is not there any more -/
structure Fv (w : World) (fb rb mb qb sb tb n i : Nat) (L : List Rg) (rs bs : List Int) : Prop where
  gm : GM w n fb rb mb qb rs bs [⟨sb, tb, 0, L, true⟩]
  st : Pst n rs bs [⟨sb, tb, 0, L, true⟩]
  L3 : rpg L (i : Int) = some 3
  pg : pf bs 0 i = none
  up : nm bs 0 0 ≠ 0
  tk : (tk rs n).length = n - 1
theorem Fv.new {sb tb i : Nat} {L : List Rg} (h : Fv w fb rb mb qb sb tb n i L rs bs) (k : New w w') : Fv w' fb rb mb qb sb tb n i L rs bs := ⟨h.gm.new k, h.st, h.L3, h.pg, h.up, h.tk⟩
theorem fu_unmap {sb tb i : Nat} (m : Nat) (h : Fu w fb rb mb qb sb tb n i rs bs) (hi : i + 2 = n) (h3 : 3 ≤ n) (hn : n ≤ 22) (hm : m < i) :
    Calls Tryz.prog 13 #[.pointer (some ⟨sb, 0, none⟩), .int .i64 m, .int .i64 ((m : Int) + 1)] w fun e w' => e = .returned .nilIface ∧ ∃ L qs cs, Fv w' fb rb mb qb sb tb n i L qs cs ∧ But (fun g => (g = rb ∨ g = qb) ∨ g = sb) w w' := by
  have hf := fu_isfull h hi h3
  have hok : ROk [⟨0, 60, 3⟩] := (h.st.ok 0 (by simp) rfl).ok
  have e0 : ctE [⟨0, 60, 3⟩] (m : Int) ((m : Int) + 1) = 0 := by
    unfold ctE
    rw [if_pos ⟨rokb_iff.2 hok, okP_iff.2 ⟨by omega, by omega, by omega⟩⟩]
  obtain ⟨a1, a2, _⟩ := ctL_ok hok e0
  obtain ⟨f, hpf⟩ : ∃ f, pf bs 0 m = some f := Option.ne_none_iff_exists'.1 ((h.pg m (by omega)).2 hm)
  have hflt : (pgs (pgn bs 0) 4096).filter (fun p => !outR (m : Int) ((m : Int) + 1) p) = [(m : Int)] := by
    have : (pgs (pgn bs 0) 4096).filter (fun p => !outR (m : Int) ((m : Int) + 1) p) = pgs (fun q => if q = m then 1 else 0) 4096 := by
      have key : ∀ j, j ≤ 4096 → (pgs (pgn bs 0) j).filter (fun p => !outR (m : Int) ((m : Int) + 1) p) = pgs (fun q => if q = m then 1 else 0) j := fun j => by
        induction j with
        | zero => intro _; rfl
        | succ j ih =>
          intro hj
          by_cases c : j = m
          · subst c
            have hz : pgn bs 0 j ≠ 0 := (pf_some.1 hpf).1
            rw [pgs_push hz, pgs_push (by rw [if_pos rfl]; decide), List.filter_append, ih (by omega)]
            congr 1
            unfold outR; simp; omega
          · rw [pgs_skip (f := fun q => if q = m then (1 : Int) else 0) (by rw [if_neg c])]
            by_cases d : pgn bs 0 j = 0
            · rw [pgs_skip d]; exact ih (by omega)
            · rw [pgs_push d, List.filter_append, ih (by omega)]
              have : [(j : Int)].filter (fun p => !outR (m : Int) ((m : Int) + 1) p) = [] := by
                unfold outR; simp; omega
              rw [this, List.append_nil]
      exact key 4096 (Nat.le_refl _)
    rw [this]
    exact pgs_single m (by omega) _ fun q hq => by by_cases c : q = m <;> simp [c]
  refine (Unmap_st h.gm h.st (i := 0) (by simp) rfl (m : Int) ((m : Int) + 1)).mono ?_
  rintro e w' ⟨rfl, qs, cs, T, g1, b1, s1, hx⟩
  have e0' : ctE ([⟨sb, tb, 0, [⟨0, 60, 3⟩], true⟩] : List Sq)[0].L (m : Int) ((m : Int) + 1) = 0 := e0
  obtain ⟨_, rfl, hd, s2⟩ := hx.resolve_left fun y => y.1 e0'
  have hd' : DrpC 0 [(m : Int)] rs bs qs cs := by rw [← hflt]; exact hd
  -- one page dropped
  have one : ∃ f2, pf bs 0 m = some f2 ∧ qs = rs.set f2 (rs.getD f2 0 - 1) ∧ cs = pt bs (lof bs 0 (m / 64)) (m % 64) 0 := by
    generalize hL : [(m : Int)] = L0 at hd'
    cases hd' with
    | nil => cases hL
    | snoc p f2 h1 h2 h3 =>
      rename_i l0 r0 b0
      have hl0 : l0 = [] ∧ p = m := by
        cases l0 with
        | nil => simp at hL; exact ⟨rfl, by omega⟩
        | cons a l0 => simp at hL
      obtain ⟨rfl, rfl⟩ := hl0
      generalize hN : ([] : List Int) = N0 at h1
      cases h1 with
      | nil => exact ⟨f2, h3, rfl, rfl⟩
      | snoc p f h1 h2 h3 => simp at hN
  obtain ⟨f2, hf2, rfl, rfl⟩ := one
  rw [hpf] at hf2
  obtain rfl := Option.some.inj hf2
  have hdr := (h.st.drop (i := 0) (by simp) rfl (p := m) (f := f) (by omega) hpf).2
  have h1 := h.one m f (by omega) hpf
  refine ⟨by rw [e0']; rfl, _, _, _, ⟨g1, s1, ?_, ?_, ?_, ?_⟩, b1⟩
  · show rpg (ctL [⟨0, 60, 3⟩] (m : Int) ((m : Int) + 1)) (i : Int) = some 3
    rw [a2, if_neg (by omega)]
    exact rpg_60 i (by omega)
  · have := hdr.pg 0 (by simp) rfl i (by omega)
    have e2 : pf (pt bs (lof bs 0 (m / 64)) (m % 64) 0) 0 i = pf bs 0 i := by
      refine this.trans ?_
      rw [if_neg (by omega)]; rfl
    rw [e2]
    cases c : pf bs 0 i with
    | none => rfl
    | some f => have := (h.pg i (by omega)).1 (by rw [c]; simp); omega
  · have := hdr.up 0 (by simp) rfl 0 (by omega)
    refine this.2 (.inl ?_)
    exact fun x => by have := h.up.1 x; omega
  · have := hdr.tk
    rw [b2_yes h1, hf] at this
    have t2 : ((tk (rs.set f (rs.getD f 0 - 1)) n).length : Int) = n + -1 := this
    omega
theorem fv_write {sb tb i : Nat} {L : List Rg} (h : Fv w fb rb mb qb sb tb n i L rs bs) (hi : i + 2 = n) (h3 : 3 ≤ n) (hn : n ≤ 22) :
    Calls Tryz.prog 15 #[.pointer (some ⟨sb, 0, none⟩), .int .u32 (256 * (i : Int)), .slice (some ⟨w.heap.size, 0, none⟩) 1 1, .bool false] (w.alloc (.cells #[.int .u8 1] 5)) fun e w' => e = .returned .nilIface ∧ ∃ qs cs, GM w' n fb rb mb qb qs cs [⟨sb, tb, 0, L, true⟩] ∧ Pst n qs cs [⟨sb, tb, 0, L, true⟩] ∧ But (fun g => g = rb ∨ g = qb) (w.alloc (.cells #[.int .u8 1] 5)) w' := by
  have h2 := h.gm.new ((New.refl w).alloc #[.int .u8 1] 5)
  have e1 : 256 * i / 256 = i := by omega
  have ht := h.tk
  have X := write_fill h2 h.st (i := 0) (by simp) rfl (256 * i) (some ⟨w.heap.size, 0, none⟩) 1 [1] false (by omega) (fun y hy => by simp at hy; omega) (h.gm.byts 1) (plc_iff.2 ⟨by omega, by simp, by simp⟩) (P := 3) (by rw [e1]; exact h.L3) (.inr rfl) (by rw [e1]; exact h.pg) (by
    rw [e1]
    have e2 : i / 64 = 0 := by omega
    rw [e2]
    show (if nm bs 0 0 = 0 then 2 else 1) ≤ _
    rw [if_neg h.up]; omega)
  rw [show ((256 * i : Nat) : Int) = 256 * (i : Int) from by omega] at X
  exact X.mono fun e w' ⟨x1, g, qs, cs, g1, b1, s1, _⟩ => ⟨x1, qs, cs, g1, s1, b1⟩
/-- where all spaces are gone no frame is taken -/
theorem Pst.none_taken (h : Pst n rs bs S) (hoff : ∀ i (hi : i < S.length), S[i].on = false) : (tk rs n).length = 0 := by
  have hz : ∀ f, f < n → rs.getD f 0 = 0 := fun f hf => by
    rw [h.pur.cnt f hf]
    have : cntS bs S f = 0 := suml_zero fun i hi => by unfold sq; rw [hoff i hi]; rfl
    rw [this]; rfl
  rw [tk_congr (qs := List.replicate n 0) n fun j hj => by rw [hz j hj, zeros_get], tk_zeros]; rfl
theorem one_free {sb tb t : Nat} {L : List Rg} (h : GM w n fb rb mb qb rs bs [⟨sb, tb, t, L, true⟩]) (st : Pst n rs bs [⟨sb, tb, t, L, true⟩]) :
    Calls Tryz.prog 10 #[.pointer (some ⟨sb, 0, none⟩)] w fun e w' => e = .returned (.tuple #[]) ∧ ∃ qs cs S, GM w' n fb rb mb qb qs cs S ∧ (tk qs n).length = 0 ∧ But (fun g => ((g = rb ∨ g = qb) ∨ g = tb) ∨ g = sb) w w' := by
  refine (Free_st h st (i := 0) (by simp) rfl).mono ?_
  rintro e w' ⟨rfl, qs, cs, ps, g1, b1, s1, _⟩
  refine ⟨rfl, ps, cs, _, g1, s1.none_taken fun i hi => ?_, b1⟩
  have : i = 0 := by simp at hi; omega
  subst this
  rfl
end
end Go.Proofs.YtfllplinafnpbaaGreatDoor
