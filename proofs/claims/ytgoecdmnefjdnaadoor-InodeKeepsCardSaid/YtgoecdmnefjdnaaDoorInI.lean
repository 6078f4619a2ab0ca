/- What is done to a tree beside one file leaves that file as it is. -/
import Derived.Test.YtgoecdmnefjdnaaDoorInG
namespace Go.Proofs.YtgoecdmnefjdnaaDoor
open Go.RowKit
set_option linter.unusedVariables false
theorem nget_ndel {L : Pt} {i j : Int} (hne : j ≠ i) : nget (ndel L i) j = nget L j := by
  cases hg : nget L i with
  | none =>
    have : ndel L i = L := by
      have h := nget_none hg
      clear hg
      induction L with
      | nil => rfl
      | cons q r ih =>
        have hq := h q List.mem_cons_self
        unfold ndel
        rw [if_neg hq, ih fun x hx => h x (List.mem_cons_of_mem _ hx)]
    rw [this]
  | some x =>
    obtain ⟨A, B, rfl, h2, -, h4⟩ := nget_some hg
    rw [h4]
    exact (nget_skip A B (i, x) j (fun e => hne e.symm)).symm
theorem nget_gone {L : Pt} {i : Int} (hd : L.Pairwise fun x y => x.1 ≠ y.1) : nget (ndel L i) i = none := by
  cases hg : nget L i with
  | none =>
    have h := nget_none hg
    have : ndel L i = L := by
      clear hg hd
      induction L with
      | nil => rfl
      | cons q r ih =>
        have hq := h q List.mem_cons_self
        unfold ndel
        rw [if_neg hq, ih fun x hx => h x (List.mem_cons_of_mem _ hx)]
    rw [this, hg]
  | some x =>
    obtain ⟨A, B, rfl, h2, -, h4⟩ := nget_some hg
    rw [h4]
    cases hh : nget (A ++ B) i with
    | none => rfl
    | some y =>
      exfalso
      have hm := nget_mem hh
      rw [List.pairwise_append, List.pairwise_cons] at hd
      rcases List.mem_append.1 hm with h | h
      · exact h2 _ h rfl
      · exact hd.2.1.1 _ h rfl
theorem Tr.apart {X : Nat → Prop} {w : World} {tb : Nat} {most : Int} {L : Pt} (h : Tr X w tb most L) : L.Pairwise fun x y => x.1 ≠ y.1 := by
  obtain ⟨mb, N, tg, h, rfl⟩ := h
  unfold plL
  rw [List.pairwise_map]
  exact h.apart
theorem Tr.few {X : Nat → Prop} {w : World} {tb : Nat} {most : Int} {L : Pt} (h : Tr X w tb most L) : (L.length : Int) ≤ most := by
  obtain ⟨mb, N, tg, h, rfl⟩ := h
  rw [plL_len]; exact h.few
def zz : List UInt8 := [122, 122]
/-- the file that is held -/
def kN (gone : Bool) (b : List Int) : Pn := ⟨false, 1, !gone, 1, b, []⟩
structure Inv (c : Nat) (gone : Bool) (b : List Int) (L : Pt) : Prop where
  two : nget L 2 = some (kN gone b)
  lead : ∀ d p s j, nget L d = some p → (s, j) ∈ p.nms → ∃ q, nget L j = some q ∧ q.nam = true
  one : ∀ d p s d' p' s' j, nget L d = some p → nget L d' = some p' → (s, j) ∈ p.nms → (s', j) ∈ p'.nms → d = d' ∧ s = s'
  dis : ∀ d p, nget L d = some p → p.nms.Pairwise fun x y => x.1 ≠ y.1
  zzz : ∀ d p s, nget L d = some p → (s, (2 : Int)) ∈ p.nms → s = zz
  cnt : ∀ d p, nget L d = some p → p.nms.length ≤ c
section
variable {c : Nat} {gone : Bool} {b : List Int} {L : Pt} {i : Int}
theorem Inv.more (h : Inv c gone b L) : Inv (c + 1) gone b L := ⟨h.two, h.lead, h.one, h.dis, h.zzz, fun d p hd => Nat.le_succ_of_le (h.cnt d p hd)⟩
/-- how a tree looks when one node is another -/
theorem nget_put {x y : Pn} (hi : nget L i = some x) (d : Int) : nget (nset L i y) d = if d = i then some y else nget L d := by
  by_cases e : d = i
  · rw [if_pos e, e]; exact nget_nset hi y
  · rw [if_neg e]; exact nset_other hi e
theorem nat_of (h : kdE L i = 0) : ∃ x, nget L i = some x ∧ nat L i = x := by
  cases hg : nget L i with
  | none => rw [kdE_none hg] at h; cases h
  | some x => exact ⟨x, rfl, nat_some hg⟩
/-- another node of the same names, with a name as before -/
theorem Inv.put (h : Inv c gone b L) (hi : i ≠ 2) {x y : Pn} (hg : nget L i = some x) (hn : y.nms = x.nms) (ha : y.nam = x.nam) : Inv c gone b (nset L i y) := by
  have key : ∀ d p, nget (nset L i y) d = some p → ∃ p0, nget L d = some p0 ∧ p.nms = p0.nms := fun d p hp => by
    rw [nget_put hg] at hp
    by_cases e : d = i
    · rw [if_pos e] at hp; cases hp; subst e; exact ⟨x, hg, hn⟩
    · rw [if_neg e] at hp; exact ⟨p, hp, rfl⟩
  refine ⟨by rw [nget_put hg, if_neg (fun e => hi e.symm)]; exact h.two, fun d p s j hp hs => ?_, fun d p s d' p' s' j hp hp' hs hs' => ?_, fun d p hp => ?_, fun d p s hp hs => ?_, fun d p hp => ?_⟩
  · obtain ⟨p0, h0, e0⟩ := key d p hp
    obtain ⟨q, h1, h2⟩ := h.lead d p0 s j h0 (e0 ▸ hs)
    by_cases e : j = i
    · subst e
      rw [hg] at h1; cases h1
      exact ⟨y, by rw [nget_put hg, if_pos rfl], ha.trans h2⟩
    · exact ⟨q, by rw [nget_put hg, if_neg e]; exact h1, h2⟩
  · obtain ⟨p0, h0, e0⟩ := key d p hp
    obtain ⟨p1, h1, e1⟩ := key d' p' hp'
    exact h.one d p0 s d' p1 s' j h0 h1 (e0 ▸ hs) (e1 ▸ hs')
  · obtain ⟨p0, h0, e0⟩ := key d p hp
    rw [e0]; exact h.dis d p0 h0
  · obtain ⟨p0, h0, e0⟩ := key d p hp
    exact h.zzz d p0 s h0 (e0 ▸ hs)
  · obtain ⟨p0, h0, e0⟩ := key d p hp
    rw [e0]; exact h.cnt d p0 h0
/-- a node without a name that is taken out -/
theorem Inv.del (h : Inv c gone b L) (hd : L.Pairwise fun x y => x.1 ≠ y.1) (hi : i ≠ 2) {x : Pn} (hg : nget L i = some x) (hn : x.nam = false) : Inv c gone b (ndel L i) := by
  have key : ∀ d p, nget (ndel L i) d = some p → nget L d = some p ∧ d ≠ i := fun d p hp => by
    by_cases e : d = i
    · subst e; rw [nget_gone hd] at hp; cases hp
    · rw [nget_ndel e] at hp; exact ⟨hp, e⟩
  refine ⟨by rw [nget_ndel (fun e => hi e.symm)]; exact h.two, fun d p s j hp hs => ?_, fun d p s d' p' s' j hp hp' hs hs' => h.one d p s d' p' s' j (key d p hp).1 (key d' p' hp').1 hs hs', fun d p hp => h.dis d p (key d p hp).1, fun d p s hp hs => h.zzz d p s (key d p hp).1 hs, fun d p hp => h.cnt d p (key d p hp).1⟩
  obtain ⟨q, h1, h2⟩ := h.lead d p s j (key d p hp).1 hs
  refine ⟨q, ?_, h2⟩
  rw [nget_ndel]
  · exact h1
  · rintro rfl
    rw [hg] at h1; cases h1
    rw [hn] at h2; cases h2
theorem Inv.tidy (h : Inv c gone b L) (hd : L.Pairwise fun x y => x.1 ≠ y.1) (hi : i ≠ 2) {x : Pn} (hg : nget L i = some x) : Inv c gone b (tidyL L i x) := by
  unfold tidyL
  by_cases e : x.nam = false ∧ x.hol = 0
  · rw [if_pos e]; exact h.del hd hi hg e.1
  · rw [if_neg e]; exact h
theorem put_apart (hd : L.Pairwise fun x y => x.1 ≠ y.1) {x y : Pn} (hg : nget L i = some x) : (nset L i y).Pairwise fun x y => x.1 ≠ y.1 := by
  obtain ⟨A, B, rfl, h2, h3, -⟩ := nget_some hg
  rw [h3]
  rw [List.pairwise_append, List.pairwise_cons] at hd ⊢
  refine ⟨hd.1, ⟨fun q hq => hd.2.1.1 q hq, hd.2.1.2⟩, fun q hq r hr => ?_⟩
  rcases List.mem_cons.1 hr with rfl | hr
  · exact h2 q hq
  · exact hd.2.2 q hq r (List.mem_cons_of_mem _ hr)
theorem Inv.hold (h : Inv c gone b L) (hi : i ≠ 2) : Inv c gone b (hoR L i) := by
  unfold hoR
  by_cases e : hoE L i = 0
  · rw [if_pos e]
    have hk : kdE L i = 0 := by
      unfold hoE at e
      by_cases c : kdE L i ≠ 0
      · rw [if_pos c] at e; cases e
      · exact Decidable.of_not_not c
    obtain ⟨x, hg, hx⟩ := nat_of hk
    unfold hoL
    rw [hx]
    exact h.put hi hg rfl rfl
  · rw [if_neg e]; exact h
theorem Inv.drop (h : Inv c gone b L) (hd : L.Pairwise fun x y => x.1 ≠ y.1) (hi : i ≠ 2) : Inv c gone b (drR L i) := by
  unfold drR
  by_cases e : drE L i = 0
  · rw [if_pos e]
    have hk : kdE L i = 0 := by
      unfold drE at e
      by_cases c : kdE L i ≠ 0
      · rw [if_pos c] at e; cases e
      · exact Decidable.of_not_not c
    obtain ⟨x, hg, hx⟩ := nat_of hk
    unfold drL drA
    rw [hx, nat_some (nget_nset hg _)]
    exact (h.put (y := { x with hol := x.hol - 1 }) hi hg rfl rfl).tidy (put_apart hd hg) hi (nget_nset hg _)
  · rw [if_neg e]; exact h
theorem Inv.write (h : Inv c gone b L) (hi : i ≠ 2) (off : Int) (d : List Int) : Inv c gone b (wrR L i off d) := by
  unfold wrR
  by_cases e : wrE L i off d = 0
  · rw [if_pos e]
    unfold wrL
    by_cases e2 : d = []
    · rw [if_pos e2]; exact h
    · rw [if_neg e2]
      have hk : kdE L i = 0 := by
        cases hg : nget L i with
        | none =>
          unfold wrE at e
          by_cases c : off < 0
          · rw [if_pos c] at e; cases e
          · rw [if_neg c, flE_none hg, if_pos (by decide)] at e; cases e
        | some x => exact kdE_some hg
      obtain ⟨x, hg, hx⟩ := nat_of hk
      rw [hx]
      exact h.put hi hg rfl rfl
  · rw [if_neg e]; exact h
theorem mem_sdel : ∀ {l : List (List UInt8 × Int)} {s : List UInt8} {x : List UInt8 × Int}, x ∈ sdel l s → x ∈ l
  | [], _, _, h => h
  | q :: r, s, x, h => by
    unfold sdel at h
    by_cases e : q.1 = s
    · rw [if_pos e] at h; exact List.mem_cons_of_mem _ h
    · rw [if_neg e] at h
      rcases List.mem_cons.1 h with rfl | h
      · exact List.mem_cons_self
      · exact List.mem_cons_of_mem _ (mem_sdel h)
theorem sdel_sub : ∀ (l : List (List UInt8 × Int)) (s : List UInt8), (sdel l s).Sublist l
  | [], _ => List.Sublist.refl _
  | q :: r, s => by
    unfold sdel
    by_cases e : q.1 = s
    · rw [if_pos e]; exact List.sublist_cons_self q r
    · rw [if_neg e]; exact (sdel_sub r s).cons_cons q
theorem sdel_no : ∀ {l : List (List UInt8 × Int)} {s : List UInt8} {x : List UInt8 × Int}, (l.Pairwise fun x y => x.1 ≠ y.1) → x ∈ sdel l s → x.1 ≠ s
  | [], _, _, _, h => by cases h
  | q :: r, s, x, hd, h => by
    obtain ⟨h1, h2⟩ := List.pairwise_cons.1 hd
    unfold sdel at h
    by_cases e : q.1 = s
    · rw [if_pos e] at h; intro e2; exact h1 x h (by rw [e, e2])
    · rw [if_neg e] at h
      rcases List.mem_cons.1 h with rfl | h
      · exact e
      · exact sdel_no h2 h
/-- what is there when a name may be taken away -/
theorem un_ready {s : List UInt8} (e : unE L i s = 0 ∨ unE L i s = 39) : ∃ x, nget L i = some x ∧ nat L i = x ∧ sget x.nms s = some (fnV L i s) := by
  have hf : fdE L i = 0 := by
    by_cases c : fdE L i = 0
    · exact c
    · rw [un_fd c] at e
      exfalso
      cases hg : nget L i with
      | none => rw [fdE_none hg] at e; omega
      | some x => rw [fdE_some hg] at e c; cases hx : x.fd with
        | true => rw [hx] at c; exact c rfl
        | false => rw [hx] at e; simp at e
  have h2 : ¬ (s = s1 ∨ s = s2) := fun c => by rw [un_dot hf c] at e; omega
  have h3 : fnE L i s = 0 := by
    by_cases c : fnE L i s = 0
    · exact c
    · exfalso
      rw [un_fn hf h2 c] at e
      have : fnE L i s = 0 ∨ fnE L i s = 2 := by
        unfold fnE
        rw [if_neg (by simp [hf]), if_neg h2]
        cases sget (nat L i).nms s with
        | none => exact .inr rfl
        | some _ => exact .inl rfl
      omega
  have h4 := fn_good hf h2 h3
  cases hg : nget L i with
  | none => rw [fdE_none hg] at hf; cases hf
  | some x => rw [nat_some hg] at h4; exact ⟨x, rfl, nat_some hg, h4⟩
theorem Inv.target (h : Inv c gone b L) {s : List UInt8} (e : unE L i s = 0 ∨ unE L i s = 39) : (nget L (fnV L i s)).isSome = true := by
  obtain ⟨x, hg, -, hs⟩ := un_ready e
  obtain ⟨l1, l2, e1, -⟩ := sget_some hs
  obtain ⟨q, hq, -⟩ := h.lead i x s (fnV L i s) hg (by rw [e1]; simp)
  rw [hq]; rfl
theorem Inv.unlink (h : Inv c gone b L) (hd : L.Pairwise fun x y => x.1 ≠ y.1) (hi : i ≠ 2) {s : List UInt8} (hs : s ≠ zz) : Inv c gone b (unR L i s) := by
  unfold unR
  by_cases e : unE L i s = 0
  · rw [if_pos e]
    obtain ⟨x, hg, hx, hq⟩ := un_ready (.inl e)
    obtain ⟨j, ej⟩ : ∃ j, fnV L i s = j := ⟨_, rfl⟩
    rw [ej] at hq
    obtain ⟨l1, l2, e1, -⟩ := sget_some hq
    have hm : (s, j) ∈ x.nms := by rw [e1]; simp
    have hj2 : j ≠ 2 := by rintro rfl; exact hs (h.zzz i x s hg hm)
    obtain ⟨q, hjq, hqn⟩ := h.lead i x s j hg hm
    unfold unL unB unA
    rw [ej, hx]
    -- the tree with the name taken out
    have hA := fun d => nget_put (y := { x with nms := sdel x.nms s }) hg d
    obtain ⟨q', hjq', -⟩ : ∃ q', nget (nset L i { x with nms := sdel x.nms s }) j = some q' ∧ True := by
      rw [hA]
      by_cases c : j = i
      · rw [if_pos c]; exact ⟨_, rfl, trivial⟩
      · rw [if_neg c]; exact ⟨q, hjq, trivial⟩
    rw [nat_some hjq', nat_some (nget_nset hjq' _)]
    have hB := fun d => nget_put (y := { q' with nam := false }) hjq' d
    have key : ∀ d p, nget (nset (nset L i { x with nms := sdel x.nms s }) j { q' with nam := false }) d = some p → ∃ p0, nget L d = some p0 ∧ p.nms.Sublist p0.nms ∧ (∀ y ∈ p.nms, d = i → y.1 ≠ s) := by
      intro d p hp
      rw [hB, hA] at hp
      have fromA : ∀ p1, nget (nset L i { x with nms := sdel x.nms s }) d = some p1 → ∃ p0, nget L d = some p0 ∧ p1.nms.Sublist p0.nms ∧ (∀ y ∈ p1.nms, d = i → y.1 ≠ s) := by
        intro p1 h1
        rw [hA] at h1
        by_cases c : d = i
        · rw [if_pos c] at h1
          cases h1
          exact ⟨x, by rw [c]; exact hg, sdel_sub _ _, fun y hy _ => sdel_no (h.dis i x hg) hy⟩
        · rw [if_neg c] at h1
          exact ⟨p1, h1, List.Sublist.refl _, fun y hy c2 => absurd c2 c⟩
      by_cases c : d = j
      · rw [if_pos c] at hp
        cases hp
        exact fromA q' (by rw [c]; exact hjq')
      · rw [if_neg c, ← hA] at hp
        exact fromA p hp
    have hI : Inv c gone b (nset (nset L i { x with nms := sdel x.nms s }) j { q' with nam := false }) := by
      refine ⟨?_, fun d p s' j' hp hs' => ?_, fun d p s' d' p' s'' j' hp hp' hs' hs'' => ?_, fun d p hp => ?_, fun d p s' hp hs' => ?_, fun d p hp => ?_⟩
      · rw [hB, if_neg (fun c => hj2 c.symm), hA, if_neg (fun c => hi c.symm)]; exact h.two
      · obtain ⟨p0, h0, hsub, hno⟩ := key d p hp
        have hm' := hsub.subset hs'
        obtain ⟨r, hr, hrn⟩ := h.lead d p0 s' j' h0 hm'
        have hne : j' ≠ j := by
          rintro rfl
          obtain ⟨c1, c2⟩ := h.one d p0 s' i x s j' h0 hg hm' hm
          exact hno _ hs' c1 c2
        rw [hB, if_neg hne, hA]
        by_cases c : j' = i
        · rw [if_pos c]
          rw [c, hg] at hr; cases hr
          exact ⟨_, rfl, hrn⟩
        · rw [if_neg c]; exact ⟨r, hr, hrn⟩
      · obtain ⟨p0, h0, hsub, -⟩ := key d p hp
        obtain ⟨p1, h1, hsub1, -⟩ := key d' p' hp'
        exact h.one d p0 s' d' p1 s'' j' h0 h1 (hsub.subset hs') (hsub1.subset hs'')
      · obtain ⟨p0, h0, hsub, -⟩ := key d p hp
        exact (h.dis d p0 h0).sublist hsub
      · obtain ⟨p0, h0, hsub, -⟩ := key d p hp
        exact h.zzz d p0 s' h0 (hsub.subset hs')
      · obtain ⟨p0, h0, hsub, -⟩ := key d p hp
        exact Nat.le_trans hsub.length_le (h.cnt d p0 h0)
    exact hI.tidy (put_apart (put_apart hd hg) hjq') hj2 (nget_nset hjq' _)
  · rw [if_neg e]; exact h
theorem Inv.make (h : Inv c gone b L) (hi : i ≠ 2) {s : List UInt8} {most k : Int} : Inv (c + 1) gone b (mkR most L i s k) := by
  unfold mkR
  by_cases e : mkE most L i s k = 0
  · rw [if_pos e]
    have hf : fdE L i = 0 := by
      by_cases c : fdE L i = 0
      · exact c
      · rw [mk_fd c] at e; exact e
    have hck : ckN s = 0 := by
      by_cases c : ckN s = 0
      · exact c
      · rw [mk_ck hf c] at e; exact e
    have hfn : fnE L i s ≠ 0 := fun c => by rw [mk_ex hf hck c] at e; cases e
    obtain ⟨-, -, hq⟩ := fn_bad hf hfn
    obtain ⟨r, er, -, -, hr⟩ := frN_spec L
    cases hg : nget L i with
    | none => rw [fdE_none hg] at hf; cases hf
    | some x =>
      rw [nat_some hg] at hq
      unfold mkL
      rw [nat_some hg, er]
      have hri : (r : Int) ≠ i := fun c => by rw [c, hg] at hr; cases hr
      have hr2 : (r : Int) ≠ 2 := fun c => by rw [c, h.two] at hr; cases hr
      have hA := fun d => nget_put (y := { x with nms := x.nms ++ [(s, (r : Int))] }) hg d
      have hnr : nget (nset L i { x with nms := x.nms ++ [(s, (r : Int))] }) (r : Int) = none := by rw [hA, if_neg hri]; exact hr
      have hB : ∀ d, nget (nset L i { x with nms := x.nms ++ [(s, (r : Int))] } ++ [((r : Int), fresh i k)]) d = if d = (r : Int) then some (fresh i k) else nget (nset L i { x with nms := x.nms ++ [(s, (r : Int))] }) d := by
        intro d
        by_cases c : d = (r : Int)
        · rw [if_pos c, c, nget_append _ _ _ (nget_none hnr), nget_cons, if_pos rfl]
        · rw [if_neg c]
          cases hh : nget (nset L i { x with nms := x.nms ++ [(s, (r : Int))] }) d with
          | some y => exact nget_left hh
          | none => rw [nget_append _ _ _ (nget_none hh), nget_cons, if_neg (fun e => c e.symm)]; rfl
      have key : ∀ d p, nget (nset L i { x with nms := x.nms ++ [(s, (r : Int))] } ++ [((r : Int), fresh i k)]) d = some p → p.nms = [] ∨ (∃ p0, nget L d = some p0 ∧ d ≠ i ∧ p.nms = p0.nms) ∨ (d = i ∧ p.nms = x.nms ++ [(s, (r : Int))]) := by
        intro d p hp
        rw [hB] at hp
        by_cases c : d = (r : Int)
        · rw [if_pos c] at hp; cases hp; exact .inl rfl
        · rw [if_neg c, hA] at hp
          by_cases c2 : d = i
          · rw [if_pos c2] at hp; cases hp; exact .inr (.inr ⟨c2, rfl⟩)
          · rw [if_neg c2] at hp; exact .inr (.inl ⟨p, hp, c2, rfl⟩)
      have mem : ∀ d p, nget (nset L i { x with nms := x.nms ++ [(s, (r : Int))] } ++ [((r : Int), fresh i k)]) d = some p → ∀ s' j', (s', j') ∈ p.nms → (∃ p0, nget L d = some p0 ∧ (s', j') ∈ p0.nms) ∨ (d = i ∧ s' = s ∧ j' = (r : Int)) := by
        intro d p hp s' j' hm
        rcases key d p hp with e | ⟨p0, h0, -, e⟩ | ⟨hd, e⟩
        · rw [e] at hm; cases hm
        · exact .inl ⟨p0, h0, e ▸ hm⟩
        · rw [e] at hm
          rcases List.mem_append.1 hm with hm | hm
          · exact .inl ⟨x, by rw [hd]; exact hg, hm⟩
          · simp at hm; exact .inr ⟨hd, hm.1, hm.2⟩
      have notr : ∀ d p s', nget L d = some p → (s', (r : Int)) ∉ p.nms := fun d p s' hp hm => by
        obtain ⟨q, hq, -⟩ := h.lead d p s' _ hp hm
        rw [hr] at hq; cases hq
      refine ⟨?_, fun d p s' j' hp hm => ?_, fun d p s' d' p' s'' j' hp hp' hm hm' => ?_, fun d p hp => ?_, fun d p s' hp hm => ?_, fun d p hp => ?_⟩
      · rw [hB, if_neg (fun c => hr2 c.symm), hA, if_neg (fun c => hi c.symm)]; exact h.two
      · rcases mem d p hp s' j' hm with ⟨p0, h0, hm0⟩ | ⟨-, -, rfl⟩
        · obtain ⟨q, hq', hqn⟩ := h.lead d p0 s' j' h0 hm0
          have hjr : j' ≠ (r : Int) := fun c => by rw [c, hr] at hq'; cases hq'
          rw [hB, if_neg hjr, hA]
          by_cases c : j' = i
          · rw [if_pos c]
            rw [c, hg] at hq'; cases hq'
            exact ⟨_, rfl, hqn⟩
          · rw [if_neg c]; exact ⟨q, hq', hqn⟩
        · exact ⟨fresh i k, by rw [hB, if_pos rfl], rfl⟩
      · rcases mem d p hp s' j' hm with ⟨p0, h0, hm0⟩ | ⟨c1, c2, c3⟩
        · rcases mem d' p' hp' s'' j' hm' with ⟨p1, h1, hm1⟩ | ⟨-, -, c6⟩
          · exact h.one d p0 s' d' p1 s'' j' h0 h1 hm0 hm1
          · rw [c6] at hm0; exact absurd hm0 (notr d p0 s' h0)
        · rcases mem d' p' hp' s'' j' hm' with ⟨p1, h1, hm1⟩ | ⟨c4, c5, -⟩
          · rw [c3] at hm1; exact absurd hm1 (notr d' p1 s'' h1)
          · exact ⟨c1.trans c4.symm, c2.trans c5.symm⟩
      · rcases key d p hp with e | ⟨p0, h0, -, e⟩ | ⟨hd, e⟩
        · rw [e]; exact List.Pairwise.nil
        · rw [e]; exact h.dis d p0 h0
        · rw [e, List.pairwise_append]
          refine ⟨h.dis i x hg, List.pairwise_singleton _ _, fun q hq' y hy => ?_⟩
          simp at hy
          rw [hy]
          exact sget_none hq q hq'
      · rcases mem d p hp s' 2 hm with ⟨p0, h0, hm0⟩ | ⟨-, -, c3⟩
        · exact h.zzz d p0 s' h0 hm0
        · exact absurd c3.symm hr2
      · rcases key d p hp with e | ⟨p0, h0, -, e⟩ | ⟨hd, e⟩
        · rw [e]; exact Nat.zero_le _
        · rw [e]; exact Nat.le_succ_of_le (h.cnt d p0 h0)
        · rw [e, List.length_append]
          have := h.cnt i x hg
          simp; omega
  · rw [if_neg e]; exact h.more
end
theorem nat_cnt {c : Nat} {gone : Bool} {b : List Int} {L : Pt} {i : Int} (h : Inv c gone b L) : (nat L i).nms.length ≤ c := by
  cases hg : nget L i with
  | none => unfold nat; rw [hg]; exact Nat.zero_le _
  | some x => rw [nat_some hg]; exact h.cnt i x hg
theorem kmod (a : Int) : ∃ x : Nat, wrap64 ((IntKind.u64.wrap a).tmod 10) = (x : Int) ∧ x < 10 := by
  rw [IntKind.wrap_u64, Int.tmod_eq_emod_of_nonneg (by omega)]
  have h := Int.emod_lt_of_pos (a % 18446744073709551616) (show (0 : Int) < 10 by omega)
  have h' := Int.emod_nonneg (a % 18446744073709551616) (show (10 : Int) ≠ 0 by omega)
  refine ⟨(a % 18446744073709551616 % 10).toNat, ?_, by omega⟩
  unfold wrap64; omega
/-! ### how it begins, how it ends -/
def kR (l : List (List UInt8 × Int)) : Pn := ⟨true, 1, true, 0, [], l⟩
theorem k_make : mkE 12 rootL 1 zz 0 = 0 ∧ mkV 12 rootL 1 zz 0 = 2 ∧ (nat rootL 1).nms.length < 1000000 := by decide +kernel
theorem k_a : mkR 12 rootL 1 zz 0 = [(1, kR [(zz, 2)]), (2, ⟨false, 1, true, 0, [], []⟩)] := by kernel_rfl
theorem k_b (b : List Int) (hb : b.length ≤ 300) : wrE [(1, kR [(zz, 2)]), (2, ⟨false, 1, true, 0, [], []⟩)] 2 0 b = 0 ∧ wrR [(1, kR [(zz, 2)]), (2, ⟨false, 1, true, 0, [], []⟩)] 2 0 b = [(1, kR [(zz, 2)]), (2, ⟨false, 1, true, 0, b, []⟩)] := by
  by_cases h0 : b = []
  · subst h0
    exact ⟨by kernel_rfl, by kernel_rfl⟩
  · have e1 : wrE [(1, kR [(zz, 2)]), (2, ⟨false, 1, true, 0, [], []⟩)] 2 0 b = 0 := wr_ok (by omega) (by kernel_rfl) h0 (by omega)
    have e2 : lay [] (0 : Int).toNat (wrB 0 b) = b := by
      unfold lay wrB splice
      have e4 : b.take (4096 - (0 : Int)).toNat = b := List.take_of_length_le (by omega)
      rw [e4]
      simp
    refine ⟨e1, ?_⟩
    unfold wrR
    rw [e1, if_pos rfl]
    unfold wrL
    rw [if_neg h0]
    show [(1, kR [(zz, 2)]), (2, (⟨false, 1, true, 0, lay [] (0 : Int).toNat (wrB 0 b), []⟩ : Pn))] = _
    rw [e2]
theorem k_c (b : List Int) : hoE [(1, kR [(zz, 2)]), (2, ⟨false, 1, true, 0, b, []⟩)] 2 = 0 ∧ hoR [(1, kR [(zz, 2)]), (2, ⟨false, 1, true, 0, b, []⟩)] 2 = [(1, kR [(zz, 2)]), (2, kN false b)] := ⟨by kernel_rfl, by kernel_rfl⟩
theorem k_d (b : List Int) : unE [(1, kR [(zz, 2)]), (2, kN false b)] 1 zz = 0 ∧ fnV [(1, kR [(zz, 2)]), (2, kN false b)] 1 zz = 2 ∧ unR [(1, kR [(zz, 2)]), (2, kN false b)] 1 zz = [(1, kR []), (2, kN true b)] := ⟨by kernel_rfl, by kernel_rfl, by kernel_rfl⟩
def kS (gone : Bool) (b : List Int) : Pt := [(1, kR (if gone then [] else [(zz, 2)])), (2, kN gone b)]
theorem inv_start (gone : Bool) (b : List Int) : Inv 1 gone b (kS gone b) := by
  have key : ∀ d p, nget (kS gone b) d = some p → (d = 1 ∧ p = kR (if gone then [] else [(zz, 2)])) ∨ (d = 2 ∧ p = kN gone b) := by
    intro d p hp
    unfold kS at hp
    rw [nget_cons] at hp
    by_cases c : (1 : Int) = d
    · rw [if_pos c] at hp; cases hp; exact .inl ⟨c.symm, rfl⟩
    · rw [if_neg c, nget_cons] at hp
      by_cases c2 : (2 : Int) = d
      · rw [if_pos c2] at hp; cases hp; exact .inr ⟨c2.symm, rfl⟩
      · rw [if_neg c2] at hp; cases hp
  have mem : ∀ d p s j, nget (kS gone b) d = some p → (s, j) ∈ p.nms → d = 1 ∧ s = zz ∧ j = 2 ∧ gone = false := by
    intro d p s j hp hm
    rcases key d p hp with ⟨hd, rfl⟩ | ⟨hd, rfl⟩
    · cases gone with
      | true => cases hm
      | false =>
        have : (s, j) = (zz, (2 : Int)) := by simpa [kR] using hm
        cases this
        exact ⟨hd, rfl, rfl, rfl⟩
    · cases hm
  refine ⟨rfl, fun d p s j hp hm => ?_, fun d p s d' p' s' j hp hp' hm hm' => ?_, fun d p hp => ?_, fun d p s hp hm => (mem d p s 2 hp hm).2.1, fun d p hp => ?_⟩
  · obtain ⟨-, -, rfl, rfl⟩ := mem d p s j hp hm
    exact ⟨kN false b, rfl, rfl⟩
  · obtain ⟨a1, a2, -⟩ := mem d p s j hp hm
    obtain ⟨b1, b2, -⟩ := mem d' p' s' j hp' hm'
    exact ⟨a1.trans b1.symm, a2.trans b2.symm⟩
  · rcases key d p hp with ⟨-, rfl⟩ | ⟨-, rfl⟩
    · cases gone <;> simp [kR]
    · exact List.Pairwise.nil
  · rcases key d p hp with ⟨-, rfl⟩ | ⟨-, rfl⟩
    · cases gone <;> simp [kR]
    · exact Nat.zero_le _
/-- what is told of the number behind the last Drop -/
def kEnd (gone : Bool) : Int := if gone then 2 else 0
theorem inv_end {c : Nat} {gone : Bool} {b : List Int} {L : Pt} (h : Inv c gone b L) (hd : L.Pairwise fun x y => x.1 ≠ y.1) (hb : b.length ≤ 300) : flE L 2 = 0 ∧ rdB L 2 0 400 = b ∧ (nat L 2).dat.length = b.length ∧ drE L 2 = 0 ∧ kdE (drR L 2) 2 = kEnd gone := by
  have h2 := h.two
  have e1 : drE L 2 = 0 := by
    unfold drE
    rw [kdE_some h2, if_neg (by decide), nat_some h2, if_neg (show ¬ (kN gone b).hol = 0 by show ¬ (1 : Int) = 0; omega)]
  refine ⟨by rw [flE_some h2]; rfl, ?_, by rw [nat_some h2]; rfl, e1, ?_⟩
  · unfold rdB
    rw [nat_some h2]
    show (b.drop 0).take 400 = b
    rw [List.drop_zero, List.take_of_length_le (by omega)]
  · unfold drR
    rw [e1, if_pos rfl]
    unfold drL drA
    rw [nat_some h2, nat_some (nget_nset h2 _)]
    unfold tidyL
    cases gone with
    | true =>
      rw [if_pos ⟨rfl, by show (1 : Int) - 1 = 0; omega⟩, kdE_none (nget_gone (put_apart hd h2))]; rfl
    | false =>
      rw [if_neg (fun c => by cases c.1), kdE_some (nget_nset h2 _)]; rfl
end Go.Proofs.YtgoecdmnefjdnaaDoor
