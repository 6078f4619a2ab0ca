/- The document's list of what was written, in memory: notes, each with its bytes; what stays of them; one more of them. -/
import Derived.Test.YtnlmjjofpkpkaaaDoorPhG
import Derived.Test.YtnlmjjofpkpkaaaDoorActRows
namespace Go.Proofs.YtnlmjjofpkpkaaaDoor
open Go.RowKit
set_option linter.unusedVariables false
set_option maxRecDepth 100000
/-- the blocks of S are as they were -/
def Gap (S : Nat → Prop) (w w' : World) : Prop := w.heap.size ≤ w'.heap.size ∧ ∀ k, k < w.heap.size → S k → w'.heap[k]? = w.heap[k]?
theorem Gap.of_new (S : Nat → Prop) {w w' : World} (h : New w w') : Gap S w w' := ⟨h.size, fun k hk _ => h.block hk⟩
theorem Gap.of_far {S : Nat → Prop} {rb : Nat} {w w' : World} (h : Far rb w w') (h1 : ¬ S rb) : Gap S w w' := ⟨h.size, fun k hk ho => h.block hk (fun e => h1 (e ▸ ho))⟩
theorem Gap.trans {S : Nat → Prop} {a b c : World} (h : Gap S a b) (k : Gap S b c) : Gap S a c :=
  ⟨Nat.le_trans h.1 k.1, fun i hi' ho => (k.2 i (Nat.lt_of_lt_of_le hi' h.1) ho).trans (h.2 i hi' ho)⟩
theorem add_block (a : Addr) (n : Nat) : (a.add n).block = a.block := by unfold Addr.add; split <;> rfl
/-- a slice of bytes that can be read, not in between -/
def BytsO (S : Nat → Prop) (w : World) (v : Value) (l : List Int) : Prop :=
  Oct l ∧ ∃ p cap, v = .slice p l.length cap ∧ l.length ≤ maxLen ∧ ∀ i, i < l.length → ∃ a, p = some a ∧ S a.block ∧ w.cell? (a.add i) = some (.int .u8 (l.getD i 0))
section
variable {S : Nat → Prop} {w w' : World} {v : Value} {l : List Int}
theorem BytsO.byts (h : BytsO S w v l) : Byts w v l := by
  obtain ⟨_, p, cap, h1, h2, h3⟩ := h
  exact ⟨p, cap, h1, h2, fun i hi => by obtain ⟨a, ha, _, hc⟩ := h3 i hi; exact ⟨a, ha, hc⟩⟩
theorem BytsO.oct (h : BytsO S w v l) : Oct l := h.1
theorem BytsO.gap (h : BytsO S w v l) (k : Gap S w w') : BytsO S w' v l := by
  obtain ⟨ho, p, cap, h1, h2, h3⟩ := h
  refine ⟨ho, p, cap, h1, h2, fun i hi => ?_⟩
  obtain ⟨a, ha, hb, hc⟩ := h3 i hi
  exact ⟨a, ha, hb, by rw [World.cell?_of_block (k.2 _ (by have := cell_lt hc; exact this) (by rw [add_block]; exact hb))]; exact hc⟩
theorem BytsO.nil : BytsO S w (.slice none 0 0) [] := ⟨Oct.nil, none, 0, rfl, Nat.zero_le _, fun i h => absurd h (Nat.not_lt_zero _)⟩
theorem ByIn.outer (h : ByIn w v l) (hw : ∀ k, k < w.heap.size → S k) : BytsO S w v l := by
  obtain ⟨p, cap, h1, h2, h3, h4, h5⟩ := h
  refine ⟨h4, p, cap, h1, Nat.le_trans h2 h3, fun i hi => ?_⟩
  obtain ⟨a, ha, hc⟩ := h5 i hi
  have := cell_lt hc
  rw [add_block] at this
  exact ⟨a, ha, hw _ this, hc⟩
theorem BytsO.mono {T : Nat → Prop} (h : BytsO S w v l) (k : ∀ i, i < w.heap.size → S i → T i) : BytsO T w v l := by
  obtain ⟨ho, p, cap, h1, h2, h3⟩ := h
  refine ⟨ho, p, cap, h1, h2, fun i hi => ?_⟩
  obtain ⟨a, ha, hb, hc⟩ := h3 i hi
  have := cell_lt hc
  rw [add_block] at this
  exact ⟨a, ha, k _ this hb, hc⟩
theorem OwnB.outer {base : Nat} (h : OwnB base w v l) (ho : Oct l) (hb : ∀ k, base ≤ k → k < w.heap.size → S k) : BytsO S w v l := by
  obtain ⟨p, cap, e⟩ := h.shape
  obtain ⟨p', cap', h1, h2, h3⟩ := h.byts
  refine ⟨ho, p', cap', h1, h2, fun i hil => ?_⟩
  obtain ⟨a, ha, hc⟩ := h3 i hil
  have hlt := cell_lt hc
  rw [add_block] at hlt
  refine ⟨a, ha, hb _ ?_ hlt, hc⟩
  rcases h.2 with ⟨e1, _⟩ | ⟨g, c1, cur, e1, hg, _⟩
  · rw [e1] at h1; injection h1 with h1 _ _; rw [← h1] at ha; cases ha
  · rw [e1] at h1; injection h1 with h1 _ _; rw [← h1] at ha; cases ha; exact hg
theorem Blk8.outer {b cap : Nat} (h : Blk8 w b l) (ho : Oct l) (hb : S b) (hm : l.length ≤ maxLen) : BytsO S w (.slice (some ⟨b, 0, none⟩) l.length cap) l := by
  obtain ⟨p', cap', h1, h2, h3⟩ := h.byts (cap := cap) hm
  refine ⟨ho, p', cap', h1, h2, fun i hi => ?_⟩
  obtain ⟨a, ha, hc⟩ := h3 i hi
  cases h1; cases ha
  exact ⟨_, rfl, hb, hc⟩
end
/-- a slice of notes that can be read -/
def Notes (S : Nat → Prop) (w : World) (v : Value) (L : List Nt) : Prop :=
  ∃ p cap, ∃ cs : List Value, v = .slice p L.length cap ∧ L.length ≤ cap ∧ cap ≤ maxLen ∧ cs.length = L.length * 3 ∧ (∀ u ∈ cs, u.oneCell' = true) ∧
    ((p = none ∧ L = []) ∨ ∃ b, p = some ⟨b, 0, none⟩ ∧ S b ∧ b < w.heap.size ∧ ∀ i u, cs[i]? = some u → w.cell? ⟨b, i, none⟩ = some u) ∧
    ∀ i (h : i < L.length), cs[i * 3]? = some (.int .i64 (L[i].fr : Int)) ∧ cs[i * 3 + 1]? = some (.int .i64 (L[i].off : Int)) ∧ ∃ u, cs[i * 3 + 2]? = some u ∧ BytsO S w u L[i].bs
section
variable {S : Nat → Prop} {w w' : World} {v : Value} {L : List Nt}
theorem Notes.nil : Notes S w (.slice none 0 0) [] := ⟨none, 0, [], rfl, Nat.le_refl _, Nat.zero_le _, rfl, (fun u h => (List.not_mem_nil h).elim), .inl ⟨rfl, rfl⟩, fun i h => absurd h (Nat.not_lt_zero _)⟩
theorem Notes.gap (h : Notes S w v L) (k : Gap S w w') : Notes S w' v L := by
  obtain ⟨p, cap, cs, h1, h2, h3, h4, h5, h6, h7⟩ := h
  refine ⟨p, cap, cs, h1, h2, h3, h4, h5, ?_, fun i hi => ?_⟩
  · rcases h6 with h6 | ⟨b, e, hb, hl, hc⟩
    · exact .inl h6
    · exact .inr ⟨b, e, hb, Nat.lt_of_lt_of_le hl k.1, fun i u hu => by rw [World.cell?_of_block (a := ⟨b, i, none⟩) (k.2 b hl hb)]; exact hc i u hu⟩
  · obtain ⟨a1, a2, u, a3, a4⟩ := h7 i hi
    exact ⟨a1, a2, u, a3, a4.gap k⟩
theorem Notes.mono {T : Nat → Prop} (h : Notes S w v L) (k : ∀ i, i < w.heap.size → S i → T i) : Notes T w v L := by
  obtain ⟨p, cap, cs, h1, h2, h3, h4, h5, h6, h7⟩ := h
  refine ⟨p, cap, cs, h1, h2, h3, h4, h5, ?_, fun i hi => ?_⟩
  · rcases h6 with h6 | ⟨b, e, hb, hl, hc⟩
    · exact .inl h6
    · exact .inr ⟨b, e, k _ hl hb, hl, hc⟩
  · obtain ⟨a1, a2, u, a3, a4⟩ := h7 i hi
    exact ⟨a1, a2, u, a3, a4.mono k⟩
theorem Notes.new (h : Notes S w v L) (k : New w w') : Notes S w' v L := h.gap (Gap.of_new S k)
theorem Notes.shape (h : Notes S w v L) : ∃ p cap, v = .slice p L.length cap ∧ L.length ≤ cap ∧ cap ≤ maxLen := by
  obtain ⟨p, cap, cs, h1, h2, h3, _⟩ := h; exact ⟨p, cap, h1, h2, h3⟩
theorem Notes.oct (h : Notes S w v L) : ∀ n ∈ L, Oct n.bs := by
  obtain ⟨p, cap, cs, h1, h2, h3, h4, h5, h6, h7⟩ := h
  intro n hn
  obtain ⟨i, hi, rfl⟩ := List.getElem_of_mem hn
  obtain ⟨_, _, u, _, a4⟩ := h7 i hi
  exact a4.oct
/-- one of them -/
theorem Notes.at_ {p : Option Addr} {n cap : Nat} (h : Notes S w (.slice p n cap) L) (i : Nat) (hi' : i < L.length) : n = L.length ∧ ∃ b u, p = some ⟨b, 0, none⟩ ∧
    w.cell? ⟨b, i * 3, none⟩ = some (.int .i64 (L[i].fr : Int)) ∧ w.cell? ⟨b, i * 3 + 1, none⟩ = some (.int .i64 (L[i].off : Int)) ∧ w.cell? ⟨b, i * 3 + 2, none⟩ = some u ∧ BytsO S w u L[i].bs := by
  obtain ⟨p', cap', cs, h1, h2, h3, h4, h5, h6, h7⟩ := h
  cases h1
  refine ⟨rfl, ?_⟩
  rcases h6 with ⟨_, rfl⟩ | ⟨b, e, hb, hl, hc⟩
  · exact absurd hi' (Nat.not_lt_zero _)
  · obtain ⟨a1, a2, u, a3, a4⟩ := h7 i hi'
    exact ⟨b, u, e, hc _ _ a1, hc _ _ a2, hc _ _ a3, a4⟩
end
theorem note_info : (Tryd.prog.info? 63).map (fun i => (i.zero, i.size, i.bytes)) = some (some (.agg #[.int .i64 0, .int .i64 0, .slice none 0 0]), 3, 40) := by kernel_rfl
theorem notes_push {L : List Nt} {n : Nt} {cs : List Value} {u : Value} (h4 : cs.length = L.length * 3) {Q : Value → List Int → Prop} (hq : Q u n.bs)
    (h7 : ∀ i (h : i < L.length), cs[i * 3]? = some (.int .i64 (L[i].fr : Int)) ∧ cs[i * 3 + 1]? = some (.int .i64 (L[i].off : Int)) ∧ ∃ u, cs[i * 3 + 2]? = some u ∧ Q u L[i].bs) :
    ∀ i (h : i < (L ++ [n]).length), (cs ++ [.int .i64 n.fr, .int .i64 n.off, u])[i * 3]? = some (.int .i64 ((L ++ [n])[i].fr : Int)) ∧ (cs ++ [.int .i64 n.fr, .int .i64 n.off, u])[i * 3 + 1]? = some (.int .i64 ((L ++ [n])[i].off : Int)) ∧
      ∃ u', (cs ++ [.int .i64 n.fr, .int .i64 n.off, u])[i * 3 + 2]? = some u' ∧ Q u' (L ++ [n])[i].bs := by
  intro i hi
  rw [List.length_append, List.length_singleton] at hi
  by_cases c : i < L.length
  · obtain ⟨a1, a2, u', a3, a4⟩ := h7 i c
    rw [List.getElem?_append_left (by omega), List.getElem?_append_left (by omega), List.getElem?_append_left (by omega), List.getElem_append_left c]
    exact ⟨a1, a2, u', a3, a4⟩
  · obtain rfl : i = L.length := by omega
    rw [List.getElem?_append_right (by omega), List.getElem?_append_right (by omega), List.getElem?_append_right (by omega), List.getElem_append_right (by omega), h4,
      show L.length * 3 - L.length * 3 = 0 by omega, show L.length * 3 + 1 - L.length * 3 = 1 by omega, show L.length * 3 + 2 - L.length * 3 = 2 by omega]
    simp only [Nat.sub_self, List.getElem_cons_zero]
    exact ⟨rfl, rfl, u, rfl, hq⟩
theorem run_append_note (S : Nat → Prop) (w : World) (L : List Nt) (p : Option Addr) (cap : Nat) (h : Notes S w (.slice p L.length cap) L) (n : Nt) (u : Value) (ad : Addr)
    (hc : ∀ j x, ([.int .i64 n.fr, .int .i64 n.off, u] : List Value)[j]? = some x → w.cell? (ad.add j) = some x) (hu1 : u.oneCell' = true) (hu : BytsO S w u n.bs) (hlen : L.length ≤ 1000000) (hbase : ∀ k, w.heap.size ≤ k → S k) :
    ∃ v' w', (Builtin.append_ #[37, 37] 37 #[.slice p L.length L.length, .slice (some ad) 1 1]).run Tryd.prog w = .ok v' w' ∧ Notes S w' v' (L ++ [n]) ∧ New w w' := by
  obtain ⟨i0, hi0, hz0, hz1, hz2⟩ := info_parts note_info
  have one : ∀ x ∈ ([.int .i64 n.fr, .int .i64 n.off, u] : List Value), x.oneCell' = true := by
    intro x hx
    simp only [List.mem_cons, List.not_mem_nil, or_false] at hx
    rcases hx with rfl | rfl | rfl
    · rfl
    · rfl
    · exact hu1
  obtain ⟨p', cap', cs, h1, h2, h3, h4, h5, h6, h7⟩ := h
  cases h1
  rcases h6 with ⟨rfl, rfl⟩ | ⟨b, rfl, hb, hl, hcc⟩
  · obtain ⟨v', w', k1, k2, k3, _⟩ := run_append_own (P := Tryd.prog) w w.heap.size 37 37 63 i0 _ 3 40 Tryd.underlying37 hi0 hz0 hz1 hz2 rfl (by decide) (.slice none 0 0) 0 [] (World.ownsRow_nil w w.heap.size _ 3) ad 1 1 [.int .i64 n.fr, .int .i64 n.off, u] rfl hc one (by unfold maxLen; omega) (by omega) (Nat.le_refl _)
    have kn : New w w' := (New.refl w).grown k3 fun k hk => by cases hk
    refine ⟨v', w', k1, ?_, kn⟩
    rcases k2.2 with ⟨_, hn⟩ | ⟨g, c1, cur, rfl, hg, hgg, g1, g2, g3, g4⟩
    · cases hn
    · have hcs : cs = [] := List.eq_nil_of_length_eq_zero (by simpa using h4)
      subst hcs
      refine ⟨_, _, [.int .i64 n.fr, .int .i64 n.off, u], rfl, g1, g2, rfl, one, .inr ⟨g, rfl, hbase _ hg, (Array.getElem?_eq_some_iff.1 hgg).1, fun i x hx => ?_⟩, ?_⟩
      · rw [cell_of_row w' g i cur _ _ hgg]
        have : (cur.toList.take ((0 + 1) * 3))[i]? = some x := by rw [g4]; exact hx
        rw [List.getElem?_take] at this
        split at this
        · simpa using this
        · cases this
      · have := notes_push (L := []) (n := n) (cs := []) (u := u) rfl (Q := BytsO S w') (hu.gap (Gap.of_new S kn)) (fun i hi => absurd hi (Nat.not_lt_zero _))
        exact this
  · have hr := run_append_grow (P := Tryd.prog) w 37 37 63 i0 _ Tryd.underlying37 hi0 hz0 ⟨b, 0, none⟩ L.length L.length cs (by rw [hz1]; exact h4) (fun j x hx => by rw [Addr.add_mid, Nat.zero_add]; exact hcc j x hx) ad 1 1 [.int .i64 n.fr, .int .i64 n.off, u] (by rw [hz1]; rfl) hc (by omega) (by omega) (by rw [hz2]; exact growslice_fits (by omega) (by omega))
    have kn : New w (w.drew.alloc (.cells (cs.toArray ++ [Value.int .i64 n.fr, .int .i64 n.off, u].toArray ++ Builtin.zeroCells (Value.agg #[.int .i64 0, .int .i64 0, .slice none 0 0]).cells (grownCap w (L.length + 1) L.length 63 - (L.length + 1))) 63)) := ((New.refl w).drew).alloc _ _
    refine ⟨_, _, hr, ?_, kn⟩
    have hge := grownCap_ge w (L.length + 1) L.length 63
    have hcm := grownCap_le_maxLen w (L.length + 1) L.length 63 (by unfold maxLen; omega)
    refine ⟨_, _, cs ++ [.int .i64 n.fr, .int .i64 n.off, u], by rw [List.length_append, List.length_singleton], by rw [List.length_append, List.length_singleton]; exact hge, hcm, by simp [h4]; omega, ?_, .inr ⟨w.heap.size, rfl, hbase _ (Nat.le_refl _), by simp, fun i x hx => ?_⟩, notes_push h4 (hu.gap (Gap.of_new S kn)) fun i hil => ?_⟩
    · intro x hx
      rw [List.mem_append] at hx
      exact hx.elim (h5 x) (one x)
    · rw [cell_of_row _ w.heap.size i _ _ _ (heap_alloc_new w.drew _)]
      have hil : i < (cs ++ [Value.int .i64 n.fr, .int .i64 n.off, u]).length := (List.getElem?_eq_some_iff.1 hx).1
      rw [Array.getElem?_append_left (by simpa using hil)]
      simpa using hx
    · obtain ⟨a1, a2, u', a3, a4⟩ := h7 i hil
      exact ⟨a1, a2, u', a3, a4.gap (Gap.of_new S kn)⟩
end Go.Proofs.YtnlmjjofpkpkaaaDoor
