/- Programs as bytes, the package's: the reader. -/
import Derived.Test.YtealjgfijlencaaDoorImP4
namespace Go.Proofs.YtealjgfijlencaaDoor
open Go.RowKit Go.Joins
set_option linter.unusedVariables false
set_option linter.unusedSimpArgs false
set_option maxRecDepth 100000
/-- so many bytes taken, what is left, was it short? -/
def tkU (n : Nat) (r : List Int) : List Int := if n ≤ r.length then r.take n else []
def tkR (n : Nat) (r : List Int) : List Int := if n ≤ r.length then r.drop n else r
def tkS (n : Nat) (r : List Int) (sh : Bool) : Bool := if n ≤ r.length then sh else true
def nmV (k : Nat) (r : List Int) : Int := if k ≤ r.length then whL r 0 k else 0
theorem whL_take (l : List Int) (m : Nat) : ∀ (k a : Nat), a + k ≤ m → whL (l.take m) a k = whL l a k
  | 0, _, _ => rfl
  | k + 1, a, h => by
    show 256 * whL (l.take m) (a + 1) k + (l.take m).getD a 0 = 256 * whL l (a + 1) k + l.getD a 0
    rw [whL_take l m k (a + 1) (by omega), List.getD_eq_getElem?_getD, List.getD_eq_getElem?_getD, List.getElem?_take_of_lt (by omega)]
theorem nmV_bd (k : Nat) (hk : k ≤ 4) (r : List Int) (h : ∀ x ∈ r, 0 ≤ x ∧ x ≤ 255) : 0 ≤ nmV k r ∧ nmV k r < 256 ^ k := by
  unfold nmV
  split
  · exact whL_up r k 0 h
  · exact ⟨Int.le_refl 0, Int.pow_pos (by decide)⟩
theorem Byts.front0 {w : World} {p : Option Addr} {n cap : Nat} {l : List Int} (h : Byts w (.slice p n cap) l) (k : Nat) (hk : k ≤ l.length) : Byts w (.slice p k cap) (l.take k) := by
  obtain ⟨p', c', e, h2, h3⟩ := h
  cases e
  have hl : (l.take k).length = k := by rw [List.length_take]; omega
  refine ⟨_, cap, by rw [hl], ⟨by rw [hl]; omega, h2.2⟩, fun i hi => ?_⟩
  rw [hl] at hi
  obtain ⟨a, rfl, hc⟩ := h3 i (by omega)
  refine ⟨a, rfl, ?_⟩
  rw [hc, List.getD_eq_getElem?_getD, List.getD_eq_getElem?_getD, List.getElem?_take_of_lt hi]
theorem Byts.back0 {w : World} {p : Option Addr} {n cap : Nat} {l : List Int} (h : Byts w (.slice p n cap) l) (k : Nat) (hk : k ≤ l.length) : Byts w (.slice (if cap = k then p else Option.map (fun x => x.add k) p) (l.length - k) (cap - k)) (l.drop k) := by
  have := h.piece k (l.length - k) (by omega)
  rwa [List.take_of_length_le (by rw [List.length_drop]; omega)] at this
/-- what take leaves -/
def TakeC (w0 : World) (r : List Int) (sh : Bool) (rb : Nat) (n : Nat) (w : World) (e : Ending) (w' : World) : Prop := ∃ u v', e = .returned u ∧ Byts w0 u (tkU n r) ∧ Byts w0 v' (tkR n r) ∧ Box w' rb #[v', .bool (tkS n r sh)] 56 ∧ Far rb w w'
set_option maxHeartbeats 2000000 in
theorem ptake {w0 w : World} {rv : Value} {r : List Int} {sh : Bool} {rb : Nat} (h : Byts w0 rv r) (hb : Box w rb #[rv, .bool sh] 56) (n : Nat) :
    Calls Tryd.prog 18 #[.pointer (some ⟨rb, 0, none⟩), .int .i64 (n : Int)] w (TakeC w0 r sh rb n w) := by
  obtain ⟨p, cap, rfl, hcap, hc⟩ := id h
  have hm : cap ≤ 9223372036854775807 := by have := hcap.2; unfold maxLen at this; omega
  have HB := Lib.hid hb
  have HY := Lib.hid h
  have hl : r.length ≤ cap := hcap.1
  obtain ⟨r0, r1⟩ := hb.two
  have f0 := hb.unfrozen 0
  have f1 := hb.unfrozen 1
  by_cases c : n ≤ r.length
  · have E : ∀ u v', u = .slice p n cap → v' = .slice (if cap = n then p else Option.map (fun x => x.add n) p) (r.length - n) (cap - n) → TakeC w0 r sh rb n w (.returned u) (w.setCell ⟨rb, 0, none⟩ v') := fun u v' hu hv => by
      refine ⟨u, v', rfl, ?_, ?_, ?_, Far.set w rb 0 _⟩
      · rw [hu]; unfold tkU; rw [if_pos c]; exact h.front0 n c
      · rw [hv]; unfold tkR; rw [if_pos c]; exact h.back0 n c
      · unfold tkS; rw [if_pos c]; simpa using hb.set 0 v'
    have E := Lib.hid E
    generalize r.length = ln at *
    have hnc : n ≤ cap := by omega
    have hng : ¬ ((n : Int) > (ln : Int)) := by omega
    clear h hb hc hcap
    by_cases k : cap = n
    · have hln : ln = n := by omega
      subst k
      subst hln
      rcases p with _ | a
      · go_enter Tryd.func18, Tryd.ntmps18
        go_wp2
        go_ret
        exact E.out _ _ rfl (by simp)
      · go_enter Tryd.func18, Tryd.ntmps18
        go_wp2
        go_ret
        exact E.out _ _ rfl (by simp)
    · rcases p with _ | a
      · go_enter Tryd.func18, Tryd.ntmps18
        go_wp2
        go_ret
        exact E.out _ _ rfl (by rw [if_neg k]; simp)
      · go_enter Tryd.func18, Tryd.ntmps18
        go_wp2
        go_ret
        exact E.out _ _ rfl (by rw [if_neg k]; simp)
  · have E : TakeC w0 r sh rb n w (.returned (.slice none 0 0)) (w.setCell ⟨rb, 1, none⟩ (.bool true)) := by
      refine ⟨.slice none 0 0, .slice p r.length cap, rfl, ?_, ?_, ?_, Far.set w rb 1 _⟩
      · unfold tkU; rw [if_neg c]; exact Byts.nil w0
      · unfold tkR; rw [if_neg c]; exact h
      · unfold tkS; rw [if_neg c]; simpa using hb.set 1 (.bool true)
    have E := Lib.hid E
    generalize r.length = ln at *
    clear h hb hc hcap
    have hng : ((n : Int) > (ln : Int)) := by omega
    go_enter Tryd.func18, Tryd.ntmps18
    go_wp2
    go_ret
    exact E.out
theorem or1 (b0 : Int) (h0 : 0 ≤ b0) (h0' : b0 ≤ 255) : bits .or .u32 0 b0 = b0 := by
  have h := or_up 0 b0 0 (by omega) (by rw [pw_zero]; omega) h0 (by rw [pw_zero]; omega)
  rw [pw_zero] at h; simpa using h
theorem or2 (b0 b1 : Int) (h0 : 0 ≤ b0) (h0' : b0 ≤ 255) (h1 : 0 ≤ b1) (h1' : b1 ≤ 255) : bits .or .u32 (bits .or .u32 0 b0) (b1 * 256) = b0 + 256 * b1 := by
  have e8 : (256 : Int) = pw 8 := by decide +kernel
  rw [or1 b0 h0 h0', e8, or_up _ _ _ h0 (by rw [← e8]; omega) h1 (by rw [← e8]; omega), ← e8]; omega
set_option maxHeartbeats 400000 in
theorem pload1 (b0 : Int) (p : Addr) (cap : Nat) (w : World) (h0 : 0 ≤ b0) (h0' : b0 ≤ 255) (c0 : w.cell? p = some (.int .u8 b0)) :
    Calls Tryd.prog 26 #[.slice (some p) 1 cap] w fun e w' => e = .returned (.tuple #[.int .u32 b0, .nilIface]) ∧ w = w' := by
  have q : Calls Tryd.prog 33 #[.int .i64 1] w fun e w' => e = .returned (.bool true) ∧ w = w' := issizeN 1 (.inl rfl) w
  have O := Lib.hid (or1 b0 h0 h0')
  go_enter Tryd.func26, Tryd.ntmps26
  go_wp2_with fail
  refine q.mono ?_
  rintro e w' ⟨rfl, rfl⟩
  go_wp2_with fail
  go_rounds 2
  go_ret2
  exact ⟨Eq.trans rfl (congrArg (fun z => Ending.returned (.tuple #[.int .u32 z, .nilIface])) O.out), rfl⟩
set_option maxHeartbeats 400000 in
theorem pload2 (b0 b1 : Int) (p : Addr) (cap : Nat) (w : World) (h0 : 0 ≤ b0) (h0' : b0 ≤ 255) (h1 : 0 ≤ b1) (h1' : b1 ≤ 255) (c0 : w.cell? p = some (.int .u8 b0)) (c1 : w.cell? ⟨p.block, p.off + 1, none⟩ = some (.int .u8 b1)) :
    Calls Tryd.prog 26 #[.slice (some p) 2 cap] w fun e w' => e = .returned (.tuple #[.int .u32 (b0 + 256 * b1), .nilIface]) ∧ w = w' := by
  have q : Calls Tryd.prog 33 #[.int .i64 2] w fun e w' => e = .returned (.bool true) ∧ w = w' := issizeN 2 (.inr (.inl rfl)) w
  have O := Lib.hid (or2 b0 b1 h0 h0' h1 h1')
  go_enter Tryd.func26, Tryd.ntmps26
  go_wp2_with fail
  refine q.mono ?_
  rintro e w' ⟨rfl, rfl⟩
  go_wp2_with fail
  go_rounds 3
  go_ret2
  exact ⟨by rw [← O.out]; rfl, rfl⟩
set_option maxHeartbeats 400000 in
theorem pload4 (b0 b1 b2 b3 : Int) (p : Addr) (cap : Nat) (w : World) (h0 : 0 ≤ b0) (h0' : b0 ≤ 255) (h1 : 0 ≤ b1) (h1' : b1 ≤ 255) (h2 : 0 ≤ b2) (h2' : b2 ≤ 255) (h3 : 0 ≤ b3) (h3' : b3 ≤ 255)
    (c0 : w.cell? p = some (.int .u8 b0)) (c1 : w.cell? ⟨p.block, p.off + 1, none⟩ = some (.int .u8 b1)) (c2 : w.cell? ⟨p.block, p.off + 2, none⟩ = some (.int .u8 b2)) (c3 : w.cell? ⟨p.block, p.off + 3, none⟩ = some (.int .u8 b3)) :
    Calls Tryd.prog 26 #[.slice (some p) 4 cap] w fun e w' => e = .returned (.tuple #[.int .u32 (b0 + 256 * b1 + 65536 * b2 + 16777216 * b3), .nilIface]) ∧ w = w' := by
  have q : Calls Tryd.prog 33 #[.int .i64 4] w fun e w' => e = .returned (.bool true) ∧ w = w' := issizeN 4 (.inr (.inr rfl)) w
  have O := Lib.hid (or4 b0 b1 b2 b3 h0 h0' h1 h1' h2 h2' h3 h3')
  go_enter Tryd.func26, Tryd.ntmps26
  go_wp2_with fail
  refine q.mono ?_
  rintro e w' ⟨rfl, rfl⟩
  go_wp2_with fail
  go_rounds 5
  go_ret2
  exact ⟨by rw [← O.out]; rfl, rfl⟩
theorem pload0 (p : Option Addr) (cap : Nat) (w : World) : Calls Tryd.prog 26 #[.slice p 0 cap] w fun e w' => e = .returned (.tuple #[.int .u32 0, erN 22]) ∧ w = w' := by
  have q := issize0 w
  have e3 : erN 22 = .iface 60 (.int .i64 22) := rfl
  rw [e3]
  go_enter Tryd.func26, Tryd.ntmps26
  go_wp2_with fail
  refine q.mono ?_
  rintro e w' ⟨rfl, rfl⟩
  go_wp2
  go_ret2
  exact ⟨rfl, rfl⟩
theorem pload {w : World} {u : Value} {l : List Int} (h : Byts w u l) (hb : ∀ x ∈ l, 0 ≤ x ∧ x ≤ 255) (hk : l.length = 1 ∨ l.length = 2 ∨ l.length = 4) : Calls Tryd.prog 26 #[u] w fun e w' => e = .returned (.tuple #[.int .u32 (whL l 0 l.length), .nilIface]) ∧ w = w' := by
  obtain ⟨p, cap, rfl, hcap, hc⟩ := h
  match l, hk with
  | [a], _ =>
    obtain ⟨x, rfl, c0⟩ := hc 0 (by simp)
    have b0 := hb a (by simp)
    have q := pload1 a x cap w b0.1 b0.2 c0
    rwa [show whL [a] 0 [a].length = a by show 256 * 0 + a = a; omega]
  | [a, b], _ =>
    obtain ⟨x, rfl, c0⟩ := hc 0 (by simp)
    obtain ⟨x1, e1, c1⟩ := hc 1 (by simp)
    cases e1
    rw [fadl x 1 (by omega)] at c1
    have b0 := hb a (by simp)
    have b1 := hb b (by simp)
    have q := pload2 a b x cap w b0.1 b0.2 b1.1 b1.2 c0 c1
    rwa [show whL [a, b] 0 [a, b].length = a + 256 * b by show 256 * (256 * 0 + b) + a = _; omega]
  | [a, b, c, d], _ =>
    obtain ⟨x, rfl, c0⟩ := hc 0 (by simp)
    obtain ⟨x1, e1, c1⟩ := hc 1 (by simp)
    cases e1
    obtain ⟨x1, e1, c2⟩ := hc 2 (by simp)
    cases e1
    obtain ⟨x1, e1, c3⟩ := hc 3 (by simp)
    cases e1
    rw [fadl x 1 (by omega)] at c1
    rw [fadl x 2 (by omega)] at c2
    rw [fadl x 3 (by omega)] at c3
    have b0 := hb a (by simp)
    have b1 := hb b (by simp)
    have b2 := hb c (by simp)
    have b3 := hb d (by simp)
    have q := pload4 a b c d x cap w b0.1 b0.2 b1.1 b1.2 b2.1 b2.2 b3.1 b3.2 c0 c1 c2 c3
    rwa [show whL [a, b, c, d] 0 [a, b, c, d].length = a + 256 * b + 65536 * c + 16777216 * d by show 256 * (256 * (256 * (256 * 0 + d) + c) + b) + a = _; omega]
/-- what number leaves -/
def NumC (w0 : World) (r : List Int) (sh : Bool) (rb : Nat) (k : Nat) (w : World) (e : Ending) (w' : World) : Prop := ∃ v', e = .returned (.int .u32 (nmV k r)) ∧ Byts w0 v' (tkR k r) ∧ Box w' rb #[v', .bool (tkS k r sh)] 56 ∧ Far rb w w'
set_option maxHeartbeats 2000000 in
theorem pnumber {w0 w : World} {rv : Value} {r : List Int} {sh : Bool} {rb : Nat} (h : Byts w0 rv r) (hB : ∀ x ∈ r, 0 ≤ x ∧ x ≤ 255) (hb : Box w rb #[rv, .bool sh] 56) (hn : New w0 w) (hrb : w0.heap.size ≤ rb) (k : Nat) (hk : k = 1 ∨ k = 2 ∨ k = 4) :
    Calls Tryd.prog 19 #[.pointer (some ⟨rb, 0, none⟩), .int .i64 (k : Int)] w (NumC w0 r sh rb k w) := by
  have q := ptake h hb k
  have H := Lib.hid (And.intro hB (And.intro hn (And.intro hrb hk)))
  clear h hB hb hn hrb hk
  go_enter Tryd.func19, Tryd.ntmps19
  go_wp2_with fail
  refine q.mono ?_
  rintro e w1 ⟨u, v', rfl, hu, hv, hx, hf⟩
  obtain ⟨HB, HN, HR, HK⟩ := H.out
  have n1 := hf.new HN HR
  have hu1 := hu.new n1
  have E := Lib.hid (fun (x : Int) (hx0 : x = nmV k r) => (⟨v', by rw [hx0], hv, hx, hf⟩ : NumC w0 r sh rb k w (.returned (.int .u32 x)) w1))
  clear q hu hv hx hf HN HR n1
  by_cases c : k ≤ r.length
  · have ht : tkU k r = r.take k := if_pos c
    rw [ht] at hu1
    have hl : (r.take k).length = k := by rw [List.length_take]; omega
    have q := pload hu1 (fun x hx => HB x (List.mem_of_mem_take hx)) (by rw [hl]; exact HK)
    rw [hl, whL_take r k k 0 (by omega)] at q
    have EV := Lib.hid (show whL r 0 k = nmV k r from (if_pos c).symm)
    generalize whL r 0 k = x at *
    clear hu1 hl ht HB HK
    go_wp2_with fail
    refine q.mono ?_
    rintro e w2 ⟨rfl, rfl⟩
    go_wp2_with fail
    go_ret
    exact E.out _ EV.out
  · have ht : tkU k r = [] := if_neg c
    rw [ht] at hu1
    obtain ⟨p, cp, rfl, -⟩ := hu1
    have q := pload0 p cp w1
    have e3 : erN 22 = .iface 60 (.int .i64 22) := rfl
    rw [e3] at q
    have EV := Lib.hid (show 0 = nmV k r from (if_neg c).symm)
    clear ht HB HK
    go_wp2_with fail
    refine q.mono ?_
    rintro e w2 ⟨rfl, rfl⟩
    go_wp2_with fail
    go_ret
    exact E.out _ EV.out
end Go.Proofs.YtealjgfijlencaaDoor
