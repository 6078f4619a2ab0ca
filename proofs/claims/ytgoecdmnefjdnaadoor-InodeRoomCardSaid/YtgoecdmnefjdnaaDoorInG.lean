/- A tree is made; names one behind the other; what must come whatever the input is. -/
import Derived.Test.YtgoecdmnefjdnaaDoorInW
import Derived.Test.YtgoecdmnefjdnaaDoorOwnS
import Derived.Lib.SlBytesConst
namespace Go.Proofs.YtgoecdmnefjdnaaDoor
open Go.RowKit
open Go.Maps (Keyed)
set_option linter.unusedVariables false
set_option maxRecDepth 100000
/-- the first tree -/
def rootL : Pt := [(1, fresh 1 1)]
theorem new_any (most : Int) (w : World) (hm : 1 ≤ most ∧ most ≤ 64) : Calls Tryd.prog 6 #[.int .i64 most] w fun e w' => ∃ tb, e = .returned (.tuple #[.pointer (some ⟨tb, 0, none⟩), .nilIface]) ∧ (∀ X : Nat → Prop, (∀ g, X g → g < w.heap.size) → Tr X w' tb most rootL) ∧ New w w' := by
  have hmm := @run_makeMap Tryd.prog
  have n1 : New w (w.alloc (.map #[] 0)) := (New.refl w).allocO _
  have m1 := Mp.made w Tryd.prog 3
  have s1 : (w.alloc (.map #[] 0)).heap.size = w.heap.size + 1 := by simp
  have c := newnode_any 1 1 (w.alloc (.map #[] 0)) (.inr rfl) (ok64 (by omega))
  have a1 : ¬ most < 1 := by omega
  have a2 : ¬ 64 < most := by omega
  go_enter Tryd.func6, Tryd.ntmps6
  go_wp2_with fail
  refine c.mono ?_
  rintro e w2 ⟨n, rfl, d1, d2, d3, d4, d5, n2⟩
  have m2 := m1.new n2
  have hz : ([] : List (Value × Value)).length < maxLen := by decide
  have N2 := n1.trans n2
  have sz := n2.size
  rw [s1] at sz d3 d4
  go_wp2_with (refine wpList_store_new _ rfl _ _ _ _ (.inr rfl) 3 51 keyI Tryd.underlying53 w.heap.size [] rfl m2 hz (.int .i64 1) _ _ rfl rfl (Maps.keyOf_int_mk Tryd.underlying3 (ok64 (i := 1) (by omega))) (by simp) ?_; intro w3 m3 k3)
  go_ret2
  have sb : New w3 (w3.alloc (.cells #[.int .i64 most, .map (some w.heap.size)] 55)) := (New.refl w3).alloc _ _
  have k3' := k3 (fun g => g = w.heap.size) rfl
  have N3 : New w w3 := ((But.of_new (fun g => g = w.heap.size) N2).trans k3').new (fun i hi e => by omega)
  have fd : n.p.fd = true := by rw [d2]; rfl
  have z3 := k3'.size
  have ln := d1.box.lt
  have lnb := (d1.mp fd).lt
  have d1' : NdM w3 n := d1.but k3' (by show ¬ n.bk = w.heap.size; omega) (fun e => by have := (d4 e).1; show ¬ n.nb = w.heap.size; omega) (fun g hg => by rw [d5] at hg; cases hg)
  refine ⟨_, rfl, fun X hX => ?_, N3.trans sb⟩
  have d4' := d4 fd
  refine ⟨w.heap.size, [(1, n)], fun g => if g = w3.heap.size then some (0, 0) else if g = w.heap.size then some (0, 1) else if g = n.bk then some (1, 0) else if g = n.nb then some (1, 1) else none, ⟨Box.here _ _ _ _ rfl, ?_, ?_, ?_, ?_, ?_, ?_, ?_, ?_, ?_, ?_, hm, ?_⟩, ?_⟩
  · exact (show Mp Tryd.prog 3 w3 w.heap.size (ndE [(1, n)]) from m3).new sb
  · intro q hq
    obtain rfl : q = (1, n) := by simpa using hq
    exact d1'.but (But.of_new (fun _ => False) sb) (fun c => c) (fun _ c => c) (fun _ _ c => c)
  · exact if_pos rfl
  · show (if _ then _ else _) = _
    rw [if_neg (by omega), if_pos rfl]
  · intro q hq
    obtain rfl : q = (1, n) := by simpa using hq
    dsimp only
    rw [if_neg (by omega), if_neg (by omega), if_pos rfl]
  · intro q hq hf
    obtain rfl : q = (1, n) := by simpa using hq
    dsimp only
    rw [if_neg (by omega), if_neg (by omega), if_neg d4'.2, if_pos rfl]
  · intro q hq g hg
    obtain rfl : q = (1, n) := by simpa using hq
    rw [d5] at hg; cases hg
  · intro g hg
    have := hX g hg
    show (if _ then _ else _) = _
    rw [if_neg (by omega), if_neg (by omega), if_neg (by omega), if_neg (by omega)]
  · intro g hg
    have := hX g hg
    have := sb.size
    omega
  · intro q hq
    obtain rfl : q = (1, n) := by simpa using hq
    exact ⟨by show (1 : Int) ≤ 1; omega, by show (1 : Int) ≤ 1000; omega⟩
  · show ((1 : Nat) : Int) ≤ most; omega
  · show [(1, n.p)] = rootL; rw [d2]; rfl
/-! ### names one behind the other -/
def lpE (L : Pt) : Int → List (List UInt8) → Int
  | _, [] => 0
  | i, s :: r => if fnE L i s ≠ 0 then fnE L i s else lpE L (fnV L i s) r
def lpV (L : Pt) : Int → List (List UInt8) → Int
  | i, [] => i
  | i, s :: r => lpV L (fnV L i s) r
def waE (L : Pt) (i : Int) (l : List (List UInt8)) : Int := if fdE L i ≠ 0 then fdE L i else lpE L i l
def waV (L : Pt) (i : Int) (l : List (List UInt8)) : Int := if waE L i l = 0 then lpV L i l else 0
section
variable {X : Nat → Prop} {w w' : World} {tb mb : Nat} {most : Int} {N : List (Int × Nd)} {tg : Nat → Option (Int × Nat)} {i : Int} {n : Nd} {s : List UInt8}
/-- what a name means is a number -/
theorem fn_ok {L : Pt} (h : Tr X w tb most L) (hi : Ok64 i) : Ok64 (fnV L i s) := by
  obtain ⟨mb, N, tg, h, rfl⟩ := h
  unfold fnV
  by_cases hc : fdE (plL N) i ≠ 0
  · rw [if_pos hc]; exact ok64 (by omega)
  · rw [if_neg hc]
    cases hg : nget N i with
    | none => rw [fdE_none (pl_none hg)] at hc; exact absurd (by decide) hc
    | some n =>
      have hN := node_cell h hg
      rw [nat_pl hg]
      by_cases c1 : s = s1
      · rw [if_pos c1]; exact hi
      · rw [if_neg c1]
        by_cases c2 : s = s2
        · rw [if_pos c2]; exact hN.wfp
        · rw [if_neg c2]
          cases hq : sget n.p.nms s with
          | none => exact ok64 (by show _ ≤ (0 : Int) ∧ (0 : Int) ≤ _; omega)
          | some j =>
            obtain ⟨l1, l2, e, -⟩ := sget_some hq
            exact hN.wfn (s, j) (by rw [e]; simp)
theorem lpE_snoc (L : Pt) : ∀ (l : List (List UInt8)) (i : Int) (s : List UInt8), lpE L i l = 0 → lpE L i (l ++ [s]) = fnE L (lpV L i l) s
  | [], i, s, _ => by
    show (if fnE L i s ≠ 0 then fnE L i s else 0) = fnE L i s
    by_cases c : fnE L i s ≠ 0
    · rw [if_pos c]
    · rw [if_neg c]; exact (Decidable.of_not_not c).symm
  | a :: r, i, s, h => by
    have h' : (if fnE L i a ≠ 0 then fnE L i a else lpE L (fnV L i a) r) = 0 := h
    by_cases c : fnE L i a ≠ 0
    · rw [if_pos c] at h'; exact absurd h' c
    · rw [if_neg c] at h'
      show (if fnE L i a ≠ 0 then fnE L i a else lpE L (fnV L i a) (r ++ [s])) = fnE L (lpV L (fnV L i a) r) s
      rw [if_neg c]; exact lpE_snoc L r _ s h'
theorem lpV_snoc (L : Pt) : ∀ (l : List (List UInt8)) (i : Int) (s : List UInt8), lpV L i (l ++ [s]) = fnV L (lpV L i l) s
  | [], i, s => rfl
  | a :: r, i, s => lpV_snoc L r (fnV L i a) s
/-- an error on the way is the way's -/
theorem lpE_stop (L : Pt) : ∀ (l : List (List UInt8)) (i : Int) (s : List UInt8) (r : List (List UInt8)), lpE L i l = 0 → fnE L (lpV L i l) s ≠ 0 → lpE L i (l ++ s :: r) = fnE L (lpV L i l) s
  | [], i, s, r, _, h => by
    show (if fnE L i s ≠ 0 then fnE L i s else _) = fnE L i s
    exact if_pos h
  | a :: q, i, s, r, h, h2 => by
    have h' : (if fnE L i a ≠ 0 then fnE L i a else lpE L (fnV L i a) q) = 0 := h
    by_cases c : fnE L i a ≠ 0
    · rw [if_pos c] at h'; exact absurd h' c
    · rw [if_neg c] at h'
      show (if fnE L i a ≠ 0 then fnE L i a else lpE L (fnV L i a) (q ++ s :: r)) = fnE L (lpV L (fnV L i a) q) s
      rw [if_neg c]; exact lpE_stop L q _ s r h' h2
theorem walk_any {L : Pt} {v : Value} {ls : List (List UInt8)} (h : Tr X w tb most L) (hi : Ok64 i) (hv : TxR w v ls) (hs : ∀ x ∈ ls, x.length ≤ maxLen) (hl : ls.length ≤ 1000000) : Calls Tryd.prog 19 #[.pointer (some ⟨tb, 0, none⟩), .int .i64 i, v] w fun e w' => e = .returned (.tuple #[.int .i64 (waV L i ls), erN (waE L i ls)]) ∧ w' = w := by
  have H0 := h
  obtain ⟨mb, N, tg, h, rfl⟩ := h
  obtain ⟨p, cap, rfl, h1, h0, hc⟩ := hv
  by_cases hf : fdE (plL N) i = 0
  · cases hg : nget N i with
    | none => rw [fdE_none (pl_none hg)] at hf; cases hf
    | some n =>
      have hfd : n.p.fd = true := by rw [fdE_some (pl_some hg)] at hf; cases e : n.p.fd with | false => rw [e] at hf; cases hf | true => rfl
      have c := folder_hit h hi hg hfd
      have hE : waE (plL N) i ls = lpE (plL N) i ls := by unfold waE; rw [if_neg (by simp [hf])]
      have HF := Lib.hid (fun (q : lpE (plL N) i ls = 0) => (show waV (plL N) i ls = lpV (plL N) i ls ∧ erN (waE (plL N) i ls) = .nilIface by unfold waV; rw [hE, q, if_pos rfl]; exact ⟨rfl, rfl⟩))
      have HB := Lib.hid (fun (c : Int) (q : lpE (plL N) i ls = c) (q0 : c ≠ 0) => (show waV (plL N) i ls = 0 ∧ erN (waE (plL N) i ls) = .iface 50 (.int .i64 c) by unfold waV; rw [hE, q, if_neg q0, erN_pos q0]; exact ⟨rfl, rfl⟩))
      clear hE hf hg
      go_enter Tryd.func19, Tryd.ntmps19
      go_wp2_with fail
      refine c.mono ?_
      rintro e w1 ⟨rfl, rfl⟩
      go_wp2_with fail
      go_loopg [1, 25] ls.length (fun gk sd s25 wr => ∃ j : Nat, j + gk = ls.length ∧ sd = .int .i64 (lpV (plL N) i (ls.take j)) ∧ s25 = .int .i64 (j : Int) ∧ wr = w1 ∧ Ok64 (lpV (plL N) i (ls.take j)) ∧ lpE (plL N) i (ls.take j) = 0)
      case atStart => exact ⟨0, by omega, rfl, rfl, rfl, hi, rfl⟩
      case round =>
        obtain ⟨j, hj, rfl, rfl, rfl, hok, hA⟩ := hrel
        have HJ := Lib.hid hj
        by_cases hlt : j < ls.length
        · obtain ⟨x, hx⟩ : ∃ x, ls[j]? = some x := ⟨_, List.getElem?_eq_getElem hlt⟩
          obtain ⟨a, rfl, cx⟩ := hc j x hx
          have hlt' : (j : Int) < (ls.length : Int) := by omega
          have cF := find_m h hok (hs x (List.mem_of_getElem? hx))
          have htk : ls.take (j + 1) = ls.take j ++ [x] := by rw [List.take_add_one, hx]; rfl
          have hdr : ls = ls.take j ++ x :: ls.drop (j + 1) := by
            have := List.take_append_drop j ls
            rw [← List.getElem_cons_drop hlt] at this
            rw [(List.getElem?_eq_some_iff.1 hx).2] at this
            exact this.symm
          by_cases he : fnE (plL N) (lpV (plL N) i (ls.take j)) x = 0
          · rw [he, er0] at cF
            have o2 := fn_ok (s := x) H0 hok
            have HN := Lib.hid (show lpV (plL N) i (ls.take (j + 1)) = fnV (plL N) (lpV (plL N) i (ls.take j)) x ∧ lpE (plL N) i (ls.take (j + 1)) = 0 by rw [htk, lpV_snoc, lpE_snoc _ _ _ _ hA]; exact ⟨rfl, he⟩)
            have HO := Lib.hid o2
            clear he hdr htk hA hj o2 hok hx
            generalize lpV (plL N) i (ls.take j) = d0 at *
            generalize hd : fnV (plL N) d0 x = d at *
            clear hd
            go_wp2_with fail
            refine cF.mono ?_
            rintro e w2 ⟨rfl, rfl⟩
            go_wp2_with fail
            go_roundg (gk - 1)
            case measure => have := HJ.out; omega
            case rel => exact ⟨j + 1, by have := HJ.out; omega, by rw [HN.out.1], rfl, rfl, by rw [HN.out.1]; exact HO.out, HN.out.2⟩
          · have e6 := lpE_stop (plL N) (ls.take j) i x (ls.drop (j + 1)) hA he
            rw [← hdr] at e6
            have HBB := Lib.hid (HB.out _ e6 he)
            clear e6
            rw [erN_pos he] at cF
            clear hdr htk hA hj hok hx HF HB
            generalize lpV (plL N) i (ls.take j) = d0 at *
            generalize fnE (plL N) d0 x = c3 at *
            generalize fnV (plL N) d0 x = c4 at *
            clear he
            go_wp2_with fail
            refine cF.mono ?_
            rintro e w2 ⟨rfl, rfl⟩
            go_wp2
            go_ret2
            exact ⟨by rw [HBB.out.1, HBB.out.2]; rfl, rfl⟩
        · have hge : ¬ (j : Int) < (ls.length : Int) := by omega
          rw [List.take_of_length_le (by omega)] at hA hok ⊢
          have HBB := Lib.hid (HF.out hA)
          clear hA hj hok HF HB
          generalize lpV (plL N) i ls = d0 at *
          go_wp2
          go_ret2
          exact ⟨by rw [HBB.out.1, HBB.out.2]; rfl, rfl⟩
  · have c := folder_err h hi hf
    have e1 : waE (plL N) i ls = fdE (plL N) i := by unfold waE; rw [if_pos hf]
    have e2 : waV (plL N) i ls = 0 := by unfold waV; rw [e1, if_neg hf]
    have E2 := erN_pos hf
    rw [e1, e2, E2]
    generalize fdE (plL N) i = c3 at *
    clear hf h H0 e1 e2 E2
    go_enter Tryd.func19, Tryd.ntmps19
    go_wp2_with fail
    refine c.mono ?_
    rintro e w1 ⟨rfl, rfl⟩
    go_wp2
    go_ret2
    exact ⟨rfl, rfl⟩
/-! ### what must come whatever the input is -/
def suA : Pt := mkR 4 rootL 1 [97] 0
def suB : Pt := wrR suA 2 2 [120, 121]
def suC : Pt := hoR suB 2
def suD : Pt := unR suC 1 [97]
def suE : Pt := drR suD 2
theorem su_a : mkE 4 rootL 1 [97] 0 = 0 ∧ mkV 4 rootL 1 [97] 0 = 2 ∧ (nat rootL 1).nms.length < 1000000 := by decide +kernel
theorem su_b : wrE suA 2 2 [120, 121] = 0 ∧ wrV suA 2 2 [120, 121] = 2 := by decide +kernel
theorem su_c : hoE suB 2 = 0 := by decide +kernel
theorem su_d : unE suC 1 [97] = 0 ∧ (nget suC (fnV suC 1 [97])).isSome = true := by decide +kernel
theorem su_e : flE suD 2 = 0 ∧ rdB suD 2 1 9 = [0, 120, 121] := by decide +kernel
theorem su_f : drE suD 2 = 0 ∧ kdE suE 2 = 2 ∧ suE.length = 1 := by decide +kernel
theorem But.ofX {X Y : Nat → Prop} (h : But (fun g => ¬ Y g) w w') (k : ∀ g, X g → Y g) : But (fun g => ¬ X g) w w' := h.mono fun i _ c e => c (k i e)
theorem Byts.butX {u : Value} {l : List Int} {S : Nat → Prop} (h : Byts w u l) (k : But S w w') (hn : ∀ g, u.ownBlock = some g → ¬ S g) : Byts w' u l := by
  obtain ⟨p, cap, rfl, h2, h3⟩ := h
  refine ⟨p, cap, rfl, h2, fun i hi => ?_⟩
  obtain ⟨a, rfl, hc⟩ := h3 i hi
  have hl := cell_lt hc
  rw [addb] at hl
  have e1 : w'.cell? (a.add i) = w.cell? (a.add i) := World.cell?_of_block (by rw [addb]; exact k.block hl (hn _ rfl))
  exact ⟨a, rfl, e1.trans hc⟩
/-- a constant's bytes -/
theorem byts_lit (w : World) (l : List Int) (fr : Nat × Nat) (hl : l.length ≤ 4096) : Byts (w.alloc (.cells (l.map (Value.int .u8)).toArray 5 fr)) (.slice (some ⟨w.heap.size, 0, none⟩) l.length l.length) l := by
  refine ⟨_, _, rfl, by unfold maxLen; omega, fun i hi => ⟨_, rfl, ?_⟩⟩
  rw [Addr.add_mid, Nat.zero_add]
  have : (w.alloc (.cells (l.map (Value.int .u8)).toArray 5 fr)).heap[w.heap.size]? = some (.cells (l.map (Value.int .u8)).toArray 5 fr) := by
    show (w.heap.push _)[w.heap.size]? = _
    simp
  unfold World.cell?
  simp only [this]
  simp [hi]
set_option maxHeartbeats 1000000 in
theorem isure_any (w : World) (hl : Laid w) : Calls Tryd.prog 7 #[] w fun e w' => e = .returned (.bool true) ∧ New w w' := by
  have c := new_any 4 w (by omega)
  go_enter Tryd.func7, Tryd.ntmps7
  go_wp2_with fail
  refine c.mono ?_
  rintro e w1 ⟨tb, rfl, T0, n1⟩
  have T1 := T0 (fun g => g < w.heap.size) (fun g h => h)
  have c := make_any (s := [97]) (k := 0) T1 (ok64 (i := 1) (by omega)) (by decide) su_a.2.2
  clear T0 T1
  go_wp2_with fail
  refine c.mono ?_
  rintro e w2 ⟨E, T2, k2⟩
  rw [su_a.1, su_a.2.1, er0] at E
  subst E
  change Tr _ w2 tb 4 suA at T2
  have n2 : New w w2 := ((But.of_new (fun g => ¬ g < w.heap.size) n1).trans k2).new (fun i h c => c h)
  have n3 : New w2 (w2.alloc (.cells #[.int .u8 120, .int .u8 121] 5 (2, 3))) := (New.refl w2).allocO _
  have CV : (convert 23 23 (.slice (some ⟨w2.heap.size, 0, none⟩) 2 2)).run Tryd.prog (w2.alloc (.cells #[.int .u8 120, .int .u8 121] 5)) = .ok (.slice (some ⟨w2.heap.size, 0, none⟩) 2 2) (w2.alloc (.cells #[.int .u8 120, .int .u8 121] 5 (2, 3))) := Go.Lib.run_convert_bytes_const w2 23 5 #[.int .u8 120, .int .u8 121] 2 2 Tryd.underlying23 Tryd.underlying5
  have T3 : Tr (fun g => g < w.heap.size ∨ g = w2.heap.size) _ tb 4 suA := T2.keep (But.of_new (fun _ => False) n3) (fun _ h => h.elim) (fun g hg => by
    have s1 := n2.size
    have s2 : (w2.alloc (.cells #[.int .u8 120, .int .u8 121] 5 (2, 3))).heap.size = w2.heap.size + 1 := by simp
    rcases hg with h | h
    · exact ⟨by omega, .inl h⟩
    · exact ⟨by omega, .inr (by omega)⟩)
  have BY := byts_lit w2 [120, 121] (2, 3) (by simp)
  have c := write_any (off := 2) T3 (ok64 (i := 2) (by omega)) BY (fun _ g hg => .inr (by simp [Value.ownBlock] at hg; exact hg.symm)) (by simp) (fun x hx => by simp at hx; omega)
  clear T2 k2
  go_wp2_with fail
  refine c.mono ?_
  rintro e w3 ⟨E, T4, k4⟩
  rw [su_b.1, su_b.2, er0] at E
  subst E
  change Tr _ w3 tb 4 suB at T4
  have n4 : New w w3 := ((But.of_new (fun g => ¬ g < w.heap.size) (n2.trans n3)).trans (k4.ofX fun g h => .inl h)).new (fun i h c => c h)
  have c := hold_any T4 (ok64 (i := 2) (by omega))
  rw [su_c, er0] at c
  clear T3 BY CV k4 n3 n2
  go_wp2_with fail
  refine c.mono ?_
  rintro e w4 ⟨rfl, T5, k5⟩
  change Tr _ w4 tb 4 suC at T5
  have n5 : New w w4 := ((But.of_new (fun g => ¬ g < w.heap.size) n4).trans (k5.ofX fun g h => .inl h)).new (fun i h c => c h)
  have c := unlink_any (s := [97]) T5 (ok64 (i := 1) (by omega)) (by decide) (fun _ => su_d.2)
  clear T4 k5 n4
  go_wp2_with fail
  refine c.mono ?_
  rintro e w5 ⟨E, T6, k6⟩
  rw [su_d.1, er0] at E
  subst E
  change Tr _ w5 tb 4 suD at T6
  have n6 : New w w5 := ((But.of_new (fun g => ¬ g < w.heap.size) n5).trans (k6.ofX fun g h => .inl h)).new (fun i h c => c h)
  have c := read_any (off := 1) (k := 9) T6 (ok64 (i := 2) (by omega)) (by omega) (by omega) su_e.1
  rw [su_e.2] at c
  clear T5 k6 n5
  go_wp2_with fail
  refine c.mono ?_
  rintro e w6 ⟨v, rfl, o7, n7⟩
  have n8 := n6.trans n7
  have T7 : Tr (fun g => g < w.heap.size ∨ (w5.heap.size ≤ g ∧ g < w6.heap.size)) w6 tb 4 suD := T6.keep (But.of_new (fun _ => False) n7) (fun _ h => h.elim) (fun g hg => by
    have s1 := n6.size
    have s2 := n7.size
    rcases hg with h | h
    · exact ⟨by omega, .inl (.inl h)⟩
    · exact ⟨h.2, .inr h.1⟩)
  have c := drop_any T7 (ok64 (i := 2) (by omega))
  rw [su_f.1, er0] at c
  clear T6 n6 n7
  go_wp2_with fail
  refine c.mono ?_
  rintro e w7 ⟨rfl, T8, k8⟩
  change Tr _ w7 tb 4 suE at T8
  have n9 : New w w7 := ((But.of_new (fun g => ¬ g < w.heap.size) n8).trans (k8.ofX fun g h => .inl h)).new (fun i h c => c h)
  have c := kind_any T8 (ok64 (i := 2) (by omega))
  rw [su_f.2.1] at c
  have BY := o7.byts.butX k8 (fun g hg h => h (.inr (World.ownsRow.lt o7 g hg)))
  have CS : (convert 23 9 v).run Tryd.prog w7 = .ok (.string ⟨#[0, 120, 121]⟩) w7 := str_of BY
  clear T7 k8 n8 o7
  go_wp2_with fail
  refine c.mono ?_
  rintro e w8 ⟨⟨kv, rfl⟩, rfl⟩
  have cN := num_er 2 w8 (hl.new n9)
  have cM := fun W (q : New w8 W) => many_any (T8.new q)
  rw [su_f.2.2] at cM
  clear c BY T8
  go_wp2_with fail
  refine cN.mono ?_
  rintro e w9 ⟨rfl, n10⟩
  have n11 := n9.trans n10
  go_wp2_with fail
  refine (cM _ n10).mono ?_
  rintro e w10 ⟨rfl, rfl⟩
  go_wp2
  go_ret
  exact ⟨rfl, n11⟩
end
end Go.Proofs.YtgoecdmnefjdnaaDoor
