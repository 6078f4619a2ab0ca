/- The least free number; what a name means. -/
import Derived.Test.YtgoecdmnefjdnaaDoorInB
namespace Go.Proofs.YtgoecdmnefjdnaaDoor
open Go.RowKit
open Go.Maps (Keyed)
set_option linter.unusedVariables false
set_option maxRecDepth 100000
theorem ok64 {i : Int} (h : -1000000000000000000 ≤ i ∧ i ≤ 1000000000000000000) : Ok64 i := WalkArith.wf_i64 (by omega)
theorem plL_len (N : List (Int × Nd)) : (plL N).length = N.length := by simp [plL]
section
variable {X : Nat → Prop} {w : World} {tb mb : Nat} {most : Int} {N : List (Int × Nd)} {tg : Nat → Option (Int × Nat)} {i : Int} {n : Nd}
theorem free_any (h : TrM X w tb mb most N tg) : Calls Tryd.prog 24 #[.pointer (some ⟨tb, 0, none⟩)] w fun e w' => e = .returned (.int .i64 (frN (plL N))) ∧ w' = w := by
  obtain ⟨b0, b1⟩ := h.box.two
  have hm : N.length ≤ 64 := by have := h.few; have := h.mst; omega
  go_enter Tryd.func24, Tryd.ntmps24
  go_wp2_with fail
  go_loopg [3] (N.length + 1) (fun k s3 wr => ∃ m : Nat, k + m = N.length + 1 ∧ s3 = .int .i64 ((m : Int) + 1) ∧ wr = w ∧ ∀ j : Nat, 1 ≤ j → j ≤ m → nget N (j : Int) ≠ none)
  case atStart => exact ⟨0, by omega, rfl, rfl, fun j h1 h2 => by omega⟩
  case round =>
    obtain ⟨m, hk, rfl, rfl, hA⟩ := hrel
    have HK := Lib.hid hk
    have HA := Lib.hid hA
    have hi : Ok64 ((m : Int) + 1) := ok64 (by omega)
    cases hg : nget N ((m : Int) + 1) with
    | none =>
      have hr := h.miss false hi hg
      have HF := Lib.hid (show frN (plL N) = (m : Int) + 1 from frN_eq (plL N) m gk (by rw [plL_len]; exact hk) (fun j h1 h2 => by rw [nget_pl]; intro e; exact hA j h1 h2 (by cases hh : nget N (j : Int) with | none => rfl | some x => rw [hh] at e; cases e)) (pl_none hg))
      rw [if_neg (by simp)] at hr
      clear hk hA hg hi
      go_wp2
      go_ret
      exact ⟨ret_int HF.out.symm, rfl⟩
    | some x =>
      have hr := h.hit false hi hg
      rw [if_neg (by simp)] at hr
      have hk0 : 1 ≤ gk := by
        rcases Nat.eq_zero_or_pos gk with c | c
        · exfalso
          have := pigeon (m + 1) N (fun j h1 h2 => by
            rcases Nat.lt_or_ge m j with c2 | c2
            · obtain rfl : j = m + 1 := by omega
              have e : (((m + 1 : Nat) : Int)) = (m : Int) + 1 := by omega
              rw [e, hg]; simp
            · exact hA j h1 c2)
          omega
        · exact c
      have HN := Lib.hid (show ∀ j : Nat, 1 ≤ j → j ≤ m + 1 → nget N (j : Int) ≠ none from fun j h1 h2 => by
            rcases Nat.lt_or_ge m j with c2 | c2
            · obtain rfl : j = m + 1 := by omega
              have e : (((m + 1 : Nat) : Int)) = (m : Int) + 1 := by omega
              rw [e, hg]; simp
            · exact hA j h1 c2)
      have hm2 : m + 1 ≤ N.length + 1 := by omega
      clear hk hA hg hi
      go_wp2_with fail
      go_roundg (gk - 1)
      case measure => omega
      case rel => exact ⟨m + 1, by have := HK.out; omega, (by first | rfl | (congr 1; omega)), rfl, HN.out⟩
/-- the names of a folder -/
theorem names_hit (h : NdM w n) (hf : n.p.fd = true) (c : Bool) {s : List UInt8} {j : Int} (hs : s.length ≤ maxLen) (hg : sget n.p.nms s = some j) : (Instr.lookup 60 (.map (some n.nb)) (.string (ba s)) c).run Tryd.prog w = .ok (if c then .tuple #[.int .i64 j, .bool true] else .int .i64 j) w :=
  (h.mp hf).look_hit keyS Tryd.underlying60 c (WideMaps.keyOf_string_mk Tryd.underlying9 (by rw [ba_size]; exact hs)) (by
    obtain ⟨l1, l2, e, -⟩ := sget_some hg
    rw [e]; simp [nmE])
theorem names_no {l : List (List UInt8 × Int)} {s : List UInt8} (hg : sget l s = none) : ∀ x ∈ nmE l, x.1 ≠ Value.string (ba s) := by
  intro x hx
  obtain ⟨q, hq, rfl⟩ := List.mem_map.1 hx
  exact fun e => sget_none hg q hq (ba_inj.1 (by simpa using e))
theorem names_miss (h : NdM w n) (hf : n.p.fd = true) (c : Bool) {s : List UInt8} (hs : s.length ≤ maxLen) (hg : sget n.p.nms s = none) : (Instr.lookup 60 (.map (some n.nb)) (.string (ba s)) c).run Tryd.prog w = .ok (if c then .tuple #[.int .i64 0, .bool false] else .int .i64 0) w :=
  (h.mp hf).look_miss keyS Tryd.underlying60 c (zeroI w) (WideMaps.keyOf_string_mk Tryd.underlying9 (by rw [ba_size]; exact hs)) (names_no hg)
end
section
variable {X : Nat → Prop} {w : World} {tb mb : Nat} {most : Int} {N : List (Int × Nd)} {tg : Nat → Option (Int × Nat)} {L : Pt} {i : Int} {s : List UInt8}
theorem nat_pl {n : Nd} (hg : nget N i = some n) : nat (plL N) i = n.p := by unfold nat; rw [pl_some hg]; rfl
theorem find_m (h : TrM X w tb mb most N tg) (hi : Ok64 i) (hs : s.length ≤ maxLen) : Calls Tryd.prog 23 #[.pointer (some ⟨tb, 0, none⟩), .int .i64 i, .string (ba s)] w fun e w' => e = .returned (.tuple #[.int .i64 (fnV (plL N) i s), erN (fnE (plL N) i s)]) ∧ w' = w := by
  by_cases hc : fdE (plL N) i = 0
  · cases hg : nget N i with
    | none => rw [fdE_none (pl_none hg)] at hc; cases hc
    | some n =>
      rw [fdE_some (pl_some hg)] at hc
      have hf : n.p.fd = true := by cases e : n.p.fd with | false => rw [e] at hc; cases hc | true => rfl
      have c := folder_hit h hi hg hf
      have hN := node_cell h hg
      obtain ⟨-, c1, -, -, -, c5⟩ := hN.six
      rw [hf, if_pos rfl] at c5
      have E0 : fdE (plL N) i = 0 := by rw [fdE_some (pl_some hg), hf]; rfl
      have eV : fnV (plL N) i s = if s = s1 then i else if s = s2 then n.p.par else (sget n.p.nms s).getD 0 := by unfold fnV; rw [if_neg (by simp [E0]), nat_pl hg]
      have eE : fnE (plL N) i s = if s = s1 ∨ s = s2 then 0 else oE (sget n.p.nms s) := by unfold fnE; rw [if_neg (by simp [E0]), nat_pl hg]
      rw [eV, eE]
      clear hc E0 eV eE
      by_cases q1 : s = s1
      · subst q1
        have v1 : (if s1 = s1 then i else if s1 = s2 then n.p.par else (sget n.p.nms s1).getD 0) = i := if_pos rfl
        have v2 : erN (if s1 = s1 ∨ s1 = s2 then 0 else oE (sget n.p.nms s1)) = .nilIface := by rw [if_pos (.inl rfl)]; rfl
        have k1 : ((ba s1).toList == [46]) = true := by rw [ba_list]; rfl
        rw [v1, v2]
        go_enter Tryd.func23, Tryd.ntmps23
        go_wp2_with fail
        refine c.mono ?_
        rintro e w' ⟨rfl, rfl⟩
        go_wp2
        go_ret2
        exact ⟨rfl, rfl⟩
      · by_cases q2 : s = s2
        · subst q2
          have v1 : (if s2 = s1 then i else if s2 = s2 then n.p.par else (sget n.p.nms s2).getD 0) = n.p.par := by rw [if_neg q1, if_pos rfl]
          have v2 : erN (if s2 = s1 ∨ s2 = s2 then 0 else oE (sget n.p.nms s2)) = .nilIface := by rw [if_pos (.inr rfl)]; rfl
          have k1 : ((ba s2).toList == [46]) = false := by rw [ba_list]; rfl
          have k2 : ((ba s2).toList == [46, 46]) = true := by rw [ba_list]; rfl
          rw [v1, v2]
          go_enter Tryd.func23, Tryd.ntmps23
          go_wp2_with fail
          refine c.mono ?_
          rintro e w' ⟨rfl, rfl⟩
          go_wp2
          go_ret2
          exact ⟨rfl, rfl⟩
        · have k1 : ((ba s).toList == [46]) = false := by rw [ba_list]; exact beq_eq_false_iff_ne.2 q1
          have k2 : ((ba s).toList == [46, 46]) = false := by rw [ba_list]; exact beq_eq_false_iff_ne.2 q2
          rw [if_neg q1, if_neg q2, if_neg (fun e => e.elim q1 q2)]
          cases hq : sget n.p.nms s with
          | none =>
            have hr := names_miss hN hf true hs hq
            rw [if_pos rfl] at hr
            have v2 : erN (oE (none : Option Int)) = .iface 50 (.int .i64 2) := rfl
            rw [v2]
            go_enter Tryd.func23, Tryd.ntmps23
            go_wp2_with fail
            refine c.mono ?_
            rintro e w' ⟨rfl, rfl⟩
            go_wp2
            go_ret2
            exact ⟨rfl, rfl⟩
          | some j =>
            have hr := names_hit hN hf true hs hq
            rw [if_pos rfl] at hr
            have v2 : erN (oE (some j)) = .nilIface := rfl
            rw [v2]
            go_enter Tryd.func23, Tryd.ntmps23
            go_wp2_with fail
            refine c.mono ?_
            rintro e w' ⟨rfl, rfl⟩
            go_wp2
            go_ret2
            exact ⟨rfl, rfl⟩
  · have c := folder_err h hi hc
    have v1 : fnV (plL N) i s = 0 := by unfold fnV; rw [if_pos hc]
    have v2 : erN (fnE (plL N) i s) = .iface 50 (.int .i64 (fdE (plL N) i)) := by
      have : fnE (plL N) i s = fdE (plL N) i := by unfold fnE; rw [if_pos hc]
      rw [this, erN_pos hc]
    rw [v1, v2]
    clear hc
    go_enter Tryd.func23, Tryd.ntmps23
    go_wp2_with fail
    refine c.mono ?_
    rintro e w' ⟨rfl, rfl⟩
    go_wp2
    go_ret2
    exact ⟨rfl, rfl⟩
theorem find_any (h : Tr X w tb most L) (hi : Ok64 i) (hs : s.length ≤ maxLen) : Calls Tryd.prog 23 #[.pointer (some ⟨tb, 0, none⟩), .int .i64 i, .string (ba s)] w fun e w' => e = .returned (.tuple #[.int .i64 (fnV L i s), erN (fnE L i s)]) ∧ w' = w := by
  obtain ⟨mb, N, tg, h, rfl⟩ := h
  exact find_m h hi hs
end
end Go.Proofs.YtgoecdmnefjdnaaDoor
