/- The bytes of a file: read. -/
import Derived.Test.YtgoecdmnefjdnaaDoorInU
import Derived.BigQuiet
import Derived.RegionTactic
namespace Go.Proofs.YtgoecdmnefjdnaaDoor
open Go.RowKit
open Go.Maps (Keyed)
set_option linter.unusedVariables false
set_option maxRecDepth 100000
theorem bclone_any (u : Value) (l : List Int) (w : World) (hu : Byts w u l) (hl : l.length ≤ 100000) : Calls Tryd.prog 29 #[u] w fun e w' => ∃ v, e = .returned v ∧ OwnB w.heap.size w' v l ∧ New w w' := by
  obtain ⟨p, cap, rfl, h2, h3⟩ := id hu
  rcases p with _ | a
  · have hl0 : l = [] := by
      rcases l with _ | ⟨x, r⟩
      · rfl
      · obtain ⟨a, e, -⟩ := h3 0 (by simp); cases e
    subst hl0
    have e0 := fun W => Go.Lib.run_eql_slice_nil (P := Tryd.prog) W 23 5 none 0 cap 0 0 Tryd.underlying23
    go_enter Tryd.func29, Tryd.ntmps29
    go_wp2
    go_ret
    exact ⟨_, rfl, OwnB.nil _ _, New.refl _⟩
  · have e0 := fun W => Go.Lib.run_eql_slice_nil (P := Tryd.prog) W 23 5 (some a) l.length cap 0 0 Tryd.underlying23
    have n1 := (New.refl w).alloc #[] 5
    have hu' := hu.new n1
    have ho : OwnB w.heap.size (w.alloc (.cells #[] 5)) (.slice (some ⟨w.heap.size, 0, none⟩) 0 0) [] := World.ownsRow_made w #[] 0 (Nat.le_refl _) (Nat.zero_le _) rfl
    go_enter Tryd.func29, Tryd.ntmps29
    go_wp2_with (at_builtin; refine wpList_append_bytes rfl _ _ rfl rfl w.heap.size _ [] rfl ho _ l rfl hu' (by simp; omega) (by simp) ?_; intro v' w2 o2 g2)
    go_ret
    exact ⟨_, rfl, o2, g2 w (Nat.le_refl _) n1⟩
/-- a part of a slice of bytes -/
theorem Byts.part {w : World} {p : Option Addr} {n cap : Nat} {l : List Int} (h : Byts w (.slice p n cap) l) (o k : Nat) (cap' : Nat) (hok : o + k ≤ l.length) (hcap : l.length ≤ cap) : Byts w (.slice (if cap = o then p else Option.map (fun x => x.add o) p) k cap') ((l.drop o).take k) := by
  obtain ⟨p', c', e, h2, h3⟩ := h
  cases e
  have hl : ((l.drop o).take k).length = k := by simp; omega
  refine ⟨_, cap', by rw [hl], by rw [hl]; omega, fun i hi => ?_⟩
  rw [hl] at hi
  obtain ⟨a, rfl, hc⟩ := h3 (o + i) (by omega)
  rw [if_neg (by omega)]
  refine ⟨a.add o, rfl, ?_⟩
  have e2 : ((l.drop o).take k).getD i 0 = l.getD (o + i) 0 := by
    simp only [List.getD_eq_getElem?_getD, List.getElem?_take, if_pos hi, List.getElem?_drop]
  rw [e2, ← hc, Go.Deep.add_add]
section
variable {X : Nat → Prop} {w w' : World} {tb mb : Nat} {most : Int} {N : List (Int × Nd)} {tg : Nat → Option (Int × Nat)} {i off k : Int} {n m : Nd}
theorem read_any {L : Pt} (h : Tr X w tb most L) (hi : Ok64 i) (h0 : 0 ≤ off) (hk : 0 ≤ k) (hf : flE L i = 0) : Calls Tryd.prog 14 #[.pointer (some ⟨tb, 0, none⟩), .int .i64 i, .int .i64 off, .int .i64 k] w fun e w' => ∃ v, e = .returned (.tuple #[v, .nilIface]) ∧ OwnB w.heap.size w' v (rdB L i off k) ∧ New w w' := by
  obtain ⟨mb, N, tg, h, rfl⟩ := h
  cases hg : nget N i with
  | none => rw [flE_none (pl_none hg)] at hf; cases hf
  | some n =>
    rw [flE_some (pl_some hg)] at hf
    have hfd : n.p.fd = false := by cases e : n.p.fd with | true => rw [e] at hf; cases hf | false => rfl
    have c := file_hit h hi hg hfd
    have hN := node_cell h hg
    obtain ⟨-, -, -, -, c4, -⟩ := hN.six
    have e1 : rdB (plL N) i off k = ((n.p.dat).drop off.toNat).take k.toNat := by unfold rdB; rw [nat_pl hg]
    rw [e1]
    have hlen := hN.len
    have n0 : ¬ off < 0 := by omega
    have nk : ¬ k < 0 := by omega
    obtain ⟨o, ho, hol⟩ : ∃ o : Nat, min off (n.p.dat.length : Int) = (o : Int) ∧ o ≤ n.p.dat.length ∧ (n.p.dat).drop off.toNat = (n.p.dat).drop o := by
      rcases Int.le_total off (n.p.dat.length : Int) with c | c
      · exact ⟨off.toNat, by rw [Int.min_eq_left c]; omega, by omega, rfl⟩
      · exact ⟨n.p.dat.length, Int.min_eq_right c, Nat.le_refl _, by rw [List.drop_eq_nil_of_le (by omega), List.drop_eq_nil_of_le (Nat.le_refl _)]⟩
    obtain ⟨z, hz, hzl⟩ : ∃ z : Nat, min k ((n.p.dat.length - o : Nat) : Int) = (z : Int) ∧ z ≤ n.p.dat.length - o ∧ ((n.p.dat).drop o).take k.toNat = ((n.p.dat).drop o).take z := by
      rcases Int.le_total k ((n.p.dat.length - o : Nat) : Int) with c | c
      · exact ⟨k.toNat, by rw [Int.min_eq_left c]; omega, by omega, rfl⟩
      · exact ⟨n.p.dat.length - o, by rw [Int.min_eq_right c], Nat.le_refl _, by rw [List.take_of_length_le (by rw [List.length_drop]; omega), List.take_of_length_le (by rw [List.length_drop]; omega)]⟩
    rw [hol.2, hzl.2]
    have hB := OwnB.byts (show OwnB 0 w n.dv n.p.dat from hN.own)
    obtain ⟨p, cap, hdv⟩ := OwnB.shape (show OwnB 0 w n.dv n.p.dat from hN.own)
    rw [hdv] at c4 hB
    have cB := fun W u (q : Byts W u (((n.p.dat).drop o).take z)) => bclone_any u _ W q (by simp; omega)
    have hlcap : n.p.dat.length ≤ cap ∧ cap ≤ maxLen := by
      have := hN.own.2
      rw [hdv] at this
      rcases this with ⟨e, z⟩ | ⟨g, cap', cur, e, -, -, h1, h2, -⟩
      · rw [z]; exact ⟨Nat.zero_le _, by simp only [Value.slice.injEq] at e; rw [e.2.2]; exact Nat.zero_le _⟩
      · cases e; exact ⟨h1, h2⟩
    obtain ⟨hlc, hcm⟩ := hlcap
    unfold maxLen at hcm
    have hP := fun W (q : New w W) => (hB.new q).part o z (cap - o) (by omega) hlc
    generalize n.p.dat.length = ln at *
    clear e1 hf h hg hdv
    go_enter Tryd.func14, Tryd.ntmps14
    go_wp2_with fail
    refine c.mono ?_
    rintro e w1 ⟨rfl, rfl⟩
    go_wp2_with fail
    go_quiet (fail)
    generalize (if cap = o then p else Option.map (fun x => x.add o) p) = q at *
    go_wp2_with fail
    refine (cB _ _ (hP _ ((New.refl _).drewN _))).mono ?_
    rintro e w2 ⟨v, rfl, o2, n2⟩
    have n3 := ((New.refl w1).drewN nq).trans n2
    go_wp2
    go_ret2
    exact ⟨_, rfl, o2, n3⟩
end
end Go.Proofs.YtgoecdmnefjdnaaDoor
