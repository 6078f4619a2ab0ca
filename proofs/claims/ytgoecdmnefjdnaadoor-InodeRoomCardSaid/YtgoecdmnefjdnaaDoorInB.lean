/- Nodes by their numbers: node, folder, file, Kind, Many, Size, Find, free. -/
import Derived.Test.YtgoecdmnefjdnaaDoorInA
namespace Go.Proofs.YtgoecdmnefjdnaaDoor
open Go.RowKit
open Go.Maps (Keyed)
set_option linter.unusedVariables false
set_option maxRecDepth 100000
def Ok64 (i : Int) : Prop := (Lit.int .i64 i).wf = true
section
variable {X : Nat → Prop} {w : World} {tb mb : Nat} {most : Int} {N : List (Int × Nd)} {tg : Nat → Option (Int × Nat)} {i : Int} {n : Nd}
theorem nget_pl (N : List (Int × Nd)) (i : Int) : nget (plL N) i = (nget N i).map (·.p) := nget_map _ N i
theorem TrM.hit (h : TrM X w tb mb most N tg) (c : Bool) (hi : Ok64 i) (hg : nget N i = some n) : (Instr.lookup 53 (.map (some mb)) (.int .i64 i) c).run Tryd.prog w = .ok (if c then .tuple #[.pointer (some ⟨n.bk, 0, none⟩), .bool true] else .pointer (some ⟨n.bk, 0, none⟩)) w :=
  h.mp.look_hit keyI Tryd.underlying53 c (Maps.keyOf_int_mk Tryd.underlying3 hi) (List.mem_map.2 ⟨(i, n), nget_mem hg, rfl⟩)
theorem TrM.noKey (hg : nget N i = none) : ∀ x ∈ ndE N, x.1 ≠ Value.int .i64 i := by
  intro x hx
  obtain ⟨q, hq, rfl⟩ := List.mem_map.1 hx
  exact fun e => nget_none hg q hq (by simpa using e)
theorem TrM.miss (h : TrM X w tb mb most N tg) (c : Bool) (hi : Ok64 i) (hg : nget N i = none) : (Instr.lookup 53 (.map (some mb)) (.int .i64 i) c).run Tryd.prog w = .ok (if c then .tuple #[.pointer none, .bool false] else .pointer none) w :=
  h.mp.look_miss keyI Tryd.underlying53 c (zeroP w) (Maps.keyOf_int_mk Tryd.underlying3 hi) (TrM.noKey hg)
theorem node_hit (h : TrM X w tb mb most N tg) (hi : Ok64 i) (hg : nget N i = some n) : Calls Tryd.prog 27 #[.pointer (some ⟨tb, 0, none⟩), .int .i64 i] w fun e w' => e = .returned (.tuple #[.pointer (some ⟨n.bk, 0, none⟩), .nilIface]) ∧ w' = w := by
  have hr := h.hit true hi hg
  obtain ⟨b0, b1⟩ := h.box.two
  rw [if_pos rfl] at hr
  go_enter Tryd.func27, Tryd.ntmps27
  go_wp2
  go_ret2
  exact ⟨rfl, rfl⟩
theorem node_miss (h : TrM X w tb mb most N tg) (hi : Ok64 i) (hg : nget N i = none) : Calls Tryd.prog 27 #[.pointer (some ⟨tb, 0, none⟩), .int .i64 i] w fun e w' => e = .returned (.tuple #[.pointer none, .iface 50 (.int .i64 2)]) ∧ w' = w := by
  have hr := h.miss true hi hg
  obtain ⟨b0, b1⟩ := h.box.two
  rw [if_pos rfl] at hr
  go_enter Tryd.func27, Tryd.ntmps27
  go_wp2
  go_ret2
  exact ⟨rfl, rfl⟩
theorem node_cell (h : TrM X w tb mb most N tg) (hg : nget N i = some n) : NdM w n := h.nd _ (nget_mem hg)
/-- the six cells of a node -/
theorem NdM.six (h : NdM w n) : w.cell? ⟨n.bk, 0, none⟩ = some (.int .i64 n.p.kind) ∧ w.cell? ⟨n.bk, 1, none⟩ = some (.int .i64 n.p.par) ∧ w.cell? ⟨n.bk, 2, none⟩ = some (.bool n.p.nam) ∧ w.cell? ⟨n.bk, 3, none⟩ = some (.int .i64 n.p.hol) ∧ w.cell? ⟨n.bk, 4, none⟩ = some n.dv ∧ w.cell? ⟨n.bk, 5, none⟩ = some (.map (if n.p.fd then some n.nb else none)) :=
  ⟨h.box.cell 0, h.box.cell 1, h.box.cell 2, h.box.cell 3, h.box.cell 4, h.box.cell 5⟩
theorem NdM.free (h : NdM w n) (j : Nat) : w.frozen? ⟨n.bk, j, none⟩ = false := h.box.unfrozen j
theorem folder_hit (h : TrM X w tb mb most N tg) (hi : Ok64 i) (hg : nget N i = some n) (hf : n.p.fd = true) : Calls Tryd.prog 21 #[.pointer (some ⟨tb, 0, none⟩), .int .i64 i] w fun e w' => e = .returned (.tuple #[.pointer (some ⟨n.bk, 0, none⟩), .nilIface]) ∧ w' = w := by
  have c := node_hit h hi hg
  obtain ⟨c0, -⟩ := (node_cell h hg).six
  have e0 : n.p.kind = 1 := by unfold Pn.kind; rw [hf]; rfl
  rw [e0] at c0
  go_enter Tryd.func21, Tryd.ntmps21
  go_wp2_with fail
  refine c.mono ?_
  rintro e w' ⟨rfl, rfl⟩
  go_wp2
  go_ret2
  exact ⟨rfl, rfl⟩
theorem fdE_some {L : Pt} {p : Pn} (hg : nget L i = some p) : fdE L i = if p.fd then 0 else 20 := by unfold fdE; rw [hg]
theorem fdE_none {L : Pt} (hg : nget L i = none) : fdE L i = 2 := by unfold fdE; rw [hg]
theorem flE_some {L : Pt} {p : Pn} (hg : nget L i = some p) : flE L i = if p.fd then 21 else 0 := by unfold flE; rw [hg]
theorem flE_none {L : Pt} (hg : nget L i = none) : flE L i = 2 := by unfold flE; rw [hg]
theorem pl_some (hg : nget N i = some n) : nget (plL N) i = some n.p := by rw [nget_pl, hg]; rfl
theorem pl_none (hg : nget N i = none) : nget (plL N) i = none := by rw [nget_pl, hg]; rfl
theorem folder_err (h : TrM X w tb mb most N tg) (hi : Ok64 i) (hc : fdE (plL N) i ≠ 0) : Calls Tryd.prog 21 #[.pointer (some ⟨tb, 0, none⟩), .int .i64 i] w fun e w' => e = .returned (.tuple #[.pointer none, .iface 50 (.int .i64 (fdE (plL N) i))]) ∧ w' = w := by
  cases hg : nget N i with
  | none =>
    have c := node_miss h hi hg
    rw [fdE_none (pl_none hg)]
    go_enter Tryd.func21, Tryd.ntmps21
    go_wp2_with fail
    refine c.mono ?_
    rintro e w' ⟨rfl, rfl⟩
    go_wp2
    go_ret2
    exact ⟨rfl, rfl⟩
  | some n =>
    have c := node_hit h hi hg
    obtain ⟨c0, -⟩ := (node_cell h hg).six
    rw [fdE_some (pl_some hg)] at hc ⊢
    have hf : n.p.fd = false := by cases e : n.p.fd with | true => rw [e] at hc; exact absurd rfl hc | false => rfl
    have e0 : n.p.kind = 0 := by unfold Pn.kind; rw [hf]; rfl
    rw [e0] at c0
    rw [hf]
    clear hc
    go_enter Tryd.func21, Tryd.ntmps21
    go_wp2_with fail
    refine c.mono ?_
    rintro e w' ⟨rfl, rfl⟩
    go_wp2
    go_ret2
    exact ⟨rfl, rfl⟩
theorem file_hit (h : TrM X w tb mb most N tg) (hi : Ok64 i) (hg : nget N i = some n) (hf : n.p.fd = false) : Calls Tryd.prog 26 #[.pointer (some ⟨tb, 0, none⟩), .int .i64 i] w fun e w' => e = .returned (.tuple #[.pointer (some ⟨n.bk, 0, none⟩), .nilIface]) ∧ w' = w := by
  have c := node_hit h hi hg
  obtain ⟨c0, -⟩ := (node_cell h hg).six
  have e0 : n.p.kind = 0 := by unfold Pn.kind; rw [hf]; rfl
  rw [e0] at c0
  go_enter Tryd.func26, Tryd.ntmps26
  go_wp2_with fail
  refine c.mono ?_
  rintro e w' ⟨rfl, rfl⟩
  go_wp2
  go_ret2
  exact ⟨rfl, rfl⟩
theorem file_err (h : TrM X w tb mb most N tg) (hi : Ok64 i) (hc : flE (plL N) i ≠ 0) : Calls Tryd.prog 26 #[.pointer (some ⟨tb, 0, none⟩), .int .i64 i] w fun e w' => e = .returned (.tuple #[.pointer none, .iface 50 (.int .i64 (flE (plL N) i))]) ∧ w' = w := by
  cases hg : nget N i with
  | none =>
    have c := node_miss h hi hg
    rw [flE_none (pl_none hg)]
    go_enter Tryd.func26, Tryd.ntmps26
    go_wp2_with fail
    refine c.mono ?_
    rintro e w' ⟨rfl, rfl⟩
    go_wp2
    go_ret2
    exact ⟨rfl, rfl⟩
  | some n =>
    have c := node_hit h hi hg
    obtain ⟨c0, -⟩ := (node_cell h hg).six
    rw [flE_some (pl_some hg)] at hc ⊢
    have hf : n.p.fd = true := by cases e : n.p.fd with | false => rw [e] at hc; exact absurd rfl hc | true => rfl
    have e0 : n.p.kind = 1 := by unfold Pn.kind; rw [hf]; rfl
    rw [e0] at c0
    rw [hf]
    clear hc
    go_enter Tryd.func26, Tryd.ntmps26
    go_wp2_with fail
    refine c.mono ?_
    rintro e w' ⟨rfl, rfl⟩
    go_wp2
    go_ret2
    exact ⟨rfl, rfl⟩
end
section
variable {X : Nat → Prop} {w : World} {tb : Nat} {most : Int} {L : Pt} {i : Int}
theorem many_any (h : Tr X w tb most L) : Calls Tryd.prog 13 #[.pointer (some ⟨tb, 0, none⟩)] w fun e w' => e = .returned (.int .i64 L.length) ∧ w' = w := by
  obtain ⟨mb, N, tg, h, rfl⟩ := h
  obtain ⟨b0, b1⟩ := h.box.two
  have hl := fun ty => h.mp.len Tryd.underlying53 ty
  have e1 : (ndE N).length = (plL N).length := by simp [ndE, plL]
  rw [e1] at hl
  go_enter Tryd.func13, Tryd.ntmps13
  go_wp2
  go_ret
  exact ⟨rfl, rfl⟩
theorem kind_any (h : Tr X w tb most L) (hi : Ok64 i) : Calls Tryd.prog 16 #[.pointer (some ⟨tb, 0, none⟩), .int .i64 i] w fun e w' => (∃ v, e = .returned (.tuple #[.int .i64 v, erN (kdE L i)])) ∧ w' = w := by
  obtain ⟨mb, N, tg, h, rfl⟩ := h
  cases hg : nget N i with
  | none =>
    have c := node_miss h hi hg
    have e1 : erN (kdE (plL N) i) = .iface 50 (.int .i64 2) := by unfold kdE; rw [pl_none hg]; rfl
    rw [e1]
    go_enter Tryd.func16, Tryd.ntmps16
    go_wp2_with fail
    refine c.mono ?_
    rintro e w' ⟨rfl, rfl⟩
    go_wp2
    go_ret2
    exact ⟨⟨_, rfl⟩, rfl⟩
  | some n =>
    have c := node_hit h hi hg
    obtain ⟨c0, -⟩ := (node_cell h hg).six
    have e1 : erN (kdE (plL N) i) = .nilIface := by unfold kdE; rw [pl_some hg]; rfl
    rw [e1]
    go_enter Tryd.func16, Tryd.ntmps16
    go_wp2_with fail
    refine c.mono ?_
    rintro e w' ⟨rfl, rfl⟩
    go_wp2
    go_ret2
    exact ⟨⟨_, rfl⟩, rfl⟩
theorem size_any (h : Tr X w tb most L) (hi : Ok64 i) (hf : flE L i = 0) : Calls Tryd.prog 15 #[.pointer (some ⟨tb, 0, none⟩), .int .i64 i] w fun e w' => e = .returned (.tuple #[.int .i64 (nat L i).dat.length, .nilIface]) ∧ w' = w := by
  obtain ⟨mb, N, tg, h, rfl⟩ := h
  cases hg : nget N i with
  | none => rw [flE_none (pl_none hg)] at hf; cases hf
  | some n =>
    rw [flE_some (pl_some hg)] at hf
    have hfd : n.p.fd = false := by cases e : n.p.fd with | true => rw [e] at hf; cases hf | false => rfl
    have c := file_hit h hi hg hfd
    have hN := node_cell h hg
    obtain ⟨-, -, -, -, c4, -⟩ := hN.six
    have e1 : (nat (plL N) i).dat.length = n.p.dat.length := by unfold nat; rw [pl_some hg]; rfl
    rw [e1]
    obtain ⟨p, cap, e2⟩ : ∃ p cap, n.dv = .slice p n.p.dat.length cap := by
      rcases hN.own.2 with ⟨e, z⟩ | ⟨g, cap, cur, e, -⟩
      · exact ⟨none, 0, by rw [e, z]⟩
      · exact ⟨_, cap, e⟩
    rw [e2] at c4
    clear hf
    go_enter Tryd.func15, Tryd.ntmps15
    go_wp2_with fail
    refine c.mono ?_
    rintro e w' ⟨rfl, rfl⟩
    go_wp2
    go_ret2
    exact ⟨rfl, rfl⟩
end
end Go.Proofs.YtgoecdmnefjdnaaDoor
