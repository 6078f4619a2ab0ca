/- Pipes: the plain facts of the law on order; a block of a struct is not one of bytes. -/
import Derived.Test.YtdoppkeaidemgaaDoorPiQ
namespace Go.Proofs.YtdoppkeaidemgaaDoor
open Go.RowKit
set_option linter.unusedVariables false
section
variable {w : World} {u : Value} {p : Pp}
/-- Write and Read again: what they answer lies in new blocks -/
theorem pwrite_own (h : Byts w u p.l) {v : Value} {b : List Int} (hb : Byts w v b) (hb9 : b.length ≤ 1000000) : Calls Tryd.prog 9 #[PpV u p, v] w fun e w' => ∃ vr, e = .returned (.tuple #[.int .i64 (pwK p b), PpV vr (pwP p b), erN (pwE p b)]) ∧ OwnB w.heap.size w' vr (pwP p b).l ∧ New w w' := by
  by_cases he : pwE p b = 0
  · refine (pwrite_ok h hb he hb9).mono ?_
    rintro e w1 ⟨vr, rfl, o2, k⟩
    exact ⟨vr, by rw [he]; rfl, o2, k⟩
  · refine (pwrite_no h hb he).mono ?_
    rintro e w1 ⟨rfl, k⟩
    have e1 : pwK p b = 0 := by unfold pwK; rw [if_neg he]
    have e2 : pwP p b = Pp.zero := by unfold pwP; rw [if_neg he]
    rw [e1, e2]
    exact ⟨_, rfl, OwnB.nil _ _, k⟩
theorem pread_own (h : Byts w u p.l) (n : Int) (hn9 : n ≤ 9223372036854775807) : Calls Tryd.prog 7 #[PpV u p, .int .i64 n] w fun e w' => ∃ vo vr, e = .returned (.tuple #[vo, PpV vr (prP p n), erN (prE p n)]) ∧ OwnB w.heap.size w' vo (prO p n) ∧ OwnB w.heap.size w' vr (prP p n).l ∧ New w w' := by
  by_cases he : prE p n = 0
  · refine (pread_ok h n he hn9).mono ?_
    rintro e w1 ⟨vo, vr, rfl, o2, o3, k⟩
    exact ⟨vo, vr, by rw [he]; rfl, o2, o3, k⟩
  · refine (pread_no h n he).mono ?_
    rintro e w1 ⟨rfl, k⟩
    have e1 : prO p n = [] := by unfold prO; rw [if_neg he]
    have e2 : prP p n = Pp.zero := by unfold prP; rw [if_neg he]
    rw [e1, e2]
    exact ⟨_, _, rfl, OwnB.nil _ _, OwnB.nil _ _, k⟩
end
section
variable {m b : List Int} {k : Int} {w : World}
theorem po_ok (h : m.length ≤ 64) : piOk m 1 1 := ⟨h, by decide, by decide, by decide, by decide⟩
theorem po_wE (h : m.length ≤ 64) : pwE ⟨m, 1, 1⟩ b = if b ≠ [] ∧ m.length = 64 then 11 else 0 := by
  unfold pwE
  rw [if_neg (fun c => c (po_ok h)), if_neg (by dsimp only; omega)]
theorem po_w (h : m.length ≤ 64) (e : pwE ⟨m, 1, 1⟩ b = 0) : pwK ⟨m, 1, 1⟩ b = ((b.take (64 - m.length)).length : Int) ∧ pwP ⟨m, 1, 1⟩ b = ⟨m ++ b.take (64 - m.length), 1, 1⟩ := by
  unfold pwK pwP
  rw [if_pos e, if_pos e]
  exact ⟨rfl, rfl⟩
theorem po_len (h : m.length ≤ 64) : (m ++ b.take (64 - m.length)).length ≤ 64 := by rw [List.length_append, List.length_take]; omega
/-- fewer are taken only where it is full then -/
theorem po_full (h : m.length ≤ 64) (hn : (b.take (64 - m.length)).length < b.length) : (m ++ b.take (64 - m.length)).length = 64 := by
  rw [List.length_append]
  rw [List.length_take] at hn ⊢
  omega
theorem po_rE (h : m.length ≤ 64) (hk : 0 ≤ k) : prE ⟨m, 1, 1⟩ k = if 0 < k ∧ m = [] then 11 else 0 := by
  unfold prE
  rw [if_neg (by rintro (c | c); exact c (po_ok h); omega)]
  by_cases c : 0 < k ∧ m = []
  · rw [if_pos c, if_pos ⟨c.1, c.2, by dsimp only; omega⟩]
  · rw [if_neg c, if_neg (fun q => c ⟨q.1, q.2.1⟩)]
theorem po_r (h : m.length ≤ 64) (e : prE ⟨m, 1, 1⟩ k = 0) : prO ⟨m, 1, 1⟩ k = m.take k.toNat ∧ prP ⟨m, 1, 1⟩ k = ⟨m.drop k.toNat, 1, 1⟩ := by
  unfold prO prP
  rw [if_pos e, if_pos e]
  exact ⟨rfl, rfl⟩
/-- what is written and read keeps the order -/
theorem po_in {I J : List Int} (e : I = J ++ m) (x : List Int) : I ++ x = J ++ (m ++ x) := by rw [e, List.append_assoc]
theorem po_out {I J : List Int} (e : I = J ++ m) (n : Nat) : I = (J ++ m.take n) ++ m.drop n := by rw [e, List.append_assoc, List.take_append_drop]
/-- bytes don't lie in a block of a pipe: they stay where that block is written -/
theorem Byts.box {v : Value} {l : List Int} {g : Nat} {q : Option Addr} {n c : Nat} {r s : Int} {t : TypeId} (h : Byts w v l) (hb : Box w g #[.slice q n c, .int .i64 r, .int .i64 s] t) {w' : World} (k : But (fun x => x = g) w w') : Byts w' v l := by
  obtain ⟨p, cap, e, hm, hc⟩ := h
  refine ⟨p, cap, e, hm, fun i hi => ?_⟩
  obtain ⟨a, ha, hcell⟩ := hc i hi
  refine ⟨a, ha, ?_⟩
  rw [k.cell (cell_lt hcell) (fun e => ?_)]
  · exact hcell
  · unfold Box at hb
    unfold World.cell? at hcell
    rw [e, hb] at hcell
    dsimp only at hcell
    generalize (a.add i).off = o at hcell
    rcases o with _ | _ | _ | o <;> simp at hcell
end
theorem str_join (l m : List Int) : strOfNums l ++ strOfNums m = strOfNums (l ++ m) := by
  apply ByteArray.ext
  simp [strOfNums]
theorem cut_by (a : Int) (n : Nat) (h1 : 0 < n) (h2 : n ≤ 4096) : ∃ x : Nat, wrap64 ((IntKind.u64.wrap a).tmod (n : Int)) = (x : Int) ∧ x < n := by
  rw [IntKind.wrap_u64, Int.tmod_eq_emod_of_nonneg (by omega)]
  have h := Int.emod_lt_of_pos (a % 18446744073709551616) (show (0 : Int) < n by omega)
  have h' := Int.emod_nonneg (a % 18446744073709551616) (show (n : Int) ≠ 0 by omega)
  refine ⟨(a % 18446744073709551616 % n).toNat, ?_, by omega⟩
  unfold wrap64; omega
theorem Byts.butX {w w' : World} {u : Value} {l : List Int} {S : Nat → Prop} (h : Byts w u l) (k : But S w w') (hn : ∀ g, u.ownBlock = some g → ¬ S g) : Byts w' u l := by
  obtain ⟨p, cap, rfl, h2, h3⟩ := h
  refine ⟨p, cap, rfl, h2, fun i hi => ?_⟩
  obtain ⟨a, rfl, hc⟩ := h3 i hi
  have e : (a.add i).block = a.block := by unfold Addr.add; split <;> rfl
  exact ⟨a, rfl, by rw [k.cell (cell_lt hc) (by rw [e]; exact hn _ rfl)]; exact hc⟩
end Go.Proofs.YtdoppkeaidemgaaDoor
