/- Slices of texts that a statement makes beside a tree; numbers as the statements cut them down; folders in folders. -/
import Derived.Test.YtgoecdmnefjdnaaDoorInG
import Derived.Maps.AppendAt
namespace Go.Proofs.YtgoecdmnefjdnaaDoor
open Go.RowKit
set_option linter.unusedVariables false
set_option maxRecDepth 100000
theorem imod_in (c k : Int) (a : Int) (hc : 0 < c) (hc' : c ≤ 4096) (hk : 0 ≤ k) (hk' : k ≤ 4096) : ∃ n : Nat, wrap64 (k + wrap64 ((IntKind.u64.wrap a).tmod c)) = (n : Int) ∧ k ≤ n ∧ (n : Int) < k + c := by
  rw [IntKind.wrap_u64, Int.tmod_eq_emod_of_nonneg (by omega)]
  have h := Int.emod_lt_of_pos (a % 18446744073709551616) hc
  have h' := Int.emod_nonneg (a % 18446744073709551616) (show c ≠ 0 by omega)
  have e : wrap64 (k + wrap64 (a % 18446744073709551616 % c)) = k + a % 18446744073709551616 % c := by unfold wrap64; omega
  rw [e]
  exact ⟨(k + a % 18446744073709551616 % c).toNat, by omega, by omega, by omega⟩
/-- append: the new slice, and the elder one as it was -/
theorem run_append_both {P : Program} (w : World) (base : Nat) (t ty e : TypeId) (i : TypeInfo) (z : Value) (size bytes : Nat) (ht : P.underlying t = some (.slice e)) (hi : P.info? e = some i) (hz : i.zero = some z)
    (hsize : i.size = size) (hby : i.bytes = bytes) (hzs : z.cells.size = size) (hsz : 0 < size) (v : Value) (n : Nat) (xs : List Value) (hown : w.ownsRow base e size v n xs)
    (a : Addr) (m c : Nat) (news : List Value) (hl : news.length = m * size) (hnews : ∀ j u, news[j]? = some u → w.cell? (a.add j) = some u) (h1 : ∀ u ∈ news, u.oneCell' = true)
    (h63 : n + m ≤ maxLen) (hbytes : (n + m) * bytes ≤ 140737488355328) (hbase : base ≤ w.heap.size) :
    ∃ v' w', (Builtin.append_ #[t, t] ty #[v, .slice (some a) m c]).run P w = .ok v' w' ∧ w'.ownsRow base e size v' (n + m) (xs ++ news) ∧ w.grownBy w' v.ownBlock ∧ (v'.ownBlock = v.ownBlock ∨ v'.ownBlock = some w.heap.size) ∧ w'.ownsRow base e size v n xs := by
  obtain ⟨v', w', hr, h2, h3, h4, h5⟩ := run_append_own_at (P := P) w base t ty e i z size bytes ht hi hz hsize hby hzs hsz v n xs hown a m c news hl hnews h1 h63 hbytes hbase
  refine ⟨v', w', hr, h2, h3, h5, hown.1, ?_⟩
  rcases hown.2 with hn | ⟨g, cap, cur, rfl, hbg, hg, hnc, hcm, hcs, htake⟩
  · exact .inl hn
  · right
    subst hsize
    by_cases hroom : n + m ≤ cap
    · have hfit : n * i.size + news.length ≤ cur.size := by rw [hl, hcs, ← Nat.add_mul]; exact Nat.mul_le_mul_right _ hroom
      have e1 := run_append_room (P := P) w t ty e i ht hi g n cap cur hg a m c news hl hnews h1 hroom hfit
      have e2 := hr.symm.trans e1
      cases e2
      refine ⟨g, cap, _, rfl, hbg, setRow_heap w g cur _ e _ hg, hnc, hcm, ?_, ?_⟩
      · simp only [List.size_toArray, List.length_append, List.length_take, List.length_drop, Array.length_toList]
        omega
      · have hx : xs.length = n * i.size := hown.1
        rw [htake, List.append_assoc, ← hx]
        exact List.take_left
    · have holds : ∀ j u, xs[j]? = some u → w.cell? ((⟨g, 0, none⟩ : Addr).add j) = some u := hown.cells (g := g) rfl
      have e1 := run_append_grow (P := P) w t ty e i z ht hi hz ⟨g, 0, none⟩ n cap xs hown.1 holds a m c news hl hnews (by omega) (by simp only [maxLen] at h63; omega) (growslice_fits (by omega) (by rw [hby]; exact hbytes))
      have e2 := hr.symm.trans e1
      cases e2
      refine ⟨g, cap, cur, rfl, hbg, ?_, hnc, hcm, hcs, htake⟩
      rw [((New.refl w).drew.allocO _).block (Array.getElem?_eq_some_iff.1 hg).1]; exact hg
/-- texts appended to a slice of texts that the call made -/
theorem wpList_app_s {w : World} {ops : Array Oper} {rest : List Oper} {o : Oper} {a : Act} {Q : Exit → Act → World → Prop} (hgd : o.guard = none) (s x : Operand)
    (ho : o.op = .call { callee := .builtin .append, args := #[s, x], argTypes := #[44, 44] })
    (v : Value) (ls : List (List UInt8)) (hs : a.eval s = v) (hown : OwnS 0 w v ls) (ad : Addr) (m c : Nat) (l : List (List UInt8)) (hx : a.eval x = .slice (some ad) m c) (hl : l.length = m) (hc : ∀ j u, (l.map fun y => Value.string (ba y))[j]? = some u → w.cell? (ad.add j) = some u)
    (hlen : ls.length + m ≤ 1000000)
    (h : ∀ v' w', OwnS 0 w' v' (ls ++ l) → OwnS 0 w' v ls → But (fun g => v.ownBlock = some g) w w' → (∀ g, v'.ownBlock = some g → v.ownBlock = some g ∨ g = w.heap.size) → wpList Tryd.prog ops Q rest (a.put o.dst v') w') : wpList Tryd.prog ops Q (o :: rest) a w := by
  obtain ⟨i0, hi, hz0, hz1, hz2⟩ := info_parts str_info
  refine wpList_plain hgd fun K hK => ?_
  obtain ⟨v', w', hr, h2, h3, h4, h5⟩ := run_append_both (P := Tryd.prog) w 0 44 o.type 9 i0 (.string ⟨#[]⟩) 1 16 Tryd.underlying44 hi hz0 hz1 hz2 rfl (by decide) v ls.length _ hown ad m c (l.map fun y => Value.string (ba y)) (by rw [List.length_map, hl]; omega) hc
    (fun u hu => by obtain ⟨y, _, rfl⟩ := List.mem_map.1 hu; rfl) (by unfold maxLen; omega) (by omega) (Nat.zero_le _)
  unfold Oper.wp execOp
  simp only [ho, resolve, invoke, builtin, Sem.run_bind, Sem.run_pure, Result.andThen_ok, List.map_toArray, List.map_cons, List.map_nil, hs, hx, hr]
  refine hK _ _ (h v' w' ?_ h5 (grown_but h3) ?_)
  · unfold OwnS
    rw [List.length_append, hl, List.map_append]
    exact h2
  · intro g hg
    rcases h4 with e | e
    · exact .inl (by rw [← e]; exact hg)
    · right; rw [e] at hg; exact (Option.some.inj hg).symm
/-- a tree, and two slices of texts beside it -/
structure Dq (w wr : World) (tb : Nat) (L : Pt) (X : Nat → Prop) (vd vu : Value) (ld lu : List (List UInt8)) : Prop where
  t : Tr X wr tb 20 L
  old : ∀ g, g < w.heap.size → X g
  d : OwnS 0 wr vd ld
  u : OwnS 0 wr vu lu
  xd : ∀ g, vd.ownBlock = some g → X g
  xu : ∀ g, vu.ownBlock = some g → X g
  ap : ∀ g, vd.ownBlock = some g → vu.ownBlock = some g → False
  n : New w wr
section
variable {w wr w1 w2 : World} {tb : Nat} {L L' : Pt} {X : Nat → Prop} {vd vu v' : Value} {ld lu l : List (List UInt8)}
theorem Tr.xlt (h : Tr X w tb 20 L) {g : Nat} (hg : X g) : g < w.heap.size := by obtain ⟨_, _, _, h, _⟩ := h; exact h.xlt g hg
theorem owns_but {S : Nat → Prop} {b : Nat} (h : OwnS b w vd ld) (k : But S w w1) (hn : ∀ g, vd.ownBlock = some g → ¬ S g) : OwnS b w1 vd ld := own_but h k hn
theorem Dq.tree (h : Dq w wr tb L X vd vu ld lu) (t : Tr X w1 tb 20 L') (k : But (fun g => ¬ X g) wr w1) : Dq w w1 tb L' X vd vu ld lu :=
  ⟨t, h.old, owns_but h.d k (fun g hg c => c (h.xd g hg)), owns_but h.u k (fun g hg c => c (h.xu g hg)), h.xd, h.xu, h.ap, ((But.of_new _ h.n).trans (k.ofX h.old)).new fun i hi c => c hi⟩
theorem Dq.new (h : Dq w wr tb L X vd vu ld lu) (k : New wr w1) : Dq w w1 tb L X vd vu ld lu :=
  ⟨h.t.new k, h.old, OwnS.new h.d k, OwnS.new h.u k, h.xd, h.xu, h.ap, h.n.trans k⟩
/-- the first slice is made longer -/
theorem Dq.pushD (h : Dq w w1 tb L X vd vu ld lu) (hb : ∀ g, vd.ownBlock = some g → w.heap.size ≤ g) (k : But (fun g => vd.ownBlock = some g) w1 w2) (o : OwnS 0 w2 v' (ld ++ l)) (loc : ∀ g, v'.ownBlock = some g → vd.ownBlock = some g ∨ g = w1.heap.size) :
    Dq w w2 tb L (fun g => X g ∨ (w1.heap.size ≤ g ∧ g < w2.heap.size)) v' vu (ld ++ l) lu := by
  have hv' : ∀ g, v'.ownBlock = some g → g < w2.heap.size := fun g hg => (World.ownsRow.lt o g hg).2
  have hu1 : ∀ g, vu.ownBlock = some g → g < w1.heap.size := fun g hg => (World.ownsRow.lt h.u g hg).2
  refine ⟨h.t.keep k h.xd (fun g hg => ?_), fun g hg => .inl (h.old g hg), o, owns_but h.u k (fun g hg c => h.ap g c hg), fun g hg => ?_, fun g hg => .inl (h.xu g hg), fun g hg hg' => ?_, ((But.of_new (fun g => vd.ownBlock = some g) h.n).trans k).new fun i hi c => by have := hb i c; omega⟩
  · rcases hg with hg | hg
    · exact ⟨Nat.lt_of_lt_of_le (h.t.xlt hg) k.size, .inl hg⟩
    · exact ⟨hg.2, .inr hg.1⟩
  · rcases loc g hg with e | e
    · exact .inl (h.xd g e)
    · exact .inr ⟨by omega, hv' g hg⟩
  · rcases loc g hg with e | e
    · exact h.ap g e hg'
    · have := hu1 g hg'; omega
/-- the second one -/
theorem Dq.pushU (h : Dq w w1 tb L X vd vu ld lu) (hb : ∀ g, vu.ownBlock = some g → w.heap.size ≤ g) (k : But (fun g => vu.ownBlock = some g) w1 w2) (o : OwnS 0 w2 v' (lu ++ l)) (loc : ∀ g, v'.ownBlock = some g → vu.ownBlock = some g ∨ g = w1.heap.size) :
    Dq w w2 tb L (fun g => X g ∨ (w1.heap.size ≤ g ∧ g < w2.heap.size)) vd v' ld (lu ++ l) := by
  have h' : Dq w w1 tb L X vu vd lu ld := ⟨h.t, h.old, h.u, h.d, h.xu, h.xd, fun g a b => h.ap g b a, h.n⟩
  have r := h'.pushD hb k o loc
  exact ⟨r.t, r.old, r.u, r.d, r.xu, r.xd, fun g a b => r.ap g b a, r.n⟩
/-- something is appended to the second one, which stays -/
theorem Dq.mid (h : Dq w w1 tb L X vd vu ld lu) (hb : ∀ g, vu.ownBlock = some g → w.heap.size ≤ g) (k : But (fun g => vu.ownBlock = some g) w1 w2) (o : OwnS 0 w2 vu lu) : Dq w w2 tb L X vd vu ld lu :=
  ⟨h.t.keep k h.xu (fun g hg => ⟨Nat.lt_of_lt_of_le (h.t.xlt hg) k.size, .inl hg⟩), h.old, owns_but h.d k (fun g hg c => h.ap g hg c), o, h.xd, h.xu, h.ap, ((But.of_new (fun g => vu.ownBlock = some g) h.n).trans k).new fun i hi c => by have := hb i c; omega⟩
end
/-! ### folders in folders -/
def dotL : Nat → Pt
  | 0 => rootL
  | k + 1 => mkR 20 (dotL k) ((k : Int) + 1) [100] 1
theorem dot_mk : ∀ k : Fin 7, mkE 20 (dotL k) (((k : Nat) : Int) + 1) [100] 1 = 0 ∧ mkV 20 (dotL k) (((k : Nat) : Int) + 1) [100] 1 = ((k : Nat) : Int) + 2 ∧ (nat (dotL k) (((k : Nat) : Int) + 1)).nms.length < 1000000 := by decide +kernel
theorem dot_un : ∀ k : Fin 6, unE (dotL (k + 2)) 1 [100] = 39 ∧ (nget (dotL (k + 2)) (fnV (dotL (k + 2)) 1 [100])).isSome = true := by decide +kernel
theorem dot_wa : ∀ k : Fin 7, (waE (dotL (k + 1)) 1 (List.replicate (k + 1) [100]) = 0 ∧ waV (dotL (k + 1)) 1 (List.replicate (k + 1) [100]) = ((k : Nat) : Int) + 2) ∧
    (waE (dotL (k + 1)) (((k : Nat) : Int) + 2) (List.replicate (k + 1) [46, 46]) = 0 ∧ waV (dotL (k + 1)) (((k : Nat) : Int) + 2) (List.replicate (k + 1) [46, 46]) = 1) ∧
    (waE (dotL (k + 1)) (((k : Nat) : Int) + 2) (List.replicate (k + 1) [46, 46] ++ [[46, 46], [46]]) = 0 ∧ waV (dotL (k + 1)) (((k : Nat) : Int) + 2) (List.replicate (k + 1) [46, 46] ++ [[46, 46], [46]]) = 1) ∧
    waE (dotL (k + 1)) (((k : Nat) : Int) + 2) (List.replicate (k + 1) [46, 46] ++ [[120]]) = 2 := by decide +kernel
end Go.Proofs.YtgoecdmnefjdnaaDoor
