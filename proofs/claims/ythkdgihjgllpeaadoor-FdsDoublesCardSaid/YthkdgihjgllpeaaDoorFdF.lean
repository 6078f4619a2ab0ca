/- Numbers of files: facts that the laws without the document ask for. -/
import Derived.Test.YthkdgihjgllpeaaDoorFdE
namespace Go.Proofs.YthkdgihjgllpeaaDoor
open Go.RowKit
set_option linter.unusedVariables false
set_option maxRecDepth 100000
theorem fget_set (l : List Int) (m i : Nat) (x : Int) (hm : m < l.length) : (l.set m x).getD i 0 = if i = m then x else l.getD i 0 := by
  rw [List.getD_eq_getElem?_getD, List.getD_eq_getElem?_getD, List.getElem?_set]
  by_cases c : m = i
  · subst c; rw [if_pos rfl, if_pos hm, if_pos rfl]; rfl
  · rw [if_neg c, if_neg (fun e => c e.symm)]
theorem fiS_cons (x : Int) (l : List Int) : (fiS (x :: l)).length = (if x = 0 then 0 else 1) + (fiS l).length := by
  unfold fiS
  by_cases c : x = 0
  · simp [c]
  · simp [c]; omega
theorem fiS_full : ∀ (l : List Int), (∀ i, i < l.length → l.getD i 0 ≠ 0) → (fiS l).length = l.length
  | [], _ => rfl
  | x :: r, h => by
    have h0 := h 0 (by simp)
    rw [fiS_cons, if_neg (by simpa using h0), fiS_full r (fun i hi => by have := h (i + 1) (by simpa using hi); simpa using this), List.length_cons]; omega
theorem fiS_put : ∀ (l : List Int) (m : Nat) (x : Int), m < l.length → l.getD m 0 = 0 → x ≠ 0 → (fiS (l.set m x)).length = (fiS l).length + 1
  | [], m, x, h, _, _ => by simp at h
  | y :: r, 0, x, _, h0, hx => by
    rw [List.set_cons_zero, fiS_cons, fiS_cons, if_neg hx, if_pos (by simpa using h0)]; omega
  | y :: r, m + 1, x, h, h0, hx => by
    rw [List.set_cons_succ, fiS_cons, fiS_cons, fiS_put r m x (by simpa using h) (by simpa using h0) hx]; omega
/-- a table that has no place that is free -/
theorem full_free {l : List Int} (h8 : l.length = 8) (hk : fdOk l = true) (hF : fdF l = 8) : frN l = 0 := by
  unfold frN
  rw [if_pos hk, fiS_full l (fun i hi => fdF_first l i (by omega)), h8]; rfl
theorem fpE_full {l : List Int} (hk : fdOk l = true) {f : Int} (hf : 0 ≤ f ∧ f ≤ 31) (hF : fdF l = 8) : fpE l f = 24 := by
  unfold fpE; rw [if_neg (by rw [hk]; intro c; rcases c with c | c | c; cases c; omega; omega), if_pos hF]
theorem fpE_room {l : List Int} (hk : fdOk l = true) {f : Int} (hf : 0 ≤ f ∧ f ≤ 31) (hF : ¬ fdF l = 8) : fpE l f = 0 := by
  unfold fpE; rw [if_neg (by rw [hk]; intro c; rcases c with c | c | c; cases c; omega; omega), if_neg hF]
/-- what is told of a table with one more -/
structure PutOf (l u : List Int) (m : Nat) (f : Int) : Prop where
  m8 : m < 8
  m0 : l.getD m 0 = 0
  first : ∀ i, i < m → l.getD i 0 ≠ 0
  u8 : u.length = 8
  uk : fdOk u = true
  um : u.getD m 0 = f + 1
  other : ∀ i, i ≠ m → u.getD i 0 = l.getD i 0
  back : u.set m 0 = l
  free : frN u = frN l - 1
  files : (fiO u).length = (fiO l).length + 1
theorem put_of {l : List Int} (h8 : l.length = 8) (hk : fdOk l = true) {f : Int} (hf : 0 ≤ f ∧ f ≤ 31) (hF : ¬ fdF l = 8) : PutOf l (l.set (fdF l) (f + 1)) (fdF l) f := by
  have hle := fdF_le l
  have hlt : fdF l < l.length := by omega
  have h0 := fdF_zero l hlt
  have hn := fiS_put l (fdF l) (f + 1) hlt h0 (by omega)
  have huk := fdOk_set hk (fdF l) (f + 1) (by omega)
  refine ⟨by omega, h0, fdF_first l, by rw [List.length_set, h8], huk, by rw [fget_set _ _ _ _ hlt, if_pos rfl], fun i hi => by rw [fget_set _ _ _ _ hlt, if_neg hi], ?_, ?_, ?_⟩
  · rw [List.set_set]
    apply List.ext_getElem?
    intro i
    rw [List.getElem?_set]
    by_cases c : fdF l = i
    · rw [if_pos c, if_pos hlt, ← c]
      rw [List.getD_eq_getElem?_getD] at h0
      rw [List.getElem?_eq_getElem hlt] at h0 ⊢
      simp only [Option.getD_some] at h0
      rw [h0]
    · rw [if_neg c]
  · unfold frN; rw [if_pos huk, if_pos hk, hn]; omega
  · unfold fiO; rw [if_pos huk, if_pos hk, hn]
/-- behind a Dup: dropped at the elder number -/
structure DropOf (u v : List Int) (m : Nat) : Prop where
  v8 : v.length = 8
  vk : fdOk v = true
  same : v.getD m 0 = u.getD m 0
theorem drop_of {u : List Int} (h8 : u.length = 8) (hk : fdOk u = true) {k m : Nat} (hk8 : k < 8) (hkm : m ≠ k) : DropOf u (u.set k 0) m :=
  ⟨by rw [List.length_set, h8], fdOk_set hk _ _ (by omega), by rw [fget_set _ _ _ _ (by omega), if_neg hkm]⟩
set_option maxHeartbeats 1000000 in
theorem tb_equal (l : List Int) (h8 : l.length = 8) (w : World) : (Op.equalIn 10000 24 (.agg (i8 l).toArray) (.agg (i8 l).toArray)).run Tryd.prog w = .ok true w := by
  obtain ⟨x0, x1, x2, x3, x4, x5, x6, x7, rfl⟩ := list8 h8
  have h1 : ∀ w, (Op.equalIn 9999 22 (.agg (i8 [x0, x1, x2, x3, x4, x5, x6, x7]).toArray) (.agg (i8 [x0, x1, x2, x3, x4, x5, x6, x7]).toArray)).run Tryd.prog w = .ok true w := fun w => run_equalIn_row 9997 8 Tryd.underlying22 Tryd.underlying3 (by kernel_rfl) _ w fun i hi => ⟨_, _, by rw [List.getElem?_toArray]; exact i8_at _ i (by simpa using hi)⟩
  unfold i8 at h1 ⊢
  dsimp only [List.map] at h1 ⊢
  simp [go_sem, h1]
theorem faE_same {l u : List Int} {i : Nat} (h : fdOk u = fdOk l) (hg : u.getD i 0 = l.getD i 0) : faE u (i : Int) = faE l (i : Int) := by
  unfold faE; simp only [Int.toNat_natCast, h, hg]
theorem cutm (a : Int) (m : Int) (hm : 0 < m) (hm2 : m ≤ 64) : ∃ x : Nat, wrap64 ((IntKind.u64.wrap a).tmod m) = (x : Int) ∧ (x : Int) < m := by
  rw [IntKind.wrap_u64, Int.tmod_eq_emod_of_nonneg (by omega)]
  have h := Int.emod_lt_of_pos (a % 18446744073709551616) hm
  have h' := Int.emod_nonneg (a % 18446744073709551616) (show m ≠ 0 by omega)
  refine ⟨(a % 18446744073709551616 % m).toNat, ?_, by omega⟩
  unfold wrap64; omega
end Go.Proofs.YthkdgihjgllpeaaDoor
