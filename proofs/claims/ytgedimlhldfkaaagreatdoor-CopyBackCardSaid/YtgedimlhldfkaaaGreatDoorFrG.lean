/- Plain facts for the laws of frames: so many frames of which the first ones are taken; numbers as the laws cut them down. -/
import Derived.Test.YtgedimlhldfkaaaGreatDoorFrF
namespace Go.Proofs.YtgedimlhldfkaaaGreatDoor
open Go.RowKit
set_option linter.unusedVariables false
theorem mod_in (c k : Int) (a : Int) (hc : 0 < c) (hc' : c ≤ 4096) (hk : 0 ≤ k) (hk' : k ≤ 4096) : ∃ n : Nat, wrap64 (k + wrap64 ((IntKind.u64.wrap a).tmod c)) = (n : Int) ∧ k ≤ n ∧ (n : Int) < k + c := by
  rw [IntKind.wrap_u64, Int.tmod_eq_emod_of_nonneg (by omega)]
  have h := Int.emod_lt_of_pos (a % 18446744073709551616) hc
  have h' := Int.emod_nonneg (a % 18446744073709551616) (show c ≠ 0 by omega)
  have e : wrap64 (k + wrap64 (a % 18446744073709551616 % c)) = k + a % 18446744073709551616 % c := by unfold wrap64; omega
  rw [e]
  exact ⟨(k + a % 18446744073709551616 % c).toNat, by omega, by omega, by omega⟩
theorem mod_by (a : Int) (n : Nat) (h1 : 0 < n) (h2 : n ≤ 4096) : ∃ x : Nat, wrap64 ((IntKind.u64.wrap a).tmod (n : Int)) = (x : Int) ∧ x < n := by
  rw [IntKind.wrap_u64, Int.tmod_eq_emod_of_nonneg (by omega)]
  have h := Int.emod_lt_of_pos (a % 18446744073709551616) (show (0 : Int) < n by omega)
  have h' := Int.emod_nonneg (a % 18446744073709551616) (show (n : Int) ≠ 0 by omega)
  refine ⟨(a % 18446744073709551616 % n).toNat, ?_, by omega⟩
  unfold wrap64; omega
/-- n frames, the first i of which are taken once -/
def al (n i : Nat) : List Int := List.replicate i 1 ++ List.replicate (n - i) 0
theorem al_len (n i : Nat) (h : i ≤ n) : (al n i).length = n := by unfold al; simp; omega
theorem al_zero (n : Nat) : al n 0 = List.replicate n 0 := by simp [al]
theorem al_get (n i j : Nat) : (al n i).getD j 0 = if j < i then 1 else 0 := by
  unfold al
  rw [List.getD_eq_getElem?_getD, List.getElem?_append]
  simp only [List.length_replicate, List.getElem?_replicate]
  by_cases c : j < i
  · rw [if_pos c, if_pos c, if_pos c]; rfl
  · rw [if_neg c, if_neg c]; split <;> rfl
theorem list_ext_getD {a b : List Int} (h : a.length = b.length) (k : ∀ j, j < a.length → a.getD j 0 = b.getD j 0) : a = b := by
  apply List.ext_getElem h
  intro i h1 h2
  have := k i h1
  rwa [List.getD_eq_getElem?_getD, List.getD_eq_getElem?_getD, List.getElem?_eq_getElem h1, List.getElem?_eq_getElem h2] at this
theorem al_set (n i : Nat) (h : i < n) : (al n i).set i 1 = al n (i + 1) := by
  have e := al_len n i (by omega)
  apply list_ext_getD (by rw [List.length_set, e, al_len n (i + 1) (by omega)])
  intro j hj
  rw [getD_set _ _ _ _ (by omega), al_get, al_get]
  by_cases c : j = i
  · subst c; rw [if_pos rfl, if_pos (by omega)]
  · rw [if_neg c]
    by_cases d : j < i
    · rw [if_pos d, if_pos (by omega)]
    · rw [if_neg d, if_neg (by omega)]
theorem al_nofree (n i : Nat) : NoFree (al n i) i := fun j hj e => by rw [al_get, if_pos hj] at e; cases e
theorem al_free (n i : Nat) : (al n i).getD i 0 = 0 := by rw [al_get, if_neg (by omega)]
section
variable {w : World} {fb rb n : Nat}
theorem again_alloc (i : Nat) (h : Fr w fb rb (al n i)) (hi : i < n) :
    Calls Tryz.prog 132 #[.pointer (some ⟨fb, 0, none⟩)] w (Did fb rb (al n (i + 1)) (.tuple #[.int .i64 i, .nilIface]) w) := by
  have := did_alloc i h (by rw [al_len n i (by omega)]; exact hi) (al_nofree n i) (al_free n i)
  rwa [al_set n i hi] at this
theorem again_full (h : Fr w fb rb (al n n)) :
    Calls Tryz.prog 132 #[.pointer (some ⟨fb, 0, none⟩)] w (Did fb rb (al n n) (.tuple #[.int .i64 0, .iface 98 (.int .i64 12)]) w) :=
  did_alloc_no h (by rw [al_len n n (Nat.le_refl _)]; exact al_nofree n n)
theorem again_give (x : Nat) (h : Fr w fb rb (al n n)) (hx : x < n) :
    Calls Tryz.prog 92 #[.pointer (some ⟨fb, 0, none⟩), .int .i64 x] w (Did fb rb ((al n n).set x 0) (.tuple #[.bool true, .nilIface]) w) := by
  have e : (al n n).getD x 0 = 1 := by rw [al_get, if_pos hx]
  have := did_unref x h (by rw [al_len n n (Nat.le_refl _)]; exact hx) (by omega)
  rwa [e] at this
theorem again_give2 (x y : Nat) (h : Fr w fb rb ((al n n).set x 0)) (hx : x < n) (hy : y < n) (hne : x ≠ y) :
    Calls Tryz.prog 92 #[.pointer (some ⟨fb, 0, none⟩), .int .i64 y] w (Did fb rb (((al n n).set x 0).set y 0) (.tuple #[.bool true, .nilIface]) w) := by
  have l := al_len n n (Nat.le_refl _)
  have e : ((al n n).set x 0).getD y 0 = 1 := by rw [getD_set _ _ _ _ (by omega), if_neg (by omega), al_get, if_pos hy]
  have := did_unref y h (by rw [List.length_set]; omega) (by omega)
  rwa [e] at this
theorem again_same (x : Nat) (h : Fr w fb rb ((al n n).set x 0)) (hx : x < n) :
    Calls Tryz.prog 92 #[.pointer (some ⟨fb, 0, none⟩), .int .i64 x] w (Did fb rb ((al n n).set x 0) (.tuple #[.bool false, .iface 98 (.int .i64 22)]) w) := by
  have l := al_len n n (Nat.le_refl _)
  refine did_unref_no x h ?_
  rw [rfs_set _ _ _ _ (by omega), if_pos rfl]
theorem again_next {rs : List Int} (x : Nat) (h : Fr w fb rb rs) (hl : rs.length = n) (hx : x < n) (h0 : rs.getD x 0 = 0) (h1 : ∀ j, j < x → rs.getD j 0 = 1) :
    Calls Tryz.prog 132 #[.pointer (some ⟨fb, 0, none⟩)] w (Did fb rb (rs.set x 1) (.tuple #[.int .i64 x, .nilIface]) w) :=
  did_alloc x h (by omega) (fun j hj e => by rw [h1 j hj] at e; cases e) h0
theorem again_get2 (x y j : Nat) (hx : x < n) (hy : y < n) : (((al n n).set x 0).set y 0).getD j 0 = if j = x ∨ j = y then 0 else if j < n then 1 else 0 := by
  have l := al_len n n (Nat.le_refl _)
  rw [getD_set _ _ _ _ (by rw [List.length_set]; omega), getD_set _ _ _ _ (by omega), al_get]
  by_cases c : j = y
  · rw [if_pos c, if_pos (Or.inr c)]
  · rw [if_neg c]
    by_cases d : j = x
    · rw [if_pos d, if_pos (Or.inl d)]
    · rw [if_neg d, if_neg (show ¬ (j = x ∨ j = y) from fun h => h.elim d c)]
theorem again_get1 (x j : Nat) (hx : x < n) : ((al n n).set x 0).getD j 0 = if j = x then 0 else if j < n then 1 else 0 := by
  have l := al_len n n (Nat.le_refl _)
  rw [getD_set _ _ _ _ (by omega), al_get]
end
end Go.Proofs.YtgedimlhldfkaaaGreatDoor
