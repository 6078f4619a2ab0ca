/- What the package's spread does: registers laid out as their 26 words. -/
import Derived.Test.YtbkhmeongekdiaaRgL
import Derived.StillTailTactics
import Derived.Deep.LoopGhost
import Derived.Deep.QuietTactic
import Derived.BigQuiet
import Derived.Deep.Cut
import Derived.Laws.StructEq
import Derived.ChangeKeysEq
namespace Go.Proofs.Ytbkhmeongekdiaa
open Go.RowKit Go.Joins
set_option linter.unusedVariables false
theorem u32_size : (Try.prog.info? 23).map (·.size) = some 1 := by kernel_rfl
theorem ar_info : (Try.prog.info? 34).map (·.size) = some 22 := by kernel_rfl
theorem rr_info : (Try.prog.info? 28).map (·.size) = some 22 := by kernel_rfl
theorem Box.far {w w' : World} {b rb : Nat} {cs : Array Value} {t : TypeId} (h : Box w b cs t) (f : Far rb w w') (hb : b ≠ rb) : Box w' b cs t := by
  unfold Box; rw [f.block h.lt hb]; exact h
theorem Box.at {w : World} {b : Nat} {cs : List Value} {t : TypeId} (h : Box w b cs.toArray t) {i : Nat} {v : Value} (e : cs[i]? = some v) : w.cell? ⟨b, i, none⟩ = some v := by
  rw [h.cell, List.getElem?_toArray]; exact e
theorem Box.drew {w : World} {b : Nat} {cs : Array Value} {t : TypeId} (h : Box w b cs t) : Box w.drew b cs t := h
/-- the words that are R's alone -/
def wlo (x : Nat → Int) (i : Nat) : Int := if i < 16 then x i else 0
/-- the words, of which the first j floats' are laid down -/
def wj (x f : Nat → Int) (j i : Nat) : Int := if i < 18 + 2 * j then rwd x f i else 0
theorem wj_zero (x f : Nat → Int) : ((nls .u32 26 (wlo x)).set 16 (.int .u32 (x 16))).set 17 (.int .u32 (x 17)) = nls .u32 26 (wj x f 0) := by
  rw [nl_set _ _ _ (by omega), nl_set _ _ _ (by omega)]
  refine nl_ext fun i hi => ?_
  unfold upd wlo wj
  by_cases h : i < 16
  · rw [if_neg (by omega), if_neg (by omega), if_pos h, if_pos (by omega)]; unfold rwd; rw [if_pos (by omega)]
  · by_cases h2 : i < 18
    · rcases (by omega : i = 16 ∨ i = 17) with rfl | rfl <;> rfl
    · rw [if_neg (by omega), if_neg (by omega), if_neg h, if_neg (by omega)]
theorem wj_next (x f : Nat → Int) (j : Nat) (hj : j < 4) : ((nls .u32 26 (wj x f j)).set (18 + 2 * j) (.int .u32 (f j % 4294967296))).set (18 + 2 * j + 1) (.int .u32 (f j / 4294967296)) = nls .u32 26 (wj x f (j + 1)) := by
  rw [nl_set _ _ _ (by omega), nl_set _ _ _ (by omega)]
  refine nl_ext fun i hi => ?_
  unfold upd wj
  by_cases h : i = 18 + 2 * j + 1
  · subst h
    rw [if_pos rfl, if_pos (by omega)]; unfold rwd
    rw [if_neg (by omega), if_pos (by omega), show (18 + 2 * j + 1 - 18) / 2 = j by omega]
  · rw [if_neg h]
    by_cases h2 : i = 18 + 2 * j
    · subst h2
      rw [if_pos rfl, if_pos (by omega)]; unfold rwd
      rw [if_neg (by omega), if_neg (by omega), show (18 + 2 * j - 18) / 2 = j by omega]
    · rw [if_neg h2]
      by_cases h3 : i < 18 + 2 * j
      · rw [if_pos h3, if_pos (by omega)]
      · rw [if_neg h3, if_neg (by omega)]
theorem wj_all (x f : Nat → Int) : nls .u32 26 (wj x f 4) = nls .u32 26 (rwd x f) := nl_ext fun i hi => by unfold wj; rw [if_pos (by omega)]
end Go.Proofs.Ytbkhmeongekdiaa
namespace Go.Proofs.Ytbkhmeongekdiaa
open Go.RowKit Go.Joins
set_option linter.unusedVariables false
/-- the number of Check's error -/
def cke (v : Int) : Int := if v < 32 then 0 else 22
set_option maxRecDepth 100000 in
theorem check_any (x f : Nat → Int) (w : World) (h0 : 0 ≤ x 17) : Calls Try.prog 14 #[.agg (rc x f).toArray] w fun e w' => e = .returned (erN (cke (x 17))) ∧ New w w' := by
  unfold cke
  have c17 : (w.alloc (.cells (rc x f).toArray 34)).cell? ⟨w.heap.size, 17, none⟩ = some (.int .u32 (x 17)) := (Box.here w _ _ 34 rfl).at (rc_x x f (i := 17) (by omega))
  have nw : New w (w.alloc (.cells (rc x f).toArray 34)) := (New.refl w).alloc _ _
  by_cases h : x 17 < 32
  · rw [if_pos h]
    go_enter Try.func14, Try.ntmps14
    go_upto_region 1 with fail
    generalize w.alloc (.cells (rc x f).toArray 34) = W at *
    go_wp2
    go_ret
    exact ⟨rfl, nw⟩
  · rw [if_neg h]
    have h' : 32 ≤ x 17 := by omega
    go_enter Try.func14, Try.ntmps14
    go_upto_region 1 with fail
    generalize w.alloc (.cells (rc x f).toArray 34) = W at *
    go_wp2
    go_ret
    exact ⟨rfl, nw⟩
/-- R's words, and PC and Flags, of which the first are laid down or not -/
def gx (g : Nat → Int) (i : Nat) : Int := g i
def gf (g : Nat → Int) (k : Nat) : Int := g (19 + 2 * k) * 4294967296 + g (18 + 2 * k)
def gj (g : Nat → Int) (j k : Nat) : Int := if k < j then gf g k else 0
/-- the registers of words, or none -/
def gv (g : Nat → Int) : List Value := if g 17 < 32 then rc g (gf g) else rc (fun _ => 0) fun _ => 0
def gp (g : Nat → Int) (i : Nat) : Int := if i = 16 then g 16 else if i = 17 then g 17 else 0
theorem gj_next (x g : Nat → Int) (j : Nat) (hj : j < 4) : (rc x (gj g j)).set (18 + j) (.int .u64 (gf g j)) = rc x (gj g (j + 1)) := by
  rw [rc_set_f _ _ _ _ hj]
  refine rc_inj (fun _ _ => rfl) fun k hk => ?_
  unfold upd gj
  by_cases h : k = j
  · subst h; rw [if_pos rfl, if_pos (by omega)]
  · rw [if_neg h]
    by_cases h2 : k < j
    · rw [if_pos h2, if_pos (by omega)]
    · rw [if_neg h2, if_neg (by omega)]
end Go.Proofs.Ytbkhmeongekdiaa
namespace Go.Proofs.Ytbkhmeongekdiaa
open Go.RowKit Go.Joins
set_option linter.unusedVariables false
theorem run_eqItems_same {P : Program} (d : Nat) {e : TypeId} {q : IntKind} (he : P.underlying e = some (.int q)) (xs : Array Value) : ∀ (is : List Nat) (w : World), (∀ i ∈ is, ∃ k a, xs[i]? = some (.int k a)) →
    (Op.eqItems (d + 1) e 1 xs xs is).run P w = .ok true w
  | [], w, _ => by simp [Op.eqItems]
  | i :: is, w, h => by
    obtain ⟨k, a, ha⟩ := h i (by simp)
    have hg : (isAgg e).run P w = .ok false w := by
      unfold isAgg
      rw [Sem.run_bind, run_underlying he w]
      rfl
    have hp : (part e xs i).run P w = .ok (.int k a) w := by
      unfold part
      rw [Sem.run_bind, hg]
      simp only [Result.andThen_ok, Bool.false_eq_true, if_false, ha, Sem.run_pure]
    have ih := run_eqItems_same d he xs is w fun j hj => h j (by simp [hj])
    simp [Op.eqItems, Sem.run_bind, hp, run_equalIn_int w d e k q a a he, ih]
theorem run_equalIn_row {P : Program} (d n : Nat) {t e : TypeId} {q : IntKind} (ht : P.underlying t = some (.array n e)) (he : P.underlying e = some (.int q)) (hs : P.cellsOf e = 1) (xs : Array Value) (w : World) (h : ∀ i, i < n → ∃ k a, xs[i]? = some (.int k a)) :
    (Op.equalIn (d + 2) t (.agg xs) (.agg xs)).run P w = .ok true w := by
  obtain ⟨i, hi⟩ := info_of_underlying he
  rw [run_equalIn_array w (d + 1) xs xs ht hi, hs]
  exact run_eqItems_same d he xs _ w fun j hj => h j (List.mem_range.1 hj)
set_option maxHeartbeats 4000000 in
set_option maxRecDepth 100000 in
theorem rc_equal (x f : Nat → Int) (w : World) : (Op.equalIn 10000 34 (.agg (rc x f).toArray) (.agg (rc x f).toArray)).run Try.prog w = .ok true w := by
  have hl : (rc x f).toArray = #[.int .u32 (x 0), .int .u32 (x 1), .int .u32 (x 2), .int .u32 (x 3), .int .u32 (x 4), .int .u32 (x 5), .int .u32 (x 6), .int .u32 (x 7), .int .u32 (x 8), .int .u32 (x 9), .int .u32 (x 10), .int .u32 (x 11), .int .u32 (x 12), .int .u32 (x 13), .int .u32 (x 14), .int .u32 (x 15), .int .u32 (x 16), .int .u32 (x 17), .int .u64 (f 0), .int .u64 (f 1), .int .u64 (f 2), .int .u64 (f 3)] := rfl
  have h1 : ∀ w, (Op.equalIn 9999 24 (.agg (nls .u32 16 x).toArray) (.agg (nls .u32 16 x).toArray)).run Try.prog w = .ok true w := fun w => run_equalIn_row 9997 16 Try.underlying24 Try.underlying23 (by kernel_rfl) _ w fun i hi => ⟨_, _, by rw [List.getElem?_toArray]; exact nl_at x hi⟩
  have h2 : ∀ w, (Op.equalIn 9999 26 (.agg (nls .u64 4 f).toArray) (.agg (nls .u64 4 f).toArray)).run Try.prog w = .ok true w := fun w => run_equalIn_row 9997 4 Try.underlying26 Try.underlying25 (by kernel_rfl) _ w fun i hi => ⟨_, _, by rw [List.getElem?_toArray]; exact nl_at f hi⟩
  have l1 : (nls .u32 16 x).toArray = #[.int .u32 (x 0), .int .u32 (x 1), .int .u32 (x 2), .int .u32 (x 3), .int .u32 (x 4), .int .u32 (x 5), .int .u32 (x 6), .int .u32 (x 7), .int .u32 (x 8), .int .u32 (x 9), .int .u32 (x 10), .int .u32 (x 11), .int .u32 (x 12), .int .u32 (x 13), .int .u32 (x 14), .int .u32 (x 15)] := rfl
  have l2 : (nls .u64 4 f).toArray = #[.int .u64 (f 0), .int .u64 (f 1), .int .u64 (f 2), .int .u64 (f 3)] := rfl
  rw [l1] at h1
  rw [l2] at h2
  rw [hl]
  simp [go_sem, h1, h2]
theorem rc_eql (x f : Nat → Int) (w : World) : (binOp .eql 34 (.agg (rc x f).toArray) (.agg (rc x f).toArray)).run Try.prog w = .ok (.bool true) w := by
  rw [run_eql_struct, rc_equal]; rfl
theorem rc_neq (x f : Nat → Int) (w : World) : (binOp .neq 34 (.agg (rc x f).toArray) (.agg (rc x f).toArray)).run Try.prog w = .ok (.bool false) w := by
  rw [run_neq_struct, rc_equal]; rfl
end Go.Proofs.Ytbkhmeongekdiaa
