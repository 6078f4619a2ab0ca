/- A region that draws its order, by an invariant: what each operation that has come up has left behind; each operation is looked at once, in whatever order they come up. -/
import Derived.Test.YtbkhmeongekdiaaHeld
import Derived.RegionTactic
namespace Go.Proofs.Ytbkhmeongekdiaa
open Go.RowKit Go.Joins
set_option linter.unusedVariables false
/-- the frame, with these slots filled one behind the other -/
def frL : List (Option Tmp) → Nat → (Nat → Value) → Act → Act
  | [], _, _, a => a
  | d :: ds, j, g, a => frL ds (j + 1) g (a.put d (g j))
/-- whose slot is it? -/
def fdx : List (Option Tmp) → Nat → Option Nat
  | [], _ => none
  | d :: ds, k => match fdx ds k with
    | some p => some (p + 1)
    | none => if d = some k then some 0 else none
/-- each slot is written once -/
def unq : List (Option Tmp) → Bool
  | [] => true
  | d :: ds => (match d with | none => true | some k => (fdx ds k).isNone) && unq ds
def upB (l : Nat → Bool) (i : Nat) : Nat → Bool := fun j => if j = i then true else l j
def upV (g : Nat → Value) (i : Nat) (v : Value) : Nat → Value := fun j => if j = i then v else g j
theorem put_size (a : Act) (d : Option Tmp) (v : Value) : (a.put d v).tmps.size = a.tmps.size := by cases d <;> simp [Act.put]
theorem put_defers (a : Act) (d : Option Tmp) (v : Value) : (a.put d v).defers = a.defers := by cases d <;> rfl
theorem put_get (a : Act) (d : Option Tmp) (v : Value) (k : Nat) : (a.put d v).tmps[k]? = if d = some k then (if k < a.tmps.size then some v else none) else a.tmps[k]? := by
  cases d with
  | none => simp [Act.put]
  | some d =>
    simp only [Act.put, Array.getElem?_setIfInBounds, Option.some.injEq]
    by_cases h : d = k
    · subst h; simp
    · simp [h]
theorem act_ext {a b : Act} (h : a.defers = b.defers) (k : ∀ i : Nat, a.tmps[i]? = b.tmps[i]?) : a = b := by
  cases a; cases b
  have := Array.ext_getElem? (fun i => k i)
  simp only at h this
  subst h this; rfl
theorem frL_size : ∀ (ds : List (Option Tmp)) (j : Nat) (g : Nat → Value) (a : Act), (frL ds j g a).tmps.size = a.tmps.size
  | [], _, _, _ => rfl
  | d :: ds, j, g, a => by rw [frL, frL_size, put_size]
theorem frL_defers : ∀ (ds : List (Option Tmp)) (j : Nat) (g : Nat → Value) (a : Act), (frL ds j g a).defers = a.defers
  | [], _, _, _ => rfl
  | d :: ds, j, g, a => by rw [frL, frL_defers, put_defers]
theorem frL_get : ∀ (ds : List (Option Tmp)) (j : Nat) (g : Nat → Value) (a : Act) (k : Nat), (frL ds j g a).tmps[k]? = match fdx ds k with
    | some p => if k < a.tmps.size then some (g (j + p)) else none
    | none => a.tmps[k]?
  | [], _, _, _, _ => rfl
  | d :: ds, j, g, a, k => by
    rw [frL, frL_get ds (j + 1) g (a.put d (g j)) k]
    simp only [fdx]
    cases h : fdx ds k with
    | some p => simp only [put_size]; rw [show j + 1 + p = j + (p + 1) by omega]
    | none =>
      simp only [put_get]
      split
      · rfl
      · rfl
theorem fdx_spec : ∀ (ds : List (Option Tmp)) (k p : Nat), fdx ds k = some p → ds[p]? = some (some k)
  | [], k, p, h => by simp [fdx] at h
  | d :: ds, k, p, h => by
    simp only [fdx] at h
    cases hh : fdx ds k with
    | some q => rw [hh] at h; cases h; rw [List.getElem?_cons_succ]; exact fdx_spec ds k q hh
    | none =>
      rw [hh] at h
      simp only at h
      split at h
      · rename_i e; cases h; rw [List.getElem?_cons_zero, e]
      · cases h
theorem fdx_some : ∀ (ds : List (Option Tmp)) (k p : Nat), ds[p]? = some (some k) → ∃ q, fdx ds k = some q
  | [], k, p, h => by simp at h
  | d :: ds, k, p, h => by
    simp only [fdx]
    cases hh : fdx ds k with
    | some q => exact ⟨_, rfl⟩
    | none =>
      cases p with
      | zero => rw [List.getElem?_cons_zero] at h; cases h; exact ⟨0, by simp⟩
      | succ p => rw [List.getElem?_cons_succ] at h; obtain ⟨q, e⟩ := fdx_some ds k p h; rw [hh] at e; cases e
theorem unq_spec : ∀ (ds : List (Option Tmp)) (k p q : Nat), unq ds = true → ds[p]? = some (some k) → ds[q]? = some (some k) → p = q
  | [], k, p, q, _, h, _ => by simp at h
  | d :: ds, k, p, q, hu, hp, hq => by
    simp only [unq, Bool.and_eq_true] at hu
    have no : ∀ r, ds[r]? = some (some k) → d = some k → False := fun r hr e => by
      subst e
      obtain ⟨s, hs⟩ := fdx_some ds k r hr
      have := hu.1
      simp [hs] at this
    cases p with
    | zero =>
      cases q with
      | zero => rfl
      | succ q => rw [List.getElem?_cons_zero] at hp; rw [List.getElem?_cons_succ] at hq; exact (no q hq (by simpa using hp)).elim
    | succ p =>
      cases q with
      | zero => rw [List.getElem?_cons_zero] at hq; rw [List.getElem?_cons_succ] at hp; exact (no p hp (by simpa using hq)).elim
      | succ q => rw [List.getElem?_cons_succ] at hp hq; rw [unq_spec ds k p q hu.2 hp hq]
/-- a slot filled anew is the same frame with another value -/
theorem frL_put {ds : List (Option Tmp)} (hu : unq ds = true) {i : Nat} {d : Option Tmp} (hd : ds[i]? = some d) (g : Nat → Value) (a : Act) (v : Value) : (frL ds 0 g a).put d v = frL ds 0 (upV g i v) a := by
  refine act_ext (by rw [put_defers, frL_defers, frL_defers]) fun k => ?_
  rw [put_get, frL_get, frL_get, frL_size]
  cases h : fdx ds k with
  | some p =>
    have hp := fdx_spec ds k p h
    simp only [Nat.zero_add]
    by_cases e : d = some k
    · subst e
      have := unq_spec ds k i p hu hd hp
      subst this
      rw [if_pos rfl]; simp [upV]
    · rw [if_neg e]
      have : p ≠ i := fun e2 => by subst e2; rw [hp] at hd; exact e (Option.some.inj hd).symm
      simp [upV, this]
  | none =>
    by_cases e : d = some k
    · subst e
      obtain ⟨q, hq⟩ := fdx_some ds k i hd
      rw [h] at hq; cases hq
    · rw [if_neg e]
/-- the frame as it was -/
theorem frL_old (ds : List (Option Tmp)) (a : Act) (hb : ∀ d ∈ ds, ∀ k, d = some k → k < a.tmps.size) : frL ds 0 (fun j => match (ds[j]?).join with | some k => a.tmps.getD k undef | none => undef) a = a := by
  refine act_ext (frL_defers _ _ _ _) fun k => ?_
  rw [frL_get]
  cases h : fdx ds k with
  | none => rfl
  | some p =>
    have hp := fdx_spec ds k p h
    simp only [Nat.zero_add, hp, Option.join_some]
    have hk := hb (some k) (List.mem_of_getElem? hp) k rfl
    rw [if_pos hk]; simp [hk]
/-- what a slot of the region holds, and another one -/
theorem frL_eval {ds : List (Option Tmp)} {k p : Nat} (h : fdx ds k = some p) (g : Nat → Value) {a : Act} (hk : k < a.tmps.size) : (frL ds 0 g a).eval (.tmp k) = g p := by
  have := frL_get ds 0 g a k
  rw [h] at this
  simp only [if_pos hk, Nat.zero_add] at this
  show (frL ds 0 g a).tmps.getD k undef = g p
  rw [Array.getD_eq_getD_getElem?, this]; rfl
theorem frL_eval_old {ds : List (Option Tmp)} {k : Nat} (h : fdx ds k = none) (g : Nat → Value) (a : Act) : (frL ds 0 g a).eval (.tmp k) = a.eval (.tmp k) := by
  have := frL_get ds 0 g a k
  rw [h] at this
  show (frL ds 0 g a).tmps.getD k undef = a.tmps.getD k undef
  rw [Array.getD_eq_getD_getElem?, this, Array.getD_eq_getD_getElem?]
section
variable {P : Program} {ops : Array Oper} {Q : Exit → Act → World → Prop}
theorem wpAny_inv {ds : List (Option Tmp)} (hds : ops.toList.map (·.dst) = ds) (hu : unq ds = true) (a : Act)
    (hac : ∀ (i : Nat) o, ops[i]? = some o → ∀ e ∈ o.after, Region.binds .any e = true → e.on < i)
    (I : (Nat → Bool) → (Nat → Value) → World → Prop)
    (step : ∀ (i : Nat) o, ops[i]? = some o → ∀ l g w, l i = false → (∀ e ∈ o.after, Region.binds .any e = true → l e.on = true) → I l g w →
      wpOp P ops Q i (fun a' w' => ∃ v, a' = (frL ds 0 g a).put o.dst v ∧ I (upB l i) (upV g i v) w') (frL ds 0 g a) w)
    (fin : ∀ l g w, (∀ j, j < ops.size → l j = true) → I l g w → Q .normal (frL ds 0 g a) w) :
    ∀ (fuel : Nat) (listed : Array Bool) (g : Nat → Value) (w : World), listed.size = ops.size → listed.toList.countP (fun b => !b) ≤ fuel → I (fun j => listed.getD j true) g w → wpAny P .any ops Q fuel listed (frL ds 0 g a) w := by
  -- where nothing may come up all have
  have full : ∀ listed : Array Bool, listed.size = ops.size → Region.ready .any ops listed = [] → ∀ j, j < ops.size → listed.getD j true = true := by
    intro listed hs hr j
    induction j using Nat.strongRecOn with
    | ind j ih =>
      intro hj
      cases hb : listed.getD j true with
      | true => rfl
      | false =>
        have hm : j ∈ Region.ready .any ops listed := mem_ready.2 ⟨hb, ops[j], Array.getElem?_eq_getElem hj, fun e he hbd => by
          have hlt := hac j _ (Array.getElem?_eq_getElem hj) e he hbd
          have h1 := ih e.on hlt (by omega)
          rw [Array.getD_eq_getD_getElem?, Array.getElem?_eq_getElem (by omega)] at h1 ⊢
          exact h1⟩
        rw [hr] at hm; cases hm
  intro fuel
  induction fuel with
  | zero =>
    intro listed g w hs hc hI
    have hall : ∀ j, j < ops.size → listed.getD j true = true := fun j hj => by
      have h0 : listed.toList.countP (fun b => !b) = 0 := by omega
      rw [List.countP_eq_zero] at h0
      have h1 := h0 listed[j] (by simp)
      rw [Array.getD_eq_getD_getElem?, Array.getElem?_eq_getElem (by omega)]
      simpa using h1
    refine ⟨?_, fin _ g w hall hI⟩
    cases hr : Region.ready .any ops listed with
    | nil => rfl
    | cons i rs =>
      have hm : i ∈ Region.ready .any ops listed := by rw [hr]; simp
      obtain ⟨h1, o, ho, _⟩ := mem_ready.1 hm
      rw [hall i (Array.getElem?_eq_some_iff.1 ho).1] at h1; cases h1
  | succ fuel ih =>
    intro listed g w hs hc hI
    refine ⟨fun hr => fin _ g w (full listed hs hr) hI, fun i hi => ?_⟩
    obtain ⟨h1, o, ho, h2⟩ := mem_ready.1 hi
    have hlt := (Array.getElem?_eq_some_iff.1 ho).1
    refine wpOp_mono ?_ (step i o ho _ g w h1 (fun e he hb => ?_) hI)
    · rintro a' w' ⟨v, rfl, hI'⟩
      have hd : ds[i]? = some o.dst := by rw [← hds, List.getElem?_map, Array.getElem?_toList, ho]; rfl
      rw [frL_put hu hd]
      refine ih _ _ _ (by simp [hs]) ?_ ?_
      · have hil : i < listed.toList.length := by simp; omega
        have hib : listed.toList[i] = false := by
          rw [Array.getD_eq_getD_getElem?, Array.getElem?_eq_getElem (by omega)] at h1
          simpa using h1
        rw [Array.toList_setIfInBounds, List.countP_set hil, hib]
        have hpos : 0 < listed.toList.countP (fun b => !b) := List.countP_pos_iff.2 ⟨false, by rw [← hib]; exact List.getElem_mem _, rfl⟩
        simp only [Bool.not_false, if_true, Bool.not_true, Bool.false_eq_true, if_false]
        omega
      · have e : (fun j => (listed.setIfInBounds i true).getD j true) = upB (fun j => listed.getD j true) i := by
          funext j
          unfold upB
          by_cases h : j = i
          · subst h; rw [if_pos rfl, Array.getD_eq_getD_getElem?, Array.getElem?_setIfInBounds_self_of_lt (by omega)]; rfl
          · rw [if_neg h, Array.getD_eq_getD_getElem?, Array.getElem?_setIfInBounds_ne (fun e => h e.symm)]; show _ = listed.getD j true; rw [Array.getD_eq_getD_getElem?]
        rw [e]; exact hI'
    · have h3 := h2 e he hb
      rcases Nat.lt_or_ge e.on listed.size with h' | h'
      · rw [Array.getD_eq_getD_getElem?, Array.getElem?_eq_getElem h'] at h3 ⊢; exact h3
      · rw [Array.getD_eq_getD_getElem?, Array.getElem?_eq_none h']; rfl
/-- edges lead back -/
def backE (ops : Array Oper) : Bool := (List.range ops.size).all fun i => match ops[i]? with | some o => o.after.all fun e => !Region.binds .any e || decide (e.on < i) | none => true
/-- what an operation waits for -/
def waitsE (ops : Array Oper) (i : Nat) : List Nat := match ops[i]? with | some o => (o.after.toList.filter fun e => Region.binds .any e).map (·.on) | none => []
/-- THE LAW -/
theorem wp_region_inv {id : Nat} {a : Act} {w : World} (ds : List (Option Tmp)) (I : (Nat → Bool) → (Nat → Value) → World → Prop) (hm : P.follows .mixedOrders = true)
    (hds : ops.toList.map (·.dst) = ds) (hu : unq ds = true) (hb : (ds.all fun d => match d with | some k => decide (k < a.tmps.size) | none => true) = true) (hac : backE ops = true)
    (h0 : ∀ g, I (fun j => decide (ops.size ≤ j)) g w.drew)
    (step : ∀ (i : Nat) o, ops[i]? = some o → ∀ l g w, l i = false → (∀ j ∈ waitsE ops i, l j = true) → I l g w →
      ∀ K : Act → World → Prop, (∀ v w', I (upB l i) (upV g i v) w' → K ((frL ds 0 g a).put o.dst v) w') → Region.wanted o (yielded ops (frL ds 0 g a).tmps) = true ∧ Oper.wp P o (frL ds 0 g a) w K Q)
    (fin : ∀ l g w, (∀ j, j < ops.size → l j = true) → I l g w → Q .normal (frL ds 0 g a) w) : (Code.region id ops true).wp P Q a w := by
  have hbk : ∀ (i : Nat) o, ops[i]? = some o → ∀ e ∈ o.after, Region.binds .any e = true → e.on < i := fun i o ho e he hbd => by
    have h1 := List.all_eq_true.1 hac i (List.mem_range.2 (Array.getElem?_eq_some_iff.1 ho).1)
    rw [ho] at h1
    have h2 := Array.all_eq_true_iff_forall_mem.1 h1 e he
    rw [hbd] at h2; simpa using h2
  refine wp_region_any hm ?_
  rw [← frL_old ds a (fun d hd k e => by have := List.all_eq_true.1 hb d hd; subst e; simpa using this)]
  refine wpAny_inv hds hu a hbk I ?_ fin _ _ _ _ (by simp) (by simp [List.countP_replicate]) ?_
  · intro i o ho l g w hl hd hI
    unfold wpOp
    rw [ho]
    have hw := step i o ho l g w hl (fun j hj => by
      unfold waitsE at hj
      rw [ho] at hj
      obtain ⟨e, he, rfl⟩ := List.mem_map.1 hj
      obtain ⟨he1, he2⟩ := List.mem_filter.1 he
      exact hd e (by simpa using he1) he2) hI (fun a' w' => ∃ v, a' = (frL ds 0 g a).put o.dst v ∧ I (upB l i) (upV g i v) w') (fun v w' h => ⟨v, rfl, h⟩)
    show if Region.wanted o (yielded ops (frL ds 0 g a).tmps) = true then _ else _
    rw [if_pos hw.1]
    exact .inl hw.2
  · have e : (fun j => (Array.replicate ops.size false).getD j true) = fun j => decide (ops.size ≤ j) := by
      funext j
      rw [Array.getD_eq_getD_getElem?, Array.getElem?_replicate]
      by_cases h : j < ops.size
      · rw [if_pos h]; simp; omega
      · rw [if_neg h]; simp; omega
    rw [e]; exact h0 _
/-- an operation carried out; shut, so that nobody runs it by looking -/
structure OpW (P : Program) (o : Oper) (a : Act) (w : World) (K : Act → World → Prop) (Q : Exit → Act → World → Prop) : Prop where
  out : Oper.wp P o a w K Q
/-- what is asked of each operation, one behind the other; wa: what each waits for -/
def StepsI (P : Program) (Q : Exit → Act → World → Prop) (ds : List (Option Tmp)) (a : Act) (I : (Nat → Bool) → (Nat → Value) → World → Prop) (wa : List (List Nat)) : List Oper → Nat → Prop
  | [], _ => True
  | o :: rest, i => (∀ l g w, l i = false → (∀ j, (wa.getD i []).contains j = true → l j = true) → (∀ j, (wa.getD j []).contains i = true → l j = false) → I l g w →
      ∀ K : Act → World → Prop, (∀ v w', I (upB l i) (upV g i v) w' → K ((frL ds 0 g a).put o.dst v) w') → OpW P o (frL ds 0 g a) w K Q) ∧ StepsI P Q ds a I wa rest (i + 1)
theorem stepsI_spec {ds : List (Option Tmp)} {a : Act} {I : (Nat → Bool) → (Nat → Value) → World → Prop} {wa : List (List Nat)} : ∀ (os : List Oper) (k : Nat), StepsI P Q ds a I wa os k → ∀ (i : Nat) o, os[i]? = some o → ∀ l g w, l (k + i) = false → (∀ j, (wa.getD (k + i) []).contains j = true → l j = true) → (∀ j, (wa.getD j []).contains (k + i) = true → l j = false) → I l g w →
      ∀ K : Act → World → Prop, (∀ v w', I (upB l (k + i)) (upV g (k + i) v) w' → K ((frL ds 0 g a).put o.dst v) w') → OpW P o (frL ds 0 g a) w K Q
  | [], _, _, i, o, ho => by simp at ho
  | o' :: os, k, h, i, o, ho => by
    cases i with
    | zero =>
      rw [List.getElem?_cons_zero] at ho
      cases ho
      exact h.1
    | succ i =>
      rw [List.getElem?_cons_succ] at ho
      have := stepsI_spec os (k + 1) h.2 i o ho
      rw [show k + 1 + i = k + (i + 1) by omega] at this
      exact this
/-- THE LAW, with the operations one behind the other -/
theorem wp_region_steps {id : Nat} {a : Act} {w : World} {os : List Oper} (hos : ops = os.toArray) (ds : List (Option Tmp)) (wa : List (List Nat)) (I : (Nat → Bool) → (Nat → Value) → World → Prop) (hm : P.follows .mixedOrders = true)
    (hds : ops.toList.map (·.dst) = ds) (hwa : (List.range ops.size).map (waitsE ops) = wa) (hg : ops.toList.all (fun o => o.guard.isNone) = true) (hu : unq ds = true) (hb : (ds.all fun d => match d with | some k => decide (k < a.tmps.size) | none => true) = true) (hac : backE ops = true)
    (h0 : ∀ g, I (fun j => decide (ops.size ≤ j)) g w.drew)
    (step : StepsI P Q ds a I wa os 0)
    (fin : ∀ l g w, (∀ j, j < ops.size → l j = true) → I l g w → Q .normal (frL ds 0 g a) w) : (Code.region id ops true).wp P Q a w := by
  have hwl : ∀ j, j < ops.size → wa.getD j [] = waitsE ops j := fun j hj => by
    rw [← hwa, List.getD_eq_getElem?_getD, List.getElem?_map, List.getElem?_range hj]; rfl
  have hwo : ∀ j, ¬ j < ops.size → wa.getD j [] = [] := fun j hj => by
    rw [← hwa, List.getD_eq_getElem?_getD, List.getElem?_eq_none (by simp; omega)]; rfl
  refine wp_region_inv ds (fun l g w => I l g w ∧ ∀ j, j < ops.size → l j = true → ∀ d ∈ waitsE ops j, l d = true) hm hds hu hb hac (fun g => ⟨h0 g, fun j hj e => ?_⟩) (fun i o ho l g w hl hd hI K hK => ⟨?_, ?_⟩) fun l g w hl hI => fin l g w hl hI.1
  · have : ops.size ≤ j := by simpa using e
    omega
  · have h1 := List.all_eq_true.1 hg o (by rw [Array.mem_toList_iff]; exact Array.mem_of_getElem? ho)
    unfold Region.wanted
    cases hgd : o.guard with
    | none => rfl
    | some x => rw [hgd] at h1; cases h1
  have hi := (Array.getElem?_eq_some_iff.1 ho).1
  have := stepsI_spec os 0 step i o (by rw [hos] at ho; rw [← List.getElem?_toArray]; exact ho) l g w
  rw [Nat.zero_add] at this
  refine (this hl (fun j hj => hd j (by rw [hwl i hi] at hj; simpa using hj)) (fun j hj => ?_) hI.1 K (fun v w' h => hK v w' ⟨h, fun j hj e d hd2 => ?_⟩)).out
  · by_cases hjs : j < ops.size
    · rw [hwl j hjs] at hj
      cases hlj : l j with
      | false => rfl
      | true => have h1 := hI.2 j hjs hlj i (by simpa using hj); rw [hl] at h1; cases h1
    · rw [hwo j hjs] at hj; cases hj
  · unfold upB at e ⊢
    by_cases h1 : d = i
    · rw [if_pos h1]
    · rw [if_neg h1]
      by_cases h2 : j = i
      · subst h2; exact hd d hd2
      · rw [if_neg h2] at e; exact hI.2 j hj e d hd2
theorem gen_act {c : Code} {a : Act} {w : World} (h : ∀ a0 : Act, a0 = a → Code.wp P c Q a0 w) : Code.wp P c Q a w := h a rfl
end
end Go.Proofs.Ytbkhmeongekdiaa
namespace Go.Proofs.Ytbkhmeongekdiaa
open Go.RowKit Go.Joins
set_option linter.unusedVariables false
set_option linter.unusedSimpArgs false
section
variable {P : Program} {K : Act → World → Prop} {Q : Exit → Act → World → Prop} {o : Oper} {a : Act} {w : World}
theorem op_value (v : Value) (w' : World) (hr : (execOp a.eval o).run P w = .ok (.value v) w') (h : K (a.put o.dst v) w') : OpW P o a w K Q := by
  refine ⟨?_⟩
  unfold Oper.wp; rw [hr]; exact h
theorem op_move (x : Operand) (ho : o.op = .move x) (v : Value) (hx : a.eval x = v) (h : K (a.put o.dst v) w) : OpW P o a w K Q := by
  refine op_value v w ?_ h
  unfold execOp; rw [ho]
  show Sem.run P (pure (Next.value (a.eval x))) w = _
  rw [hx]; rfl
theorem op_extract (x : Operand) (n : Nat) (ho : o.op = .extract x n) (vs : Array Value) (hx : a.eval x = .tuple vs) (v : Value) (hv : vs[n]? = some v) (h : K (a.put o.dst v) w) : OpW P o a w K Q := by
  refine op_value v w ?_ h
  unfold execOp; rw [ho]
  simp only [hx, Instr.extract, hv, Sem.run_bind, Sem.run_pure, Result.andThen_ok]
/-- a call of a Go function -/
theorem op_enter (f : FuncId) (vs : Array Value) (hr : (execOp a.eval o).run P w = .ok (.enter f vs) w) (h : Calls P f vs w fun e w' => ∃ v, e = .returned v ∧ K (a.put o.dst v) w') : OpW P o a w K Q := by
  refine ⟨?_⟩
  unfold Oper.wp; rw [hr]
  refine Calls.mono h ?_
  rintro e w' ⟨v, rfl, hk⟩
  exact hk
theorem op_call (f : FuncId) (xs : Array Operand) (ts : Array TypeId) (ho : o.op = .call { callee := .value (.func f), args := xs, argTypes := ts }) (vs : Array Value) (hx : xs.map a.eval = vs)
    (hf : (callFunc f vs).run P w = .ok (.enter f vs) w) (h : Calls P f vs w fun e w' => ∃ v, e = .returned v ∧ K (a.put o.dst v) w') : OpW P o a w K Q := by
  refine op_enter f vs ?_ h
  unfold execOp; rw [ho]
  simp only [resolve, Deferred.ofValue, invoke, hx, Act.eval, Sem.run_bind, Sem.run_pure, Result.andThen_ok, Array.append_empty, Array.empty_append, hf]
theorem op_slice (t : TypeId) (n : Nat) (ps : Array (Nat × Operand)) (ho : o.op = .buildSlice t n ps) (qs : Array (Nat × Value)) (hq : (ps.map fun (i, x) => (i, a.eval x)) = qs) (v : Value) (w' : World)
    (he : (Instr.buildSlice t n qs).run P w = .ok v w') (h : K (a.put o.dst v) w') : OpW P o a w K Q := by
  refine op_value v w' ?_ h
  unfold execOp; rw [ho]
  simp only [hq, Sem.run_bind, he, Result.andThen_ok, Sem.run_pure]
theorem op_iface (t : TypeId) (x : Operand) (ho : o.op = .makeInterface t x) (v : Value) (hx : a.eval x = v) (u : Value) (he : (Instr.makeInterface t v).run P w = .ok u w) (h : K (a.put o.dst u) w) : OpW P o a w K Q := by
  refine op_value u w ?_ h
  unfold execOp; rw [ho]
  simp only [hx, Sem.run_bind, he, Result.andThen_ok, Sem.run_pure]
theorem op_alloc (t : TypeId) (ho : o.op = .alloc t) (u : Value) (w' : World) (he : (Instr.alloc t true (.tuple #[])).run P w = .ok u w') (h : K (a.put o.dst u) w') : OpW P o a w K Q := by
  refine op_value u w' ?_ h
  unfold execOp; rw [ho]
  simp only [Sem.run_bind, he, Result.andThen_ok, Sem.run_pure]
theorem op_load_mid (ty : TypeId) (x : Operand) (ho : o.op = .load ty x) (b n : Nat) (hx : a.eval x = .pointer (some ⟨b, n, none⟩)) (cs : List Value) (d : TypeDesc) (hc : w.rangeAt b n cs)
    (hu : P.underlying ty = some d) (hd : d.isRow = true) (hi : (P.info? ty).map (·.size) = some cs.length) (h : K (a.put o.dst (.agg cs.toArray)) w) : OpW P o a w K Q := ⟨wp_load_mid ty x ho b n hx cs d hc hu hd hi h⟩
theorem op_store_bx (ty : TypeId) (x y : Operand) (ho : o.op = .store ty x y) (b : Nat) (cs old : List Value) (t : TypeId) (hx : a.eval x = .pointer (some ⟨b, 0, none⟩)) (hy : a.eval y = .agg cs.toArray) (hB : Box w b old.toArray t) (hl : old.length = cs.length)
    (hi : (P.info? ty).map (·.size) = some cs.length) (h1 : ∀ v ∈ cs, v.oneCell' = true) (h : ∀ w', Box w' b cs.toArray t → Far b w w' → K (a.put o.dst undef) w') : OpW P o a w K Q := ⟨wp_store_bx ty x y ho b cs old t hx hy hB hl hi h1 h⟩
theorem stepsI_cons {ds : List (Option Tmp)} {I : (Nat → Bool) → (Nat → Value) → World → Prop} {wa : List (List Nat)} {i : Nat} {rest : List Oper}
    (h : ∀ l g w, l i = false → (∀ j, (wa.getD i []).contains j = true → l j = true) → (∀ j, (wa.getD j []).contains i = true → l j = false) → I l g w →
      ∀ K : Act → World → Prop, (∀ v w', I (upB l i) (upV g i v) w' → K ((frL ds 0 g a).put o.dst v) w') → OpW P o (frL ds 0 g a) w K Q)
    (k : StepsI P Q ds a I wa rest (i + 1)) : StepsI P Q ds a I wa (o :: rest) i := ⟨h, k⟩
end
end Go.Proofs.Ytbkhmeongekdiaa
