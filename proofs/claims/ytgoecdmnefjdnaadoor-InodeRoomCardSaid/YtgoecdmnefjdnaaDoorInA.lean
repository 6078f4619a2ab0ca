/- A tree of nodes in memory. -/
import Derived.Test.YtgoecdmnefjdnaaDoorMp
import Derived.Test.YtgoecdmnefjdnaaDoorInMath
import Derived.Test.YtgoecdmnefjdnaaDoorByts
import Derived.Test.YtgoecdmnefjdnaaDoorPaK
namespace Go.Proofs.YtgoecdmnefjdnaaDoor
open Go.RowKit
open Go.Maps (Keyed)
set_option linter.unusedVariables false
/-- the numbers' keys, the names' keys -/
theorem keyI : Keyed Tryd.prog 3 := Maps.int_keyed Tryd.underlying3
theorem keyS : Keyed Tryd.prog 9 := Maps.string_keyed Tryd.underlying9
theorem zeroP (w : World) : (zeroValue 51).run Tryd.prog w = .ok (.pointer none) w := by kernel_rfl
theorem zeroI (w : World) : (zeroValue 3).run Tryd.prog w = .ok (.int .i64 0) w := by kernel_rfl
/-- a node, and where it lies -/
structure Nd where
  p : Pn
  dv : Value
  bk : Nat
  nb : Nat
def nmE (l : List (List UInt8 × Int)) : List (Value × Value) := l.map fun x => (.string (ba x.1), .int .i64 x.2)
def ndE (L : List (Int × Nd)) : List (Value × Value) := L.map fun q => (.int .i64 q.1, .pointer (some ⟨q.2.bk, 0, none⟩))
def plL (L : List (Int × Nd)) : Pt := L.map fun q => (q.1, q.2.p)
def Pn.kind (p : Pn) : Int := if p.fd then 1 else 0
def Nd.cells (n : Nd) : Array Value := #[.int .i64 n.p.kind, .int .i64 n.p.par, .bool n.p.nam, .int .i64 n.p.hol, n.dv, .map (if n.p.fd then some n.nb else none)]
/-- a node in memory -/
structure NdM (w : World) (n : Nd) : Prop where
  box : Box w n.bk n.cells 62
  own : w.ownsRow 0 5 1 n.dv n.p.dat.length (cells8 n.p.dat)
  oct : Oct n.p.dat
  len : n.p.dat.length ≤ 4096
  mp : n.p.fd = true → Mp Tryd.prog 9 w n.nb (nmE n.p.nms)
  fil : n.p.fd = false → n.p.nms = []
  hol : 0 ≤ n.p.hol ∧ n.p.hol ≤ 1073741824
  wfp : (Lit.int .i64 n.p.par).wf = true
  wfn : ∀ x ∈ n.p.nms, (Lit.int .i64 x.2).wf = true
theorem own_but {S : Nat → Prop} {w w' : World} {b : Nat} {e : TypeId} {v : Value} {n : Nat} {xs : List Value} (h : w.ownsRow b e 1 v n xs) (k : But S w w') (hn : ∀ g, v.ownBlock = some g → ¬ S g) : w'.ownsRow b e 1 v n xs := by
  refine ⟨h.1, ?_⟩
  rcases h.2 with hh | ⟨g, cap, cur, rfl, hb, hg, rest⟩
  · exact .inl hh
  · exact .inr ⟨g, cap, cur, rfl, hb, by rw [k.block (Array.getElem?_eq_some_iff.1 hg).1 (hn g rfl)]; exact hg, rest⟩
theorem NdM.but {S : Nat → Prop} {w w' : World} {n : Nd} (h : NdM w n) (k : But S w w') (h1 : ¬ S n.bk) (h2 : n.p.fd = true → ¬ S n.nb) (h3 : ∀ g, n.dv.ownBlock = some g → ¬ S g) : NdM w' n :=
  ⟨h.box.but k h1, own_but h.own k h3, h.oct, h.len, fun e => (h.mp e).but k (h2 e), h.fil, h.hol, h.wfp, h.wfn⟩
/-- where the node's bytes lie -/
theorem NdM.dlt {w : World} {n : Nd} (h : NdM w n) {g : Nat} (hg : n.dv.ownBlock = some g) : g < w.heap.size := (World.ownsRow.lt h.own g hg).2
/-- the whole tree -/
structure TrM (X : Nat → Prop) (w : World) (tb mb : Nat) (most : Int) (L : List (Int × Nd)) (tg : Nat → Option (Int × Nat)) : Prop where
  box : Box w tb #[.int .i64 most, .map (some mb)] 55
  mp : Mp Tryd.prog 3 w mb (ndE L)
  nd : ∀ q ∈ L, NdM w q.2
  ttb : tg tb = some (0, 0)
  tmb : tg mb = some (0, 1)
  tbk : ∀ q ∈ L, tg q.2.bk = some (q.1, 0)
  tnb : ∀ q ∈ L, q.2.p.fd = true → tg q.2.nb = some (q.1, 1)
  tdv : ∀ q ∈ L, ∀ g, q.2.dv.ownBlock = some g → tg g = some (q.1, 2)
  aside : ∀ g, X g → tg g = none
  xlt : ∀ g, X g → g < w.heap.size
  num : ∀ q ∈ L, 1 ≤ q.1 ∧ q.1 ≤ 1000
  mst : 1 ≤ most ∧ most ≤ 64
  few : (L.length : Int) ≤ most
def Tr (X : Nat → Prop) (w : World) (tb : Nat) (most : Int) (L : Pt) : Prop := ∃ mb N tg, TrM X w tb mb most N tg ∧ plL N = L
section
variable {X X' S : Nat → Prop} {w w' : World} {tb mb : Nat} {most : Int} {L L1 L2 : List (Int × Nd)} {tg : Nat → Option (Int × Nat)} {i : Int} {n n' : Nd}
theorem TrM.apart (h : TrM X w tb mb most L tg) : L.Pairwise fun x y => x.1 ≠ y.1 := by
  have := h.mp.apart
  unfold ndE at this
  rw [List.pairwise_map] at this
  exact this.imp fun hne e => hne (by rw [e])
/-- what the tree uses is kept where only other blocks are changed -/
theorem TrM.keep (h : TrM X w tb mb most L tg) (k : But S w w') (hS : ∀ g, S g → tg g = none) (hX : ∀ g, X' g → g < w'.heap.size ∧ (X g ∨ w.heap.size ≤ g)) : ∃ tg', TrM X' w' tb mb most L tg' := by
  classical
  have no : ∀ g c, tg g = some c → g < w.heap.size → ¬ S g ∧ ¬ X' g := by
    intro g c hg hl
    refine ⟨fun hs => ?_, fun hx => ?_⟩
    · rw [hS g hs] at hg; cases hg
    · rcases (hX g hx).2 with e | e
      · rw [h.aside g e] at hg; cases hg
      · omega
  refine ⟨fun g => if X' g then none else tg g, h.box.but k (no _ _ h.ttb h.box.lt).1, h.mp.but k (no _ _ h.tmb h.mp.lt).1, fun q hq => ?_, ?_, ?_, fun q hq => ?_, fun q hq hf => ?_, fun q hq g hg => ?_, fun g hg => ?_, fun g hg => (hX g hg).1, h.num, h.mst, h.few⟩
  · exact (h.nd q hq).but k (no _ _ (h.tbk q hq) (h.nd q hq).box.lt).1 (fun e => (no _ _ (h.tnb q hq e) ((h.nd q hq).mp e).lt).1) (fun g hg => (no _ _ (h.tdv q hq g hg) ((h.nd q hq).dlt hg)).1)
  · show (if _ then _ else _) = _
    rw [if_neg (no _ _ h.ttb h.box.lt).2]; exact h.ttb
  · show (if _ then _ else _) = _
    rw [if_neg (no _ _ h.tmb h.mp.lt).2]; exact h.tmb
  · show (if _ then _ else _) = _
    rw [if_neg (no _ _ (h.tbk q hq) (h.nd q hq).box.lt).2]; exact h.tbk q hq
  · show (if _ then _ else _) = _
    rw [if_neg (no _ _ (h.tnb q hq hf) ((h.nd q hq).mp hf).lt).2]; exact h.tnb q hq hf
  · show (if _ then _ else _) = _
    rw [if_neg (no _ _ (h.tdv q hq g hg) ((h.nd q hq).dlt hg)).2]; exact h.tdv q hq g hg
  · show (if _ then _ else _) = _
    rw [if_pos hg]
theorem TrM.new (h : TrM X w tb mb most L tg) (k : New w w') : TrM X w' tb mb most L tg := by
  have k' := But.of_new (fun _ => False) k
  exact ⟨h.box.new k, h.mp.new k, fun q hq => (h.nd q hq).but k' (fun c => c) (fun _ c => c) (fun _ _ c => c), h.ttb, h.tmb, h.tbk, h.tnb, h.tdv, h.aside, fun g hg => Nat.lt_of_lt_of_le (h.xlt g hg) k.size, h.num, h.mst, h.few⟩
theorem Tr.keep {L : Pt} (h : Tr X w tb most L) (k : But S w w') (hS : ∀ g, S g → X g) (hX : ∀ g, X' g → g < w'.heap.size ∧ (X g ∨ w.heap.size ≤ g)) : Tr X' w' tb most L := by
  obtain ⟨mb, N, tg, h, e⟩ := h
  obtain ⟨tg', h'⟩ := h.keep k (fun g hg => h.aside g (hS g hg)) hX
  exact ⟨mb, N, tg', h', e⟩
theorem Tr.new {L : Pt} (h : Tr X w tb most L) (k : New w w') : Tr X w' tb most L := by
  obtain ⟨mb, N, tg, h, e⟩ := h
  exact ⟨mb, N, tg, h.new k, e⟩
/-- one node is changed -/
theorem TrM.step (h : TrM X w tb mb most (L1 ++ (i, n) :: L2) tg) (k : But S w w') (hS : ∀ g, S g → ∃ c, tg g = some (i, c)) (hn : NdM w' n') (hbk : n'.bk = n.bk) (hfd : n'.p.fd = n.p.fd) (hnb : n'.nb = n.nb)
    (hdv : ∀ g, n'.dv.ownBlock = some g → n.dv.ownBlock = some g ∨ w.heap.size ≤ g) : ∃ tg', TrM X w' tb mb most (L1 ++ (i, n') :: L2) tg' := by
  have hm : (i, n) ∈ L1 ++ (i, n) :: L2 := by simp
  have hi := h.num _ hm
  have hap := h.apart
  have other : ∀ q, q ∈ L1 ++ (i, n') :: L2 → q = (i, n') ∨ (q ∈ L1 ++ (i, n) :: L2 ∧ q.1 ≠ i) := by
    intro q hq
    rw [List.pairwise_append, List.pairwise_cons] at hap
    simp only [List.mem_append, List.mem_cons] at hq ⊢
    rcases hq with hq | rfl | hq
    · exact .inr ⟨.inl hq, hap.2.2 q hq (i, n) (by simp)⟩
    · exact .inl rfl
    · exact .inr ⟨.inr (.inr hq), fun e => hap.2.1.1 q hq e.symm⟩
  have noS : ∀ g j c, tg g = some (j, c) → j ≠ i → ¬ S g := fun g j c hg hj hs => by
    obtain ⟨c', e⟩ := hS g hs
    rw [hg] at e; cases e; exact hj rfl
  have e1 : ndE (L1 ++ (i, n') :: L2) = ndE (L1 ++ (i, n) :: L2) := by simp [ndE, hbk]
  classical
  have old : ∀ g, g < w.heap.size → (if w.heap.size ≤ g ∧ n'.dv.ownBlock = some g then some (i, 2) else tg g) = tg g := fun g hg => if_neg (fun c => by omega)
  refine ⟨fun g => if w.heap.size ≤ g ∧ n'.dv.ownBlock = some g then some (i, 2) else tg g, h.box.but k (noS _ _ _ h.ttb (by omega)), by rw [e1]; exact h.mp.but k (noS _ _ _ h.tmb (by omega)), fun q hq => ?_, ?_, ?_, fun q hq => ?_, fun q hq hf => ?_, fun q hq g hg => ?_, fun g hg => ?_, fun g hg => Nat.lt_of_lt_of_le (h.xlt g hg) k.size, fun q hq => ?_, h.mst, by have := h.few; simpa using this⟩
  · rcases other q hq with rfl | ⟨hq, hne⟩
    · exact hn
    · exact (h.nd q hq).but k (noS _ _ _ (h.tbk q hq) hne) (fun e => noS _ _ _ (h.tnb q hq e) hne) (fun g hg => noS _ _ _ (h.tdv q hq g hg) hne)
  · show (if _ then _ else _) = _
    rw [old _ h.box.lt]; exact h.ttb
  · show (if _ then _ else _) = _
    rw [old _ h.mp.lt]; exact h.tmb
  · show (if _ then _ else _) = _
    rcases other q hq with rfl | ⟨hq, hne⟩
    · rw [hbk, old _ (h.nd _ hm).box.lt]; exact h.tbk _ hm
    · rw [old _ (h.nd q hq).box.lt]; exact h.tbk q hq
  · show (if _ then _ else _) = _
    rcases other q hq with rfl | ⟨hq, hne⟩
    · rw [hfd] at hf
      rw [hnb, old _ ((h.nd _ hm).mp hf).lt]; exact h.tnb _ hm hf
    · rw [old _ ((h.nd q hq).mp hf).lt]; exact h.tnb q hq hf
  · show (if _ then _ else _) = _
    rcases other q hq with rfl | ⟨hq, hne⟩
    · rcases hdv g hg with e | e
      · rw [old _ ((h.nd _ hm).dlt e)]; exact h.tdv _ hm g e
      · rw [if_pos ⟨e, hg⟩]
    · rw [old _ ((h.nd q hq).dlt hg)]; exact h.tdv q hq g hg
  · show (if _ then _ else _) = _
    rw [old _ (h.xlt g hg)]; exact h.aside g hg
  · rcases other q hq with rfl | ⟨hq, hne⟩
    · exact hi
    · exact h.num q hq
/-- a number is taken away -/
theorem TrM.del (h : TrM X w tb mb most (L1 ++ (i, n) :: L2) tg) (k : But (fun g => g = mb) w w') (hm : Mp Tryd.prog 3 w' mb (ndE (L1 ++ L2))) : TrM X w' tb mb most (L1 ++ L2) tg := by
  have sub : ∀ q, q ∈ L1 ++ L2 → q ∈ L1 ++ (i, n) :: L2 := fun q hq => by
    simp only [List.mem_append, List.mem_cons] at hq ⊢
    rcases hq with hq | hq
    · exact .inl hq
    · exact .inr (.inr hq)
  have no : ∀ g c, tg g = some c → c ≠ (0, 1) → ¬ g = mb := fun g c hg hc e => by rw [e, h.tmb] at hg; cases hg; exact hc rfl
  exact ⟨h.box.but k (no _ _ h.ttb (by simp)), hm, fun q hq => (h.nd q (sub q hq)).but k (no _ _ (h.tbk q (sub q hq)) (by simp)) (fun e => no _ _ (h.tnb q (sub q hq) e) (by have := (h.num q (sub q hq)).1; simp; omega)) (fun g hg => no _ _ (h.tdv q (sub q hq) g hg) (by simp)),
    h.ttb, h.tmb, fun q hq => h.tbk q (sub q hq), fun q hq => h.tnb q (sub q hq), fun q hq => h.tdv q (sub q hq), h.aside, fun g hg => Nat.lt_of_lt_of_le (h.xlt g hg) k.size, fun q hq => h.num q (sub q hq), h.mst, by have := h.few; simp at this ⊢; omega⟩
/-- a new node -/
theorem TrM.add (h : TrM X w tb mb most L tg) (k : But (fun g => g = mb) w w') (hm : Mp Tryd.prog 3 w' mb (ndE (L ++ [(i, n)]))) (hn : NdM w' n) (h1 : w.heap.size ≤ n.bk) (h2 : n.p.fd = true → w.heap.size ≤ n.nb ∧ n.nb ≠ n.bk) (h3 : n.dv.ownBlock = none) (hi : 1 ≤ i ∧ i ≤ 1000) (hf : (L.length : Int) < most) :
    ∃ tg', TrM X w' tb mb most (L ++ [(i, n)]) tg' := by
  have no : ∀ g c, tg g = some c → c ≠ (0, 1) → ¬ g = mb := fun g c hg hc e => by rw [e, h.tmb] at hg; cases hg; exact hc rfl
  have old : ∀ g, g < w.heap.size → (if w.heap.size ≤ g then (if g = n.bk then some (i, 0) else some (i, 1)) else tg g) = tg g := fun g hg => if_neg (by omega)
  have mem : ∀ q, q ∈ L ++ [(i, n)] → q ∈ L ∨ q = (i, n) := fun q hq => by simpa using hq
  refine ⟨fun g => if w.heap.size ≤ g then (if g = n.bk then some (i, 0) else some (i, 1)) else tg g, h.box.but k (no _ _ h.ttb (by simp)), hm, fun q hq => ?_, ?_, ?_, fun q hq => ?_, fun q hq hf => ?_, fun q hq g hg => ?_, fun g hg => ?_, fun g hg => Nat.lt_of_lt_of_le (h.xlt g hg) k.size, fun q hq => ?_, h.mst, by simp; omega⟩
  · rcases mem q hq with hq | rfl
    · exact (h.nd q hq).but k (no _ _ (h.tbk q hq) (by simp)) (fun e => no _ _ (h.tnb q hq e) (by have := (h.num q hq).1; simp; omega)) (fun g hg => no _ _ (h.tdv q hq g hg) (by simp))
    · exact hn
  · show (if _ then _ else _) = _
    rw [old _ h.box.lt]; exact h.ttb
  · show (if _ then _ else _) = _
    rw [old _ h.mp.lt]; exact h.tmb
  · show (if _ then _ else _) = _
    rcases mem q hq with hq | rfl
    · rw [old _ (h.nd q hq).box.lt]; exact h.tbk q hq
    · rw [if_pos h1, if_pos rfl]
  · show (if _ then _ else _) = _
    rcases mem q hq with hq | rfl
    · rw [old _ ((h.nd q hq).mp hf).lt]; exact h.tnb q hq hf
    · rw [if_pos (h2 hf).1, if_neg (h2 hf).2]
  · show (if _ then _ else _) = _
    rcases mem q hq with hq | rfl
    · rw [old _ ((h.nd q hq).dlt hg)]; exact h.tdv q hq g hg
    · rw [h3] at hg; cases hg
  · show (if _ then _ else _) = _
    rw [old _ (h.xlt g hg)]; exact h.aside g hg
  · rcases mem q hq with hq | rfl
    · exact h.num q hq
    · exact hi
end
end Go.Proofs.YtgoecdmnefjdnaaDoor
