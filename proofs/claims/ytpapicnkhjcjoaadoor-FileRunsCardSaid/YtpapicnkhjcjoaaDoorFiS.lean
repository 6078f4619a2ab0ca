/- Open files: the state of the law on runs: the package's table and the document's, which tell the same. -/
import Derived.Test.YtpapicnkhjcjoaaDoorFiQ
namespace Go.Proofs.YtpapicnkhjcjoaaDoor
open Go.RowKit
set_option linter.unusedVariables false
/-- both tables: the package's, and the document's in block xb, whose items lie in xu; these are in blocks of the law's own (X) -/
def FrX (X : Nat → Prop) (w0 w : World) (tb : Nat) (most : Int) (L : Ft) (xb : Nat) (xu : Value) : Prop := Ftx X w0 w tb most L ∧ Box w xb #[.int .i64 most, xu] 44 ∧ OwnW RIt w0.heap.size w xu (L.map itC) ∧ X xb ∧ (∀ g, xu.ownBlock = some g → X g) ∧ ∀ g, X g → w0.heap.size ≤ g
def Frs (w0 w : World) (tb : Nat) (most : Int) (L : Ft) (xb : Nat) (xu : Value) : Prop := ∃ X, FrX X w0 w tb most L xb xu
theorem Frs.world {w0 w : World} {tb : Nat} {most : Int} {L : Ft} {xb : Nat} {xu : Value} (h : Frs w0 w tb most L xb xu) : New w0 w := by obtain ⟨X, h, -⟩ := h; exact h.world
/-- new blocks are the law's own -/
def XN (X : Nat → Prop) (w w' : World) : Nat → Prop := fun g => X g ∨ (w.heap.size ≤ g ∧ g < w'.heap.size)
section
variable {X : Nat → Prop} {w0 w w' : World} {tb : Nat} {most : Int} {L : Ft} {xb : Nat} {xu : Value}
theorem FrX.take (h : FrX X w0 w tb most L xb xu) (k : New w w') : FrX (XN X w w') w0 w' tb most L xb xu := by
  obtain ⟨h1, h2, h3, h4, h5, h6⟩ := h
  refine ⟨h1.take k, h2.new k, h3.new k, .inl h4, fun g hg => .inl (h5 g hg), fun g hg => ?_⟩
  rcases hg with c | c
  · exact h6 g c
  · exact Nat.le_trans h1.world.size c.1
theorem FrX.new (h : FrX X w0 w tb most L xb xu) (k : New w w') : FrX X w0 w' tb most L xb xu := by
  obtain ⟨h1, h2, h3, h4, h5, h6⟩ := h
  exact ⟨h1.new k, h2.new k, h3.new k, h4, h5, h6⟩
theorem frx_start (F0 : Ftx (fun _ => False) w0 w tb most []) : Frs w0 (w.alloc (.cells #[.int .i64 most, .slice none 0 0] 44)) tb most [] w.heap.size (.slice none 0 0) := by
  have al := (New.refl w).alloc #[.int .i64 most, .slice none 0 0] 44
  have bx := Box.here w w.heap.size #[.int .i64 most, .slice none 0 0] 44 rfl
  refine ⟨_, F0.take al, bx, OwnW.nil, .inr ⟨Nat.le_refl _, bx.lt⟩, (fun g hg => by cases hg), fun g hg => ?_⟩
  rcases hg with c | c
  · exact c.elim
  · exact Nat.le_trans F0.world.size c.1
/-- the document's side alone: a table in block xb, its items in xu, all of the law's own -/
def Dox (X : Nat → Prop) (w0 w : World) (most : Int) (L : Ft) (xb : Nat) (xu : Value) : Prop := (Box w xb #[.int .i64 most, xu] 44 ∧ X xb) ∧ OwnW RIt w0.heap.size w xu (L.map itC) ∧ ∀ g, xu.ownBlock = some g → X g
theorem Dox.new (h : Dox X w0 w most L xb xu) (k : New w w') : Dox X w0 w' most L xb xu := ⟨⟨h.1.1.new k, h.1.2⟩, h.2.1.new k, h.2.2⟩
theorem Dox.but (h : Dox X w0 w most L xb xu) (k : But (fun g => ¬ X g) w w') : Dox X w0 w' most L xb xu := ⟨⟨h.1.1.but k (fun c => c h.1.2), h.1.2⟩, h.2.1.but k (fun g hg c => c (h.2.2 g hg)), h.2.2⟩
theorem Dox.more {Y : Nat → Prop} (h : Dox X w0 w most L xb xu) (k : ∀ g, X g → Y g) : Dox Y w0 w most L xb xu := ⟨⟨h.1.1, k _ h.1.2⟩, h.2.1, fun g hg => k g (h.2.2 g hg)⟩
theorem OwnW.off {b yb : Nat} {u : Value} {l : List (List Value)} {cs : Array Value} {T : TypeId} (h : OwnW RIt b w u l) (hy : Box w yb cs T) (ht : T ≠ 82) {g : Nat} (hg : u.ownBlock = some g) : g ≠ yb := by
  rcases h.1.2 with ⟨rfl, -⟩ | ⟨g', cap, cur, rfl, -, hgc, -⟩
  · cases hg
  · cases hg
    exact Box.ne (show Box w g' cur 82 from hgc) hy (fun e => ht e.symm)
/-- another table's block is written -/
theorem Dox.put {yb : Nat} {cs : Array Value} (h : Dox X w0 w most L xb xu) (hy : Box w yb cs 44) (hne : xb ≠ yb) (k : But (fun g => g = yb) w w') : Dox X w0 w' most L xb xu :=
  ⟨⟨h.1.1.but k hne, h.1.2⟩, h.2.1.but k (fun g hg c => h.2.1.off hy (by decide) hg c), h.2.2⟩
/-- a table is stored there -/
theorem Dox.store {yb : Nat} {cs0 c1 : Value} {u' : Value} {L' : Ft} (hy : Box w yb #[cs0, c1] 44) (hX : X yb) (ho : OwnW RIt w0.heap.size w u' (L'.map itC)) (hu : ∀ g, u'.ownBlock = some g → X g) : Dox X w0 ((w.setCell ⟨yb, 0, none⟩ (.int .i64 most)).setCell ⟨yb, 1, none⟩ u') most L' yb u' :=
  ⟨⟨hy.set2 _ _, hX⟩, ho.but ((But.set (S := fun g => g = yb) w (p := ⟨yb, 0, none⟩) rfl _).trans (But.set (S := fun g => g = yb) _ (p := ⟨yb, 1, none⟩) rfl _)) (fun g hg c => ho.off hy (by decide) hg c), hu⟩
/-- the law's own act of this round -/
def Sox (X : Nat → Prop) (w : World) (sb : Nat) (cs : Array Value) : Prop := Box w sb cs 47 ∧ X sb
theorem Sox.new {sb : Nat} {cs : Array Value} (h : Sox X w sb cs) (k : New w w') : Sox X w' sb cs := ⟨h.1.new k, h.2⟩
theorem Sox.but {sb : Nat} {cs : Array Value} (h : Sox X w sb cs) (k : But (fun g => ¬ X g) w w') : Sox X w' sb cs := ⟨h.1.but k (fun c => c h.2), h.2⟩
theorem Sox.more {Y : Nat → Prop} {sb : Nat} {cs : Array Value} (h : Sox X w sb cs) (k : ∀ g, X g → Y g) : Sox Y w sb cs := ⟨h.1, k _ h.2⟩
theorem Sox.far {S : Nat → Prop} {sb : Nat} {cs : Array Value} (h : Sox X w sb cs) (k : But S w w') (hn : ¬ S sb) : Sox X w' sb cs := ⟨h.1.but k hn, h.2⟩
/-- behind the document's call and the store into y -/
theorem round_put {Y : Nat → Prop} {LP LX LY L' : Ft} {yb sb : Nat} {yu u' : Value} {cs : Array Value} (F : Ftx Y w0 w tb most LP) (Dx : Dox Y w0 w most LX xb xu) (Dy : Dox Y w0 w most LY yb yu) (S : Sox Y w sb cs) (B : ∀ g, Y g → w0.heap.size ≤ g) (h1 : xb ≠ yb) (h2 : sb ≠ yb)
    (o : OwnW RIt w0.heap.size w' u' (L'.map itC)) (q : ∀ g, u'.ownBlock = some g → w.heap.size ≤ g ∨ xu.ownBlock = some g) (n : New w w') :
    ∃ Y', Ftx Y' w0 ((w'.setCell ⟨yb, 0, none⟩ (.int .i64 most)).setCell ⟨yb, 1, none⟩ u') tb most LP ∧ Dox Y' w0 ((w'.setCell ⟨yb, 0, none⟩ (.int .i64 most)).setCell ⟨yb, 1, none⟩ u') most LX xb xu ∧ Dox Y' w0 ((w'.setCell ⟨yb, 0, none⟩ (.int .i64 most)).setCell ⟨yb, 1, none⟩ u') most L' yb u' ∧ Sox Y' ((w'.setCell ⟨yb, 0, none⟩ (.int .i64 most)).setCell ⟨yb, 1, none⟩ u') sb cs ∧ ∀ g, Y' g → w0.heap.size ≤ g := by
  have bY := Dy.1.1.new n
  have KB := (But.set (S := fun g => g = yb) w' (p := ⟨yb, 0, none⟩) rfl (.int .i64 most)).trans (But.set (S := fun g => g = yb) _ (p := ⟨yb, 1, none⟩) rfl u')
  have B' : ∀ g, (Y g ∨ (w.heap.size ≤ g ∧ g < w'.heap.size)) → w0.heap.size ≤ g := fun g hg => by
    rcases hg with c | c
    · exact B g c
    · exact Nat.le_trans F.world.size c.1
  refine ⟨fun g => Y g ∨ (w.heap.size ≤ g ∧ g < w'.heap.size), (F.take n).own (KB.mono fun i _ e => by subst e; exact .inl Dy.1.2) B', ((Dx.new n).more (fun g c => .inl c)).put bY h1 KB, Dox.store bY (.inl Dy.1.2) o (fun g hg => ?_), ((S.new n).more (fun g c => .inl c)).far KB h2, B'⟩
  rcases q g hg with c | c
  · exact .inr ⟨c, o.lt hg⟩
  · exact .inl (Dx.2.2 g c)
/-- x becomes y -/
theorem round_x {LP LX : Ft} {yb sb : Nat} {yu : Value} {cs : Array Value} (F : Ftx X w0 w tb most LP) (Dx : Dox X w0 w most LX xb xu) (Dy : Dox X w0 w most L yb yu) (S : Sox X w sb cs) (B : ∀ g, X g → w0.heap.size ≤ g) (h2 : sb ≠ xb) :
    Ftx X w0 ((w.setCell ⟨xb, 0, none⟩ (.int .i64 most)).setCell ⟨xb, 1, none⟩ yu) tb most LP ∧ Dox X w0 ((w.setCell ⟨xb, 0, none⟩ (.int .i64 most)).setCell ⟨xb, 1, none⟩ yu) most L xb yu ∧ Sox X ((w.setCell ⟨xb, 0, none⟩ (.int .i64 most)).setCell ⟨xb, 1, none⟩ yu) sb cs := by
  have KB := (But.set (S := fun g => g = xb) w (p := ⟨xb, 0, none⟩) rfl (.int .i64 most)).trans (But.set (S := fun g => g = xb) _ (p := ⟨xb, 1, none⟩) rfl yu)
  exact ⟨F.own (KB.mono fun i _ e => by subst e; exact Dx.1.2) B, Dox.store Dx.1.1 Dx.1.2 Dy.2.1 Dy.2.2, S.far KB h2⟩
/-- a number's file has a count within bounds -/
theorem fg_bound (h : ∀ q ∈ L, 1 ≤ q.2.rf ∧ q.2.rf ≤ 1048576) (n : Int) : -4611686018427387904 ≤ (fgF L n).rf ∧ (fgF L n).rf ≤ 4611686018427387904 := by
  unfold fgF
  cases hg : lget L n with
  | none => exact ⟨by decide, by decide⟩
  | some f =>
    obtain ⟨L1, L2, rfl, -⟩ := lget_some hg
    have := h (n, f) (by simp)
    show -4611686018427387904 ≤ f.rf ∧ f.rf ≤ 4611686018427387904
    dsimp only at this
    omega
end
end Go.Proofs.YtpapicnkhjcjoaaDoor
