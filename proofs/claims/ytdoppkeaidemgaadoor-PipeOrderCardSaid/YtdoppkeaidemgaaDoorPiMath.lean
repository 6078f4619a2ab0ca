/- Pipes as plain numbers and bytes. -/
import Derived.Test.YtdoppkeaidemgaaDoorByts
namespace Go.Proofs.YtdoppkeaidemgaaDoor
set_option linter.unusedVariables false
/-- may a pipe be? -/
def piOk (l : List Int) (r w : Int) : Prop := l.length ≤ 64 ∧ 0 ≤ r ∧ r ≤ 1048576 ∧ 0 ≤ w ∧ w ≤ 1048576
instance (l : List Int) (r w : Int) : Decidable (piOk l r w) := by unfold piOk; exact inferInstance
/-- a pipe: its bytes, who reads, who writes -/
structure Pp where
  l : List Int
  r : Int
  w : Int
def Pp.zero : Pp := ⟨[], 0, 0⟩
def prE (p : Pp) (n : Int) : Int := if ¬ piOk p.l p.r p.w ∨ n < 0 then 22 else if 0 < n ∧ p.l = [] ∧ 0 < p.w then 11 else 0
def prO (p : Pp) (n : Int) : List Int := if prE p n = 0 then p.l.take n.toNat else []
def prP (p : Pp) (n : Int) : Pp := if prE p n = 0 then ⟨p.l.drop n.toNat, p.r, p.w⟩ else Pp.zero
def pwE (p : Pp) (b : List Int) : Int := if ¬ piOk p.l p.r p.w then 22 else if p.r = 0 then 32 else if b ≠ [] ∧ p.l.length = 64 then 11 else 0
def pwB (p : Pp) (b : List Int) : List Int := b.take (64 - p.l.length)
def pwK (p : Pp) (b : List Int) : Int := if pwE p b = 0 then (pwB p b).length else 0
def pwP (p : Pp) (b : List Int) : Pp := if pwE p b = 0 then ⟨p.l ++ pwB p b, p.r, p.w⟩ else Pp.zero
/-- with so many more that write, or read -/
def ptA (p : Pp) (wr : Bool) (by_ : Int) : Pp := ⟨if (if wr then p.r else p.r + by_) = 0 then [] else p.l, if wr then p.r else p.r + by_, if wr then p.w + by_ else p.w⟩
def ptE (p : Pp) (wr : Bool) (by_ : Int) : Int := if ¬ piOk p.l p.r p.w then 22 else if ¬ piOk (ptA p wr by_).l (ptA p wr by_).r (ptA p wr by_).w then 22 else 0
def ptP (p : Pp) (wr : Bool) (by_ : Int) : Pp := if ptE p wr by_ = 0 then ptA p wr by_ else Pp.zero
/-- bytes that can be read, in a block that is not an elder one -/
def NB (base : Nat) (w : World) (v : Value) (l : List Int) : Prop := Byts w v l ∧ ∀ g, v.ownBlock = some g → base ≤ g
theorem NB.nil (base : Nat) (w : World) : NB base w (.slice none 0 0) [] := ⟨Byts.nil w, fun g h => by cases h⟩
theorem NB.new {base : Nat} {w w' : World} {v : Value} {l : List Int} (h : NB base w v l) (n : New w w') : NB base w' v l := ⟨h.1.new n, h.2⟩
theorem OwnB.nb {base : Nat} {w : World} {v : Value} {l : List Int} (h : OwnB base w v l) : NB base w v l := ⟨h.byts, fun g hg => (World.ownsRow.lt h g hg).1⟩
theorem NB.less {b2 base : Nat} {w : World} {v : Value} {l : List Int} (h : NB base w v l) (k : b2 ≤ base) : NB b2 w v l := ⟨h.1, fun g hg => Nat.le_trans k (h.2 g hg)⟩
/-- the value of a pipe -/
def PpV (v : Value) (p : Pp) : Value := .agg #[v, .int .i64 p.r, .int .i64 p.w]
end Go.Proofs.YtdoppkeaidemgaaDoor
