/- What the package of tables of two levels does, further: a page's entry laid down and taken away: contracts, for any table in any frames of bytes, in any world. -/
import Derived.Test.YtfllplinafnpbaaGreatDoorTbD
namespace Go.Proofs.YtfllplinafnpbaaGreatDoor
open Go.RowKit
set_option linter.unusedVariables false
set_option maxRecDepth 100000
section
variable {w : World} {tb fb rb mb qb t many : Nat} {rs bs : List Int} {v : Value}
/-- an answer, and only new blocks -/
def Said (v : Value) (w : World) (e : Ending) (w' : World) : Prop := e = .returned v ∧ New w w'
theorem tset_gone (m g q : Int) (c : Bool) (h : Gone w v) : Calls Tryz.prog 41 #[v, .int .i64 m, .agg #[.int .i64 g, .int .u8 q, .bool c]] w (Said (.iface 72 (.int .i64 22)) w) := by
  have X := fun W (k : New w W) => thas_gone m (h.new k)
  clear h
  go_enter Tryz.func41, Tryz.ntmps41
  go_wp2_with fail
  have n0 := (New.refl w).alloc #[.int .i64 g, .int .u8 q, .bool c] 91
  refine (X _ n0).mono ?_
  rintro e w' ⟨rfl, rfl⟩
  go_wp2
  go_ret
  exact ⟨rfl, n0⟩
theorem tset_bad (m g q : Int) (c : Bool) (h : Tb w tb fb mb t) (hp : ¬ (0 ≤ m ∧ m < 4096)) : Calls Tryz.prog 41 #[.pointer (some ⟨tb, 0, none⟩), .int .i64 m, .agg #[.int .i64 g, .int .u8 q, .bool c]] w (Said (.iface 72 (.int .i64 22)) w) := by
  have X := fun W (k : New w W) => thas_no m (h.new k) hp
  clear h hp
  go_enter Tryz.func41, Tryz.ntmps41
  go_wp2_with fail
  have n0 := (New.refl w).alloc #[.int .i64 g, .int .u8 q, .bool c] 91
  refine (X _ n0).mono ?_
  rintro e w' ⟨rfl, rfl⟩
  go_wp2
  go_ret
  exact ⟨rfl, n0⟩
theorem tset_bad2 (p : Nat) (g q : Int) (c : Bool) (h : Tb w tb fb mb t) (hp : p < 4096) (q0 : 0 ≤ q) (hk : ¬ (0 ≤ g ∧ g < 1024 ∧ q ≤ 7)) : Calls Tryz.prog 41 #[.pointer (some ⟨tb, 0, none⟩), .int .i64 p, .agg #[.int .i64 g, .int .u8 q, .bool c]] w (Said (.iface 72 (.int .i64 22)) w) := by
  have X := fun W (k : New w W) => thas_yes p (h.new k) hp
  have Y := fun W => echeck_no g q c W q0 hk
  clear h hp hk
  go_enter Tryz.func41, Tryz.ntmps41
  go_wp2_with fail
  have n0 := (New.refl w).alloc #[.int .i64 g, .int .u8 q, .bool c] 91
  refine (X _ n0).mono ?_
  rintro e w' ⟨rfl, rfl⟩
  go_wp2_with fail
  refine (Y _).mono ?_
  rintro e w1 ⟨rfl, n1⟩
  go_wp2
  go_ret
  exact ⟨rfl, n0.trans n1⟩
set_option maxHeartbeats 1000000 in
theorem tset_full (p : Nat) (g q : Int) (c : Bool) (h : Tb w tb fb mb t) (h1 : Fr w fb rb rs) (h2 : Ph w mb qb many bs) (ht : t < many) (hp : p < 4096) (g0 : 0 ≤ g) (g1 : g < 1024) (q0 : 0 ≤ q) (q1 : q ≤ 7) (hn : NoFree rs rs.length) (h0 : nm bs t (p / 64) = 0) :
    Calls Tryz.prog 41 #[.pointer (some ⟨tb, 0, none⟩), .int .i64 p, .agg #[.int .i64 g, .int .u8 q, .bool c]] w (Said (.iface 72 (.int .i64 12)) w) := by
  have X := fun W (k : New w W) => thas_yes p (h.new k) hp
  have Y := fun W => echeck_ok g q c W g0 g1 q0 q1
  have Z := fun W (k : New w W) => reach_no (p / 64) (h.new k) (h1.new k) (h2.new k) ht (by omega) h0 hn
  rw [show ((p / 64 : Nat) : Int) = (p : Int) / 64 from by omega] at Z
  have e1 : (p : Int) < 4096 := by omega
  clear h h1 h2 ht hn h0
  go_enter Tryz.func41, Tryz.ntmps41
  go_wp2_with fail
  have n0 := (New.refl w).alloc #[.int .i64 g, .int .u8 q, .bool c] 91
  refine (X _ n0).mono ?_
  rintro e w' ⟨rfl, rfl⟩
  go_wp2_with fail
  refine (Y _).mono ?_
  rintro e w1 ⟨rfl, n1⟩
  go_wp2_with fail
  refine (Z _ (n0.trans n1)).mono ?_
  rintro e w2 ⟨rfl, n2⟩
  go_wp2
  go_ret
  exact ⟨rfl, (n0.trans n1).trans n2⟩
set_option maxHeartbeats 1000000 in
theorem tset_old (p n : Nat) (a : Nat → Prop) (g q : Int) (c : Bool) (h : Tb w tb fb mb t) (h1 : Fr w fb rb rs) (h2 : Ph w mb qb many bs) (hg : Good n a bs t) (hn : n ≤ many) (hp : p < 4096) (g0 : 0 ≤ g) (g1 : g < 1024) (q0 : 0 ≤ q) (q1 : q ≤ 7) (h0 : nm bs t (p / 64) ≠ 0) :
    Calls Tryz.prog 41 #[.pointer (some ⟨tb, 0, none⟩), .int .i64 p, .agg #[.int .i64 g, .int .u8 q, .bool c]] w (DidT fb rb mb qb many rs (pt bs (lof bs t (p / 64)) (p % 64) (ennum g q c)) .nilIface w) := by
  obtain ⟨k1, k2, k3, k4⟩ := hg.frame (u := p / 64) (by omega) h0
  have A := ap_of h h1 h2
  have hlt := hg.lt
  have hbd := h2.bd
  have X := fun W (k : New w W) => thas_yes p (h.new k) hp
  have Y := fun W => echeck_ok g q c W g0 g1 q0 q1
  have Z := fun W (k : New w W) => reach_old (p / 64) _ (h.new k) (h2.new k) (by omega) (by omega) (by omega) k4
  have V := fun W (k : New w W) => put_any (lof bs t (p / 64)) (p % 64) g q c (h.new k) (h2.new k) (by omega) (by omega) g0 g1 q0 q1
  rw [show ((p / 64 : Nat) : Int) = (p : Int) / 64 from by omega] at Z
  rw [show ((p % 64 : Nat) : Int) = (p : Int) % 64 from by omega] at V
  have e1 : (p : Int) < 4096 := by omega
  have HF := Lib.hid h1
  generalize pt bs (lof bs t (p / 64)) (p % 64) (ennum g q c) = cs at *
  generalize lof bs t (p / 64) = F at *
  clear h h1 h2 hg hlt h0 k1 k2 k3 k4 hn
  go_enter Tryz.func41, Tryz.ntmps41
  go_wp2_with fail
  have n0 := (New.refl w).alloc #[.int .i64 g, .int .u8 q, .bool c] 91
  refine (X _ n0).mono ?_
  rintro e w' ⟨rfl, rfl⟩
  go_wp2_with fail
  refine (Y _).mono ?_
  rintro e w1 ⟨rfl, n1⟩
  go_wp2_with fail
  refine (Z _ (n0.trans n1)).mono ?_
  rintro e w2 ⟨rfl, n2⟩
  obtain ⟨hs, c0, c1, c2, f0, f1, f2⟩ := ((Box.here w _ #[.int .i64 g, .int .u8 q, .bool c] 91 rfl).new (n1.trans n2)).three'
  have nn := n0.trans (n1.trans n2)
  have W := V _ nn
  clear X Y Z V n0 n1 n2
  go_wp2_with fail
  refine W.mono ?_
  rintro e w3 ⟨rfl, p3, f3⟩
  go_wp2
  go_ret
  have r2 := HF.out.new nn
  exact ⟨rfl, ⟨r2.1, r2.2.1, by rw [f3.block r2.lt.1 A.2.2.2.2.2.1]; exact r2.2.2.1, by rw [f3.block r2.lt.2 A.2.2.2.2.2.2.2.2]; exact r2.2.2.2⟩, p3, (But.of_new _ nn).trans (But.of_far f3 (.inr rfl))⟩
set_option maxHeartbeats 1000000 in
theorem tset_new (p i : Nat) (g q : Int) (c : Bool) (h : Tb w tb fb mb t) (h1 : Fr w fb rb rs) (h2 : Ph w mb qb many bs) (hm : rs.length ≤ many) (ht : t < many) (hp : p < 4096) (g0 : 0 ≤ g) (g1 : g < 1024) (q0 : 0 ≤ q) (q1 : q ≤ 7) (h0 : nm bs t (p / 64) = 0) (hi : i < rs.length) (hn : NoFree rs i) (hz : rs.getD i 0 = 0) :
    Calls Tryz.prog 41 #[.pointer (some ⟨tb, 0, none⟩), .int .i64 p, .agg #[.int .i64 g, .int .u8 q, .bool c]] w (DidT fb rb mb qb many (rs.set i 1) (pt (nw bs t (p / 64) i) i (p % 64) (ennum g q c)) .nilIface w) := by
  have A := ap_of h h1 h2
  have X := fun W (k : New w W) => thas_yes p (h.new k) hp
  have Y := fun W => echeck_ok g q c W g0 g1 q0 q1
  have Z := fun W (k : New w W) => reach_new (p / 64) i (h.new k) (h1.new k) (h2.new k) hm ht (by omega) h0 hi hn hz
  have V := fun W cs (h : Tb W tb fb mb t) (h2 : Ph W mb qb many cs) => put_any i (p % 64) g q c h h2 (by omega) (by omega) g0 g1 q0 q1
  rw [show ((p / 64 : Nat) : Int) = (p : Int) / 64 from by omega] at Z
  rw [show ((p % 64 : Nat) : Int) = (p : Int) % 64 from by omega] at V
  have e1 : (p : Int) < 4096 := by omega
  have HT := Lib.hid h
  have l1 := h1.lt.2
  have l2 := h2.lt.2
  generalize nw bs t (p / 64) i = cs at *
  generalize rs.set i 1 = qs at *
  clear h h1 h2 ht h0 hn hz hi hm
  go_enter Tryz.func41, Tryz.ntmps41
  go_wp2_with fail
  have n0 := (New.refl w).alloc #[.int .i64 g, .int .u8 q, .bool c] 91
  refine (X _ n0).mono ?_
  rintro e w' ⟨rfl, rfl⟩
  go_wp2_with fail
  refine (Y _).mono ?_
  rintro e w1 ⟨rfl, n1⟩
  go_wp2_with fail
  have nn := n0.trans n1
  have B0 := (Box.here w _ #[.int .i64 g, .int .u8 q, .bool c] 91 rfl).new n1
  refine (Z _ nn).mono ?_
  rintro e w2 ⟨rfl, r2, p2, b2⟩
  obtain ⟨hs, c0, c1, c2, f0, f1, f2⟩ := (B0.but b2 (by rintro (e | e) <;> omega)).three'
  have t2 := (HT.out.new nn).but b2 A.1 A.2.1
  have W := V _ _ t2 p2
  have bb := (But.of_new _ nn).trans b2
  clear X Y Z V t2 p2 b2
  go_wp2_with fail
  refine W.mono ?_
  rintro e w3 ⟨rfl, p3, f3⟩
  go_wp2
  go_ret
  exact ⟨rfl, ⟨r2.1, r2.2.1, by rw [f3.block r2.lt.1 A.2.2.2.2.2.1]; exact r2.2.2.1, by rw [f3.block r2.lt.2 A.2.2.2.2.2.2.2.2]; exact r2.2.2.2⟩, p3, bb.trans (But.of_far f3 (.inr rfl))⟩
theorem tclear_gone (m : Int) (h : Gone w v) : Calls Tryz.prog 68 #[v, .int .i64 m] w (Said (.iface 72 (.int .i64 22)) w) := by
  have X := thas_gone m h
  clear h
  go_enter Tryz.func68, Tryz.ntmps68
  go_wp2_with (go_at_call 85; (with_reducible refine (X).mono ?_); rintro e w' ⟨rfl, rfl⟩)
  go_ret
  exact ⟨rfl, New.refl _⟩
theorem tclear_bad (m : Int) (h : Tb w tb fb mb t) (hp : ¬ (0 ≤ m ∧ m < 4096)) : Calls Tryz.prog 68 #[.pointer (some ⟨tb, 0, none⟩), .int .i64 m] w (Said (.iface 72 (.int .i64 22)) w) := by
  have X := thas_no m h hp
  clear h hp
  go_enter Tryz.func68, Tryz.ntmps68
  go_wp2_with (go_at_call 85; (with_reducible refine (X).mono ?_); rintro e w' ⟨rfl, rfl⟩)
  go_ret
  exact ⟨rfl, New.refl _⟩
theorem tclear_none (p : Nat) (h : Tb w tb fb mb t) (h2 : Ph w mb qb many bs) (ht : t < many) (hp : p < 4096) (h0 : nm bs t (p / 64) = 0) :
    Calls Tryz.prog 68 #[.pointer (some ⟨tb, 0, none⟩), .int .i64 p] w (Said .nilIface w) := by
  have X := thas_yes p h hp
  have Y := lower_no (p / 64) h h2 ht (by omega) h0
  rw [show ((p / 64 : Nat) : Int) = (p : Int) / 64 from by omega] at Y
  have e1 : (p : Int) < 4096 := by omega
  clear h h2 ht h0
  go_enter Tryz.func68, Tryz.ntmps68
  go_wp2_with (first | (go_at_call 85; (with_reducible refine (X).mono ?_); rintro e w' ⟨rfl, rfl⟩) | (go_at_call 109; (with_reducible refine (Y).mono ?_); rintro e w1 ⟨rfl, n1⟩))
  go_ret
  exact ⟨rfl, n1⟩
theorem tclear_some (p n : Nat) (a : Nat → Prop) (h : Tb w tb fb mb t) (h1 : Fr w fb rb rs) (h2 : Ph w mb qb many bs) (hg : Good n a bs t) (hn : n ≤ many) (hp : p < 4096) (h0 : nm bs t (p / 64) ≠ 0) :
    Calls Tryz.prog 68 #[.pointer (some ⟨tb, 0, none⟩), .int .i64 p] w (DidT fb rb mb qb many rs (pt bs (lof bs t (p / 64)) (p % 64) 0) .nilIface w) := by
  obtain ⟨k1, k2, k3, k4⟩ := hg.frame (u := p / 64) (by omega) h0
  have A := ap_of h h1 h2
  have hlt := hg.lt
  have hbd := h2.bd
  have X := thas_yes p h hp
  have Z := lower_yes (p / 64) _ h h2 (by omega) (by omega) (by omega) k4
  have V := fun W (k : New w W) => tstore_any (lof bs t (p / 64)) (p % 64) 0 (h.new k) (h2.new k) (by omega) (by omega) (by omega) (by omega)
  rw [show ((p / 64 : Nat) : Int) = (p : Int) / 64 from by omega] at Z
  rw [show ((p % 64 : Nat) : Int) = (p : Int) % 64 from by omega] at V
  have e1 : (p : Int) < 4096 := by omega
  have HF := Lib.hid h1
  generalize pt bs (lof bs t (p / 64)) (p % 64) 0 = cs at *
  generalize lof bs t (p / 64) = F at *
  clear h h1 h2 hg hlt h0 k1 k2 k3 k4 hn
  go_enter Tryz.func68, Tryz.ntmps68
  go_wp2_with (first | (go_at_call 85; (with_reducible refine (X).mono ?_); rintro e w' ⟨rfl, rfl⟩) | (go_at_call 109; (with_reducible refine (Z).mono ?_); rintro e w1 ⟨rfl, n1⟩) | (go_at_call 114; (with_reducible refine (V _ n1).mono ?_); rintro e w3 ⟨rfl, p3, f3⟩))
  go_ret
  have r2 := HF.out.new n1
  exact ⟨rfl, ⟨r2.1, r2.2.1, by rw [f3.block r2.lt.1 A.2.2.2.2.2.1]; exact r2.2.2.1, by rw [f3.block r2.lt.2 A.2.2.2.2.2.2.2.2]; exact r2.2.2.2⟩, p3, (But.of_new _ n1).trans (But.of_far f3 (.inr rfl))⟩
end
end Go.Proofs.YtfllplinafnpbaaGreatDoor
