/- What the package of tables of two levels does with one number of a frame, one entry, one frame: contracts, for any table in any frames of bytes, in any world. -/
import Derived.Test.YtajhlmiobibhjaaDoorTbA
namespace Go.Proofs.YtajhlmiobibhjaaDoor
open Go.RowKit
set_option linter.unusedVariables false
set_option maxRecDepth 100000
section
variable {w : World} {tb fb rb mb qb t many : Nat} {rs bs : List Int}
/-- what an entry's number answers -/
noncomputable def Ent (v : Int) : Value := .agg #[.int .i64 (dcf v), .int .u8 (dcp v), .bool (dcc v)]
theorem Box.set3 {w : World} {n : Nat} {x y z a b c : Value} {ty : TypeId} (h : Box w n #[x, y, z] ty) (o : Obj) :
    Box ((((w.setCell ⟨n, 0, none⟩ a).setCell ⟨n, 1, none⟩ b).setCell ⟨n, 2, none⟩ c).alloc o).drew n #[a, b, c] ty :=
  ((((h.set 0 a).set 1 b).set 2 c).alloc o).new ((New.refl _).drew)
theorem New.set3 {w0 w : World} {n : Nat} {a b c : Value} (h : New w0 w) (hn : w0.heap.size ≤ n) (o : Obj) :
    New w0 ((((w.setCell ⟨n, 0, none⟩ a).setCell ⟨n, 1, none⟩ b).setCell ⟨n, 2, none⟩ c).alloc o).drew :=
  ((((h.setCell (p := ⟨n, 0, none⟩) hn a).setCell (p := ⟨n, 1, none⟩) hn b).setCell (p := ⟨n, 2, none⟩) hn c).allocO o).drew
theorem ret_ent {v : Int} {x y z b : Value} (h1 : .int .i64 (dcf v) = x) (h2 : .int .u8 (dcp v) = y) (h3 : .bool (dcc v) = z) (h4 : .bool (dcb v) = b) :
    Ending.returned (.tuple #[.agg #[x, y, z], b]) = .returned (.tuple #[Ent v, .bool (dcb v)]) := by rw [← h1, ← h2, ← h3, ← h4]; rfl
set_option maxHeartbeats 1000000 in
theorem tload_any (f p : Nat) (h : Tb w tb fb mb t) (h2 : Ph w mb qb many bs) (hf : f < many) (hp : p < 64) :
    Calls Tryd.prog 27 #[.pointer (some ⟨tb, 0, none⟩), .int .i64 f, .int .i64 p] w fun e w' =>
      e = .returned (.tuple #[Ent (nm bs f p), .bool (dcb (nm bs f p))]) ∧ New w w' := by
  obtain ⟨t0, t1, t2⟩ := h.cells
  have hlt := Box.lt h
  have HP := Lib.hid h2
  have HR := Lib.hid (fun W (h : Ph W mb qb many bs) => read4 f p h hf hp)
  have hl := fun W (h : Ph W mb qb many bs) => loadn f p h
  have hv := nm_bd h2.oct f p
  have e1 : (p : Int) < 64 := by omega
  have hd := dc_cases (nm bs f p) hv.1
  generalize nm bs f p = v at *
  have HD := Lib.hid hd
  have HL := Lib.hid hl
  clear h h2 hf hp hd hl
  go_enter Tryd.func27, Tryd.ntmps27
  go_wp2_with fail
  have n0 := (New.refl w).alloc #[.int .i64 0, .int .u8 0, .bool false] 25
  refine (HR.out _ (HP.out.new n0)).mono ?_
  rintro e w1 ⟨rfl, n1, hb⟩
  rw [World.size_alloc] at hb
  have X := HL.out _ (HP.out.new (n0.trans n1)) _ hb
  have B1 : Box w1 w.heap.size #[.int .i64 0, .int .u8 0, .bool false] 25 := (Box.here w _ _ _ rfl).new n1
  clear hb
  go_wp2_with fail
  with_reducible refine X.mono ?_
  rintro e w2 ⟨rfl, rfl⟩
  have hnn := n0.trans n1
  clear n0 n1 X
  go_wp2_with fail
  rcases HD.out with ⟨rfl, d1, d2, d3, d4, d5⟩ | ⟨g, k, d1, d2, d3, d4, d5⟩ | ⟨g, k, d1, d2, d3, d4, d5⟩
  · have D := Lib.hid (ret_ent (congrArg (Value.int .i64) d1) (congrArg (Value.int .u8) d2) (congrArg Value.bool d3) (congrArg Value.bool d4))
    clear d1 d2 d3 d4 d5 HL HR HP HD
    refine (decode_zero _).mono ?_
    rintro e w3 ⟨rfl, n3⟩
    have B2 := B1.new n3
    obtain ⟨hs, k0, k1, k2, f0, f1, f2⟩ := B2.three'
    have B3 := Lib.hid (fun o => Box.set3 (a := .int .i64 0) (b := .int .u8 0) (c := .bool false) B2 o)
    clear B2
    go_wp2
    go_region
    all_goals
      go_wp2
      have B4 := B3.out (.cells #[.int .i64 0, .int .u8 0, .bool false] 25)
      obtain ⟨_, q0, q1, q2, _⟩ := B4.three'
      exact bodyPost_ret (v := .tuple #[.agg #[.int .i64 0, .int .u8 0, .bool false], .bool false]) (by simp [results, Tryd.results27, go_sem, q0, q1, q2]) rfl ⟨D.out, (hnn.trans n3).set3 (Nat.le_refl _) _⟩
  · have D := Lib.hid (ret_ent (congrArg (Value.int .i64) d1) (congrArg (Value.int .u8) d2) (congrArg Value.bool d3) (congrArg Value.bool d4))
    clear d1 d2 d3 d4 d5 HL HR HP HD
    refine (decode_ok _ _ g hv.2 k).mono ?_
    rintro e w3 ⟨rfl, n3⟩
    have B2 := B1.new n3
    obtain ⟨hs, k0, k1, k2, f0, f1, f2⟩ := B2.three'
    have B3 := Lib.hid (fun o => Box.set3 (a := .int .i64 (v / 256)) (b := .int .u8 (v % 8)) (c := .bool (cwb v)) B2 o)
    clear B2
    go_wp2
    go_region
    all_goals
      go_wp2
      have B4 := B3.out (.cells #[.int .i64 (v / 256), .int .u8 (v % 8), .bool (cwb v)] 25)
      obtain ⟨_, q0, q1, q2, _⟩ := B4.three'
      exact bodyPost_ret (v := .tuple #[.agg #[.int .i64 (v / 256), .int .u8 (v % 8), .bool (cwb v)], .bool true]) (by simp [results, Tryd.results27, go_sem, q0, q1, q2]) rfl ⟨D.out, (hnn.trans n3).set3 (Nat.le_refl _) _⟩
  · have D := Lib.hid (ret_ent (congrArg (Value.int .i64) d1) (congrArg (Value.int .u8) d2) (congrArg Value.bool d3) (congrArg Value.bool d4))
    clear d1 d2 d3 d4 d5 HL HR HP HD
    refine (decode_no _ _ g hv.2 k).mono ?_
    rintro e w3 ⟨rfl, n3⟩
    have B2 := B1.new n3
    obtain ⟨hs, k0, k1, k2, f0, f1, f2⟩ := B2.three'
    have B3 := Lib.hid (fun o => Box.set3 (a := .int .i64 0) (b := .int .u8 0) (c := .bool false) B2 o)
    clear B2
    go_wp2
    go_region
    all_goals
      go_wp2
      have B4 := B3.out (.cells #[.int .i64 0, .int .u8 0, .bool false] 25)
      obtain ⟨_, q0, q1, q2, _⟩ := B4.three'
      exact bodyPost_ret (v := .tuple #[.agg #[.int .i64 0, .int .u8 0, .bool false], .bool false]) (by simp [results, Tryd.results27, go_sem, q0, q1, q2]) rfl ⟨D.out, (hnn.trans n3).set3 (Nat.le_refl _) _⟩
end
end Go.Proofs.YtajhlmiobibhjaaDoor
