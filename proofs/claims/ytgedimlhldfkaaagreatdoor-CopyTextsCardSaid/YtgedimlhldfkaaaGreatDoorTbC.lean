/- What the package of tables of two levels does with the numbers of its frames: contracts, for any table in any frames of bytes, in any world. -/
import Derived.Test.YtgedimlhldfkaaaGreatDoorTbMath
import Derived.Test.YtgedimlhldfkaaaGreatDoorTbW
import Derived.Test.YtgedimlhldfkaaaGreatDoorFrF
import Derived.Test.YtgedimlhldfkaaaGreatDoorPhF
import Derived.Test.YtgedimlhldfkaaaGreatDoorEnE
import Derived.Test.YtgedimlhldfkaaaGreatDoorBut
import Derived.RegionTactic
import Derived.ChangeAlike
namespace Go.Proofs.YtgedimlhldfkaaaGreatDoor
open Go.RowKit
set_option linter.unusedVariables false
set_option maxRecDepth 100000
section
variable {S T : Nat → Prop} {a b c w w' : World}
theorem Box.laid {n : Nat} {cs : Array Value} {t : TypeId} (h : Box w n cs t) (hl : Laid w) (hts : t ≠ 98) (hx : ∀ x, cs[0]? = some x → x ≠ (.iface 226 (.agg #[.pointer (some ⟨1, 25, none⟩)]))) : n ≠ 0 := by
  rintro rfl
  unfold Laid at hl
  rw [h.cell] at hl
  exact hx _ hl rfl
end
/-- a table in memory: the struct is block tb; fb its frames, mb its memory, t its first frame -/
def Tb (w : World) (tb fb mb t : Nat) : Prop := Box w tb #[.pointer (some ⟨fb, 0, none⟩), .pointer (some ⟨mb, 0, none⟩), .int .i64 t] 171
/-- a table that was freed -/
def Tb0 (w : World) (tb : Nat) : Prop := Box w tb #[.pointer none, .pointer none, .int .i64 0] 171
section
variable {w : World} {tb fb rb mb qb t many : Nat} {rs bs : List Int}
theorem Tb.cells (h : Tb w tb fb mb t) : w.cell? ⟨tb, 0, none⟩ = some (.pointer (some ⟨fb, 0, none⟩)) ∧ w.cell? ⟨tb, 1, none⟩ = some (.pointer (some ⟨mb, 0, none⟩)) ∧ w.cell? ⟨tb, 2, none⟩ = some (.int .i64 t) := Box.three h
theorem Tb0.cells (h : Tb0 w tb) : w.cell? ⟨tb, 0, none⟩ = some (.pointer none) ∧ w.cell? ⟨tb, 1, none⟩ = some (.pointer none) ∧ w.cell? ⟨tb, 2, none⟩ = some (.int .i64 0) := Box.three h
theorem Tb.new {w' : World} (h : Tb w tb fb mb t) (k : New w w') : Tb w' tb fb mb t := Box.new h k
theorem Tb0.new {w' : World} (h : Tb0 w tb) (k : New w w') : Tb0 w' tb := Box.new h k
theorem Fr.boxes (h : Fr w fb rb rs) : Box w fb #[.slice (some ⟨rb, 0, none⟩) rs.length rs.length] 141 ∧ Box w rb (rs.map (Value.int .i64)).toArray 3 := ⟨h.2.2.1, h.2.2.2⟩
theorem Ph.boxes (h : Ph w mb qb many bs) : Box w mb #[.slice (some ⟨qb, 0, none⟩) many many] 162 ∧ Box w qb (cells8 bs).toArray 159 := ⟨h.2.2.2.2.2.1, h.2.2.2.2.2.2⟩
/-- no two of the blocks are one -/
def Ap (tb fb rb mb qb : Nat) : Prop := tb ≠ rb ∧ tb ≠ qb ∧ tb ≠ fb ∧ tb ≠ mb ∧ fb ≠ rb ∧ fb ≠ qb ∧ mb ≠ rb ∧ mb ≠ qb ∧ rb ≠ qb
theorem ap_of (h : Tb w tb fb mb t) (h1 : Fr w fb rb rs) (h2 : Ph w mb qb many bs) : Ap tb fb rb mb qb :=
  ⟨Box.ne h h1.boxes.2 (by decide), Box.ne h h2.boxes.2 (by decide), Box.ne h h1.boxes.1 (by decide), Box.ne h h2.boxes.1 (by decide), Box.ne h1.boxes.1 h1.boxes.2 (by decide), Box.ne h1.boxes.1 h2.boxes.2 (by decide),
    Box.ne h2.boxes.1 h1.boxes.2 (by decide), Box.ne h2.boxes.1 h2.boxes.2 (by decide), Box.ne h1.boxes.2 h2.boxes.2 (by decide)⟩
theorem cut4 (bs : List Int) (p : Nat) (h : p + 4 ≤ bs.length) : cut bs p 4 = [bs.getD p 0, bs.getD (p + 1) 0, bs.getD (p + 2) 0, bs.getD (p + 3) 0] := by
  apply ext_getD (by rw [cut_len _ _ _ h]; rfl)
  intro j hj
  rw [cut_len _ _ _ h] at hj
  rw [cut_get _ _ _ _ h hj]
  match j, hj with
  | 0, _ => rfl
  | 1, _ => rfl
  | 2, _ => rfl
  | 3, _ => rfl
/-- four bytes of a frame, read -/
theorem read4 (f p : Nat) (h : Ph w mb qb many bs) (hf : f < many) (hp : p < 64) :
    Calls Tryz.prog 43 #[.pointer (some ⟨mb, 0, none⟩), .int .i64 f, .int .i64 (4 * (p : Int)), .int .i64 4] w fun e w' => e = .returned (.tuple #[.slice (some ⟨w.heap.size, 0, none⟩) 4 4, .nilIface]) ∧ New w w' ∧
      w'.heap[w.heap.size]? = some (.cells #[.int .u8 (bs.getD (f * 256 + 4 * p) 0), .int .u8 (bs.getD (f * 256 + 4 * p + 1) 0), .int .u8 (bs.getD (f * 256 + 4 * p + 2) 0), .int .u8 (bs.getD (f * 256 + 4 * p + 3) 0)] 5 (0, 0)) := by
  have X := read_any f (4 * p) 4 h hf (by omega)
  have hf2 := frame_fits h.len hf
  rw [cut4 bs _ (by omega)] at X
  rw [show ((4 * p : Nat) : Int) = 4 * (p : Int) from by omega] at X
  refine X.mono ?_
  rintro e w' ⟨rfl, h1, h2⟩
  exact ⟨rfl, h2, h1⟩
theorem loadn (f p : Nat) (h : Ph w mb qb many bs) (b : Nat) (hb : w.heap[b]? = some (.cells #[.int .u8 (bs.getD (f * 256 + 4 * p) 0), .int .u8 (bs.getD (f * 256 + 4 * p + 1) 0), .int .u8 (bs.getD (f * 256 + 4 * p + 2) 0), .int .u8 (bs.getD (f * 256 + 4 * p + 3) 0)] 5 (0, 0))) :
    Calls Tryz.prog 75 #[.slice (some ⟨b, 0, none⟩) 4 4] w fun e w' => e = .returned (.tuple #[.int .u32 (nm bs f p), .nilIface]) ∧ w = w' := by
  have o := h.oct
  have hx : Box w b _ _ := hb
  have h4 := hx.four
  exact wload4 _ _ _ _ ⟨b, 0, none⟩ w (o.get _).1 (o.get _).2 (o.get _).1 (o.get _).2 (o.get _).1 (o.get _).2 (o.get _).1 (o.get _).2 h4.1 h4.2.1 h4.2.2.1 h4.2.2.2
end
end Go.Proofs.YtgedimlhldfkaaaGreatDoor
namespace Go.Proofs.YtgedimlhldfkaaaGreatDoor
open Go.RowKit
set_option linter.unusedVariables false
set_option maxRecDepth 100000
section
variable {w : World} {tb fb rb mb qb t many : Nat} {rs bs : List Int}
/-- what an entry's number answers -/
noncomputable def Ent (v : Int) : Value := .agg #[.int .i64 (dcf v), .int .u8 (dcp v), .bool (dcc v)]
theorem Box.set3 {w : World} {n : Nat} {x y z a b c : Value} {ty : TypeId} (h : Box w n #[x, y, z] ty) (o : Obj) :
    Box ((((w.setCell ⟨n, 0, none⟩ a).setCell ⟨n, 1, none⟩ b).setCell ⟨n, 2, none⟩ c).alloc o).drew n #[a, b, c] ty :=
  ((((h.set 0 a).set 1 b).set 2 c).alloc o).new ((New.refl _).drew)
theorem New.set3 {w0 w : World} {n : Nat} {a b c : Value} (h : New w0 w) (hn : w0.heap.size ≤ n) (o : Obj) :
    New w0 ((((w.setCell ⟨n, 0, none⟩ a).setCell ⟨n, 1, none⟩ b).setCell ⟨n, 2, none⟩ c).alloc o).drew :=
  ((((h.setCell (p := ⟨n, 0, none⟩) hn a).setCell (p := ⟨n, 1, none⟩) hn b).setCell (p := ⟨n, 2, none⟩) hn c).allocO o).drew
theorem ret_ent {v : Int} {x y z b : Value} (h1 : .int .i64 (dcf v) = x) (h2 : .int .u8 (dcp v) = y) (h3 : .bool (dcc v) = z) (h4 : .bool (dcb v) = b) :
    Ending.returned (.tuple #[.agg #[x, y, z], b]) = .returned (.tuple #[Ent v, .bool (dcb v)]) := by rw [← h1, ← h2, ← h3, ← h4]; rfl
set_option maxHeartbeats 1000000 in
theorem tload_any (f p : Nat) (h : Tb w tb fb mb t) (h2 : Ph w mb qb many bs) (hf : f < many) (hp : p < 64) :
    Calls Tryz.prog 89 #[.pointer (some ⟨tb, 0, none⟩), .int .i64 f, .int .i64 p] w fun e w' =>
      e = .returned (.tuple #[Ent (nm bs f p), .bool (dcb (nm bs f p))]) ∧ New w w' := by
  obtain ⟨t0, t1, t2⟩ := h.cells
  have hlt := Box.lt h
  have HP := Lib.hid h2
  have HR := Lib.hid (fun W (h : Ph W mb qb many bs) => read4 f p h hf hp)
  have hl := fun W (h : Ph W mb qb many bs) => loadn f p h
  have hv := nm_bd h2.oct f p
  have e1 : (p : Int) < 64 := by omega
  have hd := dc_cases (nm bs f p) hv.1
  generalize nm bs f p = v at *
  have HD := Lib.hid hd
  have HL := Lib.hid hl
  clear h h2 hf hp hd hl
  go_enter Tryz.func89, Tryz.ntmps89
  go_wp2_with fail
  have n0 := (New.refl w).alloc #[.int .i64 0, .int .u8 0, .bool false] 117
  refine (HR.out _ (HP.out.new n0)).mono ?_
  rintro e w1 ⟨rfl, n1, hb⟩
  rw [World.size_alloc] at hb
  have X := HL.out _ (HP.out.new (n0.trans n1)) _ hb
  have B1 : Box w1 w.heap.size #[.int .i64 0, .int .u8 0, .bool false] 117 := (Box.here w _ _ _ rfl).new n1
  clear hb
  go_wp2_with fail
  with_reducible refine X.mono ?_
  rintro e w2 ⟨rfl, rfl⟩
  have hnn := n0.trans n1
  clear n0 n1 X
  go_wp2_with fail
  rcases HD.out with ⟨rfl, d1, d2, d3, d4, d5⟩ | ⟨g, k, d1, d2, d3, d4, d5⟩ | ⟨g, k, d1, d2, d3, d4, d5⟩
  · have D := Lib.hid (ret_ent (congrArg (Value.int .i64) d1) (congrArg (Value.int .u8) d2) (congrArg Value.bool d3) (congrArg Value.bool d4))
    clear d1 d2 d3 d4 d5 HL HR HP HD
    refine (decode_zero _).mono ?_
    rintro e w3 ⟨rfl, n3⟩
    have B2 := B1.new n3
    obtain ⟨hs, k0, k1, k2, f0, f1, f2⟩ := B2.three'
    have B3 := Lib.hid (fun o => Box.set3 (a := .int .i64 0) (b := .int .u8 0) (c := .bool false) B2 o)
    clear B2
    go_wp2
    go_region
    all_goals
      go_wp2
      have B4 := B3.out (.cells #[.int .i64 0, .int .u8 0, .bool false] 117)
      obtain ⟨_, q0, q1, q2, _⟩ := B4.three'
      exact bodyPost_ret (v := .tuple #[.agg #[.int .i64 0, .int .u8 0, .bool false], .bool false]) (by simp [results, Tryz.results89, go_sem, q0, q1, q2]) rfl ⟨D.out, (hnn.trans n3).set3 (Nat.le_refl _) _⟩
  · have D := Lib.hid (ret_ent (congrArg (Value.int .i64) d1) (congrArg (Value.int .u8) d2) (congrArg Value.bool d3) (congrArg Value.bool d4))
    clear d1 d2 d3 d4 d5 HL HR HP HD
    refine (decode_ok _ _ g hv.2 k).mono ?_
    rintro e w3 ⟨rfl, n3⟩
    have B2 := B1.new n3
    obtain ⟨hs, k0, k1, k2, f0, f1, f2⟩ := B2.three'
    have B3 := Lib.hid (fun o => Box.set3 (a := .int .i64 (v / 256)) (b := .int .u8 (v % 8)) (c := .bool (cwb v)) B2 o)
    clear B2
    go_wp2
    go_region
    all_goals
      go_wp2
      have B4 := B3.out (.cells #[.int .i64 (v / 256), .int .u8 (v % 8), .bool (cwb v)] 117)
      obtain ⟨_, q0, q1, q2, _⟩ := B4.three'
      exact bodyPost_ret (v := .tuple #[.agg #[.int .i64 (v / 256), .int .u8 (v % 8), .bool (cwb v)], .bool true]) (by simp [results, Tryz.results89, go_sem, q0, q1, q2]) rfl ⟨D.out, (hnn.trans n3).set3 (Nat.le_refl _) _⟩
  · have D := Lib.hid (ret_ent (congrArg (Value.int .i64) d1) (congrArg (Value.int .u8) d2) (congrArg Value.bool d3) (congrArg Value.bool d4))
    clear d1 d2 d3 d4 d5 HL HR HP HD
    refine (decode_no _ _ g hv.2 k).mono ?_
    rintro e w3 ⟨rfl, n3⟩
    have B2 := B1.new n3
    obtain ⟨hs, k0, k1, k2, f0, f1, f2⟩ := B2.three'
    have B3 := Lib.hid (fun o => Box.set3 (a := .int .i64 0) (b := .int .u8 0) (c := .bool false) B2 o)
    clear B2
    go_wp2
    go_region
    all_goals
      go_wp2
      have B4 := B3.out (.cells #[.int .i64 0, .int .u8 0, .bool false] 117)
      obtain ⟨_, q0, q1, q2, _⟩ := B4.three'
      exact bodyPost_ret (v := .tuple #[.agg #[.int .i64 0, .int .u8 0, .bool false], .bool false]) (by simp [results, Tryz.results89, go_sem, q0, q1, q2]) rfl ⟨D.out, (hnn.trans n3).set3 (Nat.le_refl _) _⟩
end
end Go.Proofs.YtgedimlhldfkaaaGreatDoor
namespace Go.Proofs.YtgedimlhldfkaaaGreatDoor
open Go.RowKit
set_option linter.unusedVariables false
set_option maxRecDepth 100000
theorem dc_zero : dcf 0 = 0 ∧ dcp 0 = 0 ∧ dcc 0 = false ∧ dcb 0 = false := by
  rcases dc_cases 0 (by omega) with ⟨_, e1, e2, e3, e4, _⟩ | ⟨h, _⟩ | ⟨h, _⟩
  · exact ⟨e1, e2, e3, e4⟩
  · omega
  · omega
theorem dc_is {v : Int} (h : 1 ≤ v) (k : EnNum v) : dcf v = v / 256 ∧ dcp v = v % 8 ∧ dcc v = cwb v ∧ dcb v = true := by
  rcases dc_cases v (by omega) with ⟨e, _⟩ | ⟨_, _, e1, e2, e3, e4, _⟩ | ⟨_, h2, _⟩
  · omega
  · exact ⟨e1, e2, e3, e4⟩
  · exact absurd k h2
theorem dc_upn (i : Nat) (h : i < 1024) : dcf (upn i) = i ∧ dcp (upn i) = 1 ∧ dcc (upn i) = false ∧ dcb (upn i) = true := by
  obtain ⟨e1, e2, e3, e4⟩ := dc_is (v := upn i) (by unfold upn; omega) (upn_is i h)
  rw [e1, e2, e3, e4]
  refine ⟨by unfold upn; omega, by unfold upn; omega, ?_, rfl⟩
  unfold cwb upn; simp; omega
section
variable {w : World} {tb fb rb mb qb t many n : Nat} {rs bs : List Int} {a : Nat → Prop}
theorem tload_zero (f p : Nat) (h : Tb w tb fb mb t) (h2 : Ph w mb qb many bs) (hf : f < many) (hp : p < 64) (h0 : nm bs f p = 0) :
    Calls Tryz.prog 89 #[.pointer (some ⟨tb, 0, none⟩), .int .i64 f, .int .i64 p] w fun e w' =>
      e = .returned (.tuple #[.agg #[.int .i64 0, .int .u8 0, .bool false], .bool false]) ∧ New w w' := by
  have X := tload_any f p h h2 hf hp
  rw [h0] at X
  obtain ⟨e1, e2, e3, e4⟩ := dc_zero
  unfold Ent at X
  rwa [e1, e2, e3, e4] at X
theorem tload_is (f p : Nat) (h : Tb w tb fb mb t) (h2 : Ph w mb qb many bs) (hf : f < many) (hp : p < 64) (h1 : 1 ≤ nm bs f p) (hk : EnNum (nm bs f p)) :
    Calls Tryz.prog 89 #[.pointer (some ⟨tb, 0, none⟩), .int .i64 f, .int .i64 p] w fun e w' =>
      e = .returned (.tuple #[.agg #[.int .i64 (nm bs f p / 256), .int .u8 (nm bs f p % 8), .bool (cwb (nm bs f p))], .bool true]) ∧ New w w' := by
  have X := tload_any f p h h2 hf hp
  obtain ⟨e1, e2, e3, e4⟩ := dc_is h1 hk
  unfold Ent at X
  rwa [e1, e2, e3, e4] at X
theorem tload_up (f p i : Nat) (h : Tb w tb fb mb t) (h2 : Ph w mb qb many bs) (hf : f < many) (hp : p < 64) (hi : i < 1024) (h1 : nm bs f p = upn i) :
    Calls Tryz.prog 89 #[.pointer (some ⟨tb, 0, none⟩), .int .i64 f, .int .i64 p] w fun e w' =>
      e = .returned (.tuple #[.agg #[.int .i64 i, .int .u8 1, .bool false], .bool true]) ∧ New w w' := by
  have X := tload_any f p h h2 hf hp
  rw [h1] at X
  obtain ⟨e1, e2, e3, e4⟩ := dc_upn i hi
  unfold Ent at X
  rwa [e1, e2, e3, e4] at X
theorem lower_no (u : Nat) (h : Tb w tb fb mb t) (h2 : Ph w mb qb many bs) (ht : t < many) (hu : u < 64) (h0 : nm bs t u = 0) :
    Calls Tryz.prog 137 #[.pointer (some ⟨tb, 0, none⟩), .int .i64 u] w fun e w' => e = .returned (.tuple #[.int .i64 0, .bool false]) ∧ New w w' := by
  have X := tload_zero t u h h2 ht hu h0
  obtain ⟨t0, t1, t2⟩ := h.cells
  clear h h2 ht h0 hu
  go_enter Tryz.func137, Tryz.ntmps137
  go_wp2_with (go_at_call 89; (with_reducible refine (X).mono ?_); rintro e w1 ⟨rfl, n1⟩)
  go_ret2
  exact ⟨rfl, n1.alloc _ _⟩
theorem lower_yes (u i : Nat) (h : Tb w tb fb mb t) (h2 : Ph w mb qb many bs) (ht : t < many) (hu : u < 64) (hi : i < 1024) (h0 : nm bs t u = upn i) :
    Calls Tryz.prog 137 #[.pointer (some ⟨tb, 0, none⟩), .int .i64 u] w fun e w' => e = .returned (.tuple #[.int .i64 i, .bool true]) ∧ New w w' := by
  have X := tload_up t u i h h2 ht hu hi h0
  obtain ⟨t0, t1, t2⟩ := h.cells
  clear h h2 ht h0 hu hi
  go_enter Tryz.func137, Tryz.ntmps137
  go_wp2_with (go_at_call 89; (with_reducible refine (X).mono ?_); rintro e w1 ⟨rfl, n1⟩)
  go_ret2
  exact ⟨rfl, n1.alloc _ _⟩
theorem tstore_any (f p : Nat) (v : Int) (h : Tb w tb fb mb t) (h2 : Ph w mb qb many bs) (hf : f < many) (hp : p < 64) (h0 : 0 ≤ v) (h1 : v ≤ 4294967295) :
    Calls Tryz.prog 141 #[.pointer (some ⟨tb, 0, none⟩), .int .i64 f, .int .i64 p, .int .u32 v] w (DidP mb qb many (pt bs f p v) .nilIface w) := by
  have X := wstore4 v w h0 h1
  have Y : Calls Tryz.prog 57 #[.pointer (some ⟨mb, 0, none⟩), .int .i64 f, .int .i64 (4 * (p : Int)), .slice (some ⟨w.heap.size, 0, none⟩) 4 4] (w.alloc (.cells #[.int .u8 (v % 256), .int .u8 (v / 256 % 256), .int .u8 (v / 65536 % 256), .int .u8 (v / 16777216)] 5))
      (DidP mb qb many (pt bs f p v) .nilIface (w.alloc (.cells #[.int .u8 (v % 256), .int .u8 (v / 256 % 256), .int .u8 (v / 65536 % 256), .int .u8 (v / 16777216)] 5))) := by
    have hb : Byts (w.alloc (.cells #[.int .u8 (v % 256), .int .u8 (v / 256 % 256), .int .u8 (v / 65536 % 256), .int .u8 (v / 16777216)] 5)) (.slice (some ⟨w.heap.size, 0, none⟩) 4 4) (by4 v) := byts_of_block (l := by4 v) (heap_alloc_new w _) (by simp [maxLen, by4])
    have := write_any f (4 * p) _ (by4 v) (h2.new ((New.refl w).alloc _ _)) hb (by4_oct v h0 h1) hf (by simp [by4]; omega)
    rw [show ((4 * p : Nat) : Int) = 4 * (p : Int) from by omega] at this
    exact this
  obtain ⟨t0, t1, t2⟩ := h.cells
  have hlt := Box.lt h
  have e1 : (p : Int) < 64 := by omega
  clear h h2 hf hp
  go_enter Tryz.func141, Tryz.ntmps141
  go_wp2_with (first | (go_at_call 76; (with_reducible refine (X).mono ?_); rintro e w' ⟨rfl, rfl⟩) | (go_at_call 57; (with_reducible refine (Y).mono ?_); rintro e w2 ⟨rfl, p2, f2⟩))
  go_ret
  exact ⟨rfl, p2, (Far.of_new qb ((New.refl w).alloc _ _)).trans f2⟩
theorem put_any (f p : Nat) (g q : Int) (c : Bool) (h : Tb w tb fb mb t) (h2 : Ph w mb qb many bs) (hf : f < many) (hp : p < 64) (g0 : 0 ≤ g) (g1 : g < 1024) (q0 : 0 ≤ q) (q1 : q ≤ 7) :
    Calls Tryz.prog 113 #[.pointer (some ⟨tb, 0, none⟩), .int .i64 f, .int .i64 p, .agg #[.int .i64 g, .int .u8 q, .bool c]] w (DidP mb qb many (pt bs f p (ennum g q c)) .nilIface w) := by
  have hn := ennum_is g q c g0 g1 q0 q1
  have X := fun w => encode_ok g q c w g0 g1 q0 q1
  have Y := Lib.hid (fun w (h : Tb w tb fb mb t) (h2 : Ph w mb qb many bs) => tstore_any f p (ennum g q c) h h2 hf hp hn.2.1 (by omega))
  generalize ennum g q c = v at *
  have HT := Lib.hid h
  have HP := Lib.hid h2
  clear hn h h2
  go_enter Tryz.func113, Tryz.ntmps113
  go_wp2_with fail
  refine (X _).mono ?_
  rintro e w1 ⟨rfl, n1⟩
  have nn := ((New.refl w).alloc #[.int .i64 g, .int .u8 q, .bool c] 117).trans n1
  go_wp2_with fail
  refine (Y.out _ (HT.out.new nn) (HP.out.new nn)).mono ?_
  rintro e w2 ⟨rfl, p2, f2⟩
  go_wp2
  go_ret
  exact ⟨rfl, p2, (Far.of_new qb nn).trans f2⟩
/-- an answer; the frames and the bytes then; nothing else has changed -/
def DidT (fb rb mb qb many : Nat) (rs bs : List Int) (v : Value) (w : World) (e : Ending) (w' : World) : Prop := e = .returned v ∧ Fr w' fb rb rs ∧ Ph w' mb qb many bs ∧ But (fun k => k = rb ∨ k = qb) w w'
theorem Tb.but {w' : World} (h : Tb w tb fb mb t) (k : But (fun k => k = rb ∨ k = qb) w w') (h1 : tb ≠ rb) (h2 : tb ≠ qb) : Tb w' tb fb mb t := Box.but h k (by rintro (e | e); exact h1 e; exact h2 e)
theorem take_yes (i : Nat) (h : Tb w tb fb mb t) (h1 : Fr w fb rb rs) (h2 : Ph w mb qb many bs) (hm : rs.length ≤ many) (hi : i < rs.length) (hn : NoFree rs i) (hz : rs.getD i 0 = 0) :
    Calls Tryz.prog 140 #[.pointer (some ⟨tb, 0, none⟩)] w (DidT fb rb mb qb many (rs.set i 1) (zr bs i) (.tuple #[.int .i64 i, .nilIface]) w) := by
  have A := ap_of h h1 h2
  have X := did_alloc i h1 hi hn hz
  obtain ⟨t0, t1, t2⟩ := h.cells
  have HT := Lib.hid h
  have HP := Lib.hid h2
  have hi2 : i < many := by omega
  clear h h1 h2 hn hz
  go_enter Tryz.func140, Tryz.ntmps140
  go_wp2_with fail
  refine X.mono ?_
  rintro e w1 ⟨rfl, r1, f1⟩
  have b1 : But (fun k => k = rb ∨ k = qb) w w1 := But.of_far f1 (.inl rfl)
  obtain ⟨u0, u1, u2⟩ := (HT.out.but b1 A.1 A.2.1).cells
  have p1 := HP.out.off f1 A.2.2.2.2.2.2.1 (fun e => A.2.2.2.2.2.2.2.2 e.symm)
  have Y := zero_any i p1 hi2
  clear f1 p1
  go_wp2_with fail
  refine Y.mono ?_
  rintro e w2 ⟨rfl, p2, f2⟩
  go_wp2
  go_ret2
  exact ⟨rfl, ⟨r1.1, r1.2.1, by rw [f2.block r1.lt.1 A.2.2.2.2.2.1]; exact r1.2.2.1, by rw [f2.block r1.lt.2 A.2.2.2.2.2.2.2.2]; exact r1.2.2.2⟩, p2, b1.trans (But.of_far f2 (.inr rfl))⟩
theorem take_no (h : Tb w tb fb mb t) (h1 : Fr w fb rb rs) (hn : NoFree rs rs.length) :
    Calls Tryz.prog 140 #[.pointer (some ⟨tb, 0, none⟩)] w fun e w' => e = .returned (.tuple #[.int .i64 0, .iface 98 (.int .i64 12)]) ∧ w = w' := by
  have X := alloc_none w h1 hn
  obtain ⟨t0, t1, t2⟩ := h.cells
  clear h h1 hn
  go_enter Tryz.func140, Tryz.ntmps140
  go_wp2_with (go_at_call 132; (with_reducible refine (X).mono ?_); rintro e w' ⟨rfl, rfl⟩)
  go_ret2
  exact ⟨rfl, rfl⟩
theorem reach_old (u i : Nat) (h : Tb w tb fb mb t) (h2 : Ph w mb qb many bs) (ht : t < many) (hu : u < 64) (hi : i < 1024) (h0 : nm bs t u = upn i) :
    Calls Tryz.prog 112 #[.pointer (some ⟨tb, 0, none⟩), .int .i64 u] w fun e w' => e = .returned (.tuple #[.int .i64 i, .nilIface]) ∧ New w w' := by
  have X := lower_yes u i h h2 ht hu hi h0
  clear h h2 ht h0 hu hi
  go_enter Tryz.func112, Tryz.ntmps112
  go_wp2_with (go_at_call 137; (with_reducible refine (X).mono ?_); rintro e w1 ⟨rfl, n1⟩)
  go_ret2
  exact ⟨rfl, n1⟩
theorem reach_no (u : Nat) (h : Tb w tb fb mb t) (h1 : Fr w fb rb rs) (h2 : Ph w mb qb many bs) (ht : t < many) (hu : u < 64) (h0 : nm bs t u = 0) (hn : NoFree rs rs.length) :
    Calls Tryz.prog 112 #[.pointer (some ⟨tb, 0, none⟩), .int .i64 u] w fun e w' => e = .returned (.tuple #[.int .i64 0, .iface 98 (.int .i64 12)]) ∧ New w w' := by
  have X := lower_no u h h2 ht hu h0
  have HT := Lib.hid h
  have HF := Lib.hid h1
  have HN := Lib.hid hn
  clear h h1 h2 ht h0 hu hn
  go_enter Tryz.func112, Tryz.ntmps112
  go_wp2_with fail
  refine X.mono ?_
  rintro e w1 ⟨rfl, n1⟩
  have Y := take_no (HT.out.new n1) (HF.out.new n1) HN.out
  go_wp2_with (go_at_call 140; (with_reducible refine (Y).mono ?_); rintro e w' ⟨rfl, rfl⟩)
  go_ret2
  exact ⟨rfl, n1⟩
theorem reach_new (u i : Nat) (h : Tb w tb fb mb t) (h1 : Fr w fb rb rs) (h2 : Ph w mb qb many bs) (hm : rs.length ≤ many) (ht : t < many) (hu : u < 64) (h0 : nm bs t u = 0) (hi : i < rs.length) (hn : NoFree rs i) (hz : rs.getD i 0 = 0) :
    Calls Tryz.prog 112 #[.pointer (some ⟨tb, 0, none⟩), .int .i64 u] w (DidT fb rb mb qb many (rs.set i 1) (nw bs t u i) (.tuple #[.int .i64 i, .nilIface]) w) := by
  have A := ap_of h h1 h2
  have X := lower_no u h h2 ht hu h0
  have hi2 : i < 1024 := by have := h1.1.2.1; omega
  have en : ennum (i : Int) 1 false = upn i := by unfold ennum upn cwn; simp; omega
  have HY := Lib.hid (fun w (h : Tb w tb fb mb t) (h1 : Fr w fb rb rs) (h2 : Ph w mb qb many bs) => take_yes i h h1 h2 hm hi hn hz)
  have HZ := Lib.hid (fun w bs (h : Tb w tb fb mb t) (h2 : Ph w mb qb many bs) => put_any t u (i : Int) 1 false h h2 ht hu (by omega) (by omega) (by omega) (by omega))
  have HE := Lib.hid en
  have HT := Lib.hid h
  have HF := Lib.hid h1
  have HP := Lib.hid h2
  clear h h1 h2 ht h0 hu hn hz en
  go_enter Tryz.func112, Tryz.ntmps112
  go_wp2_with fail
  refine X.mono ?_
  rintro e w1 ⟨rfl, n1⟩
  go_wp2_with fail
  refine (HY.out _ (HT.out.new n1) (HF.out.new n1) (HP.out.new n1)).mono ?_
  rintro e w2 ⟨rfl, r2, p2, b2⟩
  have T2 := (HT.out.new n1).but b2 A.1 A.2.1
  obtain ⟨u0, u1, u2⟩ := T2.cells
  have Z := HZ.out _ _ T2 p2
  rw [HE.out] at Z
  clear T2 p2
  go_wp2_with fail
  refine Z.mono ?_
  rintro e w3 ⟨rfl, p3, f3⟩
  go_wp2
  go_ret2
  exact ⟨rfl, ⟨r2.1, r2.2.1, by rw [f3.block r2.lt.1 A.2.2.2.2.2.1]; exact r2.2.2.1, by rw [f3.block r2.lt.2 A.2.2.2.2.2.2.2.2]; exact r2.2.2.2⟩, p3, (But.of_new _ n1).trans (b2.trans (But.of_far f3 (.inr rfl)))⟩
end
end Go.Proofs.YtgedimlhldfkaaaGreatDoor
