/- What the package of tables of two levels does: a table made, a page's entry asked for, laid down and taken away: contracts, for any table in any frames of bytes, in any world. -/
import Derived.Test.YtgedimlhldfkaaaGreatDoorTbC
import Derived.Test.YtgedimlhldfkaaaGreatDoorNumF
import Derived.Test.YtgedimlhldfkaaaGreatDoorFar
import Derived.RangeFuncNested
import Derived.RangeFuncBound
import Derived.RangeFuncCalls
import Derived.RangeFuncLeaves
import Derived.Shelf.Abstract
import Derived.Shelf.RegionOpen
import Derived.OwnWalkIn
import Derived.TacticsInMore
import Derived.LoopNIn
import Derived.LoopIn
import Derived.StillTailTactics
namespace Go.Proofs.YtgedimlhldfkaaaGreatDoor
open Go.RowKit
set_option linter.unusedVariables false
set_option maxRecDepth 100000
/-- no table, or none any more -/
def Gone (w : World) (v : Value) : Prop := v = .pointer none ∨ ∃ tb, v = .pointer (some ⟨tb, 0, none⟩) ∧ Tb0 w tb
theorem Gone.new {w w' : World} {v : Value} (h : Gone w v) (k : New w w') : Gone w' v := h.imp id fun ⟨tb, e, h⟩ => ⟨tb, e, h.new k⟩
theorem Gone.none (w : World) : Gone w (.pointer none) := .inl rfl
section
variable {w : World} {tb fb rb mb qb t many : Nat} {rs bs : List Int} {v : Value}
theorem isgone_no (h : Tb w tb fb mb t) : Calls Tryz.prog 94 #[.pointer (some ⟨tb, 0, none⟩)] w fun e w' => e = .returned (.bool false) ∧ w = w' := by
  obtain ⟨t0, t1, t2⟩ := h.cells
  clear h
  go_enter Tryz.func94, Tryz.ntmps94
  go_wp2
  go_ret
  exact ⟨rfl, rfl⟩
theorem isgone_yes (h : Gone w v) : Calls Tryz.prog 94 #[v] w fun e w' => e = .returned (.bool true) ∧ w = w' := by
  rcases h with rfl | ⟨tb, rfl, h⟩
  · go_enter Tryz.func94, Tryz.ntmps94
    go_wp2
    go_ret
    exact ⟨rfl, rfl⟩
  · obtain ⟨t0, t1, t2⟩ := h.cells
    clear h
    go_enter Tryz.func94, Tryz.ntmps94
    go_wp2
    go_ret
    exact ⟨rfl, rfl⟩
theorem thas_gone (m : Int) (h : Gone w v) : Calls Tryz.prog 110 #[v, .int .i64 m] w fun e w' => e = .returned (.bool false) ∧ w = w' := by
  have X := isgone_yes h
  clear h
  go_enter Tryz.func110, Tryz.ntmps110
  go_wp2_with (go_at_call 94; (with_reducible refine (X).mono ?_); rintro e w' ⟨rfl, rfl⟩)
  go_ret
  exact ⟨rfl, rfl⟩
theorem thas_yes (p : Nat) (h : Tb w tb fb mb t) (hp : p < 4096) : Calls Tryz.prog 110 #[.pointer (some ⟨tb, 0, none⟩), .int .i64 p] w fun e w' => e = .returned (.bool true) ∧ w = w' := by
  have X := isgone_no h
  have e1 : (p : Int) < 4096 := by omega
  have e2 : decide ((p : Int) < 4096) = true := by simpa using e1
  clear h hp
  go_enter Tryz.func110, Tryz.ntmps110
  go_wp2_with (go_at_call 94; (with_reducible refine (X).mono ?_); rintro e w' ⟨rfl, rfl⟩)
  go_ret
  exact ⟨rfl, rfl⟩
theorem thas_no (m : Int) (h : Tb w tb fb mb t) (hp : ¬ (0 ≤ m ∧ m < 4096)) : Calls Tryz.prog 110 #[.pointer (some ⟨tb, 0, none⟩), .int .i64 m] w fun e w' => e = .returned (.bool false) ∧ w = w' := by
  have X := isgone_no h
  clear h
  by_cases c : 0 ≤ m
  · have e1 : 4096 ≤ m := by omega
    have e2 : decide (m < 4096) = false := by simpa using e1
    clear hp
    go_enter Tryz.func110, Tryz.ntmps110
    go_wp2_with (go_at_call 94; (with_reducible refine (X).mono ?_); rintro e w' ⟨rfl, rfl⟩)
    go_ret
    exact ⟨rfl, rfl⟩
  · have e1 : m < 0 := by omega
    have e2 : decide (0 ≤ m) = false := by simpa using c
    clear hp c
    go_enter Tryz.func110, Tryz.ntmps110
    go_wp2_with (go_at_call 94; (with_reducible refine (X).mono ?_); rintro e w' ⟨rfl, rfl⟩)
    go_ret
    exact ⟨rfl, rfl⟩
theorem tnew_nil (v : Value) (w : World) : Calls Tryz.prog 90 #[.pointer none, v] w fun e w' => e = .returned (.tuple #[.pointer none, .iface 98 (.int .i64 22)]) ∧ w = w' := by
  go_enter Tryz.func90, Tryz.ntmps90
  go_wp2
  go_ret2
  exact ⟨rfl, rfl⟩
theorem tnew_nil2 (b : Addr) (w : World) : Calls Tryz.prog 90 #[.pointer (some b), .pointer none] w fun e w' => e = .returned (.tuple #[.pointer none, .iface 98 (.int .i64 22)]) ∧ w = w' := by
  go_enter Tryz.func90, Tryz.ntmps90
  go_wp2
  go_ret2
  exact ⟨rfl, rfl⟩
/-- a table that was made: a new block, its first frame taken and made noughts -/
def MadeT (fb rb mb qb many i : Nat) (rs bs : List Int) (w : World) (e : Ending) (w' : World) : Prop :=
  ∃ tb, e = .returned (.tuple #[.pointer (some ⟨tb, 0, none⟩), .nilIface]) ∧ w.heap.size ≤ tb ∧ Tb w' tb fb mb i ∧ Fr w' fb rb (rs.set i 1) ∧ Ph w' mb qb many (zr bs i) ∧ But (fun k => k = rb ∨ k = qb) w w'
theorem But.setT {w' : World} (h : But (fun k => k = rb ∨ k = qb) w w') {b : Nat} (hb : w.heap.size ≤ b) (j : Nat) (x : Value) : But (fun k => k = rb ∨ k = qb) w (w'.setCell ⟨b, j, none⟩ x) :=
  ⟨h.1, h.2.1, h.2.2.1, by have := h.2.2.2.1; simp [World.setCell]; omega, fun k hk hs => (Below.heap_setCell w' _ _ k (by show k ≠ b; omega)).trans (h.2.2.2.2 k hk hs)⟩
set_option maxHeartbeats 1000000 in
theorem tnew_ok (i : Nat) (h1 : Fr w fb rb rs) (h2 : Ph w mb qb many bs) (hm : rs.length ≤ many) (hi : i < rs.length) (hn : NoFree rs i) (hz : rs.getD i 0 = 0) :
    Calls Tryz.prog 90 #[.pointer (some ⟨fb, 0, none⟩), .pointer (some ⟨mb, 0, none⟩)] w (MadeT fb rb mb qb many i rs bs w) := by
  have X := many_any h2
  have Y := free_any w h1
  have Z := Lib.hid (fun w (h : Fr w fb rb rs) => taken_len w h)
  have HT := Lib.hid (fun w tb (h : Tb w tb fb mb 0) (h1 : Fr w fb rb rs) (h2 : Ph w mb qb many bs) => take_yes i h h1 h2 hm hi hn hz)
  have HF := Lib.hid h1
  have HP := Lib.hid h2
  have hk := tk_len rs rs.length
  have hb := h2.bd
  have hl := h1.1.2.1
  generalize hK : (tk rs rs.length).length = K at *
  have e1 : decide ((many : Int) < ((rs.length : Int) - K) + K) = false := by simp; omega
  have e2 : ((rs.length : Int) - K) + K ≤ many := by omega
  clear h1 h2 hm hi hn hz hK
  go_enter Tryz.func90, Tryz.ntmps90
  go_wp2_with fail
  refine X.mono ?_
  rintro e w1 ⟨rfl, rfl⟩
  go_wp2_with fail
  refine Y.mono ?_
  rintro e w1 ⟨rfl, n1⟩
  go_wp2_with fail
  refine (Z.out _ (HF.out.new n1)).mono ?_
  rintro e w2 ⟨p, cap, rfl, n2⟩
  have nn := n1.trans n2
  clear X Y n1 n2
  go_wp2_with fail
  have n3 := nn.alloc #[.pointer (some ⟨fb, 0, none⟩), .pointer (some ⟨mb, 0, none⟩), .int .i64 0] 171
  have t3 : Tb (w2.alloc (.cells #[.pointer (some ⟨fb, 0, none⟩), .pointer (some ⟨mb, 0, none⟩), .int .i64 0] 171)) w2.heap.size fb mb 0 := Box.here _ _ _ _ rfl
  have A := ap_of t3 (HF.out.new n3) (HP.out.new n3)
  refine (HT.out _ _ t3 (HF.out.new n3) (HP.out.new n3)).mono ?_
  rintro e w4 ⟨rfl, r4, p4, b4⟩
  have t4 := t3.but b4 A.1 A.2.1
  have T5 := Lib.hid (show Tb (w4.setCell ⟨w2.heap.size, 2, none⟩ (.int .i64 i)) w2.heap.size fb mb i from Box.set t4 2 _)
  obtain ⟨hz, u0, u1, u2, f0, f1, f2⟩ := Box.three' t4
  have bb : But (fun k => k = rb ∨ k = qb) w w4 := (But.of_new _ n3).trans b4
  have hs := nn.size
  clear t3 t4 n3 nn b4
  go_wp2
  go_ret2
  refine ⟨w2.heap.size, rfl, hs, T5.out, ?_, ?_, bb.setT hs 2 _⟩
  · exact ⟨r4.1, r4.2.1, by rw [Below.heap_setCell _ _ _ _ (Ne.symm A.2.2.1)]; exact r4.2.2.1, by rw [Below.heap_setCell _ _ _ _ (Ne.symm A.1)]; exact r4.2.2.2⟩
  · exact ⟨p4.1, p4.2.1, p4.2.2.1, p4.2.2.2.1, p4.2.2.2.2.1, by rw [Below.heap_setCell _ _ _ _ (Ne.symm A.2.2.2.1)]; exact p4.2.2.2.2.2.1, by rw [Below.heap_setCell _ _ _ _ (Ne.symm A.2.1)]; exact p4.2.2.2.2.2.2⟩
/-- what Get answers -/
noncomputable def gotE (v : Int) (er : Value) : Value := .tuple #[.agg #[.int .i64 (dcf v), .int .u8 (dcp v), .bool (dcc v)], .bool (dcb v), er]
theorem gotE_zero (er : Value) : gotE 0 er = .tuple #[.agg #[.int .i64 0, .int .u8 0, .bool false], .bool false, er] := by
  obtain ⟨e1, e2, e3, e4⟩ := dc_zero
  unfold gotE; rw [e1, e2, e3, e4]
theorem tget_gone (m : Int) (h : Gone w v) : Calls Tryz.prog 109 #[v, .int .i64 m] w fun e w' => e = .returned (gotE 0 (.iface 98 (.int .i64 22))) ∧ New w w' := by
  rw [gotE_zero]
  have X := fun W (k : New w W) => thas_gone m (h.new k)
  clear h
  go_enter Tryz.func109, Tryz.ntmps109
  go_wp2_with fail
  have n0 := (New.refl w).alloc #[.int .i64 0, .int .u8 0, .bool false] 117
  refine (X _ n0).mono ?_
  rintro e w' ⟨rfl, rfl⟩
  go_wp2
  exact bodyPost_ret (v := .tuple #[.agg #[.int .i64 0, .int .u8 0, .bool false], .bool false, .iface 98 (.int .i64 22)]) (by simp [results, Tryz.results109, go_sem]) rfl ⟨rfl, by repeat (first | exact n0 | refine New.setCell ?_ (by simp) _)⟩
theorem tget_bad (m : Int) (h : Tb w tb fb mb t) (hp : ¬ (0 ≤ m ∧ m < 4096)) : Calls Tryz.prog 109 #[.pointer (some ⟨tb, 0, none⟩), .int .i64 m] w fun e w' => e = .returned (gotE 0 (.iface 98 (.int .i64 22))) ∧ New w w' := by
  rw [gotE_zero]
  have X := fun W (k : New w W) => thas_no m (h.new k) hp
  clear h hp
  go_enter Tryz.func109, Tryz.ntmps109
  go_wp2_with fail
  have n0 := (New.refl w).alloc #[.int .i64 0, .int .u8 0, .bool false] 117
  refine (X _ n0).mono ?_
  rintro e w' ⟨rfl, rfl⟩
  go_wp2
  exact bodyPost_ret (v := .tuple #[.agg #[.int .i64 0, .int .u8 0, .bool false], .bool false, .iface 98 (.int .i64 22)]) (by simp [results, Tryz.results109, go_sem]) rfl ⟨rfl, by repeat (first | exact n0 | refine New.setCell ?_ (by simp) _)⟩
set_option maxHeartbeats 1000000 in
theorem tget_any (p n : Nat) (a : Nat → Prop) (h : Tb w tb fb mb t) (h2 : Ph w mb qb many bs) (hg : Good n a bs t) (hn : n ≤ many) (hp : p < 4096) :
    Calls Tryz.prog 109 #[.pointer (some ⟨tb, 0, none⟩), .int .i64 p] w fun e w' => e = .returned (gotE (pgn bs t p) .nilIface) ∧ New w w' := by
  have X := fun W (k : New w W) => thas_yes p (h.new k) hp
  have hlt := hg.lt
  have hbd := h2.bd
  have e1 : (p : Int) < 4096 := by omega
  by_cases c : nm bs t (p / 64) = 0
  · have Y := fun W (k : New w W) => lower_no (p / 64) (h.new k) (h2.new k) (by omega) (by omega) c
    rw [show pgn bs t p = 0 from by unfold pgn; rw [if_pos c], gotE_zero]
    rw [show ((p / 64 : Nat) : Int) = (p : Int) / 64 from by omega] at Y
    clear h h2 hg c hlt
    go_enter Tryz.func109, Tryz.ntmps109
    go_wp2_with fail
    have n0 := (New.refl w).alloc #[.int .i64 0, .int .u8 0, .bool false] 117
    refine (X _ n0).mono ?_
    rintro e w' ⟨rfl, rfl⟩
    go_wp2_with fail
    refine (Y _ n0).mono ?_
    rintro e w1 ⟨rfl, n1⟩
    obtain ⟨hs, k0, k1, k2, f0, f1, f2⟩ := ((Box.here w _ #[.int .i64 0, .int .u8 0, .bool false] 117 rfl).new n1).three'
    have nn := n0.trans n1
    clear X Y n0 n1
    go_wp2
    exact bodyPost_ret (v := .tuple #[.agg #[.int .i64 0, .int .u8 0, .bool false], .bool false, .nilIface]) (by simp [results, Tryz.results109, go_sem, k0, k1, k2]) rfl ⟨rfl, by repeat (first | exact nn | refine New.setCell ?_ (by simp) _)⟩
  · obtain ⟨g1, g2, g3, g4⟩ := hg.frame (u := p / 64) (by omega) c
    have Y := fun W (k : New w W) => lower_yes (p / 64) _ (h.new k) (h2.new k) (by omega) (by omega) (by omega) g4
    have Z := fun W (k : New w W) => tload_any (lof bs t (p / 64)) (p % 64) (h.new k) (h2.new k) (by omega) (by omega)
    rw [show pgn bs t p = nm bs (lof bs t (p / 64)) (p % 64) from by unfold pgn; rw [if_neg c]]
    rw [show ((p / 64 : Nat) : Int) = (p : Int) / 64 from by omega] at Y
    rw [show ((p % 64 : Nat) : Int) = (p : Int) % 64 from by omega] at Z
    unfold Ent at Z
    unfold gotE
    generalize nm bs (lof bs t (p / 64)) (p % 64) = V at *
    generalize dcf V = x1 at *
    generalize dcp V = x2 at *
    generalize dcc V = x3 at *
    generalize dcb V = x4 at *
    generalize lof bs t (p / 64) = F at *
    clear h h2 hg c hlt g1 g2 g3 g4
    go_enter Tryz.func109, Tryz.ntmps109
    go_wp2_with fail
    have n0 := (New.refl w).alloc #[.int .i64 0, .int .u8 0, .bool false] 117
    refine (X _ n0).mono ?_
    rintro e w' ⟨rfl, rfl⟩
    go_wp2_with fail
    refine (Y _ n0).mono ?_
    rintro e w1 ⟨rfl, n1⟩
    go_wp2_with fail
    refine (Z _ (n0.trans n1)).mono ?_
    rintro e w2 ⟨rfl, n2⟩
    obtain ⟨hs, k0, k1, k2, f0, f1, f2⟩ := ((Box.here w _ #[.int .i64 0, .int .u8 0, .bool false] 117 rfl).new (n1.trans n2)).three'
    have nn := n0.trans (n1.trans n2)
    clear X Y Z n0 n1 n2
    go_wp2
    exact bodyPost_ret (v := .tuple #[.agg #[.int .i64 x1, .int .u8 x2, .bool x3], .bool x4, .nilIface]) (by simp [results, Tryz.results109, go_sem, k0, k1, k2, hs]) rfl ⟨rfl, by repeat (first | exact nn | refine New.setCell ?_ (by simp) _ | refine New.alloc ?_ _ _)⟩
end
end Go.Proofs.YtgedimlhldfkaaaGreatDoor
namespace Go.Proofs.YtgedimlhldfkaaaGreatDoor
open Go.RowKit
set_option linter.unusedVariables false
set_option maxRecDepth 100000
section
variable {w : World} {tb fb rb mb qb t many : Nat} {rs bs : List Int} {v : Value}
/-- an answer, and only new blocks -/
def Said (v : Value) (w : World) (e : Ending) (w' : World) : Prop := e = .returned v ∧ New w w'
theorem tset_gone (m g q : Int) (c : Bool) (h : Gone w v) : Calls Tryz.prog 56 #[v, .int .i64 m, .agg #[.int .i64 g, .int .u8 q, .bool c]] w (Said (.iface 98 (.int .i64 22)) w) := by
  have X := fun W (k : New w W) => thas_gone m (h.new k)
  clear h
  go_enter Tryz.func56, Tryz.ntmps56
  go_wp2_with fail
  have n0 := (New.refl w).alloc #[.int .i64 g, .int .u8 q, .bool c] 117
  refine (X _ n0).mono ?_
  rintro e w' ⟨rfl, rfl⟩
  go_wp2
  go_ret
  exact ⟨rfl, n0⟩
theorem tset_bad (m g q : Int) (c : Bool) (h : Tb w tb fb mb t) (hp : ¬ (0 ≤ m ∧ m < 4096)) : Calls Tryz.prog 56 #[.pointer (some ⟨tb, 0, none⟩), .int .i64 m, .agg #[.int .i64 g, .int .u8 q, .bool c]] w (Said (.iface 98 (.int .i64 22)) w) := by
  have X := fun W (k : New w W) => thas_no m (h.new k) hp
  clear h hp
  go_enter Tryz.func56, Tryz.ntmps56
  go_wp2_with fail
  have n0 := (New.refl w).alloc #[.int .i64 g, .int .u8 q, .bool c] 117
  refine (X _ n0).mono ?_
  rintro e w' ⟨rfl, rfl⟩
  go_wp2
  go_ret
  exact ⟨rfl, n0⟩
theorem tset_bad2 (p : Nat) (g q : Int) (c : Bool) (h : Tb w tb fb mb t) (hp : p < 4096) (q0 : 0 ≤ q) (hk : ¬ (0 ≤ g ∧ g < 1024 ∧ q ≤ 7)) : Calls Tryz.prog 56 #[.pointer (some ⟨tb, 0, none⟩), .int .i64 p, .agg #[.int .i64 g, .int .u8 q, .bool c]] w (Said (.iface 98 (.int .i64 22)) w) := by
  have X := fun W (k : New w W) => thas_yes p (h.new k) hp
  have Y := fun W => echeck_no g q c W q0 hk
  clear h hp hk
  go_enter Tryz.func56, Tryz.ntmps56
  go_wp2_with fail
  have n0 := (New.refl w).alloc #[.int .i64 g, .int .u8 q, .bool c] 117
  refine (X _ n0).mono ?_
  rintro e w' ⟨rfl, rfl⟩
  go_wp2_with fail
  refine (Y _).mono ?_
  rintro e w1 ⟨rfl, n1⟩
  go_wp2
  go_ret
  exact ⟨rfl, n0.trans n1⟩
set_option maxHeartbeats 1000000 in
theorem tset_full (p : Nat) (g q : Int) (c : Bool) (h : Tb w tb fb mb t) (h1 : Fr w fb rb rs) (h2 : Ph w mb qb many bs) (ht : t < many) (hp : p < 4096) (g0 : 0 ≤ g) (g1 : g < 1024) (q0 : 0 ≤ q) (q1 : q ≤ 7) (hn : NoFree rs rs.length) (h0 : nm bs t (p / 64) = 0) :
    Calls Tryz.prog 56 #[.pointer (some ⟨tb, 0, none⟩), .int .i64 p, .agg #[.int .i64 g, .int .u8 q, .bool c]] w (Said (.iface 98 (.int .i64 12)) w) := by
  have X := fun W (k : New w W) => thas_yes p (h.new k) hp
  have Y := fun W => echeck_ok g q c W g0 g1 q0 q1
  have Z := fun W (k : New w W) => reach_no (p / 64) (h.new k) (h1.new k) (h2.new k) ht (by omega) h0 hn
  rw [show ((p / 64 : Nat) : Int) = (p : Int) / 64 from by omega] at Z
  have e1 : (p : Int) < 4096 := by omega
  clear h h1 h2 ht hn h0
  go_enter Tryz.func56, Tryz.ntmps56
  go_wp2_with fail
  have n0 := (New.refl w).alloc #[.int .i64 g, .int .u8 q, .bool c] 117
  refine (X _ n0).mono ?_
  rintro e w' ⟨rfl, rfl⟩
  go_wp2_with fail
  refine (Y _).mono ?_
  rintro e w1 ⟨rfl, n1⟩
  go_wp2_with fail
  refine (Z _ (n0.trans n1)).mono ?_
  rintro e w2 ⟨rfl, n2⟩
  go_wp2
  go_ret
  exact ⟨rfl, (n0.trans n1).trans n2⟩
set_option maxHeartbeats 1000000 in
theorem tset_old (p n : Nat) (a : Nat → Prop) (g q : Int) (c : Bool) (h : Tb w tb fb mb t) (h1 : Fr w fb rb rs) (h2 : Ph w mb qb many bs) (hg : Good n a bs t) (hn : n ≤ many) (hp : p < 4096) (g0 : 0 ≤ g) (g1 : g < 1024) (q0 : 0 ≤ q) (q1 : q ≤ 7) (h0 : nm bs t (p / 64) ≠ 0) :
    Calls Tryz.prog 56 #[.pointer (some ⟨tb, 0, none⟩), .int .i64 p, .agg #[.int .i64 g, .int .u8 q, .bool c]] w (DidT fb rb mb qb many rs (pt bs (lof bs t (p / 64)) (p % 64) (ennum g q c)) .nilIface w) := by
  obtain ⟨k1, k2, k3, k4⟩ := hg.frame (u := p / 64) (by omega) h0
  have A := ap_of h h1 h2
  have hlt := hg.lt
  have hbd := h2.bd
  have X := fun W (k : New w W) => thas_yes p (h.new k) hp
  have Y := fun W => echeck_ok g q c W g0 g1 q0 q1
  have Z := fun W (k : New w W) => reach_old (p / 64) _ (h.new k) (h2.new k) (by omega) (by omega) (by omega) k4
  have V := fun W (k : New w W) => put_any (lof bs t (p / 64)) (p % 64) g q c (h.new k) (h2.new k) (by omega) (by omega) g0 g1 q0 q1
  rw [show ((p / 64 : Nat) : Int) = (p : Int) / 64 from by omega] at Z
  rw [show ((p % 64 : Nat) : Int) = (p : Int) % 64 from by omega] at V
  have e1 : (p : Int) < 4096 := by omega
  have HF := Lib.hid h1
  generalize pt bs (lof bs t (p / 64)) (p % 64) (ennum g q c) = cs at *
  generalize lof bs t (p / 64) = F at *
  clear h h1 h2 hg hlt h0 k1 k2 k3 k4 hn
  go_enter Tryz.func56, Tryz.ntmps56
  go_wp2_with fail
  have n0 := (New.refl w).alloc #[.int .i64 g, .int .u8 q, .bool c] 117
  refine (X _ n0).mono ?_
  rintro e w' ⟨rfl, rfl⟩
  go_wp2_with fail
  refine (Y _).mono ?_
  rintro e w1 ⟨rfl, n1⟩
  go_wp2_with fail
  refine (Z _ (n0.trans n1)).mono ?_
  rintro e w2 ⟨rfl, n2⟩
  obtain ⟨hs, c0, c1, c2, f0, f1, f2⟩ := ((Box.here w _ #[.int .i64 g, .int .u8 q, .bool c] 117 rfl).new (n1.trans n2)).three'
  have nn := n0.trans (n1.trans n2)
  have W := V _ nn
  clear X Y Z V n0 n1 n2
  go_wp2_with fail
  refine W.mono ?_
  rintro e w3 ⟨rfl, p3, f3⟩
  go_wp2
  go_ret
  have r2 := HF.out.new nn
  exact ⟨rfl, ⟨r2.1, r2.2.1, by rw [f3.block r2.lt.1 A.2.2.2.2.2.1]; exact r2.2.2.1, by rw [f3.block r2.lt.2 A.2.2.2.2.2.2.2.2]; exact r2.2.2.2⟩, p3, (But.of_new _ nn).trans (But.of_far f3 (.inr rfl))⟩
set_option maxHeartbeats 1000000 in
theorem tset_new (p i : Nat) (g q : Int) (c : Bool) (h : Tb w tb fb mb t) (h1 : Fr w fb rb rs) (h2 : Ph w mb qb many bs) (hm : rs.length ≤ many) (ht : t < many) (hp : p < 4096) (g0 : 0 ≤ g) (g1 : g < 1024) (q0 : 0 ≤ q) (q1 : q ≤ 7) (h0 : nm bs t (p / 64) = 0) (hi : i < rs.length) (hn : NoFree rs i) (hz : rs.getD i 0 = 0) :
    Calls Tryz.prog 56 #[.pointer (some ⟨tb, 0, none⟩), .int .i64 p, .agg #[.int .i64 g, .int .u8 q, .bool c]] w (DidT fb rb mb qb many (rs.set i 1) (pt (nw bs t (p / 64) i) i (p % 64) (ennum g q c)) .nilIface w) := by
  have A := ap_of h h1 h2
  have X := fun W (k : New w W) => thas_yes p (h.new k) hp
  have Y := fun W => echeck_ok g q c W g0 g1 q0 q1
  have Z := fun W (k : New w W) => reach_new (p / 64) i (h.new k) (h1.new k) (h2.new k) hm ht (by omega) h0 hi hn hz
  have V := fun W cs (h : Tb W tb fb mb t) (h2 : Ph W mb qb many cs) => put_any i (p % 64) g q c h h2 (by omega) (by omega) g0 g1 q0 q1
  rw [show ((p / 64 : Nat) : Int) = (p : Int) / 64 from by omega] at Z
  rw [show ((p % 64 : Nat) : Int) = (p : Int) % 64 from by omega] at V
  have e1 : (p : Int) < 4096 := by omega
  have HT := Lib.hid h
  have l1 := h1.lt.2
  have l2 := h2.lt.2
  generalize nw bs t (p / 64) i = cs at *
  generalize rs.set i 1 = qs at *
  clear h h1 h2 ht h0 hn hz hi hm
  go_enter Tryz.func56, Tryz.ntmps56
  go_wp2_with fail
  have n0 := (New.refl w).alloc #[.int .i64 g, .int .u8 q, .bool c] 117
  refine (X _ n0).mono ?_
  rintro e w' ⟨rfl, rfl⟩
  go_wp2_with fail
  refine (Y _).mono ?_
  rintro e w1 ⟨rfl, n1⟩
  go_wp2_with fail
  have nn := n0.trans n1
  have B0 := (Box.here w _ #[.int .i64 g, .int .u8 q, .bool c] 117 rfl).new n1
  refine (Z _ nn).mono ?_
  rintro e w2 ⟨rfl, r2, p2, b2⟩
  obtain ⟨hs, c0, c1, c2, f0, f1, f2⟩ := (B0.but b2 (by rintro (e | e) <;> omega)).three'
  have t2 := (HT.out.new nn).but b2 A.1 A.2.1
  have W := V _ _ t2 p2
  have bb := (But.of_new _ nn).trans b2
  clear X Y Z V t2 p2 b2
  go_wp2_with fail
  refine W.mono ?_
  rintro e w3 ⟨rfl, p3, f3⟩
  go_wp2
  go_ret
  exact ⟨rfl, ⟨r2.1, r2.2.1, by rw [f3.block r2.lt.1 A.2.2.2.2.2.1]; exact r2.2.2.1, by rw [f3.block r2.lt.2 A.2.2.2.2.2.2.2.2]; exact r2.2.2.2⟩, p3, bb.trans (But.of_far f3 (.inr rfl))⟩
theorem tclear_gone (m : Int) (h : Gone w v) : Calls Tryz.prog 93 #[v, .int .i64 m] w (Said (.iface 98 (.int .i64 22)) w) := by
  have X := thas_gone m h
  clear h
  go_enter Tryz.func93, Tryz.ntmps93
  go_wp2_with (go_at_call 110; (with_reducible refine (X).mono ?_); rintro e w' ⟨rfl, rfl⟩)
  go_ret
  exact ⟨rfl, New.refl _⟩
theorem tclear_bad (m : Int) (h : Tb w tb fb mb t) (hp : ¬ (0 ≤ m ∧ m < 4096)) : Calls Tryz.prog 93 #[.pointer (some ⟨tb, 0, none⟩), .int .i64 m] w (Said (.iface 98 (.int .i64 22)) w) := by
  have X := thas_no m h hp
  clear h hp
  go_enter Tryz.func93, Tryz.ntmps93
  go_wp2_with (go_at_call 110; (with_reducible refine (X).mono ?_); rintro e w' ⟨rfl, rfl⟩)
  go_ret
  exact ⟨rfl, New.refl _⟩
theorem tclear_none (p : Nat) (h : Tb w tb fb mb t) (h2 : Ph w mb qb many bs) (ht : t < many) (hp : p < 4096) (h0 : nm bs t (p / 64) = 0) :
    Calls Tryz.prog 93 #[.pointer (some ⟨tb, 0, none⟩), .int .i64 p] w (Said .nilIface w) := by
  have X := thas_yes p h hp
  have Y := lower_no (p / 64) h h2 ht (by omega) h0
  rw [show ((p / 64 : Nat) : Int) = (p : Int) / 64 from by omega] at Y
  have e1 : (p : Int) < 4096 := by omega
  clear h h2 ht h0
  go_enter Tryz.func93, Tryz.ntmps93
  go_wp2_with (first | (go_at_call 110; (with_reducible refine (X).mono ?_); rintro e w' ⟨rfl, rfl⟩) | (go_at_call 137; (with_reducible refine (Y).mono ?_); rintro e w1 ⟨rfl, n1⟩))
  go_ret
  exact ⟨rfl, n1⟩
theorem tclear_some (p n : Nat) (a : Nat → Prop) (h : Tb w tb fb mb t) (h1 : Fr w fb rb rs) (h2 : Ph w mb qb many bs) (hg : Good n a bs t) (hn : n ≤ many) (hp : p < 4096) (h0 : nm bs t (p / 64) ≠ 0) :
    Calls Tryz.prog 93 #[.pointer (some ⟨tb, 0, none⟩), .int .i64 p] w (DidT fb rb mb qb many rs (pt bs (lof bs t (p / 64)) (p % 64) 0) .nilIface w) := by
  obtain ⟨k1, k2, k3, k4⟩ := hg.frame (u := p / 64) (by omega) h0
  have A := ap_of h h1 h2
  have hlt := hg.lt
  have hbd := h2.bd
  have X := thas_yes p h hp
  have Z := lower_yes (p / 64) _ h h2 (by omega) (by omega) (by omega) k4
  have V := fun W (k : New w W) => tstore_any (lof bs t (p / 64)) (p % 64) 0 (h.new k) (h2.new k) (by omega) (by omega) (by omega) (by omega)
  rw [show ((p / 64 : Nat) : Int) = (p : Int) / 64 from by omega] at Z
  rw [show ((p % 64 : Nat) : Int) = (p : Int) % 64 from by omega] at V
  have e1 : (p : Int) < 4096 := by omega
  have HF := Lib.hid h1
  generalize pt bs (lof bs t (p / 64)) (p % 64) 0 = cs at *
  generalize lof bs t (p / 64) = F at *
  clear h h1 h2 hg hlt h0 k1 k2 k3 k4 hn
  go_enter Tryz.func93, Tryz.ntmps93
  go_wp2_with (first | (go_at_call 110; (with_reducible refine (X).mono ?_); rintro e w' ⟨rfl, rfl⟩) | (go_at_call 137; (with_reducible refine (Z).mono ?_); rintro e w1 ⟨rfl, n1⟩) | (go_at_call 141; (with_reducible refine (V _ n1).mono ?_); rintro e w3 ⟨rfl, p3, f3⟩))
  go_ret
  have r2 := HF.out.new n1
  exact ⟨rfl, ⟨r2.1, r2.2.1, by rw [f3.block r2.lt.1 A.2.2.2.2.2.1]; exact r2.2.2.1, by rw [f3.block r2.lt.2 A.2.2.2.2.2.2.2.2]; exact r2.2.2.2⟩, p3, (But.of_new _ n1).trans (But.of_far f3 (.inr rfl))⟩
end
end Go.Proofs.YtgedimlhldfkaaaGreatDoor
namespace Go.Proofs.YtgedimlhldfkaaaGreatDoor
open Go.RowKit Go.Shelf
set_option linter.unusedVariables false
/-- below B nothing has changed, and no cells from B on -/
def Cel (B : Nat) (W W' : World) : Prop := W'.os = W.os ∧ W'.tape = W.tape ∧ W'.output = W.output ∧ W.heap.size ≤ W'.heap.size ∧ ∀ k, k < W.heap.size → (k < B ∨ ∃ o, W.heap[k]? = some o ∧ o.isCells = true) → W'.heap[k]? = W.heap[k]?
theorem Cel.of_new {W W' : World} (B : Nat) (h : New W W') : Cel B W W' := ⟨h.os, h.tape, h.output, h.size, fun k hk _ => h.block hk⟩
theorem Cel.put {W : World} {B l : Nat} {o : Obj} (o' : Obj) (hB : B ≤ l) (hl : W.heap[l]? = some o) (ho : o.isCells = false) : Cel B W (W.putObj l o') :=
  ⟨rfl, rfl, rfl, by simp, fun k hk hs => World.putObj_heap_other (by
    rintro rfl
    rcases hs with hs | ⟨q, hq, hc⟩
    · omega
    · rw [hl] at hq; cases hq; rw [ho] at hc; cases hc)⟩
theorem But.cel {S : Nat → Prop} {B : Nat} {w W W' : World} (h : But S w W) (k : Cel B W W') (hB : w.heap.size ≤ B) : But S w W' :=
  ⟨k.1.trans h.1, k.2.1.trans h.2.1, k.2.2.1.trans h.2.2.1, Nat.le_trans h.2.2.2.1 k.2.2.2.1, fun i hi hn => (k.2.2.2.2 i (Nat.lt_of_lt_of_le hi h.2.2.2.1) (.inl (by omega))).trans (h.2.2.2.2 i hi hn)⟩
theorem New.cel {B : Nat} {w W W' : World} (h : New w W) (k : Cel B W W') (hB : w.heap.size ≤ B) : New w W' :=
  ⟨k.1.trans h.os, k.2.1.trans h.tape, k.2.2.1.trans h.output, Nat.le_trans h.size k.2.2.2.1, fun i hi => (k.2.2.2.2 i (Nat.lt_of_lt_of_le hi h.size) (.inl (by omega))).trans (h.block hi)⟩
theorem Box.cel {B n : Nat} {W W' : World} {cs : Array Value} {t : TypeId} (h : Box W n cs t) (k : Cel B W W') : Box W' n cs t := by
  unfold Box; rw [k.2.2.2.2 n h.lt (.inr ⟨_, h, rfl⟩)]; exact h
theorem keeps_new {W W' : World} (h : New W W') : KeepsOthers W W' := ⟨h.size, fun k o hk _ => by rw [h.block (Array.getElem?_eq_some_iff.1 hk).1]; exact hk⟩
theorem keeps_far {W W' : World} {rb : Nat} (h : Far rb W W') (hr : ∃ o, W.heap[rb]? = some o ∧ o.isCells = true) : KeepsOthers W W' := ⟨h.size, fun k o hk ho => by
  obtain ⟨q, hq, hc⟩ := hr
  rw [h.block (Array.getElem?_eq_some_iff.1 hk).1 (by rintro rfl; rw [hk] at hq; cases hq; rw [ho] at hc; cases hc)]; exact hk⟩
/-- what a round may change as far as the iterator goes: block rb, and whatever lies from n0 on -/
def Kept (rb n0 : Nat) (W W' : World) : Prop := But (fun k => k = rb ∨ n0 ≤ k) W W'
/-- how the body of a round is left -/
def onPost {α : Type} (rb n0 : Nat) (I : List α → World → Prop) (xs : List α) (W : World) : Exit → Act → World → Prop
  | .normal, _, W' => KeepsOthers W W' ∧ Kept rb n0 W W' ∧ I xs W'
  | _, _, _ => False
/-- an iterator that is a method value: all of xs come, one by one, whatever the rounds do that leave rb and what lies from n0 on -/
def Iter {α : Type} (P : Program) (gf : Nat) (fs : Array Value) (encs : α → Array Value) (rb n0 : Nat) (xs : List α) (w : World) : Prop :=
  ∀ (l : Nat) (J : List α → World → Prop) (W : World), New w W → (∀ pre W1 W2, J pre W1 → New W1 W2 → J pre W2) →
    (∀ pre x W1, J pre W1 → pre ++ [x] <+: xs → YieldAt Fence.wide 1 P l (encs x) W1 fun e W' => e = .returned (.bool true) ∧ J (pre ++ [x]) W' ∧ Kept rb n0 W1 W') →
    J [] W → CallsIn Fence.wide 2 P gf (fs ++ #[.func (.yield l) #[] #[]]) W fun e W' => (∃ v, e = .returned v) ∧ J xs W'
theorem range_all {α : Type} {P : Program} {g : Operand} {ps : Array Tmp} {assign body : Code} {Q : Exit → Act → World → Prop} {a : Act} {w : World} {gf : Nat} {fs : Array Value} (hg : a.eval g = .func (.func gf) fs #[])
    (eg : ∀ args w, (callFunc gf args).run P w = .ok (.enter gf args) w) {encs : α → Array Value} {rb n0 : Nat} {xs : List α} (hseq : Iter P gf fs encs rb n0 xs w) (hn : n0 ≤ w.heap.size) (hps : ∀ x, (encs x).size = ps.size)
    (I : List α → World → Prop) (hI : ∀ pre W W', I pre W → Cel w.heap.size W W' → I pre W') (h0 : I [] w) (a₁ : α → Act)
    (hassign : ∀ (l : Nat) (x : α) (W : World) (K : Act → World → Prop), K (a₁ x) W →
      assign.wpIn (Fence.wide.inRound l) 1 P (Exit.then K (fun _ _ _ => False)) { tmps := (ps.zip (encs x)).foldl (fun t (p, v) => t.setIfInBounds p v) a.tmps, defers := [] } W)
    (hbody : ∀ (l : Nat) (pre : List α) (x : α) (W : World), I pre W → pre ++ [x] <+: xs → w.heap.size ≤ W.heap.size → body.wpIn (Fence.wide.inRound l) 1 P (onPost rb n0 I (pre ++ [x]) W) (a₁ x) W)
    (hdone : ∀ (D : Nat) (W : World), w.heap.size ≤ D → I xs W → W.heap[D]? = some (.deferred (some [])) → Q .normal { a with defers := { target := .collected D, args := #[] } :: a.defers } W) :
    (Code.rangeFunc g ps assign body).wpIn Fence.wide 3 P Q a w := by
  refine wpIn_rangeFunc fun fn hfn => ?_
  obtain ⟨B, hB⟩ : ∃ B, B = w.heap.size := ⟨_, rfl⟩
  obtain ⟨R, hR⟩ : ∃ R : LoopState → Loop, R = fun st => { state := st, pending := none, fn, tmps := a.tmps, params := ps, assign, body, defers := B } := ⟨_, rfl⟩
  obtain ⟨W1, e1⟩ : ∃ W1, W1 = (w.alloc (.deferred (some []))).alloc (.loop (R .ready)) := ⟨_, rfl⟩
  have n1 : New w W1 := by rw [e1]; exact ((New.refl w).allocO _).allocO _
  have r1 : W1.heap[B + 1]? = some (.loop (R .ready)) := by
    have := World.alloc_heap_new (w.alloc (.deferred (some []))) (.loop (R .ready)); rw [e1]; rwa [World.size_alloc, ← hB] at this
  have d1 : W1.heap[B]? = some (.deferred (some [])) := by
    rw [e1, hB]; exact (Below.heap_alloc _ _ _ (by simp)).trans (World.alloc_heap_new w _)
  refine ⟨B + 1, [{ target := .collected B, args := #[] }], W1, { target := .fn (.func gf) #[], args := fs ++ #[.func (.yield (B + 1)) #[] #[]] }, W1, gf,
    fs ++ #[.func (.yield (B + 1)) #[] #[]], W1, ?_, ?_, fun _ _ => trivial, ?_, fun _ => by omega, ?_⟩
  · rw [e1, hR, hB]; exact run_enterLoop_outer _ _ _ _ _
  · simp only [resolve, hg]
    simp [go_sem]
  · simp [invoke, go_sem, eg]
  have hI' : ∀ pre W1 W2, I pre W1 → New W1 W2 → I pre W2 := fun pre W1 W2 h k => hI pre W1 W2 h (Cel.of_new _ k)
  have put : ∀ pre W o, I pre W → W.heap[B + 1]? = some (.loop (R o)) → ∀ q, I pre (W.putObj (B + 1) (.loop (R q))) := fun pre W o h k q => hI pre W _ h (Cel.put _ (by omega) k rfl)
  refine (hseq (B + 1) (fun pre W => I pre W ∧ W.heap[B + 1]? = some (.loop (R .ready)) ∧ W.heap[B]? = some (.deferred (some []))) _ n1 ?_ ?_ ⟨hI' _ _ _ h0 n1, r1, d1⟩).mono ?_
  · rintro pre W1 W2 ⟨i1, i2, i3⟩ k
    exact ⟨hI' _ _ _ i1 k, by rw [k.block (Array.getElem?_eq_some_iff.1 i2).1]; exact i2, by rw [k.block (Array.getElem?_eq_some_iff.1 i3).1]; exact i3⟩
  · rintro pre x W ⟨i1, i2, i3⟩ hx
    have lt := (Array.getElem?_eq_some_iff.1 i2).1
    have hy := run_yield (P := P) (args := encs x) i2 (by rw [hR]; exact hps x)
    rw [hR] at hy
    refine ⟨fn, _, assign, body, hy, roundIn_of_wpIn hfn (hassign _ x W _ ⟨_, run_beginRound i2 (by rw [hR]), ?_⟩)⟩
    have e2 : ({ R .ready with state := .busy } : Loop) = R .busy := by rw [hR]
    rw [e2]
    have j2 : (W.putObj (B + 1) (.loop (R .busy))).heap[B + 1]? = some (.loop (R .busy)) := World.putObj_heap_same lt
    have j3 : (W.putObj (B + 1) (.loop (R .busy))).heap[B]? = some (.deferred (some [])) := (World.putObj_heap_other (by omega)).trans i3
    refine wpIn_mono (hbody _ pre x _ (put _ _ _ i1 i2 _) hx (by simp; omega)) ?_
    rintro e a3 W3 hp
    cases e with
    | normal =>
      obtain ⟨k1, k2, k3⟩ := hp
      have l2 := k1.same _ _ j2 rfl
      have l3 := k1.same _ _ j3 rfl
      have lt3 := (Array.getElem?_eq_some_iff.1 l2).1
      have hr := run_endRound (P := P) none l2
      have e3 : ({ R .busy with state := .ready, pending := none } : Loop) = R .ready := by rw [hR]
      simp only [Option.isNone_none, if_true, e3] at hr
      refine ⟨_, _, hr, rfl, ⟨put _ _ _ k3 l2 _, World.putObj_heap_same lt3, (World.putObj_heap_other (by omega)).trans l3⟩, ?_⟩
      have p1 : Kept rb n0 W (W.putObj (B + 1) (.loop (R .busy))) := ⟨rfl, rfl, rfl, by simp, fun k hk hs => World.putObj_heap_other (by rintro rfl; exact hs (.inr (by omega)))⟩
      have p3 : Kept rb n0 W3 (W3.putObj (B + 1) (.loop (R .ready))) := ⟨rfl, rfl, rfl, by simp, fun k hk hs => World.putObj_heap_other (by rintro rfl; exact hs (.inr (by omega)))⟩
      exact (p1.trans k2).trans p3
    | ret => exact hp.elim
    | exit id => exact hp.elim
    | goto t => exact hp.elim
    | panic ch => exact hp.elim
    | outgrown => exact hp.elim
  · rintro e W2 ⟨⟨v, rfl⟩, i1, i2, i3⟩
    have hr := run_endLoop (P := P) i2 (by rw [hR]; simp)
    have e4 : (R .ready).pending = none := by rw [hR]
    rw [e4] at hr
    refine ⟨none, _, hr, hdone B _ (by omega) (hI _ _ _ i1 (Cel.put _ (by omega) i2 rfl)) ((World.putObj_heap_other (by omega)).trans i3)⟩
end Go.Proofs.YtgedimlhldfkaaaGreatDoor
namespace Go.Proofs.YtgedimlhldfkaaaGreatDoor
open Go.RowKit Go.Shelf
set_option linter.unusedVariables false
set_option maxRecDepth 100000
attribute [local go_sem] Oper.semAt_some
section
variable {w : World} {tb fb rb mb qb t many n : Nat} {rs bs : List Int} {a : Nat → Prop} {v : Value}
theorem Ph.but {w' : World} {S : Nat → Prop} (h : Ph w mb qb many bs) (k : But S w w') (h1 : ¬ S mb) (h2 : ¬ S qb) : Ph w' mb qb many bs :=
  ⟨h.1, h.2.1, h.2.2.1, h.2.2.2.1, h.2.2.2.2.1, by rw [k.block h.lt.1 h1]; exact h.2.2.2.2.2.1, by rw [k.block h.lt.2 h2]; exact h.2.2.2.2.2.2⟩
theorem Fr.but {w' : World} {S : Nat → Prop} (h : Fr w fb rb rs) (k : But S w w') (h1 : ¬ S fb) (h2 : ¬ S rb) : Fr w' fb rb rs :=
  ⟨h.1, h.2.1, by rw [k.block h.lt.1 h1]; exact h.2.2.1, by rw [k.block h.lt.2 h2]; exact h.2.2.2⟩
set_option maxHeartbeats 2000000 in
theorem uppers_iter (h : Tb w tb fb mb t) (h2 : Ph w mb qb many bs) (hg : Good n a bs t) (hn : n ≤ many) (ch n0 : Nat) (hz : n0 ≤ w.heap.size) (k1 : tb < n0) (k2 : mb < n0) (k3 : qb < n0) (r1 : tb ≠ ch) (r2 : mb ≠ ch) (r3 : qb ≠ ch) :
    Iter Tryz.prog 88 #[.pointer (some ⟨tb, 0, none⟩)] (fun x : Nat × Nat => #[.int .i64 x.1, .int .i64 x.2]) ch n0 (ups bs t 64) w := fun l J W nW hJ hY h0 => by
  have hlt := hg.lt
  have hbd := h2.bd
  have G := isgone_no (h.new nW)
  have HL := Lib.hid (fun W' (k : Kept ch n0 W W') (u : Nat) (hu : u < 64) (hz : nm bs t u = 0) => lower_no u (Box.but (h.new nW) k (by omega) : Tb W' tb fb mb t) ((h2.new nW).but k (by omega) (by omega)) (by omega) hu hz)
  have HM := Lib.hid (fun W' (k : Kept ch n0 W W') (u : Nat) (hu : u < 64) (hz : nm bs t u ≠ 0) => lower_yes u (lof bs t u) (Box.but (h.new nW) k (by omega) : Tb W' tb fb mb t) ((h2.new nW).but k (by omega) (by omega)) (by omega) hu (by have := (hg.frame hu hz).1; omega) (hg.frame hu hz).2.2.2)
  have HY := Lib.hid hY
  have HJ := Lib.hid hJ
  clear hY hJ h h2 hg hz k1 k2 k3 r1 r2 r3
  refine callsIn_of_wp Tryz.func88 rfl trivial ?_ rfl
  simp only [Tryz.ntmps88, List.size_toArray, List.length_cons, List.length_nil, Nat.reduceAdd, Nat.reduceSub, Array.replicate_succ, Array.replicate_zero, List.push_toArray, List.append_toArray, List.nil_append, List.cons_append]
  gi_wp2_with (refine ⟨trivial, ?_⟩; gi_at_call 94; refine (callsIn_wide.2 G).mono ?_; rintro e w' ⟨rfl, rfl⟩)
  gi_loopw [9] (fun i wr => ∃ k : Nat, k ≤ 64 ∧ i = .int .i64 k ∧ J (ups bs t k) wr ∧ Kept ch n0 W wr) (fun i _ => 64 - (intOf i).toNat)
  case atStart => exact ⟨0, by omega, rfl, h0, But.refl _ _⟩
  case round =>
    obtain ⟨k, hk, rfl, hj, hb⟩ := hrel
    by_cases c : k < 64
    · have P := Lib.hid (ups_prefix bs t (k + 1) (64 - (k + 1)))
      by_cases d : nm bs t k = 0
      · have X := HL.out _ hb k c d
        have E := Lib.hid (ups_skip d)
        clear d
        gi_wp2_with (refine ⟨trivial, ?_⟩; gi_at_call 137; refine (callsIn_wide.2 X).mono ?_; rintro e w1 ⟨rfl, n1⟩)
        refine ⟨fun _ h => (by cases h), ?_⟩
        gi_wp2
        go_roundw
        case rel => exact ⟨k + 1, by omega, by go_num, by rw [E.out]; exact HJ.out _ _ _ hj n1, But.trans hb (But.of_new _ n1)⟩
        case measure => simp [intOf]; omega
      · have X := HM.out _ hb k c d
        have E := Lib.hid (ups_push d)
        clear d
        gi_wp2_with (refine ⟨trivial, ?_⟩; gi_at_call 137; refine (callsIn_wide.2 X).mono ?_; rintro e w1 ⟨rfl, n1⟩; obtain ⟨fn, tmps, assign, body, hy, hR⟩ := HY.out (ups bs t k) (k, lof bs t k) w1 (HJ.out _ _ _ hj n1) (by rw [← E.out]; have := P.out; rwa [show k + 1 + (64 - (k + 1)) = 64 from by omega] at this); dsimp only at hy)
        refine hR.mono ?_
        rintro e w2 ⟨rfl, j2, b2⟩
        gi_wp2
        go_roundw
        case rel => exact ⟨k + 1, by omega, by go_num, by rw [E.out]; exact j2, But.trans hb (But.trans (But.of_new _ n1) b2)⟩
        case measure => simp [intOf]; omega
    · obtain rfl : k = 64 := by omega
      gi_wp2
      go_end0
      exact ⟨⟨_, rfl⟩, hj⟩
end
end Go.Proofs.YtgedimlhldfkaaaGreatDoor
namespace Go.Proofs.YtgedimlhldfkaaaGreatDoor
open Go.RowKit Go.Shelf
set_option linter.unusedVariables false
set_option maxRecDepth 100000
attribute [local go_sem] Oper.semAt_some
section
variable {w : World} {tb fb rb mb qb t many n : Nat} {rs bs : List Int} {a : Nat → Prop} {v : Value}
theorem tframes_gone (h : Gone w v) : Calls Tryz.prog 59 #[v] w fun e w' => e = .returned (.int .i64 0) ∧ w = w' := by
  have X := isgone_yes h
  clear h
  go_enter Tryz.func59, Tryz.ntmps59
  go_wp2_with (go_at_call 94; (with_reducible refine (X).mono ?_); rintro e w' ⟨rfl, rfl⟩)
  go_ret
  exact ⟨rfl, rfl⟩
set_option maxHeartbeats 2000000 in
theorem tframes_any (h : Tb w tb fb mb t) (h2 : Ph w mb qb many bs) (hg : Good n a bs t) (hn : n ≤ many) :
    Calls Tryz.prog 59 #[.pointer (some ⟨tb, 0, none⟩)] w (IntN (1 + nup bs t 64) w) := by
  refine (callsIn_wide (n := 3)).1 ?_
  have G := isgone_no h
  have l1 := Box.lt h
  have l2 := h2.lt
  have hmf : ∀ (fn : Fn) (first cap : Array Value) (w : World), (Instr.makeFunc fn first cap).run Tryz.prog w = .ok (.func fn first cap) w := fun _ _ _ _ => rfl
  have nn : New w (w.alloc (.cells #[.int .i64 1] 3)) := (New.refl w).alloc _ _
  have HI := Lib.hid (uppers_iter (h.new nn) (h2.new nn) hg hn w.heap.size w.heap.size (by simp) l1 l2.1 l2.2 (by omega) (by omega) (by omega))
  have HU := Lib.hid (ups_len bs t 64)
  refine callsIn_of_wp_marks Tryz.func59 rfl trivial ?_ rfl
  simp only [Tryz.ntmps59, List.size_toArray, List.length_cons, List.length_nil, Nat.reduceAdd, Nat.reduceSub, Array.replicate_succ, Array.replicate_zero, List.push_toArray, List.append_toArray, List.nil_append, List.cons_append]
  gi_wp2_with (refine ⟨trivial, ?_⟩; gi_at_call 94; refine (callsIn_wide.2 G).mono ?_; rintro e w' ⟨rfl, rfl⟩)
  refine range_all (gf := 88) (fs := #[.pointer (some ⟨tb, 0, none⟩)]) rfl (enters_of Tryz.func88 (by kernel_rfl) rfl) HI.out (by simp) (fun _ => rfl)
    (fun pre W => Box W w.heap.size #[.int .i64 (1 + (pre.length : Int))] 3 ∧ New w W)
    (fun pre W W' hi hc => ⟨hi.1.cel hc, hi.2.cel hc (by simp)⟩) ⟨Box.here _ _ _ _ rfl, nn⟩
    (fun x => { tmps := #[.pointer (some ⟨tb, 0, none⟩), undef, .int .i64 0, .pointer (some ⟨w.heap.size, 0, none⟩), .pointer (some ⟨tb, 0, none⟩), .bool false, .pointer (some ⟨tb, 0, none⟩), .func (.func 88) #[.pointer (some ⟨tb, 0, none⟩)] #[], .int .i64 x.1, .int .i64 x.2, undef, undef, undef], defers := [] }) ?assign ?body ?done
  case assign =>
    intro l x W K hK
    gi_wp2
    simpa using hK
  case body =>
    rintro l pre x W ⟨hb, hw⟩ hx hz
    have hl : pre.length + 1 ≤ 64 := by have := hx.length_le; have := HU.out; simp at *; omega
    have hc := hb.one
    have hf := hb.unfrozen 0
    have hb' := hb.set 0 (.int .i64 (1 + (pre.length : Int) + 1))
    gi_wp2
    refine ⟨KeepsOthers.setCell _ _ _, ?_, ?_, hw.setCell (Nat.le_refl _) _⟩
    · exact ⟨rfl, rfl, rfl, by simp [World.setCell], fun k hk hs => Below.heap_setCell W _ _ k (fun e => hs (.inl e))⟩
    · rw [List.length_append, List.length_singleton, Int.natCast_add, ← Int.add_assoc]; exact hb'
  case done =>
    rintro D W hD ⟨hb, hw⟩ hK
    have hc := hb.one
    gi_wp2
    refine ⟨by simp, .inl ⟨_, _, rfl, run_takeDeferred hK, ?_⟩⟩
    exact ⟨_, results_tmp rfl _ _ _, rfl, hw.cel (Cel.put (B := w.heap.size) _ (by simp at hD; omega) hK rfl) (Nat.le_refl _)⟩
theorem uppers_gone (h : Gone w v) (ch n0 : Nat) : Iter Tryz.prog 88 #[v] (fun x : Nat × Nat => #[.int .i64 x.1, .int .i64 x.2]) ch n0 [] w := fun l J W nW hJ hY h0 => by
  have G := isgone_yes (h.new nW)
  clear hY hJ h
  refine callsIn_of_wp Tryz.func88 rfl trivial ?_ rfl
  simp only [Tryz.ntmps88, List.size_toArray, List.length_cons, List.length_nil, Nat.reduceAdd, Nat.reduceSub, Array.replicate_succ, Array.replicate_zero, List.push_toArray, List.append_toArray, List.nil_append, List.cons_append]
  gi_wp2_with (refine ⟨trivial, ?_⟩; gi_at_call 94; refine (callsIn_wide.2 G).mono ?_; rintro e w' ⟨rfl, rfl⟩)
  refine bodyPost_ret (results_none rfl _ _ _) rfl ?_
  exact ⟨⟨_, rfl⟩, h0⟩
theorem Own.cel {B base : Nat} {W W' : World} {v : Value} {l : List Int} (h : Own base W v l) (k : Cel B W W') : Own base W' v l := by
  refine ⟨h.1, ?_⟩
  rcases h.2 with hn | ⟨g, cap, cur, rfl, hb, hg, rest⟩
  · exact .inl hn
  · exact .inr ⟨g, cap, cur, rfl, hb, by rw [k.2.2.2.2 g (Array.getElem?_eq_some_iff.1 hg).1 (.inr ⟨_, hg, rfl⟩)]; exact hg, rest⟩
theorem Own.keeps {base : Nat} {W W1 : World} {v : Value} {l : List Int} (h : Own base W v l) (hg : W.grownBy W1 v.ownBlock) : KeepsOthers W W1 :=
  KeepsOthers.of_grownBy hg fun j o e ho => by
    rcases h.2 with ⟨rfl, _⟩ | ⟨g, cap, cur, rfl, hb, hg, rest⟩
    · cases e
    · cases e; rw [hg] at ho; cases ho; rfl
theorem Own.kept {base : Nat} {W W1 : World} {v : Value} {l : List Int} (h : Own base W v l) (hg : W.grownBy W1 v.ownBlock) (ch : Nat) : Kept ch base W W1 :=
  ⟨hg.os, hg.tape, hg.output, hg.size, fun k hk hs => hg.block k hk (fun e => by
    have := (World.ownsRow.lt h k e.symm).1
    exact hs (.inr this))⟩
theorem Own.box {base n : Nat} {W W1 : World} {v : Value} {l : List Int} {cs : Array Value} {ty : TypeId} (h : Own base W v l) (hg : W.grownBy W1 v.ownBlock) (b : Box W n cs ty) (ht : ty ≠ 3) : Box W1 n cs ty := by
  unfold Box
  rw [hg.block n b.lt (fun e => ?_)]
  · exact b
  · rcases h.2 with ⟨rfl, _⟩ | ⟨g, cap, cur, rfl, hb, hg, rest⟩
    · cases e
    · cases e
      unfold Box at b
      rw [hg] at b; cases b; exact ht rfl
theorem Own.off {base n : Nat} {W : World} {v : Value} {l : List Int} {cs : Array Value} {ty : TypeId} (h : Own base W v l) (b : Box W n cs ty) (ht : ty ≠ 3) (i : Nat) (x : Value) : Own base (W.setCell ⟨n, i, none⟩ x) v l := by
  refine ⟨h.1, ?_⟩
  rcases h.2 with hn | ⟨g, cap, cur, rfl, hb, hg, rest⟩
  · exact .inl hn
  · refine .inr ⟨g, cap, cur, rfl, hb, ?_, rest⟩
    rw [Below.heap_setCell _ _ _ _ (fun (e : g = n) => by subst e; unfold Box at b; rw [hg] at b; cases b; exact ht rfl)]; exact hg
/-- between two rounds of Pages: what it has collected, its two boxes -/
def Coll (w : World) (tb : Nat) (l : List Int) (W : World) : Prop :=
  ∃ v, Box W (w.heap.size + 1) #[v] 43 ∧ Own w.heap.size W v l ∧ Box W w.heap.size #[.pointer (some ⟨tb, 0, none⟩)] 101 ∧ New w W
theorem Coll.cel {w W W' : World} {tb : Nat} {l : List Int} (h : Coll w tb l W) {B : Nat} (k : Cel B W W') (hB : w.heap.size ≤ B) : Coll w tb l W' := by
  obtain ⟨v, h1, h2, h3, h4⟩ := h
  exact ⟨v, h1.cel k, h2.cel k, h3.cel k, h4.cel k hB⟩
theorem Coll.new {w W W' : World} {tb : Nat} {l : List Int} (h : Coll w tb l W) (k : New W W') : Coll w tb l W' := by
  obtain ⟨v, h1, h2, h3, h4⟩ := h
  exact ⟨v, h1.new k, h2.new k, h3.new k, h4.trans k⟩
set_option maxHeartbeats 2000000 in
theorem tpages_any (h : Tb w tb fb mb t) (h2 : Ph w mb qb many bs) (hg : Good n a bs t) (hn : n ≤ many) :
    Calls Tryz.prog 44 #[.pointer (some ⟨tb, 0, none⟩)] w (Lists (pgs (pgn bs t) 4096) w) := by
  refine (callsIn_wide (n := 3)).1 ?_
  obtain ⟨i0, hi, hz0, hz1, hz2⟩ := info_parts int_info
  have l1 := Box.lt h
  have l2 := h2.lt
  have hmf : ∀ (fn : Fn) (first cap : Array Value) (w : World), (Instr.makeFunc fn first cap).run Tryz.prog w = .ok (.func fn first cap) w := fun _ _ _ _ => rfl
  have nn : New w ((w.alloc (.cells #[.pointer (some ⟨tb, 0, none⟩)] 101)).alloc (.cells #[.slice none 0 0] 43)) := ((New.refl w).alloc _ _).alloc _ _
  have HI := Lib.hid (uppers_iter (h.new nn) (h2.new nn) hg hn w.heap.size w.heap.size (by simp; omega) l1 l2.1 l2.2 (by omega) (by omega) (by omega))
  have HU := Lib.hid (ups_len bs t 64)
  have HG := Lib.hid hg
  have HT := Lib.hid h
  have HP := Lib.hid h2
  refine callsIn_of_wp_marks Tryz.func44 rfl trivial ?_ rfl
  simp only [Tryz.ntmps44, List.size_toArray, List.length_cons, List.length_nil, Nat.reduceAdd, Nat.reduceSub, Array.replicate_succ, Array.replicate_zero, List.push_toArray, List.append_toArray, List.nil_append, List.cons_append]
  gi_wp2
  refine range_all (gf := 88) (fs := #[.pointer (some ⟨tb, 0, none⟩)]) rfl (enters_of Tryz.func88 (by kernel_rfl) rfl) HI.out (by simp; omega) (fun _ => rfl)
    (fun pre W => Coll w tb (pgl (pgn bs t) pre) W)
    (fun pre W W' hi hc => hi.cel hc (by simp; omega)) ⟨_, Box.here _ _ _ _ (by simp), Own.nil _ _, (Box.here w _ _ _ rfl).alloc _, nn⟩
    (fun x => { tmps := #[.pointer (some ⟨tb, 0, none⟩), .pointer (some ⟨w.heap.size, 0, none⟩), .slice none 0 0, .pointer (some ⟨w.heap.size + 1, 0, none⟩), .int .i64 x.1, .int .i64 x.2, undef, undef, undef, .pointer (some ⟨tb, 0, none⟩), .func (.func 88) #[.pointer (some ⟨tb, 0, none⟩)] #[], .int .i64 x.1, .int .i64 x.2,
      undef, undef, undef, undef, undef, undef, undef, undef, undef, undef, undef, undef, undef, undef, undef, undef, undef, undef, undef, undef], defers := [] }) ?assign ?body ?done
  case assign =>
    intro l x W K hK
    gi_wp2
    simpa using hK
  case body =>
    rintro l pre x W hI hx hz
    have hmem : x ∈ ups bs t 64 := hx.subset (by simp)
    obtain ⟨m1, m2, m3⟩ := ups_mem hmem
    have hlen : (pgl (pgn bs t) pre).length ≤ 4096 := by have := pgl_len (pgn bs t) pre; have := hx.length_le; have := HU.out; simp at *; omega
    obtain ⟨g1, g2, g3, g4⟩ := HG.out.frame m1 m2
    have hn4 : x.2 < many := by rw [m3]; omega
    have hpn : ∀ q, q < 64 → Pn (nm bs x.2 q) := fun q hq => by have := HG.out.pg x.1 q m1 hq m2; rw [m3]; exact this
    have hpp : ∀ q, q < 64 → pgn bs t (x.1 * 64 + q) = nm bs x.2 q := fun q hq => by rw [m3]; exact pgn_part bs t x.1 q hq m2
    have E := Lib.hid (pgl_push (pgn bs t) pre x)
    obtain ⟨u, F⟩ := x
    dsimp only at *
    have H1 := Lib.hid hpn
    have H2 := Lib.hid hpp
    have e1 : (u : Int) < 64 := by omega
    clear hpn hpp g1 g2 g3 g4 m2 m3 hmem hx
    gi_wp2
    gi_loopw [13] (fun i wr => ∃ q : Nat, q ≤ 64 ∧ i = .int .i64 q ∧ Coll w tb (pgl (pgn bs t) pre ++ pgk (pgn bs t) u q) wr ∧ KeepsOthers W wr ∧ Kept w.heap.size w.heap.size W wr) (fun i _ => 64 - (intOf i).toNat)
    case atStart => exact ⟨0, by omega, rfl, by simpa [pgk] using hI, KeepsOthers.refl _, But.refl _ _⟩
    case round =>
      obtain ⟨q, hq, rfl, hc, ho, hk⟩ := hrel
      by_cases c : q < 64
      · have hl2 := pgk_len (pgn bs t) u q
        obtain ⟨LL, hLL⟩ : ∃ LL, LL = pgl (pgn bs t) pre ++ pgk (pgn bs t) u q := ⟨_, rfl⟩
        have hl3 : LL.length ≤ 5000 := by rw [hLL, List.length_append]; omega
        rw [← hLL] at hc
        have HLL := Lib.hid hLL
        clear hLL
        obtain ⟨v, b1, o1, b2, nw1⟩ := id hc
        have X := fun V (k : New wr V) => tload_any F q ((HT.out.new nw1).new k) ((HP.out.new nw1).new k) hn4 c
        have t1 := b1.one
        have t2 := b2.one
        have z1 := b1.lt
        by_cases d : nm bs F q = 0
        · have Y := tload_zero F q (HT.out.new nw1) (HP.out.new nw1) hn4 c d
          have P := Lib.hid (pgk_skip (f := pgn bs t) (u := u) (k := q) (by rw [H2.out q c]; exact d))
          clear X d
          gi_wp2_with (refine ⟨trivial, ?_⟩; gi_at_call 89; refine (CallsIn.inRound l (callsIn_wide.2 Y)).mono ?_; rintro e w1 ⟨rfl, n1⟩)
          go_roundw
          case rel => exact ⟨q + 1, by omega, by go_num, by rw [P.out, ← HLL.out]; exact hc.new (n1.alloc _ _), ho.trans (keeps_new (n1.alloc _ _)), But.trans hk (But.of_new _ (n1.alloc _ _))⟩
          case measure => simp [intOf]; omega
        · have hp1 : 1 ≤ nm bs F q ∧ EnNum (nm bs F q) := by
            rcases H1.out q c with h | h
            · exact absurd h d
            · exact h
          have Y := tload_is F q (HT.out.new nw1) (HP.out.new nw1) hn4 c hp1.1 hp1.2
          have P := Lib.hid (pgk_push (f := pgn bs t) (u := u) (k := q) (by rw [H2.out q c]; exact d))
          have hv := nm_bd HP.out.oct F q
          generalize nm bs F q = V at *
          clear X d hp1
          gi_wp2_with (first
            | (refine ⟨trivial, ?_⟩; gi_at_call 89; refine (CallsIn.inRound l (callsIn_wide.2 Y)).mono ?_; rintro e w1 ⟨rfl, n1⟩; have nA := n1.alloc #[.int .i64 (V / 256), .int .u8 (V % 8), .bool (cwb V)] 117; have o2 := o1.new nA; have b1' := b1.new nA; have t1' := b1'.one)
            | (gi_at_builtin; refine wpListIn_append_own _ rfl _ _ 43 rfl w.heap.size 3 i0 (.int .i64 0) 1 8 Tryz.underlying43 hi hz0 hz1 hz2 rfl (by decide) _ _ _ rfl (World.ownsRow.alloc o2 _) ⟨w1.heap.size + 1, 0, none⟩ 1 1 [.int .i64 ((u : Int) * 64 + q)] rfl rfl ?c1 ?c2 ?c3 ?c4 ?c5 ?_))
          case c1 => intro i u' hu; rcases i with _ | i <;> simp at hu; subst hu; exact (World.cell?_alloc_at _ _ _ _ (by simp)).trans rfl
          case c2 => intro u' hu; simp at hu; subst hu; rfl
          case c3 => unfold maxLen; omega
          case c4 => omega
          case c5 => have := nw1.size; have := n1.size; simp; omega
          intro v' w2 hown' hgrow _
          obtain ⟨o3, nB⟩ := Own.push (nw1.trans nA) rfl o2 hown' hgrow
          have oA : Own w.heap.size ((w1.alloc (.cells #[.int .i64 (V / 256), .int .u8 (V % 8), .bool (cwb V)] 117)).alloc (.cells #[.int .i64 ((u : Int) * 64 + q)] 3)) v LL := o2.new ((New.refl _).alloc _ _)
          have k1 := ho.trans ((keeps_new (nA.alloc _ _)).trans (oA.keeps hgrow))
          have k2 : Kept w.heap.size w.heap.size W w2 := But.trans hk (But.trans (But.of_new _ (nA.alloc _ _)) (oA.kept hgrow w.heap.size))
          have bA : Box w2 (w.heap.size + 1) #[v] 43 := oA.box hgrow (b1'.alloc _) (by decide)
          have bB : Box w2 w.heap.size #[.pointer (some ⟨tb, 0, none⟩)] 101 := oA.box hgrow ((b2.new nA).alloc _) (by decide)
          obtain ⟨p2, cap2, rfl⟩ := o3.ints.len
          rw [List.length_append, List.length_singleton] at o3
          have t3 := bA.one
          have f3 := bA.unfrozen 0
          have PP := Lib.hid (show pgl (pgn bs t) pre ++ pgk (pgn bs t) u (q + 1) = LL ++ [(u : Int) * 64 + q] from by rw [P.out, ← List.append_assoc, ← HLL.out]; simp)
          have O4 := Lib.hid (fun x => o3.off bA (by decide) 0 x)
          have B4 := Lib.hid (fun x => bA.set 0 x)
          have B5 := Lib.hid (fun x => bB.other (p := ⟨w.heap.size + 1, 0, none⟩) (by simp) x)
          clear hown' hgrow oA o3 o2 o1 b1 b1' b2 t1 t1' t2 hc
          gi_wp2
          go_roundw
          case rel => exact ⟨q + 1, by omega, by go_num, by rw [PP.out]; exact ⟨_, B4.out _, O4.out _, B5.out _, nB.setCell (by simp) _⟩, k1.trans (KeepsOthers.setCell _ _ _), But.trans k2 ⟨rfl, rfl, rfl, by simp [World.setCell], fun k hk hs => Below.heap_setCell w2 _ _ k (fun e => hs (.inr (by show w.heap.size ≤ k; rw [e]; simp)))⟩⟩
          case measure => simp [intOf]; omega
      · obtain rfl : q = 64 := by omega
        gi_wp2
        exact ⟨ho, hk, by show Coll w tb (pgl (pgn bs t) (pre ++ [(u, F)])) wr; rw [E.out]; exact hc⟩
  case done =>
    rintro D W hD hI hK
    rw [pgl_ups, show 64 * 64 = 4096 from rfl] at hI
    obtain ⟨v, hb, hown, _, hw⟩ := hI
    have hc := hb.one
    obtain ⟨p, cap, rfl⟩ := hown.ints.len
    gi_wp2
    refine ⟨by simp, .inl ⟨_, _, rfl, run_takeDeferred hK, ?_⟩⟩
    have hce := Cel.put (W := W) (B := w.heap.size) (.deferred none) (by simp at hD; omega) hK rfl
    exact ⟨.slice p (pgs (pgn bs t) 4096).length cap, by simp [results, Tryz.results44, go_sem], _, rfl, hown.cel hce, hw.cel hce (Nat.le_refl _)⟩
end
end Go.Proofs.YtgedimlhldfkaaaGreatDoor
namespace Go.Proofs.YtgedimlhldfkaaaGreatDoor
open Go.RowKit Go.Shelf
set_option linter.unusedVariables false
set_option maxRecDepth 100000
attribute [local go_sem] Oper.semAt_some
/-- frames given back, each of which was had once -/
def giv (rs : List Int) (l : List Nat) : List Int := l.foldl (fun r x => r.set x 0) rs
theorem giv_push (rs : List Int) (l : List Nat) (x : Nat) : giv rs (l ++ [x]) = (giv rs l).set x 0 := by simp [giv]
theorem giv_len (rs : List Int) (l : List Nat) : (giv rs l).length = rs.length := by
  induction l generalizing rs with
  | nil => rfl
  | cons x l ih => show (giv (rs.set x 0) l).length = _; rw [ih]; simp
theorem giv_get (rs : List Int) (l : List Nat) (j : Nat) : (giv rs l).getD j 0 = if j ∈ l then 0 else rs.getD j 0 := by
  induction l generalizing rs with
  | nil => simp [giv]
  | cons x l ih =>
    show (giv (rs.set x 0) l).getD j 0 = _
    rw [ih]
    by_cases c : j ∈ l
    · rw [if_pos c, if_pos (List.mem_cons_of_mem _ c)]
    · rw [if_neg c]
      by_cases d : j = x
      · subst d
        rw [if_pos (List.mem_cons_self)]
        by_cases e : j < rs.length
        · rw [getD_set _ _ _ _ e, if_pos rfl]
        · exact getD_out _ _ (by simp; omega)
      · rw [if_neg (by simp [d, c])]
        by_cases e : x < rs.length
        · rw [getD_set _ _ _ _ e, if_neg d]
        · rw [List.set_eq_of_length_le (by omega)]
theorem giv_same (rs : List Int) {l m : List Nat} (h : ∀ j, j ∈ l ↔ j ∈ m) : giv rs l = giv rs m := by
  apply ext_getD (by rw [giv_len, giv_len])
  intro j _
  rw [giv_get, giv_get]
  by_cases c : j ∈ l
  · rw [if_pos c, if_pos ((h j).1 c)]
  · rw [if_neg c, if_neg (fun d => c ((h j).2 d))]
theorem ups_pre {bs : List Int} {t k : Nat} {pre : List (Nat × Nat)} {x : Nat × Nat} (h : pre ++ [x] <+: ups bs t k) : pre = ups bs t x.1 ∧ x ∈ ups bs t k := by
  refine ⟨?_, h.subset (by simp)⟩
  induction k with
  | zero => have := h.length_le; simp [ups] at this
  | succ k ih =>
    by_cases d : nm bs t k = 0
    · rw [ups_skip d] at h; exact ih h
    · rw [ups_push d] at h
      rcases List.prefix_concat_iff.1 h with e | e
      · obtain ⟨e1, e2⟩ := List.append_inj' e rfl
        simp at e2
        subst e2
        exact e1
      · exact ih e
/-- all frames of a table -/
def own (bs : List Int) (t : Nat) : List Nat := (ups bs t 64).map (·.2) ++ [t]
section
variable {w : World} {tb fb rb mb qb t many n : Nat} {rs bs : List Int} {v : Value}
theorem Fr.cel {B : Nat} {W W' : World} (h : Fr W fb rb rs) (k : Cel B W W') : Fr W' fb rb rs := ⟨h.1, h.2.1, Box.cel h.boxes.1 k, Box.cel h.boxes.2 k⟩
theorem Ph.cel {B : Nat} {W W' : World} (h : Ph W mb qb many bs) (k : Cel B W W') : Ph W' mb qb many bs := ⟨h.1, h.2.1, h.2.2.1, h.2.2.2.1, h.2.2.2.2.1, Box.cel h.boxes.1 k, Box.cel h.boxes.2 k⟩
theorem tfree_gone (h : Gone w v) : Calls Tryz.prog 49 #[v] w fun e w' => e = .returned (.tuple #[]) ∧ New w w' := by
  have X := fun W (k : New w W) => isgone_yes (h.new k)
  obtain ⟨p, rfl⟩ : ∃ p, v = .pointer p := by
    rcases h with rfl | ⟨tb, rfl, _⟩
    · exact ⟨_, rfl⟩
    · exact ⟨_, rfl⟩
  have n0 := (New.refl w).alloc #[.pointer p] 101
  have Y := X _ n0
  clear h X
  go_enter Tryz.func49, Tryz.ntmps49
  go_wp2_with (go_at_call 94; (with_reducible refine (Y).mono ?_); rintro e w' ⟨rfl, rfl⟩)
  refine bodyPost_ret (results_none rfl _ _ _) rfl ?_
  exact ⟨rfl, n0⟩
theorem tpages_gone (h : Gone w v) : Calls Tryz.prog 44 #[v] w (Said (.slice none 0 0) w) := by
  refine (callsIn_wide (n := 3)).1 ?_
  obtain ⟨p, rfl⟩ : ∃ p, v = .pointer p := by
    rcases h with rfl | ⟨tb, rfl, _⟩
    · exact ⟨_, rfl⟩
    · exact ⟨_, rfl⟩
  have hmf : ∀ (fn : Fn) (first cap : Array Value) (w : World), (Instr.makeFunc fn first cap).run Tryz.prog w = .ok (.func fn first cap) w := fun _ _ _ _ => rfl
  have nn : New w ((w.alloc (.cells #[.pointer p] 101)).alloc (.cells #[.slice none 0 0] 43)) := ((New.refl w).alloc _ _).alloc _ _
  have HI := Lib.hid (uppers_gone (h.new nn) w.heap.size w.heap.size)
  refine callsIn_of_wp_marks Tryz.func44 rfl trivial ?_ rfl
  simp only [Tryz.ntmps44, List.size_toArray, List.length_cons, List.length_nil, Nat.reduceAdd, Nat.reduceSub, Array.replicate_succ, Array.replicate_zero, List.push_toArray, List.append_toArray, List.nil_append, List.cons_append]
  gi_wp2
  refine range_all (gf := 88) (fs := #[.pointer p]) rfl (enters_of Tryz.func88 (by kernel_rfl) rfl) HI.out (by simp; omega) (fun _ => rfl)
    (fun pre W => Box W (w.heap.size + 1) #[.slice none 0 0] 43 ∧ New w W)
    (fun pre W W' hi hc => ⟨hi.1.cel hc, hi.2.cel hc (by simp; omega)⟩) ⟨Box.here _ _ _ _ (by simp), nn⟩
    (fun x => { tmps := #[.pointer p, .pointer (some ⟨w.heap.size, 0, none⟩), .slice none 0 0, .pointer (some ⟨w.heap.size + 1, 0, none⟩), .int .i64 x.1, .int .i64 x.2, undef, undef, undef, .pointer p, .func (.func 88) #[.pointer p] #[], .int .i64 x.1, .int .i64 x.2,
      undef, undef, undef, undef, undef, undef, undef, undef, undef, undef, undef, undef, undef, undef, undef, undef, undef, undef, undef, undef], defers := [] }) ?assign ?body ?done
  case assign =>
    intro l x W K hK
    gi_wp2
    simpa using hK
  case body =>
    rintro l pre x W hI hx hz
    have := hx.length_le
    simp at this
  case done =>
    rintro D W hD ⟨hb, hw⟩ hK
    have hc := hb.one
    gi_wp2
    refine ⟨by simp, .inl ⟨_, _, rfl, run_takeDeferred hK, ?_⟩⟩
    exact ⟨.slice none 0 0, by simp [results, Tryz.results44, go_sem], rfl, hw.cel (Cel.put (B := w.heap.size) _ (by simp at hD; omega) hK rfl) (Nat.le_refl _)⟩
/-- what Free leaves -/
def Freed (tb fb rb mb qb many : Nat) (rs bs : List Int) (w : World) (e : Ending) (w' : World) : Prop := e = .returned (.tuple #[]) ∧ Tb0 w' tb ∧ Fr w' fb rb rs ∧ Ph w' mb qb many bs ∧ But (fun k => k = rb ∨ k = tb) w w'
/-- between two rounds of Free -/
def Giv (w : World) (tb fb rb mb qb t many : Nat) (rs bs : List Int) (W : World) : Prop :=
  Fr W fb rb rs ∧ Tb W tb fb mb t ∧ Ph W mb qb many bs ∧ Box W w.heap.size #[.pointer (some ⟨tb, 0, none⟩)] 101 ∧ But (fun k => k = rb) w W
set_option maxHeartbeats 2000000 in
theorem tfree_any (h : Tb w tb fb mb t) (h1 : Fr w fb rb rs) (h2 : Ph w mb qb many bs) (hm : rs.length ≤ many) (hg : Good rs.length (fun i => rs.getD i 0 = 1) bs t) :
    Calls Tryz.prog 49 #[.pointer (some ⟨tb, 0, none⟩)] w (Freed tb fb rb mb qb many (giv rs (own bs t)) bs w) := by
  refine (callsIn_wide (n := 3)).1 ?_
  have A := ap_of h h1 h2
  have l1 := Box.lt h
  have l2 := h2.lt
  have l3 := h1.lt
  have hmf : ∀ (fn : Fn) (first cap : Array Value) (w : World), (Instr.makeFunc fn first cap).run Tryz.prog w = .ok (.func fn first cap) w := fun _ _ _ _ => rfl
  have nn : New w (w.alloc (.cells #[.pointer (some ⟨tb, 0, none⟩)] 101)) := (New.refl w).alloc _ _
  have HI := Lib.hid (uppers_iter (h.new nn) (h2.new nn) hg hm rb w.heap.size (by simp) l1 l2.1 l2.2 A.1 A.2.2.2.2.2.2.1 (Ne.symm A.2.2.2.2.2.2.2.2))
  have G := isgone_no (h.new nn)
  have HG := Lib.hid hg
  have hstart : Giv w tb fb rb mb qb t many (giv rs []) bs (w.alloc (.cells #[.pointer (some ⟨tb, 0, none⟩)] 101)) := ⟨h1.new nn, h.new nn, h2.new nn, Box.here _ _ _ _ rfl, But.of_new _ nn⟩
  clear h h1 h2 hg
  refine callsIn_of_wp_marks Tryz.func49 rfl trivial ?_ rfl
  simp only [Tryz.ntmps49, List.size_toArray, List.length_cons, List.length_nil, Nat.reduceAdd, Nat.reduceSub, Array.replicate_succ, Array.replicate_zero, List.push_toArray, List.append_toArray, List.nil_append, List.cons_append]
  gi_wp2_with (refine ⟨trivial, ?_⟩; gi_at_call 94; refine (callsIn_wide.2 G).mono ?_; rintro e w' ⟨rfl, rfl⟩)
  refine range_all (gf := 88) (fs := #[.pointer (some ⟨tb, 0, none⟩)]) rfl (enters_of Tryz.func88 (by kernel_rfl) rfl) HI.out (by simp) (fun _ => rfl)
    (fun (pre : List (Nat × Nat)) W => Giv w tb fb rb mb qb t many (giv rs (pre.map (fun x : Nat × Nat => x.2))) bs W)
    (fun pre W W' hi hc => ⟨hi.1.cel hc, Box.cel hi.2.1 hc, hi.2.2.1.cel hc, hi.2.2.2.1.cel hc, hi.2.2.2.2.cel hc (by simp)⟩) hstart
    (fun x => { tmps := #[.pointer (some ⟨tb, 0, none⟩), .pointer (some ⟨w.heap.size, 0, none⟩), undef, .int .i64 x.2, .pointer (some ⟨tb, 0, none⟩), .bool false, .pointer (some ⟨tb, 0, none⟩), .func (.func 88) #[.pointer (some ⟨tb, 0, none⟩)] #[], .int .i64 x.1, .int .i64 x.2,
      undef, undef, undef, undef, undef, undef, undef, undef, undef, undef, undef, undef, undef, undef, undef, undef, undef, undef], defers := [] }) ?assign ?body ?done
  case assign =>
    intro l x W K hK
    gi_wp2
    simpa using hK
  case body =>
    rintro l pre x W ⟨i1, i2, i3, i4, i5⟩ hx hz
    obtain ⟨e1, hmem⟩ := ups_pre hx
    obtain ⟨m1, m2, m3⟩ := ups_mem hmem
    obtain ⟨g1, g2, g3, g4⟩ := HG.out.frame m1 m2
    rw [← m3] at g1 g2 g3
    have hne : x.2 ∉ pre.map (·.2) := by
      intro hc
      obtain ⟨y, hy, ey⟩ := List.mem_map.1 hc
      rw [e1] at hy
      obtain ⟨y1, y2, y3⟩ := ups_mem hy
      have := HG.out.apart (u := y.1) (s := x.1) (by omega) m1 y2 m2 (by rw [← y3, ← m3]; exact ey)
      omega
    have hone : (giv rs (pre.map (·.2))).getD x.2 0 = 1 := by rw [giv_get, if_neg hne]; exact g2
    have X := did_unref x.2 i1 (by rw [giv_len]; exact g1) (by omega)
    rw [hone] at X
    have hset : giv rs ((pre ++ [x]).map (·.2)) = (giv rs (pre.map (·.2))).set x.2 (1 - 1) := by rw [List.map_append, List.map_singleton, giv_push]; rfl
    have HS := Lib.hid hset
    obtain ⟨u0, u1, u2⟩ := i2.cells
    have v0 := i4.one
    have I2 := Lib.hid i2
    have I3 := Lib.hid i3
    have I4 := Lib.hid i4
    have hbx := i1.boxes.2
    clear hset hone hne e1 g1 g2 g3 g4 m2 m3 hmem hx i1 i2 i3 i4
    gi_wp2_with (refine ⟨trivial, ?_⟩; gi_at_call 92; refine (CallsIn.inRound l (callsIn_wide.2 X)).mono ?_; rintro e w1 ⟨rfl, r1, f1⟩)
    have b1 : But (fun k => k = rb) W w1 := But.of_far f1 rfl
    refine ⟨keeps_far f1 ⟨_, hbx, rfl⟩, b1.mono (fun i _ hi => .inl hi), ?_⟩
    show Giv w tb fb rb mb qb t many (giv rs ((pre ++ [x]).map (·.2))) bs w1
    rw [HS.out]
    exact ⟨r1, Box.but I2.out b1 A.1, I3.out.but b1 A.2.2.2.2.2.2.1 (Ne.symm A.2.2.2.2.2.2.2.2), I4.out.but b1 (by omega), i5.trans b1⟩
  case done =>
    rintro D W hD ⟨i1, i2, i3, i4, i5⟩ hK
    have hg := HG.out
    have hne : t ∉ (ups bs t 64).map (·.2) := by
      intro hc
      obtain ⟨y, hy, ey⟩ := List.mem_map.1 hc
      obtain ⟨y1, y2, y3⟩ := ups_mem hy
      exact (hg.frame y1 y2).2.2.1 (by rw [← y3]; exact ey)
    have hone : (giv rs ((ups bs t 64).map (·.2))).getD t 0 = 1 := by rw [giv_get, if_neg hne]; exact hg.mine
    have X := fun W' (k : New W W') => did_unref t (i1.new k) (by rw [giv_len]; exact hg.lt) (by omega)
    rw [hone] at X
    have hset : giv rs (own bs t) = (giv rs ((ups bs t 64).map (·.2))).set t (1 - 1) := by rw [own, giv_push]; rfl
    rw [← hset] at X
    obtain ⟨u0, u1, u2⟩ := i2.cells
    have v0 := i4.one
    have HX := Lib.hid X
    clear hset hone hne hg X
    gi_wp2
    refine wpIn_wide.2 ?_
    go_still_tail 8, (by kernel_rfl)
    change wpList _ _ _ _ _ W.drew
    have nD : New W W.drew := (New.refl W).drew
    have Y := HX.out _ nD
    have I2 := Lib.hid (i2.new nD)
    have I3 := Lib.hid (i3.new nD)
    have I4 := Lib.hid (i4.new nD)
    have b0 : But (fun k => k = rb ∨ k = tb) w W.drew := (i5.mono (fun i _ hi => .inl hi)).trans (But.of_new _ nD)
    have K0 : W.drew.heap[D]? = some (.deferred (some [])) := hK
    have hbx := (i1.new nD).boxes.2
    have hsz : w.heap.size ≤ W.drew.heap.size := b0.size
    clear i1 i2 i3 i4 i5 hK u0 u1 u2 v0 HX nD
    generalize W.drew = W2 at *
    go_wp2_with (go_at_call 92; refine Y.mono ?_; rintro e w1 ⟨rfl, r1, f1⟩; have b1 : But (fun k => k = rb) W2 w1 := But.of_far f1 rfl; have t1 := Box.but I2.out b1 A.1; have p1 := I3.out.but b1 A.2.2.2.2.2.2.1 (Ne.symm A.2.2.2.2.2.2.2.2); have x1 := I4.out.but b1 (by omega); have v1 := x1.one; obtain ⟨s1, c0, c1, c2, q0, q1, q2⟩ := Box.three' t1)
    have K1 := (keeps_far f1 ⟨_, hbx, rfl⟩).same D _ K0 rfl
    have K2 := (((KeepsOthers.setCell w1 ⟨tb, 0, none⟩ (.pointer none)).trans (KeepsOthers.setCell _ ⟨tb, 1, none⟩ (.pointer none))).trans (KeepsOthers.setCell _ ⟨tb, 2, none⟩ (.int .i64 0))).same D _ K1 rfl
    have T2 := ((Box.set t1 0 (.pointer none)).set 1 (.pointer none)).set 2 (.int .i64 0)
    have f2 : But (fun k => k = tb) w1 (((w1.setCell ⟨tb, 0, none⟩ (.pointer none)).setCell ⟨tb, 1, none⟩ (.pointer none)).setCell ⟨tb, 2, none⟩ (.int .i64 0)) :=
      ((But.of_far (S := fun k => k = tb) (Far.set w1 tb 0 _) rfl).trans (But.of_far (S := fun k => k = tb) (Far.set _ tb 1 _) rfl)).trans (But.of_far (S := fun k => k = tb) (Far.set _ tb 2 _) rfl)
    have bb := (b0.trans (b1.mono (fun i _ hi => .inl hi))).trans (f2.mono (fun i _ hi => .inr hi))
    have R2 := Fr.but r1 f2 (Ne.symm A.2.2.1) (Ne.symm A.1)
    have P2 := p1.but f2 (Ne.symm A.2.2.2.1) (Ne.symm A.2.1)
    clear b0 b1 f2 r1 p1 t1 x1
    gi_wp2
    refine ⟨by simp, .inl ⟨_, _, rfl, run_takeDeferred K2, ?_⟩⟩
    have hce := Cel.put (B := w.heap.size) (.deferred none) (by simp at hD; omega) K2 rfl
    exact ⟨_, results_none rfl _ _ _, rfl, Box.cel T2 hce, R2.cel hce, P2.cel hce, bb.cel hce (Nat.le_refl _)⟩
end
end Go.Proofs.YtgedimlhldfkaaaGreatDoor
