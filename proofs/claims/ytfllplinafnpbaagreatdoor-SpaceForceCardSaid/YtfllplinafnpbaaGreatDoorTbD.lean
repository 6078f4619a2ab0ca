/- What the package of tables of two levels does: a table made, a page's entry asked for, laid down and taken away: contracts, for any table in any frames of bytes, in any world. -/
import Derived.Test.YtfllplinafnpbaaGreatDoorTbC
namespace Go.Proofs.YtfllplinafnpbaaGreatDoor
open Go.RowKit
set_option linter.unusedVariables false
set_option maxRecDepth 100000
/-- no table, or none any more -/
def Gone (w : World) (v : Value) : Prop := v = .pointer none ∨ ∃ tb, v = .pointer (some ⟨tb, 0, none⟩) ∧ Tb0 w tb
theorem Gone.new {w w' : World} {v : Value} (h : Gone w v) (k : New w w') : Gone w' v := h.imp id fun ⟨tb, e, h⟩ => ⟨tb, e, h.new k⟩
theorem Gone.none (w : World) : Gone w (.pointer none) := .inl rfl
section
variable {w : World} {tb fb rb mb qb t many : Nat} {rs bs : List Int} {v : Value}
theorem isgone_no (h : Tb w tb fb mb t) : Calls Tryz.prog 69 #[.pointer (some ⟨tb, 0, none⟩)] w fun e w' => e = .returned (.bool false) ∧ w = w' := by
  obtain ⟨t0, t1, t2⟩ := h.cells
  clear h
  go_enter Tryz.func69, Tryz.ntmps69
  go_wp2
  go_ret
  exact ⟨rfl, rfl⟩
theorem isgone_yes (h : Gone w v) : Calls Tryz.prog 69 #[v] w fun e w' => e = .returned (.bool true) ∧ w = w' := by
  rcases h with rfl | ⟨tb, rfl, h⟩
  · go_enter Tryz.func69, Tryz.ntmps69
    go_wp2
    go_ret
    exact ⟨rfl, rfl⟩
  · obtain ⟨t0, t1, t2⟩ := h.cells
    clear h
    go_enter Tryz.func69, Tryz.ntmps69
    go_wp2
    go_ret
    exact ⟨rfl, rfl⟩
theorem thas_gone (m : Int) (h : Gone w v) : Calls Tryz.prog 85 #[v, .int .i64 m] w fun e w' => e = .returned (.bool false) ∧ w = w' := by
  have X := isgone_yes h
  clear h
  go_enter Tryz.func85, Tryz.ntmps85
  go_wp2_with (go_at_call 69; (with_reducible refine (X).mono ?_); rintro e w' ⟨rfl, rfl⟩)
  go_ret
  exact ⟨rfl, rfl⟩
theorem thas_yes (p : Nat) (h : Tb w tb fb mb t) (hp : p < 4096) : Calls Tryz.prog 85 #[.pointer (some ⟨tb, 0, none⟩), .int .i64 p] w fun e w' => e = .returned (.bool true) ∧ w = w' := by
  have X := isgone_no h
  have e1 : (p : Int) < 4096 := by omega
  have e2 : decide ((p : Int) < 4096) = true := by simpa using e1
  clear h hp
  go_enter Tryz.func85, Tryz.ntmps85
  go_wp2_with (go_at_call 69; (with_reducible refine (X).mono ?_); rintro e w' ⟨rfl, rfl⟩)
  go_ret
  exact ⟨rfl, rfl⟩
theorem thas_no (m : Int) (h : Tb w tb fb mb t) (hp : ¬ (0 ≤ m ∧ m < 4096)) : Calls Tryz.prog 85 #[.pointer (some ⟨tb, 0, none⟩), .int .i64 m] w fun e w' => e = .returned (.bool false) ∧ w = w' := by
  have X := isgone_no h
  clear h
  by_cases c : 0 ≤ m
  · have e1 : 4096 ≤ m := by omega
    have e2 : decide (m < 4096) = false := by simpa using e1
    clear hp
    go_enter Tryz.func85, Tryz.ntmps85
    go_wp2_with (go_at_call 69; (with_reducible refine (X).mono ?_); rintro e w' ⟨rfl, rfl⟩)
    go_ret
    exact ⟨rfl, rfl⟩
  · have e1 : m < 0 := by omega
    have e2 : decide (0 ≤ m) = false := by simpa using c
    clear hp c
    go_enter Tryz.func85, Tryz.ntmps85
    go_wp2_with (go_at_call 69; (with_reducible refine (X).mono ?_); rintro e w' ⟨rfl, rfl⟩)
    go_ret
    exact ⟨rfl, rfl⟩
theorem tnew_nil (v : Value) (w : World) : Calls Tryz.prog 65 #[.pointer none, v] w fun e w' => e = .returned (.tuple #[.pointer none, .iface 72 (.int .i64 22)]) ∧ w = w' := by
  go_enter Tryz.func65, Tryz.ntmps65
  go_wp2
  go_ret2
  exact ⟨rfl, rfl⟩
theorem tnew_nil2 (b : Addr) (w : World) : Calls Tryz.prog 65 #[.pointer (some b), .pointer none] w fun e w' => e = .returned (.tuple #[.pointer none, .iface 72 (.int .i64 22)]) ∧ w = w' := by
  go_enter Tryz.func65, Tryz.ntmps65
  go_wp2
  go_ret2
  exact ⟨rfl, rfl⟩
/-- a table that was made: a new block, its first frame taken and made noughts -/
def MadeT (fb rb mb qb many i : Nat) (rs bs : List Int) (w : World) (e : Ending) (w' : World) : Prop :=
  ∃ tb, e = .returned (.tuple #[.pointer (some ⟨tb, 0, none⟩), .nilIface]) ∧ w.heap.size ≤ tb ∧ Tb w' tb fb mb i ∧ Fr w' fb rb (rs.set i 1) ∧ Ph w' mb qb many (zr bs i) ∧ But (fun k => k = rb ∨ k = qb) w w'
theorem But.setT {w' : World} (h : But (fun k => k = rb ∨ k = qb) w w') {b : Nat} (hb : w.heap.size ≤ b) (j : Nat) (x : Value) : But (fun k => k = rb ∨ k = qb) w (w'.setCell ⟨b, j, none⟩ x) :=
  ⟨h.1, h.2.1, h.2.2.1, by have := h.2.2.2.1; simp [World.setCell]; omega, fun k hk hs => (Below.heap_setCell w' _ _ k (by show k ≠ b; omega)).trans (h.2.2.2.2 k hk hs)⟩
set_option maxHeartbeats 1000000 in
theorem tnew_ok (i : Nat) (h1 : Fr w fb rb rs) (h2 : Ph w mb qb many bs) (hm : rs.length ≤ many) (hi : i < rs.length) (hn : NoFree rs i) (hz : rs.getD i 0 = 0) :
    Calls Tryz.prog 65 #[.pointer (some ⟨fb, 0, none⟩), .pointer (some ⟨mb, 0, none⟩)] w (MadeT fb rb mb qb many i rs bs w) := by
  have X := many_any h2
  have Y := free_any w h1
  have Z := Lib.hid (fun w (h : Fr w fb rb rs) => taken_len w h)
  have HT := Lib.hid (fun w tb (h : Tb w tb fb mb 0) (h1 : Fr w fb rb rs) (h2 : Ph w mb qb many bs) => take_yes i h h1 h2 hm hi hn hz)
  have HF := Lib.hid h1
  have HP := Lib.hid h2
  have hk := tk_len rs rs.length
  have hb := h2.bd
  have hl := h1.1.2.1
  generalize hK : (tk rs rs.length).length = K at *
  have e1 : decide ((many : Int) < ((rs.length : Int) - K) + K) = false := by simp; omega
  have e2 : ((rs.length : Int) - K) + K ≤ many := by omega
  clear h1 h2 hm hi hn hz hK
  go_enter Tryz.func65, Tryz.ntmps65
  go_wp2_with fail
  refine X.mono ?_
  rintro e w1 ⟨rfl, rfl⟩
  go_wp2_with fail
  refine Y.mono ?_
  rintro e w1 ⟨rfl, n1⟩
  go_wp2_with fail
  refine (Z.out _ (HF.out.new n1)).mono ?_
  rintro e w2 ⟨p, cap, rfl, n2⟩
  have nn := n1.trans n2
  clear X Y n1 n2
  go_wp2_with fail
  have n3 := nn.alloc #[.pointer (some ⟨fb, 0, none⟩), .pointer (some ⟨mb, 0, none⟩), .int .i64 0] 137
  have t3 : Tb (w2.alloc (.cells #[.pointer (some ⟨fb, 0, none⟩), .pointer (some ⟨mb, 0, none⟩), .int .i64 0] 137)) w2.heap.size fb mb 0 := Box.here _ _ _ _ rfl
  have A := ap_of t3 (HF.out.new n3) (HP.out.new n3)
  refine (HT.out _ _ t3 (HF.out.new n3) (HP.out.new n3)).mono ?_
  rintro e w4 ⟨rfl, r4, p4, b4⟩
  have t4 := t3.but b4 A.1 A.2.1
  have T5 := Lib.hid (show Tb (w4.setCell ⟨w2.heap.size, 2, none⟩ (.int .i64 i)) w2.heap.size fb mb i from Box.set t4 2 _)
  obtain ⟨hz, u0, u1, u2, f0, f1, f2⟩ := Box.three' t4
  have bb : But (fun k => k = rb ∨ k = qb) w w4 := (But.of_new _ n3).trans b4
  have hs := nn.size
  clear t3 t4 n3 nn b4
  go_wp2
  go_ret2
  refine ⟨w2.heap.size, rfl, hs, T5.out, ?_, ?_, bb.setT hs 2 _⟩
  · exact ⟨r4.1, r4.2.1, by rw [Below.heap_setCell _ _ _ _ (Ne.symm A.2.2.1)]; exact r4.2.2.1, by rw [Below.heap_setCell _ _ _ _ (Ne.symm A.1)]; exact r4.2.2.2⟩
  · exact ⟨p4.1, p4.2.1, p4.2.2.1, p4.2.2.2.1, p4.2.2.2.2.1, by rw [Below.heap_setCell _ _ _ _ (Ne.symm A.2.2.2.1)]; exact p4.2.2.2.2.2.1, by rw [Below.heap_setCell _ _ _ _ (Ne.symm A.2.1)]; exact p4.2.2.2.2.2.2⟩
/-- what Get answers -/
noncomputable def gotE (v : Int) (er : Value) : Value := .tuple #[.agg #[.int .i64 (dcf v), .int .u8 (dcp v), .bool (dcc v)], .bool (dcb v), er]
theorem gotE_zero (er : Value) : gotE 0 er = .tuple #[.agg #[.int .i64 0, .int .u8 0, .bool false], .bool false, er] := by
  obtain ⟨e1, e2, e3, e4⟩ := dc_zero
  unfold gotE; rw [e1, e2, e3, e4]
theorem tget_gone (m : Int) (h : Gone w v) : Calls Tryz.prog 84 #[v, .int .i64 m] w fun e w' => e = .returned (gotE 0 (.iface 72 (.int .i64 22))) ∧ New w w' := by
  rw [gotE_zero]
  have X := fun W (k : New w W) => thas_gone m (h.new k)
  clear h
  go_enter Tryz.func84, Tryz.ntmps84
  go_wp2_with fail
  have n0 := (New.refl w).alloc #[.int .i64 0, .int .u8 0, .bool false] 91
  refine (X _ n0).mono ?_
  rintro e w' ⟨rfl, rfl⟩
  go_wp2
  exact bodyPost_ret (v := .tuple #[.agg #[.int .i64 0, .int .u8 0, .bool false], .bool false, .iface 72 (.int .i64 22)]) (by simp [results, Tryz.results84, go_sem]) rfl ⟨rfl, by repeat (first | exact n0 | refine New.setCell ?_ (by simp) _)⟩
theorem tget_bad (m : Int) (h : Tb w tb fb mb t) (hp : ¬ (0 ≤ m ∧ m < 4096)) : Calls Tryz.prog 84 #[.pointer (some ⟨tb, 0, none⟩), .int .i64 m] w fun e w' => e = .returned (gotE 0 (.iface 72 (.int .i64 22))) ∧ New w w' := by
  rw [gotE_zero]
  have X := fun W (k : New w W) => thas_no m (h.new k) hp
  clear h hp
  go_enter Tryz.func84, Tryz.ntmps84
  go_wp2_with fail
  have n0 := (New.refl w).alloc #[.int .i64 0, .int .u8 0, .bool false] 91
  refine (X _ n0).mono ?_
  rintro e w' ⟨rfl, rfl⟩
  go_wp2
  exact bodyPost_ret (v := .tuple #[.agg #[.int .i64 0, .int .u8 0, .bool false], .bool false, .iface 72 (.int .i64 22)]) (by simp [results, Tryz.results84, go_sem]) rfl ⟨rfl, by repeat (first | exact n0 | refine New.setCell ?_ (by simp) _)⟩
set_option maxHeartbeats 1000000 in
theorem tget_any (p n : Nat) (a : Nat → Prop) (h : Tb w tb fb mb t) (h2 : Ph w mb qb many bs) (hg : Good n a bs t) (hn : n ≤ many) (hp : p < 4096) :
    Calls Tryz.prog 84 #[.pointer (some ⟨tb, 0, none⟩), .int .i64 p] w fun e w' => e = .returned (gotE (pgn bs t p) .nilIface) ∧ New w w' := by
  have X := fun W (k : New w W) => thas_yes p (h.new k) hp
  have hlt := hg.lt
  have hbd := h2.bd
  have e1 : (p : Int) < 4096 := by omega
  by_cases c : nm bs t (p / 64) = 0
  · have Y := fun W (k : New w W) => lower_no (p / 64) (h.new k) (h2.new k) (by omega) (by omega) c
    rw [show pgn bs t p = 0 from by unfold pgn; rw [if_pos c], gotE_zero]
    rw [show ((p / 64 : Nat) : Int) = (p : Int) / 64 from by omega] at Y
    clear h h2 hg c hlt
    go_enter Tryz.func84, Tryz.ntmps84
    go_wp2_with fail
    have n0 := (New.refl w).alloc #[.int .i64 0, .int .u8 0, .bool false] 91
    refine (X _ n0).mono ?_
    rintro e w' ⟨rfl, rfl⟩
    go_wp2_with fail
    refine (Y _ n0).mono ?_
    rintro e w1 ⟨rfl, n1⟩
    obtain ⟨hs, k0, k1, k2, f0, f1, f2⟩ := ((Box.here w _ #[.int .i64 0, .int .u8 0, .bool false] 91 rfl).new n1).three'
    have nn := n0.trans n1
    clear X Y n0 n1
    go_wp2
    exact bodyPost_ret (v := .tuple #[.agg #[.int .i64 0, .int .u8 0, .bool false], .bool false, .nilIface]) (by simp [results, Tryz.results84, go_sem, k0, k1, k2]) rfl ⟨rfl, by repeat (first | exact nn | refine New.setCell ?_ (by simp) _)⟩
  · obtain ⟨g1, g2, g3, g4⟩ := hg.frame (u := p / 64) (by omega) c
    have Y := fun W (k : New w W) => lower_yes (p / 64) _ (h.new k) (h2.new k) (by omega) (by omega) (by omega) g4
    have Z := fun W (k : New w W) => tload_any (lof bs t (p / 64)) (p % 64) (h.new k) (h2.new k) (by omega) (by omega)
    rw [show pgn bs t p = nm bs (lof bs t (p / 64)) (p % 64) from by unfold pgn; rw [if_neg c]]
    rw [show ((p / 64 : Nat) : Int) = (p : Int) / 64 from by omega] at Y
    rw [show ((p % 64 : Nat) : Int) = (p : Int) % 64 from by omega] at Z
    unfold Ent at Z
    unfold gotE
    generalize nm bs (lof bs t (p / 64)) (p % 64) = V at *
    generalize dcf V = x1 at *
    generalize dcp V = x2 at *
    generalize dcc V = x3 at *
    generalize dcb V = x4 at *
    generalize lof bs t (p / 64) = F at *
    clear h h2 hg c hlt g1 g2 g3 g4
    go_enter Tryz.func84, Tryz.ntmps84
    go_wp2_with fail
    have n0 := (New.refl w).alloc #[.int .i64 0, .int .u8 0, .bool false] 91
    refine (X _ n0).mono ?_
    rintro e w' ⟨rfl, rfl⟩
    go_wp2_with fail
    refine (Y _ n0).mono ?_
    rintro e w1 ⟨rfl, n1⟩
    go_wp2_with fail
    refine (Z _ (n0.trans n1)).mono ?_
    rintro e w2 ⟨rfl, n2⟩
    obtain ⟨hs, k0, k1, k2, f0, f1, f2⟩ := ((Box.here w _ #[.int .i64 0, .int .u8 0, .bool false] 91 rfl).new (n1.trans n2)).three'
    have nn := n0.trans (n1.trans n2)
    clear X Y Z n0 n1 n2
    go_wp2
    exact bodyPost_ret (v := .tuple #[.agg #[.int .i64 x1, .int .u8 x2, .bool x3], .bool x4, .nilIface]) (by simp [results, Tryz.results84, go_sem, k0, k1, k2, hs]) rfl ⟨rfl, by repeat (first | exact nn | refine New.setCell ?_ (by simp) _ | refine New.alloc ?_ _ _)⟩
end
end Go.Proofs.YtfllplinafnpbaaGreatDoor
