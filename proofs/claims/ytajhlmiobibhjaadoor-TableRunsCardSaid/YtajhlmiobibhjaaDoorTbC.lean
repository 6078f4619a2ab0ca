/- What the package of tables of two levels does with one upper part: its frame, a new one, an entry laid down: contracts, for any table in any frames of bytes, in any world. -/
import Derived.Test.YtajhlmiobibhjaaDoorTbB
namespace Go.Proofs.YtajhlmiobibhjaaDoor
open Go.RowKit
set_option linter.unusedVariables false
set_option maxRecDepth 100000
theorem dc_zero : dcf 0 = 0 ∧ dcp 0 = 0 ∧ dcc 0 = false ∧ dcb 0 = false := by
  rcases dc_cases 0 (by omega) with ⟨_, e1, e2, e3, e4, _⟩ | ⟨h, _⟩ | ⟨h, _⟩
  · exact ⟨e1, e2, e3, e4⟩
  · omega
  · omega
theorem dc_is {v : Int} (h : 1 ≤ v) (k : EnNum v) : dcf v = v / 256 ∧ dcp v = v % 8 ∧ dcc v = cwb v ∧ dcb v = true := by
  rcases dc_cases v (by omega) with ⟨e, _⟩ | ⟨_, _, e1, e2, e3, e4, _⟩ | ⟨_, h2, _⟩
  · omega
  · exact ⟨e1, e2, e3, e4⟩
  · exact absurd k h2
theorem dc_upn (i : Nat) (h : i < 1024) : dcf (upn i) = i ∧ dcp (upn i) = 1 ∧ dcc (upn i) = false ∧ dcb (upn i) = true := by
  obtain ⟨e1, e2, e3, e4⟩ := dc_is (v := upn i) (by unfold upn; omega) (upn_is i h)
  rw [e1, e2, e3, e4]
  refine ⟨by unfold upn; omega, by unfold upn; omega, ?_, rfl⟩
  unfold cwb upn; simp; omega
section
variable {w : World} {tb fb rb mb qb t many n : Nat} {rs bs : List Int} {a : Nat → Prop}
theorem tload_zero (f p : Nat) (h : Tb w tb fb mb t) (h2 : Ph w mb qb many bs) (hf : f < many) (hp : p < 64) (h0 : nm bs f p = 0) :
    Calls Tryd.prog 27 #[.pointer (some ⟨tb, 0, none⟩), .int .i64 f, .int .i64 p] w fun e w' =>
      e = .returned (.tuple #[.agg #[.int .i64 0, .int .u8 0, .bool false], .bool false]) ∧ New w w' := by
  have X := tload_any f p h h2 hf hp
  rw [h0] at X
  obtain ⟨e1, e2, e3, e4⟩ := dc_zero
  unfold Ent at X
  rwa [e1, e2, e3, e4] at X
theorem tload_is (f p : Nat) (h : Tb w tb fb mb t) (h2 : Ph w mb qb many bs) (hf : f < many) (hp : p < 64) (h1 : 1 ≤ nm bs f p) (hk : EnNum (nm bs f p)) :
    Calls Tryd.prog 27 #[.pointer (some ⟨tb, 0, none⟩), .int .i64 f, .int .i64 p] w fun e w' =>
      e = .returned (.tuple #[.agg #[.int .i64 (nm bs f p / 256), .int .u8 (nm bs f p % 8), .bool (cwb (nm bs f p))], .bool true]) ∧ New w w' := by
  have X := tload_any f p h h2 hf hp
  obtain ⟨e1, e2, e3, e4⟩ := dc_is h1 hk
  unfold Ent at X
  rwa [e1, e2, e3, e4] at X
theorem tload_up (f p i : Nat) (h : Tb w tb fb mb t) (h2 : Ph w mb qb many bs) (hf : f < many) (hp : p < 64) (hi : i < 1024) (h1 : nm bs f p = upn i) :
    Calls Tryd.prog 27 #[.pointer (some ⟨tb, 0, none⟩), .int .i64 f, .int .i64 p] w fun e w' =>
      e = .returned (.tuple #[.agg #[.int .i64 i, .int .u8 1, .bool false], .bool true]) ∧ New w w' := by
  have X := tload_any f p h h2 hf hp
  rw [h1] at X
  obtain ⟨e1, e2, e3, e4⟩ := dc_upn i hi
  unfold Ent at X
  rwa [e1, e2, e3, e4] at X
theorem lower_no (u : Nat) (h : Tb w tb fb mb t) (h2 : Ph w mb qb many bs) (ht : t < many) (hu : u < 64) (h0 : nm bs t u = 0) :
    Calls Tryd.prog 26 #[.pointer (some ⟨tb, 0, none⟩), .int .i64 u] w fun e w' => e = .returned (.tuple #[.int .i64 0, .bool false]) ∧ New w w' := by
  have X := tload_zero t u h h2 ht hu h0
  obtain ⟨t0, t1, t2⟩ := h.cells
  clear h h2 ht h0 hu
  go_enter Tryd.func26, Tryd.ntmps26
  go_wp2_with (go_at_call 27; (with_reducible refine (X).mono ?_); rintro e w1 ⟨rfl, n1⟩)
  go_ret2
  exact ⟨rfl, n1.alloc _ _⟩
theorem lower_yes (u i : Nat) (h : Tb w tb fb mb t) (h2 : Ph w mb qb many bs) (ht : t < many) (hu : u < 64) (hi : i < 1024) (h0 : nm bs t u = upn i) :
    Calls Tryd.prog 26 #[.pointer (some ⟨tb, 0, none⟩), .int .i64 u] w fun e w' => e = .returned (.tuple #[.int .i64 i, .bool true]) ∧ New w w' := by
  have X := tload_up t u i h h2 ht hu hi h0
  obtain ⟨t0, t1, t2⟩ := h.cells
  clear h h2 ht h0 hu hi
  go_enter Tryd.func26, Tryd.ntmps26
  go_wp2_with (go_at_call 27; (with_reducible refine (X).mono ?_); rintro e w1 ⟨rfl, n1⟩)
  go_ret2
  exact ⟨rfl, n1.alloc _ _⟩
theorem tstore_any (f p : Nat) (v : Int) (h : Tb w tb fb mb t) (h2 : Ph w mb qb many bs) (hf : f < many) (hp : p < 64) (h0 : 0 ≤ v) (h1 : v ≤ 4294967295) :
    Calls Tryd.prog 35 #[.pointer (some ⟨tb, 0, none⟩), .int .i64 f, .int .i64 p, .int .u32 v] w (DidP mb qb many (pt bs f p v) .nilIface w) := by
  have X := wstore4 v w h0 h1
  have Y : Calls Tryd.prog 55 #[.pointer (some ⟨mb, 0, none⟩), .int .i64 f, .int .i64 (4 * (p : Int)), .slice (some ⟨w.heap.size, 0, none⟩) 4 4] (w.alloc (.cells #[.int .u8 (v % 256), .int .u8 (v / 256 % 256), .int .u8 (v / 65536 % 256), .int .u8 (v / 16777216)] 5))
      (DidP mb qb many (pt bs f p v) .nilIface (w.alloc (.cells #[.int .u8 (v % 256), .int .u8 (v / 256 % 256), .int .u8 (v / 65536 % 256), .int .u8 (v / 16777216)] 5))) := by
    have hb : Byts (w.alloc (.cells #[.int .u8 (v % 256), .int .u8 (v / 256 % 256), .int .u8 (v / 65536 % 256), .int .u8 (v / 16777216)] 5)) (.slice (some ⟨w.heap.size, 0, none⟩) 4 4) (by4 v) := byts_of_block (l := by4 v) (heap_alloc_new w _) (by simp [maxLen, by4])
    have := write_any f (4 * p) _ (by4 v) (h2.new ((New.refl w).alloc _ _)) hb (by4_oct v h0 h1) hf (by simp [by4]; omega)
    rw [show ((4 * p : Nat) : Int) = 4 * (p : Int) from by omega] at this
    exact this
  obtain ⟨t0, t1, t2⟩ := h.cells
  have hlt := Box.lt h
  have e1 : (p : Int) < 64 := by omega
  clear h h2 hf hp
  go_enter Tryd.func35, Tryd.ntmps35
  go_wp2_with (first | (go_at_call 54; (with_reducible refine (X).mono ?_); rintro e w' ⟨rfl, rfl⟩) | (go_at_call 55; (with_reducible refine (Y).mono ?_); rintro e w2 ⟨rfl, p2, f2⟩))
  go_ret
  exact ⟨rfl, p2, (Far.of_new qb ((New.refl w).alloc _ _)).trans f2⟩
theorem put_any (f p : Nat) (g q : Int) (c : Bool) (h : Tb w tb fb mb t) (h2 : Ph w mb qb many bs) (hf : f < many) (hp : p < 64) (g0 : 0 ≤ g) (g1 : g < 1024) (q0 : 0 ≤ q) (q1 : q ≤ 7) :
    Calls Tryd.prog 34 #[.pointer (some ⟨tb, 0, none⟩), .int .i64 f, .int .i64 p, .agg #[.int .i64 g, .int .u8 q, .bool c]] w (DidP mb qb many (pt bs f p (ennum g q c)) .nilIface w) := by
  have hn := ennum_is g q c g0 g1 q0 q1
  have X := fun w => encode_ok g q c w g0 g1 q0 q1
  have Y := Lib.hid (fun w (h : Tb w tb fb mb t) (h2 : Ph w mb qb many bs) => tstore_any f p (ennum g q c) h h2 hf hp hn.2.1 (by omega))
  generalize ennum g q c = v at *
  have HT := Lib.hid h
  have HP := Lib.hid h2
  clear hn h h2
  go_enter Tryd.func34, Tryd.ntmps34
  go_wp2_with fail
  refine (X _).mono ?_
  rintro e w1 ⟨rfl, n1⟩
  have nn := ((New.refl w).alloc #[.int .i64 g, .int .u8 q, .bool c] 25).trans n1
  go_wp2_with fail
  refine (Y.out _ (HT.out.new nn) (HP.out.new nn)).mono ?_
  rintro e w2 ⟨rfl, p2, f2⟩
  go_wp2
  go_ret
  exact ⟨rfl, p2, (Far.of_new qb nn).trans f2⟩
/-- an answer; the frames and the bytes then; nothing else has changed -/
def DidT (fb rb mb qb many : Nat) (rs bs : List Int) (v : Value) (w : World) (e : Ending) (w' : World) : Prop := e = .returned v ∧ Fr w' fb rb rs ∧ Ph w' mb qb many bs ∧ But (fun k => k = rb ∨ k = qb) w w'
theorem Tb.but {w' : World} (h : Tb w tb fb mb t) (k : But (fun k => k = rb ∨ k = qb) w w') (h1 : tb ≠ rb) (h2 : tb ≠ qb) : Tb w' tb fb mb t := Box.but h k (by rintro (e | e); exact h1 e; exact h2 e)
theorem take_yes (i : Nat) (h : Tb w tb fb mb t) (h1 : Fr w fb rb rs) (h2 : Ph w mb qb many bs) (hm : rs.length ≤ many) (hi : i < rs.length) (hn : NoFree rs i) (hz : rs.getD i 0 = 0) :
    Calls Tryd.prog 38 #[.pointer (some ⟨tb, 0, none⟩)] w (DidT fb rb mb qb many (rs.set i 1) (zr bs i) (.tuple #[.int .i64 i, .nilIface]) w) := by
  have A := ap_of h h1 h2
  have X := did_alloc i h1 hi hn hz
  obtain ⟨t0, t1, t2⟩ := h.cells
  have HT := Lib.hid h
  have HP := Lib.hid h2
  have hi2 : i < many := by omega
  clear h h1 h2 hn hz
  go_enter Tryd.func38, Tryd.ntmps38
  go_wp2_with fail
  refine X.mono ?_
  rintro e w1 ⟨rfl, r1, f1⟩
  have b1 : But (fun k => k = rb ∨ k = qb) w w1 := But.of_far f1 (.inl rfl)
  obtain ⟨u0, u1, u2⟩ := (HT.out.but b1 A.1 A.2.1).cells
  have p1 := HP.out.off f1 A.2.2.2.2.2.2.1 (fun e => A.2.2.2.2.2.2.2.2 e.symm)
  have Y := zero_any i p1 hi2
  clear f1 p1
  go_wp2_with fail
  refine Y.mono ?_
  rintro e w2 ⟨rfl, p2, f2⟩
  go_wp2
  go_ret2
  exact ⟨rfl, ⟨r1.1, r1.2.1, by rw [f2.block r1.lt.1 A.2.2.2.2.2.1]; exact r1.2.2.1, by rw [f2.block r1.lt.2 A.2.2.2.2.2.2.2.2]; exact r1.2.2.2⟩, p2, b1.trans (But.of_far f2 (.inr rfl))⟩
theorem take_no (h : Tb w tb fb mb t) (h1 : Fr w fb rb rs) (hn : NoFree rs rs.length) :
    Calls Tryd.prog 38 #[.pointer (some ⟨tb, 0, none⟩)] w fun e w' => e = .returned (.tuple #[.int .i64 0, .iface 73 (.int .i64 12)]) ∧ w = w' := by
  have X := alloc_none w h1 hn
  obtain ⟨t0, t1, t2⟩ := h.cells
  clear h h1 hn
  go_enter Tryd.func38, Tryd.ntmps38
  go_wp2_with (go_at_call 18; (with_reducible refine (X).mono ?_); rintro e w' ⟨rfl, rfl⟩)
  go_ret2
  exact ⟨rfl, rfl⟩
theorem reach_old (u i : Nat) (h : Tb w tb fb mb t) (h2 : Ph w mb qb many bs) (ht : t < many) (hu : u < 64) (hi : i < 1024) (h0 : nm bs t u = upn i) :
    Calls Tryd.prog 33 #[.pointer (some ⟨tb, 0, none⟩), .int .i64 u] w fun e w' => e = .returned (.tuple #[.int .i64 i, .nilIface]) ∧ New w w' := by
  have X := lower_yes u i h h2 ht hu hi h0
  clear h h2 ht h0 hu hi
  go_enter Tryd.func33, Tryd.ntmps33
  go_wp2_with (go_at_call 26; (with_reducible refine (X).mono ?_); rintro e w1 ⟨rfl, n1⟩)
  go_ret2
  exact ⟨rfl, n1⟩
theorem reach_no (u : Nat) (h : Tb w tb fb mb t) (h1 : Fr w fb rb rs) (h2 : Ph w mb qb many bs) (ht : t < many) (hu : u < 64) (h0 : nm bs t u = 0) (hn : NoFree rs rs.length) :
    Calls Tryd.prog 33 #[.pointer (some ⟨tb, 0, none⟩), .int .i64 u] w fun e w' => e = .returned (.tuple #[.int .i64 0, .iface 73 (.int .i64 12)]) ∧ New w w' := by
  have X := lower_no u h h2 ht hu h0
  have HT := Lib.hid h
  have HF := Lib.hid h1
  have HN := Lib.hid hn
  clear h h1 h2 ht h0 hu hn
  go_enter Tryd.func33, Tryd.ntmps33
  go_wp2_with fail
  refine X.mono ?_
  rintro e w1 ⟨rfl, n1⟩
  have Y := take_no (HT.out.new n1) (HF.out.new n1) HN.out
  go_wp2_with (go_at_call 38; (with_reducible refine (Y).mono ?_); rintro e w' ⟨rfl, rfl⟩)
  go_ret2
  exact ⟨rfl, n1⟩
theorem reach_new (u i : Nat) (h : Tb w tb fb mb t) (h1 : Fr w fb rb rs) (h2 : Ph w mb qb many bs) (hm : rs.length ≤ many) (ht : t < many) (hu : u < 64) (h0 : nm bs t u = 0) (hi : i < rs.length) (hn : NoFree rs i) (hz : rs.getD i 0 = 0) :
    Calls Tryd.prog 33 #[.pointer (some ⟨tb, 0, none⟩), .int .i64 u] w (DidT fb rb mb qb many (rs.set i 1) (nw bs t u i) (.tuple #[.int .i64 i, .nilIface]) w) := by
  have A := ap_of h h1 h2
  have X := lower_no u h h2 ht hu h0
  have hi2 : i < 1024 := by have := h1.1.2.1; omega
  have en : ennum (i : Int) 1 false = upn i := by unfold ennum upn cwn; simp; omega
  have HY := Lib.hid (fun w (h : Tb w tb fb mb t) (h1 : Fr w fb rb rs) (h2 : Ph w mb qb many bs) => take_yes i h h1 h2 hm hi hn hz)
  have HZ := Lib.hid (fun w bs (h : Tb w tb fb mb t) (h2 : Ph w mb qb many bs) => put_any t u (i : Int) 1 false h h2 ht hu (by omega) (by omega) (by omega) (by omega))
  have HE := Lib.hid en
  have HT := Lib.hid h
  have HF := Lib.hid h1
  have HP := Lib.hid h2
  clear h h1 h2 ht h0 hu hn hz en
  go_enter Tryd.func33, Tryd.ntmps33
  go_wp2_with fail
  refine X.mono ?_
  rintro e w1 ⟨rfl, n1⟩
  go_wp2_with fail
  refine (HY.out _ (HT.out.new n1) (HF.out.new n1) (HP.out.new n1)).mono ?_
  rintro e w2 ⟨rfl, r2, p2, b2⟩
  have T2 := (HT.out.new n1).but b2 A.1 A.2.1
  obtain ⟨u0, u1, u2⟩ := T2.cells
  have Z := HZ.out _ _ T2 p2
  rw [HE.out] at Z
  clear T2 p2
  go_wp2_with fail
  refine Z.mono ?_
  rintro e w3 ⟨rfl, p3, f3⟩
  go_wp2
  go_ret2
  exact ⟨rfl, ⟨r2.1, r2.2.1, by rw [f3.block r2.lt.1 A.2.2.2.2.2.1]; exact r2.2.2.1, by rw [f3.block r2.lt.2 A.2.2.2.2.2.2.2.2]; exact r2.2.2.2⟩, p3, (But.of_new _ n1).trans (b2.trans (But.of_far f3 (.inr rfl)))⟩
end
end Go.Proofs.YtajhlmiobibhjaaDoor
