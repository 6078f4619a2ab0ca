/- Spaces of pages in memory: what is read, written and asked for. Contracts, for any spaces over one row of frames, in any world. -/
import Derived.Test.YtgedimlhldfkaaaGreatDoorSpG
namespace Go.Proofs.YtgedimlhldfkaaaGreatDoor
open Go.RowKit
set_option linter.unusedVariables false
set_option maxRecDepth 100000
/-- bytes that were answered, in a new block; frames and bytes then; nothing else has changed -/
def GGot (k fb rb mb qb : Nat) (rs bs : List Int) (S : List Sq) (l : List Int) (w : World) (e : Ending) (w' : World) : Prop :=
  ∃ b, e = .returned (.tuple #[.slice (some ⟨b, 0, none⟩) l.length l.length, .nilIface]) ∧ w.heap.size ≤ b ∧ w'.heap[b]? = some (.cells (cells8 l).toArray 5 (0, 0)) ∧ GM w' k fb rb mb qb rs bs S ∧ But (fun g => g = rb ∨ g = qb) w w'
section
variable {w w' : World} {k fb rb mb qb : Nat} {rs bs qs cs : List Int} {S T : List Sq} {a : Nat → Prop} {i : Nat}
theorem Reach_gone {v : Value} (h : GoneS w v) (m u : Int) :
    Calls Tryz.prog 8 #[v, .int .i64 m, .int .u8 u] w fun e w' => e = .returned (.tuple #[.int .i64 0, .iface 98 (.int .i64 22)]) ∧ w = w' := by
  have X := fun b => reach_gone h m u b
  clear h
  go_enter Tryz.func8, Tryz.ntmps8
  go_wp2_with fail
  refine (X _).mono ?_
  rintro e w1 ⟨rfl, rfl⟩
  go_wp2
  go_ret2
  exact ⟨rfl, rfl⟩
theorem Reach_walk (sb : Nat) (m u : Int) (x : Int) (er : Value) (X : Calls Tryz.prog 40 #[.pointer (some ⟨sb, 0, none⟩), .int .i64 m, .int .u8 u, .bool (u == 0)] w (GDid k fb rb mb qb rs bs S (.tuple #[.int .i64 x, er]) w)) :
    Calls Tryz.prog 8 #[.pointer (some ⟨sb, 0, none⟩), .int .i64 m, .int .u8 u] w (GDid k fb rb mb qb rs bs S (.tuple #[.int .i64 x, er]) w) := by
  go_enter Tryz.func8, Tryz.ntmps8
  go_wp2_with fail
  refine X.mono ?_
  rintro e w1 ⟨rfl, h1, b1⟩
  go_wp2
  go_ret2
  exact ⟨rfl, h1, b1⟩
theorem Read_gone {v : Value} (h : GoneS w v) (at_ n u : Int) :
    Calls Tryz.prog 9 #[v, .int .u32 at_, .int .i64 n, .int .u8 u] w fun e w' => e = .returned (.tuple #[.slice none 0 0, .iface 98 (.int .i64 22)]) ∧ w = w' := by
  have X := sgone_yes h
  clear h
  go_enter Tryz.func9, Tryz.ntmps9
  go_wp2_with (go_at_call 41; (with_reducible refine (X).mono ?_); rintro e w' ⟨rfl, rfl⟩)
  go_ret2
  exact ⟨rfl, rfl⟩
theorem Read_no (h : GM w k fb rb mb qb rs bs S) (hi : i < S.length) (ho : S[i].on = true) (at_ : Nat) (n u : Int) (ha : at_ < 4294967296) (hn : -9223372036854775808 ≤ n ∧ n ≤ 9223372036854775807) (hp : plc at_ n = false) :
    Calls Tryz.prog 9 #[.pointer (some ⟨S[i].sb, 0, none⟩), .int .u32 at_, .int .i64 n, .int .u8 u] w fun e w' => e = .returned (.tuple #[.slice none 0 0, .iface 98 (.int .i64 14)]) ∧ w = w' := by
  obtain ⟨v, hb, _⟩ := (h.has hi ho).box
  have X := sgone_no hb
  have Y := place_any w at_ n ha hn
  unfold plcV at Y
  rw [if_neg (by rw [hp]; exact Bool.false_ne_true)] at Y
  clear h hb hp
  go_enter Tryz.func9, Tryz.ntmps9
  go_wp2_with fail
  refine X.mono ?_
  rintro e w1 ⟨rfl, rfl⟩
  go_wp2_with fail
  refine Y.mono ?_
  rintro e w1 ⟨rfl, rfl⟩
  go_wp2
  go_ret2
  exact ⟨rfl, rfl⟩
theorem Read_err (h : GM w k fb rb mb qb rs bs S) (hi : i < S.length) (ho : S[i].on = true) (at_ : Nat) (n u c : Int) (ha : at_ < 4294967296) (hn : -9223372036854775808 ≤ n ∧ n ≤ 9223372036854775807) (hp : plc at_ n = true)
    (X0 : Calls Tryz.prog 8 #[.pointer (some ⟨S[i].sb, 0, none⟩), .int .i64 ((at_ / 256 : Nat) : Int), .int .u8 u] w (GDid k fb rb mb qb qs cs S (.tuple #[.int .i64 0, .iface 98 (.int .i64 c)]) w)) :
    Calls Tryz.prog 9 #[.pointer (some ⟨S[i].sb, 0, none⟩), .int .u32 at_, .int .i64 n, .int .u8 u] w (GDid k fb rb mb qb qs cs S (.tuple #[.slice none 0 0, .iface 98 (.int .i64 c)]) w) := by
  obtain ⟨v, hb, _⟩ := (h.has hi ho).box
  have X := sgone_no hb
  have Y := place_any w at_ n ha hn
  unfold plcV at Y
  rw [if_pos hp] at Y
  generalize ((at_ / 256 : Nat) : Int) = pg at *
  generalize ((at_ % 256 : Nat) : Int) = off at *
  clear h hb hp
  go_enter Tryz.func9, Tryz.ntmps9
  go_wp2_with fail
  refine X.mono ?_
  rintro e w1 ⟨rfl, rfl⟩
  go_wp2_with fail
  refine Y.mono ?_
  rintro e w1 ⟨rfl, rfl⟩
  go_wp2_with fail
  refine X0.mono ?_
  rintro e w1 ⟨rfl, h1, b1⟩
  go_wp2
  go_ret2
  exact ⟨rfl, h1, b1⟩
set_option maxHeartbeats 1000000 in
theorem Read_ok (h : GM w k fb rb mb qb rs bs S) (hi : i < S.length) (ho : S[i].on = true) (at_ n : Nat) (u : Int) (f : Nat) (hf : f < k) (ha : at_ < 4294967296) (hp : plc at_ n = true)
    (X0 : Calls Tryz.prog 8 #[.pointer (some ⟨S[i].sb, 0, none⟩), .int .i64 ((at_ / 256 : Nat) : Int), .int .u8 u] w (GDid k fb rb mb qb qs cs S (.tuple #[.int .i64 f, .nilIface]) w)) :
    Calls Tryz.prog 9 #[.pointer (some ⟨S[i].sb, 0, none⟩), .int .u32 at_, .int .i64 n, .int .u8 u] w (GGot k fb rb mb qb qs cs S (cut cs (f * 256 + at_ % 256) n) w) := by
  obtain ⟨v, hb, _⟩ := (h.has hi ho).box
  have SB := (h.rbqb.2 i hi).1
  have hq := plc_iff.1 hp
  have X := sgone_no hb
  have Y := place_any w at_ n ha (by omega)
  unfold plcV at Y
  rw [if_pos hp] at Y
  have Z := fun W (H : GM W k fb rb mb qb qs cs S) => read_any f (at_ % 256) n H.ph hf (by omega)
  generalize cut cs (f * 256 + at_ % 256) n = L at *
  generalize ((at_ / 256 : Nat) : Int) = pg at *
  generalize at_ % 256 = off at *
  have HB := Lib.hid hb
  clear h hb hp hq
  go_enter Tryz.func9, Tryz.ntmps9
  go_wp2_with fail
  refine X.mono ?_
  rintro e w1 ⟨rfl, rfl⟩
  go_wp2_with fail
  refine Y.mono ?_
  rintro e w1 ⟨rfl, rfl⟩
  go_wp2_with fail
  refine X0.mono ?_
  rintro e w1 ⟨rfl, h1, b1⟩
  obtain ⟨c0, c1, c2, c3⟩ := Box.four (Box.but HB.out b1 SB)
  have Z1 := Z _ h1
  unfold Got at Z1
  go_wp2_with fail
  refine Z1.mono ?_
  rintro e w2 ⟨rfl, hx, n2⟩
  go_wp2
  go_ret2
  exact ⟨_, rfl, b1.size, hx, h1.new n2, b1.trans (But.of_new _ n2)⟩
theorem Write_gone {v : Value} (h : GoneS w v) (at_ : Int) (p : Option Addr) (n cap : Nat) (b : Bool) :
    Calls Tryz.prog 16 #[v, .int .u32 at_, .slice p n cap, .bool b] w fun e w' => e = .returned (.iface 98 (.int .i64 22)) ∧ w = w' := by
  have X := sgone_yes h
  clear h
  go_enter Tryz.func16, Tryz.ntmps16
  go_wp2_with (go_at_call 41; (with_reducible refine (X).mono ?_); rintro e w' ⟨rfl, rfl⟩)
  go_ret
  exact ⟨rfl, rfl⟩
theorem Write_no (h : GM w k fb rb mb qb rs bs S) (hi : i < S.length) (ho : S[i].on = true) (at_ : Nat) (p : Option Addr) (n cap : Nat) (b : Bool) (ha : at_ < 4294967296) (hn : n ≤ maxLen) (hp : plc at_ n = false) :
    Calls Tryz.prog 16 #[.pointer (some ⟨S[i].sb, 0, none⟩), .int .u32 at_, .slice p n cap, .bool b] w fun e w' => e = .returned (.iface 98 (.int .i64 14)) ∧ w = w' := by
  obtain ⟨v, hb, _⟩ := (h.has hi ho).box
  have hn2 : n ≤ 9223372036854775807 := by unfold maxLen at hn; omega
  have X := sgone_no hb
  have Y := place_any w at_ n ha (by unfold maxLen at hn; omega)
  unfold plcV at Y
  rw [if_neg (by rw [hp]; exact Bool.false_ne_true)] at Y
  clear h hb hp hn
  go_enter Tryz.func16, Tryz.ntmps16
  go_wp2_with fail
  refine X.mono ?_
  rintro e w1 ⟨rfl, rfl⟩
  go_wp2_with fail
  refine Y.mono ?_
  rintro e w1 ⟨rfl, rfl⟩
  go_wp2
  go_ret
  exact ⟨rfl, rfl⟩
theorem Write_err (h : GM w k fb rb mb qb rs bs S) (hi : i < S.length) (ho : S[i].on = true) (at_ : Nat) (p : Option Addr) (n cap : Nat) (b : Bool) (c : Int) (ha : at_ < 4294967296) (hn : n ≤ maxLen) (hp : plc at_ n = true)
    (X0 : Calls Tryz.prog 40 #[.pointer (some ⟨S[i].sb, 0, none⟩), .int .i64 ((at_ / 256 : Nat) : Int), .int .u8 2, .bool b] w (GDid k fb rb mb qb qs cs S (.tuple #[.int .i64 0, .iface 98 (.int .i64 c)]) w)) :
    Calls Tryz.prog 16 #[.pointer (some ⟨S[i].sb, 0, none⟩), .int .u32 at_, .slice p n cap, .bool b] w (GDid k fb rb mb qb qs cs S (.iface 98 (.int .i64 c)) w) := by
  obtain ⟨v, hb, _⟩ := (h.has hi ho).box
  have hn2 : n ≤ 9223372036854775807 := by unfold maxLen at hn; omega
  have X := sgone_no hb
  have Y := place_any w at_ n ha (by unfold maxLen at hn; omega)
  unfold plcV at Y
  rw [if_pos hp] at Y
  generalize ((at_ / 256 : Nat) : Int) = pg at *
  generalize ((at_ % 256 : Nat) : Int) = off at *
  clear h hb hp hn
  go_enter Tryz.func16, Tryz.ntmps16
  go_wp2_with fail
  refine X.mono ?_
  rintro e w1 ⟨rfl, rfl⟩
  go_wp2_with fail
  refine Y.mono ?_
  rintro e w1 ⟨rfl, rfl⟩
  go_wp2_with fail
  refine X0.mono ?_
  rintro e w1 ⟨rfl, h1, b1⟩
  go_wp2
  go_ret
  exact ⟨rfl, h1, b1⟩
set_option maxHeartbeats 1000000 in
theorem Write_ok (h : GM w k fb rb mb qb rs bs S) (hi : i < S.length) (ho : S[i].on = true) (at_ : Nat) (p : Option Addr) (cap : Nat) (l : List Int) (b : Bool) (f : Nat) (hf : f < k) (ha : at_ < 4294967296) (hp : plc at_ l.length = true) (hc : Oct l)
    (hv : BytsK (fun g => g = rb ∨ g = qb) w (.slice p l.length cap) l)
    (X0 : Calls Tryz.prog 40 #[.pointer (some ⟨S[i].sb, 0, none⟩), .int .i64 ((at_ / 256 : Nat) : Int), .int .u8 2, .bool b] w (GDid k fb rb mb qb qs cs S (.tuple #[.int .i64 f, .nilIface]) w)) :
    Calls Tryz.prog 16 #[.pointer (some ⟨S[i].sb, 0, none⟩), .int .u32 at_, .slice p l.length cap, .bool b] w (GDid k fb rb mb qb qs (splice cs (f * 256 + at_ % 256) l) S .nilIface w) := by
  obtain ⟨v, hb, _⟩ := (h.has hi ho).box
  have SB := (h.rbqb.2 i hi).1
  have hq := plc_iff.1 hp
  have X := sgone_no hb
  have Y := place_any w at_ l.length ha (by omega)
  unfold plcV at Y
  rw [if_pos hp] at Y
  have Z := fun W (H : GM W k fb rb mb qb qs cs S) hv => g_write H f (at_ % 256) (.slice p l.length cap) l hv hc hf (by omega)
  have hn2 : l.length ≤ 9223372036854775807 := by omega
  generalize splice cs (f * 256 + at_ % 256) l = L at *
  generalize ((at_ / 256 : Nat) : Int) = pg at *
  generalize at_ % 256 = off at *
  have HB := Lib.hid hb
  clear h hb hp hq
  go_enter Tryz.func16, Tryz.ntmps16
  go_wp2_with fail
  refine X.mono ?_
  rintro e w1 ⟨rfl, rfl⟩
  go_wp2_with fail
  refine Y.mono ?_
  rintro e w1 ⟨rfl, rfl⟩
  go_wp2_with fail
  refine X0.mono ?_
  rintro e w1 ⟨rfl, h1, b1⟩
  obtain ⟨c0, c1, c2, c3⟩ := Box.four (Box.but HB.out b1 SB)
  have Z1 := Z _ h1 (hv _ b1)
  go_wp2_with fail
  refine Z1.mono ?_
  rintro e w2 ⟨rfl, h2, b2⟩
  go_wp2
  go_ret
  exact ⟨rfl, h2, b1.trans b2⟩
theorem Own_gone {v : Value} (h : GoneS w v) : Calls Tryz.prog 19 #[v] w (IntN 0 w) := by
  have X := sgone_yes h
  clear h
  go_enter Tryz.func19, Tryz.ntmps19
  go_wp2_with (go_at_call 41; (with_reducible refine (X).mono ?_); rintro e w' ⟨rfl, rfl⟩)
  go_ret
  exact ⟨rfl, New.refl _⟩
theorem Own_any (h : GM w k fb rb mb qb rs bs S) (hi : i < S.length) (ho : S[i].on = true) (gd : Good k a bs S[i].t) : Calls Tryz.prog 19 #[.pointer (some ⟨S[i].sb, 0, none⟩)] w (IntN (1 + nup bs S[i].t 64) w) := by
  obtain ⟨v, hb, _⟩ := (h.has hi ho).box
  obtain ⟨c0, c1, c2, c3⟩ := Box.four hb
  have X := sgone_no hb
  have Y := tframes_any (h.has hi ho).tab h.ph gd (Nat.le_refl _)
  generalize nup bs S[i].t 64 = nn at *
  clear h hb gd
  go_enter Tryz.func19, Tryz.ntmps19
  go_wp2_with fail
  refine X.mono ?_
  rintro e w1 ⟨rfl, rfl⟩
  go_wp2_with fail
  refine Y.mono ?_
  rintro e w1 ⟨rfl, n1⟩
  go_wp2
  go_ret
  exact ⟨rfl, n1⟩
theorem Pages_gone {v : Value} (h : GoneS w v) : Calls Tryz.prog 18 #[v] w (Lists [] w) := by
  have X := sgone_yes h
  clear h
  go_enter Tryz.func18, Tryz.ntmps18
  go_wp2_with (go_at_call 41; (with_reducible refine (X).mono ?_); rintro e w' ⟨rfl, rfl⟩)
  go_ret
  exact ⟨_, rfl, Own.nil _ _, New.refl _⟩
theorem Pages_any (h : GM w k fb rb mb qb rs bs S) (hi : i < S.length) (ho : S[i].on = true) (gd : Good k a bs S[i].t) : Calls Tryz.prog 18 #[.pointer (some ⟨S[i].sb, 0, none⟩)] w (Lists (pgs (pgn bs S[i].t) 4096) w) := by
  obtain ⟨v, hb, _⟩ := (h.has hi ho).box
  obtain ⟨c0, c1, c2, c3⟩ := Box.four hb
  have X := sgone_no hb
  have Y := tpages_any (h.has hi ho).tab h.ph gd (Nat.le_refl _)
  generalize pgs (pgn bs S[i].t) 4096 = L at *
  clear h hb gd
  go_enter Tryz.func18, Tryz.ntmps18
  go_wp2_with fail
  refine X.mono ?_
  rintro e w1 ⟨rfl, rfl⟩
  go_wp2_with fail
  refine Y.mono ?_
  rintro e w1 ⟨v1, rfl, o1, n1⟩
  go_wp2
  go_ret
  exact ⟨_, rfl, o1, n1⟩
theorem Page_gone {v : Value} (h : GoneS w v) (m : Int) : Calls Tryz.prog 20 #[v, .int .i64 m] w (fun e w' => e = .returned (.slice none 0 0) ∧ New w w') := by
  have X := sgone_yes h
  clear h
  go_enter Tryz.func20, Tryz.ntmps20
  go_wp2_with (go_at_call 41; (with_reducible refine (X).mono ?_); rintro e w' ⟨rfl, rfl⟩)
  go_ret
  exact ⟨rfl, New.refl _⟩
theorem Page_none (h : GM w k fb rb mb qb rs bs S) (hi : i < S.length) (ho : S[i].on = true) (gd : Good k a bs S[i].t) (m : Int) (hv : pgI bs S[i].t m = 0) : Calls Tryz.prog 20 #[.pointer (some ⟨S[i].sb, 0, none⟩), .int .i64 m] w (fun e w' => e = .returned (.slice none 0 0) ∧ New w w') := by
  obtain ⟨v, hb, _⟩ := (h.has hi ho).box
  have X := sgone_no hb
  have Y := sfind_any m h hi ho gd
  obtain ⟨e1, e2, e3, e4⟩ := dc_zero
  rw [hv] at Y
  unfold fndE at Y
  rw [e1, e2, e3, e4] at Y
  clear h hb gd hv
  go_enter Tryz.func20, Tryz.ntmps20
  go_wp2_with fail
  refine X.mono ?_
  rintro e w1 ⟨rfl, rfl⟩
  go_wp2_with fail
  refine Y.mono ?_
  rintro e w1 ⟨rfl, n1⟩
  go_wp2
  go_ret
  exact ⟨rfl, n1.alloc _ _⟩
set_option maxHeartbeats 1000000 in
theorem Page_some (h : GM w k fb rb mb qb rs bs S) (hi : i < S.length) (ho : S[i].on = true) (gd : Good k a bs S[i].t) (m : Int) (hv : dcb (pgI bs S[i].t m) = true) (f : Nat) (hf : f < k) (hd : dcf (pgI bs S[i].t m) = f) :
    Calls Tryz.prog 20 #[.pointer (some ⟨S[i].sb, 0, none⟩), .int .i64 m] w (fun e w' => ∃ b, e = .returned (.slice (some ⟨b, 0, none⟩) 256 256) ∧ w.heap.size ≤ b ∧ w'.heap[b]? = some (.cells (cells8 (fby bs f)).toArray 5 (0, 0)) ∧ New w w') := by
  obtain ⟨v, hb, _⟩ := (h.has hi ho).box
  have X := sgone_no hb
  have Y := sfind_any m h hi ho gd
  unfold fndE at Y
  rw [hv, hd] at Y
  have Z : ∀ W, New w W → Calls Tryz.prog 43 #[.pointer (some ⟨mb, 0, none⟩), .int .i64 f, .int .i64 0, .int .i64 256] W (Got (fby bs f) W) := fun W n => read_any f 0 256 (h.new n).ph hf (by omega)
  unfold Got at Z
  have hl := fby_len h.ph.len hf
  generalize fby bs f = L at *
  simp only [hl] at Z
  generalize dcp (pgI bs S[i].t m) = y at *
  generalize dcc (pgI bs S[i].t m) = z at *
  have HB := Lib.hid hb
  clear h hb gd hv hd
  go_enter Tryz.func20, Tryz.ntmps20
  go_wp2_with fail
  refine X.mono ?_
  rintro e w1 ⟨rfl, rfl⟩
  go_wp2_with fail
  refine Y.mono ?_
  rintro e w1 ⟨rfl, n1⟩
  have n2 := n1.alloc #[.int .i64 f, .int .u8 y, .bool z] 117
  have BE := Box.here w1 _ #[.int .i64 f, .int .u8 y, .bool z] 117 rfl
  obtain ⟨c0, c1, c2, c3⟩ := Box.four (Box.new HB.out n2)
  clear X Y n1
  go_wp2_with fail
  generalize (w1.alloc (.cells #[.int .i64 f, .int .u8 y, .bool z] 117)) = W1 at *
  generalize w1.heap.size = eb at *
  obtain ⟨k0, k1, k2⟩ := BE.three
  have Z1 := Z _ (n2.drew)
  have hm := (Box.new HB.out n2)
  go_region_held3 (fun w' => w'.cell? ⟨S[i].sb, 1, none⟩ = some (.pointer (some ⟨mb, 0, none⟩)) ∧ w'.cell? ⟨eb, 0, none⟩ = some (.int .i64 f))
    (first | go_keep | exact ⟨(Box.four (Box.new hm ((drew_new W1).trans n3))).2.1, (BE.new ((drew_new W1).trans n3)).three.1⟩)
    (first | (go_at_call 43; (with_reducible refine Z1.mono ?_); rintro e w2 ⟨rfl, hx, n3⟩))
  go_wp2
  go_ret
  exact ⟨_, rfl, n2.drew.size, hx, n2.drew.trans n3⟩
end
end Go.Proofs.YtgedimlhldfkaaaGreatDoor
namespace Go.Proofs.YtgedimlhldfkaaaGreatDoor
open Go.RowKit
set_option linter.unusedVariables false
set_option maxRecDepth 100000
section
variable {k : Nat} {rs bs qs cs : List Int} {S : List Sq} {d : Nat → Nat} {i p f : Nat}
theorem nm_of_pf {t : Nat} (h : pf bs t p = some f) : nm bs t (p / 64) ≠ 0 := fun e => (pf_some.1 h).1 (by unfold pgn; rw [if_pos e])
/-- what a page's number tells of it -/
theorem page_dc {n t : Nat} {a : Nat → Prop} (g : Good n a bs t) (hp : p < 4096) (h : pf bs t p = some f) :
    dcb (pgn bs t p) = true ∧ dcf (pgn bs t p) = f ∧ dcp (pgn bs t p) = pgn bs t p % 8 ∧ dcc (pgn bs t p) = cwb (pgn bs t p) ∧ 1 ≤ pgn bs t p ∧ EnNum (pgn bs t p) := by
  obtain ⟨h1, h2⟩ := pf_some.1 h
  obtain ⟨v0, v1⟩ := (g.pn p hp).resolve_left h1
  obtain ⟨e1, e2, e3, e4⟩ := dc_is v0 v1
  refine ⟨e4, ?_, e2, e3, v0, v1⟩
  rw [e1, ← h2]; unfold fo; omega
/-- a page's entry goes, and its frame is had once less -/
theorem PurD.drop (h : PurD k rs bs S d) (hi : i < S.length) (ho : S[i].on = true) (hp : p < 4096) (hf : pf bs S[i].t p = some f) :
    PurD k (rs.set f (rs.getD f 0 - 1)) (pt bs (lof bs S[i].t (p / 64)) (p % 64) 0) S d ∧ Chg k bs (pt bs (lof bs S[i].t (p / 64)) (p % 64) 0) S i p 0 := by
  have hl := h.page_lt hi ho hp hf
  have hno := h.page_not hi ho hp hf
  obtain ⟨h1, c⟩ := h.lay (e := fun x => d x + b2 (pf bs S[i].t p = some x)) hi ho hp (nm_of_pf hf) Pn.zero (Int.le_refl _) (by omega) (fun f hf => by cases hf) fun x hx => by
    rw [b2_no (P := pv 0 = some x) (by rw [pv_zero]; intro e; cases e)]; rfl
  refine ⟨h1.refs (by rw [List.length_set]; exact h.hr) (fun g hg => ?_) (fun g hg => ?_), c⟩
  · have hg' := (c.mn g).1 hg
    rw [getD_set _ _ _ _ (by rw [h.hr]; exact hl.1), if_neg (fun (e : g = f) => hno (e ▸ hg'))]
    exact (h.mn_lt hg').2.1
  · rw [getD_set _ _ _ _ (by rw [h.hr]; exact hl.1)]
    by_cases e : g = f
    · subst e; rw [if_pos rfl, b2_yes hf]; omega
    · rw [if_neg e, b2_no (fun x => e (by rw [hf] at x; exact (Option.some.inj x).symm))]; omega
/-- a page's entry is another one, of the same frame -/
theorem PurD.recode (h : PurD k rs bs S d) (hk : k ≤ 1024) (hi : i < S.length) (ho : S[i].on = true) (hp : p < 4096) (hf : pf bs S[i].t p = some f) (P : Int) (c : Bool) (q0 : 0 ≤ P) (q1 : P ≤ 7) :
    PurD k rs (pt bs (lof bs S[i].t (p / 64)) (p % 64) (ennum f P c)) S d ∧ Chg k bs (pt bs (lof bs S[i].t (p / 64)) (p % 64) (ennum f P c)) S i p (ennum f P c) := by
  have hl := h.page_lt hi ho hp hf
  obtain ⟨v0, v1, v2⟩ := ennum_pn (f : Int) P c (by omega) (by omega) q0 q1
  have e := ennum_is (f : Int) P c (by omega) (by omega) q0 q1
  have hv : pv (ennum f P c) = some f := by rw [pv_pos (by omega)]; unfold fo; rw [e.2.2.2.1]; simp
  refine h.lay hi ho hp (nm_of_pf hf) v0 (by omega) v2 (fun g hg => ?_) fun g hg => ?_
  · rw [hv] at hg; cases hg; exact hl.1
  · rw [hv, hf]
end
/-- some pages dropped, one by one -/
inductive DrpC (t : Nat) : List Int → List Int → List Int → List Int → List Int → Prop
  | nil (rs bs : List Int) : DrpC t [] rs bs rs bs
  | snoc {l rs bs qs cs : List Int} (p f : Nat) : DrpC t l rs bs qs cs → p < 4096 → pf cs t p = some f → DrpC t (l ++ [(p : Int)]) rs bs (qs.set f (qs.getD f 0 - 1)) (pt cs (lof cs t (p / 64)) (p % 64) 0)
section
variable {w w' : World} {k fb rb mb qb : Nat} {rs bs qs cs : List Int} {S T : List Sq} {a : Nat → Prop} {i : Nat} {d : Nat → Nat}
/-- what was not dropped is as it was -/
theorem DrpC.keeps {l : List Int} {t : Nat} (h : DrpC t l rs bs qs cs) (p0 : PurD k rs bs S d) (hi : i < S.length) (ho : S[i].on = true) (ht : t = S[i].t) : PurD k qs cs S d ∧ ∀ q : Nat, q < 4096 → (q : Int) ∉ l → pgn cs S[i].t q = pgn bs S[i].t q := by
  subst ht
  induction h with
  | nil => exact ⟨p0, fun _ _ _ => rfl⟩
  | snoc p f h1 hp hf ih =>
    obtain ⟨g1, g2⟩ := ih p0
    obtain ⟨r1, r2⟩ := g1.drop hi ho hp hf
    refine ⟨r1, fun q hq hn => ?_⟩
    rw [r2.pg i hi ho q hq, if_neg (fun e => hn (by rw [e.2]; simp))]
    exact g2 q hq fun x => hn (List.mem_append_left _ x)
/-- pages that have numbers, ascending -/
structure Pgl (g : Nat → Int) (l : List Int) : Prop where
  mem : ∀ x ∈ l, ∃ p : Nat, p < 4096 ∧ x = (p : Int) ∧ g p ≠ 0
  asc : l.Pairwise (· < ·)
theorem pgs_mem {g : Nat → Int} {n : Nat} {x : Int} : x ∈ pgs g n ↔ ∃ p : Nat, p < n ∧ x = (p : Int) ∧ g p ≠ 0 := by
  induction n with
  | zero => simp [pgs]
  | succ n ih =>
    by_cases c : g n = 0
    · rw [pgs_skip c, ih]
      constructor
      · rintro ⟨p, h1, h2⟩; exact ⟨p, by omega, h2⟩
      · rintro ⟨p, h1, h2, h3⟩
        exact ⟨p, by by_cases e : p = n; (subst e; exact absurd c h3); omega, h2, h3⟩
    · rw [pgs_push c, List.mem_append, ih, List.mem_singleton]
      constructor
      · rintro (⟨p, h1, h2⟩ | e)
        · exact ⟨p, by omega, h2⟩
        · exact ⟨n, by omega, e, c⟩
      · rintro ⟨p, h1, h2, h3⟩
        by_cases e : p = n
        · subst e; exact .inr h2
        · exact .inl ⟨p, by omega, h2, h3⟩
theorem pgs_asc (g : Nat → Int) (n : Nat) : (pgs g n).Pairwise (· < ·) := by
  induction n with
  | zero => exact List.Pairwise.nil
  | succ n ih =>
    by_cases c : g n = 0
    · rw [pgs_skip c]; exact ih
    · rw [pgs_push c, List.pairwise_append]
      refine ⟨ih, List.pairwise_singleton _ _, fun x hx y hy => ?_⟩
      obtain ⟨p, h1, h2, _⟩ := pgs_mem.1 hx
      rw [List.mem_singleton] at hy
      omega
theorem Pgl.all (g : Nat → Int) : Pgl g (pgs g 4096) := ⟨fun x hx => pgs_mem.1 hx, pgs_asc g 4096⟩
theorem Pgl.filter {g : Nat → Int} {l : List Int} (h : Pgl g l) (f : Int → Bool) : Pgl g (l.filter f) := ⟨fun x hx => h.mem x (List.mem_filter.1 hx).1, h.asc.filter _⟩
theorem Pgl.at_ {g : Nat → Int} {l : List Int} (h : Pgl g l) {j : Nat} (hj : j < l.length) : ∃ p : Nat, p < 4096 ∧ l.getD j 0 = (p : Int) ∧ g p ≠ 0 ∧ (p : Int) ∉ l.take j := by
  obtain ⟨p, h1, h2, h3⟩ := h.mem _ (getD_mem hj rfl)
  refine ⟨p, h1, h2, h3, fun hm => ?_⟩
  obtain ⟨m, hm, e⟩ := List.mem_iff_getElem.1 hm
  have hm' : m < j := by rw [List.length_take] at hm; omega
  rw [List.getElem_take] at e
  have := List.pairwise_iff_getElem.1 h.asc m j (by omega) hj hm'
  rw [e] at this
  rw [List.getD_eq_getElem?_getD, List.getElem?_eq_getElem hj] at h2
  have h2' : l[j] = (p : Int) := h2
  omega
theorem Own.but {X : Nat → Prop} {base : Nat} {v : Value} {l : List Int} (h : Own base w v l) (b : But X w w') (hX : ∀ g, X g → g < base) : Own base w' v l := by
  refine ⟨h.1, ?_⟩
  rcases h.2 with hn | ⟨g, cap, cur, rfl, hb, hg, rest⟩
  · exact .inl hn
  · exact .inr ⟨g, cap, cur, rfl, hb, by rw [b.block (Array.getElem?_eq_some_iff.1 hg).1 (fun c => by have := hX g c; omega)]; exact hg, rest⟩
theorem Ints.cell {v : Value} {l : List Int} (h : Ints w v l) (j : Nat) (hj : j < l.length) : ∃ b cap, v = .slice (some ⟨b, 0, none⟩) l.length cap ∧ w.cell? ⟨b, j, none⟩ = some (.int .i64 (l.getD j 0)) := by
  rcases h with ⟨_, rfl⟩ | ⟨b, cap, h1, _, _, _, h5⟩
  · exact absurd hj (Nat.not_lt_zero _)
  · exact ⟨b, cap, h1, h5 j hj⟩
set_option maxHeartbeats 2000000 in
theorem drop_any (h : GM w k fb rb mb qb rs bs S) (hi : i < S.length) (ho : S[i].on = true) (p0 : PurD k rs bs S d) (x y : Int) :
    Calls Tryz.prog 48 #[.pointer (some ⟨S[i].sb, 0, none⟩), .int .i64 x, .int .i64 y] w fun e w' => e = .returned (.tuple #[]) ∧ ∃ qs cs, GM w' k fb rb mb qb qs cs S ∧ But (fun g => g = rb ∨ g = qb) w w' ∧ DrpC S[i].t ((pgs (pgn bs S[i].t) 4096).filter fun p => !outR x y p) rs bs qs cs := by
  have X := filled_any h hi ho (p0.good i hi ho) x y
  have PL := Lib.hid ((Pgl.all (pgn bs S[i].t)).filter fun p => !outR x y p)
  generalize ((pgs (pgn bs S[i].t) 4096).filter fun p => !outR x y p) = L at *
  have SB := (h.rbqb.2 i hi).1
  have hlt : rb < w.heap.size ∧ qb < w.heap.size := ⟨h.fr.lt.2, h.ph.lt.2⟩
  have HW := Lib.hid h
  have HP := Lib.hid p0
  have HLT := Lib.hid hlt
  clear h hlt
  go_enter Tryz.func48, Tryz.ntmps48
  go_wp2_with fail
  refine X.mono ?_
  rintro e w1 ⟨v1, rfl, o1, n1⟩
  obtain ⟨pv, kv, cv, rfl⟩ := Own.form o1
  obtain rfl : kv = L.length := by obtain ⟨p', c', e⟩ := o1.ints.len; injection e
  have hBL : L.length ≤ 9223372036854775807 := by
    rcases o1.2 with ⟨_, hn⟩ | ⟨g, cap, cur, _, _, _, h1, h2, _⟩
    · omega
    · unfold maxLen at h2; omega
  have HO := Lib.hid o1
  have N1 := Lib.hid n1
  have HG1 := Lib.hid (HW.out.new n1)
  clear X o1 n1
  go_wp2_with fail
  go_loopg [15] L.length (fun kk ii wr => ∃ j : Nat, ∃ qs cs, j + kk = L.length ∧ ii = .int .i64 (j : Int) ∧ GM wr k fb rb mb qb qs cs S ∧ But (fun g => g = rb ∨ g = qb) w1 wr ∧ DrpC S[i].t (L.take j) rs bs qs cs)
  case atStart => exact ⟨0, rs, bs, by omega, rfl, HG1.out, But.refl _ _, DrpC.nil _ _⟩
  case round =>
    obtain ⟨j, qs, cs, hj, rfl, hg, hb, hd⟩ := hrel
    by_cases c : j < L.length
    · obtain ⟨p, hp, hpl, hpg, hpn⟩ := PL.out.at_ c
      obtain ⟨PD, KP⟩ := hd.keeps HP.out hi ho rfl
      have hcs : pgn cs S[i].t p ≠ 0 := by rw [KP p hp hpn]; exact hpg
      obtain ⟨f, hf⟩ : ∃ f, pf cs S[i].t p = some f := ⟨_, pv_pos hcs⟩
      have hfl := PD.page_lt hi ho hp hf
      have hfk : f < k := hfl.1
      have gd := PD.good i hi ho
      obtain ⟨d1, d2, d3, d4, _, _⟩ := page_dc gd hp hf
      have Y := sfind_any (p : Int) hg hi ho gd
      rw [pgI_in _ _ _ hp] at Y
      unfold fndE at Y
      rw [d1, d2] at Y
      generalize dcp (pgn cs S[i].t p) = y1 at Y
      generalize dcc (pgn cs S[i].t p) = y2 at Y
      have U := fun W (H : GM W k fb rb mb qb qs cs S) => g_unref H f hfk (by omega)
      generalize (qs.getD f 0 == 1) = ub at U
      have V := fun W r (H : GM W k fb rb mb qb r cs S) => g_clear H hi ho gd p hp (nm_of_pf hf)
      have DN := Lib.hid (show DrpC S[i].t (L.take (j + 1)) rs bs _ _ by rw [take_snoc_int L j c, hpl]; exact DrpC.snoc p f hd hp hf)
      generalize pt cs (lof cs S[i].t (p / 64)) (p % 64) 0 = c2 at *
      generalize qs.set f (qs.getD f 0 - 1) = q2 at *
      obtain ⟨b, cap, ev, hc⟩ := (HO.out.but hb (fun g hg => by have := HLT.out; omega)).ints.cell j c
      rw [hpl] at hc
      obtain ⟨rfl, rfl⟩ : pv = some ⟨b, 0, none⟩ ∧ cv = cap := by injection ev with a b c; exact ⟨a, c⟩
      have J := Lib.hid hj
      have HB := Lib.hid hb
      have HG := Lib.hid hg
      obtain ⟨v, hbx, _⟩ := (hg.has hi ho).box
      have HBX := Lib.hid hbx
      have EBL : wr.heap.size = wr.heap.size := rfl
      have RQ : rb < wr.heap.size ∧ qb < wr.heap.size := ⟨hg.fr.lt.2, hg.ph.lt.2⟩
      clear hj hg hb hd hf hfl hcs hpg hpn hpl KP PD gd d1 d2 d3 d4 ev hbx
      go_wp2_with fail
      refine Y.mono ?_
      rintro e w2 ⟨rfl, n2⟩
      have n3 := n2.alloc #[.int .i64 f, .int .u8 y1, .bool y2] 117
      have BE := Box.here w2 _ #[.int .i64 f, .int .u8 y1, .bool y2] 117 rfl
      have ES := Lib.hid (show ¬ (w2.heap.size = rb ∨ w2.heap.size = qb) by have := n2.size; omega)
      clear Y
      go_wp2_with fail
      generalize (w2.alloc (.cells #[.int .i64 f, .int .u8 y1, .bool y2] 117)) = W2 at *
      generalize w2.heap.size = eb at *
      have hm := Box.new HBX.out n3
      obtain ⟨c0, c1, c2', c3⟩ := Box.four hm
      obtain ⟨k0, k1, k2⟩ := BE.three
      have U1 := U _ (HG.out.new n3.drew)
      go_region_held3 (fun w' => w'.cell? ⟨S[i].sb, 0, none⟩ = some (.pointer (some ⟨fb, 0, none⟩)) ∧ w'.cell? ⟨eb, 0, none⟩ = some (.int .i64 f))
        (first | go_keep | exact ⟨(Box.four (Box.but (Box.new hm (drew_new W2)) b4 SB)).1, ((BE.new (drew_new W2)).but b4 ES.out).three.1⟩)
        (first | (go_at_call 92; (with_reducible refine U1.mono ?_); rintro e w4 ⟨rfl, h4, b4⟩))
      have B4 := (But.of_new (fun g => g = rb ∨ g = qb) n3.drew).trans b4
      obtain ⟨f0, f1, f2, f3⟩ := Box.four (Box.but HBX.out B4 SB)
      have V1 := V _ _ h4
      clear U U1 V c0 c1 c2' c3 k0 k1 k2 hm BE b4 n2 n3
      go_wp2_with fail
      refine V1.mono ?_
      rintro e w5 ⟨rfl, h5, b5⟩
      go_wp2_with fail
      go_roundg (L.length - (j + 1))
      case measure => have := J.out; omega
      case rel => exact ⟨j + 1, q2, c2, by have := J.out; omega, by go_num, h5, (HB.out.trans B4).trans b5, DN.out⟩
    · obtain rfl : j = L.length := by omega
      rw [List.take_length] at hd
      go_wp2
      refine bodyPost_end (results_none rfl _ _ _) rfl ?_
      exact ⟨rfl, qs, cs, hg, (But.of_new _ N1.out).trans hb, hd⟩
/-- a space with other regions -/
def Sq.lay (s : Sq) (L : List Rg) : Sq := ⟨s.sb, s.tb, s.t, L, s.on⟩
theorem set_at {S : List Sq} (hi : i < S.length) (s : Sq) (j : Nat) (hj : j < (S.set i s).length) : (S.set i s)[j] = if j = i then s else S[j]'(by simpa using hj) := by
  rw [List.getElem_set]
  by_cases e : i = j
  · subst e; simp
  · rw [if_neg e, if_neg (fun x => e x.symm)]
/-- frames, bytes and the other spaces, when a space's own block is another one -/
theorem GM.swap (h : GM w k fb rb mb qb rs bs S) (hi : i < S.length) (s : Sq) (e1 : s.sb = S[i].sb) (e2 : s.tb = S[i].tb) (b : But (fun g => g = S[i].sb) w w') (hs : Has w' fb mb s) : GM w' k fb rb mb qb rs bs (S.set i s) := by
  obtain ⟨c0, b0⟩ := (h.mem i hi).sb
  have n := fun {m : Nat} {cs : Array Value} {t : TypeId} (X : Box w m cs t) (ht : t ≠ 103) => Box.ne X b0 ht
  refine ⟨⟨h.fr.1, h.fr.2.1, Box.but h.fr.boxes.1 b (n h.fr.boxes.1 (by decide)), Box.but h.fr.boxes.2 b (n h.fr.boxes.2 (by decide))⟩, ⟨h.ph.1, h.ph.2.1, h.ph.2.2.1, h.ph.2.2.2.1, h.ph.2.2.2.2.1, Box.but h.ph.boxes.1 b (n h.ph.boxes.1 (by decide)), Box.but h.ph.boxes.2 b (n h.ph.boxes.2 (by decide))⟩, h.len, fun j hj => ?_, ?_, ?_⟩
  · rw [set_at hi s j hj]
    have hj' : j < S.length := by simpa using hj
    by_cases c : j = i
    · rw [if_pos c]; exact hs
    · rw [if_neg c]
      obtain ⟨c2, b2⟩ := (h.mem j hj').tb
      exact (h.mem j hj').but b (h.sbne hj' hi c).1 (n b2 (by decide)) (fun g hg => hg ▸ Box.not_row b0 (by decide))
  · have : (S.set i s).map Sq.sb = S.map Sq.sb := by
      rw [List.map_set, e1]; apply List.ext_getElem (by simp); intro j h1 h2; rw [List.getElem_set]; split <;> simp_all
    rw [this]; exact h.nsb
  · have : (S.set i s).map Sq.tb = S.map Sq.tb := by
      rw [List.map_set, e2]; apply List.ext_getElem (by simp); intro j h1 h2; rw [List.getElem_set]; split <;> simp_all
    rw [this]; exact h.ntb
theorem GM.lay (h : GM w k fb rb mb qb rs bs S) (hi : i < S.length) (ho : S[i].on = true) (v : Value) (L : List Rg) (hR : OwnR 37 0 w v L) : GM (w.setCell ⟨S[i].sb, 3, none⟩ v) k fb rb mb qb rs bs (S.set i (S[i].lay L)) := by
  obtain ⟨u, hb, _⟩ := (h.has hi ho).box
  have b : But (fun g => g = S[i].sb) w (w.setCell ⟨S[i].sb, 3, none⟩ v) := But.set (S := fun g => g = S[i].sb) w (p := ⟨S[i].sb, 3, none⟩) rfl v
  refine h.swap hi _ rfl rfl b (.inl ⟨ho, ⟨v, Box.set hb 3 v, hR.but b fun g hg => hg ▸ Box.not_row hb (by decide)⟩, Box.but (h.has hi ho).tab b (Box.ne (h.has hi ho).tab hb (by decide))⟩)
theorem PurD.relay (h : PurD k rs bs S d) (hi : i < S.length) (L : List Rg) : PurD k rs bs (S.set i (S[i].lay L)) d := by
  refine h.same (by simp) fun j hj hj' => ?_
  rw [set_at hi _ j hj']
  by_cases c : j = i
  · subst c; rw [if_pos rfl]; exact ⟨rfl, rfl⟩
  · rw [if_neg c]; exact ⟨rfl, rfl⟩
theorem Map_gone {v : Value} (h : GoneS w v) (r : Rg) : Calls Tryz.prog 13 #[v, .agg #[.int .i64 r.f, .int .i64 r.t, .int .u8 (r.p : Int)]] w (Said (.iface 98 (.int .i64 22)) w) := by
  have n0 := (New.refl w).alloc #[.int .i64 r.f, .int .i64 r.t, .int .u8 (r.p : Int)] 37
  have X := sgone_yes (h.new n0)
  clear h
  go_enter Tryz.func13, Tryz.ntmps13
  go_wp2_with (go_at_call 41; (with_reducible refine (X).mono ?_); rintro e w' ⟨rfl, rfl⟩)
  go_ret
  exact ⟨rfl, n0⟩
/-- regions laid down, or an error's number; nothing else has changed but new blocks and the space's own -/
def LayDid (k fb rb mb qb : Nat) (rs bs : List Int) (S : List Sq) (sb : Nat) (c : Int) (w : World) (e : Ending) (w' : World) : Prop :=
  e = .returned (erN c) ∧ GM w' k fb rb mb qb rs bs S ∧ But (fun g => g = sb) w w'
set_option maxHeartbeats 1000000 in
theorem Map_no (h : GM w k fb rb mb qb rs bs S) (hi : i < S.length) (ho : S[i].on = true) (r : Rg) (hc : adE S[i].L r ≠ 0) :
    Calls Tryz.prog 13 #[.pointer (some ⟨S[i].sb, 0, none⟩), .agg #[.int .i64 r.f, .int .i64 r.t, .int .u8 (r.p : Int)]] w (LayDid k fb rb mb qb rs bs S S[i].sb (adE S[i].L r) w) := by
  obtain ⟨v, hb, hR⟩ := (h.has hi ho).box
  obtain ⟨sp, sc, rfl⟩ := hR.shape
  have n0 := (New.refl w).alloc #[.int .i64 r.f, .int .i64 r.t, .int .u8 (r.p : Int)] 37
  have BE := Box.here w _ #[.int .i64 r.f, .int .i64 r.t, .int .u8 (r.p : Int)] 37 rfl
  have hm := Box.new hb n0
  have X := sgone_no hm
  have HG := Lib.hid h
  have Y := radd_any _ _ _ r (hR.new n0.drew).rgs
  unfold MadeE at Y
  generalize adE S[i].L r = c at *
  unfold LayDid
  rw [erN_pos hc] at Y ⊢
  clear h hb
  go_enter Tryz.func13, Tryz.ntmps13
  go_wp2_with fail
  refine X.mono ?_
  rintro e w1 ⟨rfl, rfl⟩
  go_wp2_with fail
  change Code.wp _ _ _ _ (w.alloc (.cells #[.int .i64 r.f, .int .i64 r.t, .int .u8 (r.p : Int)] 37))
  generalize (w.alloc (.cells #[.int .i64 r.f, .int .i64 r.t, .int .u8 (r.p : Int)] 37)) = W at *
  generalize w.heap.size = eb at *
  obtain ⟨c0, c1, c2, c3⟩ := Box.four hm
  obtain ⟨k0, k1, k2⟩ := BE.three
  have KEEP : ∀ W', New W.drew W' → W'.cell? ⟨S[i].sb, 3, none⟩ = some (.slice sp S[i].L.length sc) ∧ W'.cell? ⟨eb, 0, none⟩ = some (.int .i64 r.f) ∧ W'.cell? ⟨eb, 1, none⟩ = some (.int .i64 r.t) ∧ W'.cell? ⟨eb, 2, none⟩ = some (.int .u8 (r.p : Int)) := fun W' n =>
    ⟨(Box.four (Box.new hm ((drew_new W).trans n))).2.2.2, (BE.new ((drew_new W).trans n)).three⟩
  clear X hm BE hR
  go_region_held3 (fun w' => w'.cell? ⟨S[i].sb, 3, none⟩ = some (.slice sp S[i].L.length sc) ∧ w'.cell? ⟨eb, 0, none⟩ = some (.int .i64 r.f) ∧ w'.cell? ⟨eb, 1, none⟩ = some (.int .i64 r.t) ∧ w'.cell? ⟨eb, 2, none⟩ = some (.int .u8 (r.p : Int)))
    (first | go_keep | exact KEEP _ n2 | exact KEEP _ (New.refl _))
    (first | (go_at_call 51; (with_reducible refine Y.mono ?_); rintro e w2 ⟨v2, rfl, o2, n2⟩))
  go_wp2
  go_ret
  have nn := n0.drew.trans n2
  exact ⟨rfl, HG.out.new nn, But.of_new _ nn⟩
end
end Go.Proofs.YtgedimlhldfkaaaGreatDoor
