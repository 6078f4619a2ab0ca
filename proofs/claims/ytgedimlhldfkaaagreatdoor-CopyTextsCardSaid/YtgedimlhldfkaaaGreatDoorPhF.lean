/- What the package of frames of bytes does: contracts, for any number of frames and any bytes in them, in any world. -/
import Derived.Test.YtgedimlhldfkaaaGreatDoorFar
import Derived.Test.YtgedimlhldfkaaaGreatDoorPhMath
import Derived.Test.YtgedimlhldfkaaaGreatDoorByts
import Derived.Deep.LoopGhost
import Derived.Deep.QuietTactic
import Derived.BigQuiet
import Derived.Deep.OwnRows
import Derived.Deep.MidRow
import Derived.Deep.WholeRow
import Derived.Deep.RegionHeld3
import Derived.Laws.BytesArg
namespace Go.Proofs.YtgedimlhldfkaaaGreatDoor
open Go.RowKit
set_option linter.unusedVariables false
theorem page_info : (Tryz.prog.info? 159).map (fun i => (i.zero, i.size, i.bytes)) = some (some (.agg (List.replicate 256 (Value.int .u8 0)).toArray), 256, 256) := by kernel_rfl
theorem page_size : (Tryz.prog.info? 159).map (·.size) = some 256 := by kernel_rfl
/-- frames of bytes in memory: the struct is block mb, the bytes are block rb -/
def Ph (w : World) (mb rb many : Nat) (bs : List Int) : Prop :=
  Oct bs ∧ bs.length = many * 256 ∧ 1 ≤ many ∧ many ≤ 1024 ∧ mb ≠ rb ∧ w.heap[mb]? = some (.cells #[.slice (some ⟨rb, 0, none⟩) many many] 162 (0, 0)) ∧
  w.heap[rb]? = some (.cells (cells8 bs).toArray 159 (0, 0))
section
variable {w w' : World} {mb rb many : Nat} {bs : List Int}
theorem Ph.lt (h : Ph w mb rb many bs) : mb < w.heap.size ∧ rb < w.heap.size :=
  ⟨(Array.getElem?_eq_some_iff.1 h.2.2.2.2.2.1).1, (Array.getElem?_eq_some_iff.1 h.2.2.2.2.2.2).1⟩
theorem Ph.len (h : Ph w mb rb many bs) : bs.length = many * 256 := h.2.1
theorem Ph.oct (h : Ph w mb rb many bs) : Oct bs := h.1
theorem Ph.bd (h : Ph w mb rb many bs) : 1 ≤ many ∧ many ≤ 1024 := ⟨h.2.2.1, h.2.2.2.1⟩
theorem Ph.row (h : Ph w mb rb many bs) : w.heap[rb]? = some (.cells (cells8 bs).toArray 159 (0, 0)) := h.2.2.2.2.2.2
theorem Ph.new (h : Ph w mb rb many bs) (k : New w w') : Ph w' mb rb many bs :=
  ⟨h.1, h.2.1, h.2.2.1, h.2.2.2.1, h.2.2.2.2.1, by rw [k.block h.lt.1]; exact h.2.2.2.2.2.1, by rw [k.block h.lt.2]; exact h.2.2.2.2.2.2⟩
theorem Ph.off {b : Nat} (h : Ph w mb rb many bs) (k : Far b w w') (h1 : mb ≠ b) (h2 : rb ≠ b) : Ph w' mb rb many bs :=
  ⟨h.1, h.2.1, h.2.2.1, h.2.2.2.1, h.2.2.2.2.1, by rw [k.block h.lt.1 h1]; exact h.2.2.2.2.2.1, by rw [k.block h.lt.2 h2]; exact h.2.2.2.2.2.2⟩
theorem Ph.head (h : Ph w mb rb many bs) : w.cell? ⟨mb, 0, none⟩ = some (.slice (some ⟨rb, 0, none⟩) many many) := by
  rw [cell_of_row w mb 0 _ _ _ h.2.2.2.2.2.1]; rfl
theorem Ph.cell (h : Ph w mb rb many bs) (j : Nat) (hj : j < bs.length) : w.cell? ⟨rb, j, none⟩ = some (.int .u8 (bs.getD j 0)) ∧ w.frozen? ⟨rb, j, none⟩ = false := by
  refine ⟨?_, by simp [World.frozen?, h.row]⟩
  rw [cell_of_row w rb j _ _ _ h.row, List.getElem?_toArray, cells8, List.getElem?_map, List.getElem?_eq_getElem hj, getD_eq bs j hj]; rfl
theorem Ph.turn {c : List Int} (h : Ph w mb rb many bs) (k : Far rb w w') (p : Nat) (hc : Oct c) (hp : p + c.length ≤ bs.length) (hr : w'.heap[rb]? = some (.cells (splice (cells8 bs) p (cells8 c)).toArray 159 (0, 0))) :
    Ph w' mb rb many (splice bs p c) :=
  ⟨h.1.splice hc p, by rw [splice_len _ _ _ hp]; exact h.2.1, h.2.2.1, h.2.2.2.1, h.2.2.2.2.1, by rw [k.block h.lt.1 h.2.2.2.2.1]; exact h.2.2.2.2.2.1, by rw [cells8_splice]; exact hr⟩
theorem Ph.range (h : Ph w mb rb many bs) (p n : Nat) (hp : p + n ≤ bs.length) : w.rangeAt rb p (cells8 (cut bs p n)) := fun j v hv => by
  obtain ⟨h1, rfl⟩ := cells8_get hv
  rw [cut_len _ _ _ hp] at h1
  rw [(h.cell (p + j) (by omega)).1, cut_get _ _ _ _ hp h1]
theorem Ph.there (h : Ph w mb rb many bs) (p n : Nat) (hp : p + n ≤ bs.length) : w.there rb p n := fun j hj => by
  obtain ⟨h1, h2⟩ := h.cell (p + j) (by omega)
  exact ⟨by rw [h1]; rfl, h2⟩
end
theorem made_same (k m : Nat) (v : Value) (hk : 0 < k) : madeCells (List.replicate k v).toArray m = (List.replicate m v).toArray := by
  apply Array.ext
  · simp [madeCells]
  · intro i h1 h2
    have : i % k < k := Nat.mod_lt _ hk
    simp [madeCells, this]
theorem cells_zeros (n : Nat) : madeCells (List.replicate 256 (Value.int .u8 0)).toArray (n * 256) = (cells8 (List.replicate (n * 256) 0)).toArray := by
  rw [cells8_zeros, made_same 256 _ _ (by omega)]
theorem make_frames (n : Nat) (hn : n ≤ 1024) (w : World) : (Instr.makeSlice 160 (.int .i64 (n : Int)) (.int .i64 (n : Int))).run Tryz.prog w =
    .ok (.slice (some ⟨w.heap.size, 0, none⟩) n n) (w.alloc (.cells (cells8 (List.replicate (n * 256) 0)).toArray 159)) := by
  obtain ⟨i, hi, hz, hs, hb⟩ := info_parts page_info
  have hr := run_make (P := Tryz.prog) w 160 159 i _ Tryz.underlying160 hi hz .i64 .i64 n n (by omega) (Int.le_refl _) (by rw [hb]; omega) (by omega)
  simp only [Int.toNat_natCast, hs] at hr
  rw [hr]
  exact congrArg (fun c => Result.ok (Value.slice (some ⟨w.heap.size, 0, none⟩) n n) (w.alloc (.cells c 159))) (cells_zeros n)
/-- what New answers -/
def MadeP (n : Nat) (w : World) (e : Ending) (w' : World) : Prop :=
  e = .returned (.tuple #[.pointer (some ⟨w.heap.size + 1, 0, none⟩), .nilIface]) ∧ Ph w' (w.heap.size + 1) w.heap.size n (List.replicate (n * 256) 0) ∧ New w w'
theorem pmade_any (n : Nat) (w : World) (h1 : 1 ≤ n) (h2 : n ≤ 1024) : Calls Tryz.prog 61 #[.int .i64 n] w (MadeP n w) := by
  have hmk := make_frames n h2
  have f1 : decide ((n : Int) < 1) = false := by simp; omega
  have f2 : decide ((1024 : Int) < (n : Int)) = false := by simp; omega
  obtain ⟨Z, hZ⟩ : ∃ Z, Z = List.replicate (n * 256) (0 : Int) := ⟨_, rfl⟩
  rw [← hZ] at hmk
  have HZ := Lib.hid hZ
  clear hZ
  go_enter Tryz.func61, Tryz.ntmps61
  go_wp2
  refine bodyPost_ret (v := .tuple #[.pointer (some ⟨w.heap.size + 1, 0, none⟩), .nilIface]) (by simp [results, Tryz.results61, go_sem]) rfl ⟨rfl, ?_, ((New.refl _).alloc _ _).alloc _ _⟩
  rw [← HZ.out]
  refine ⟨by rw [HZ.out]; exact Oct.zeros _, by rw [HZ.out]; simp, h1, h2, by omega, ?_, ?_⟩
  · simpa using heap_alloc_new (w.alloc (.cells (cells8 Z).toArray 159)) (.cells #[.slice (some ⟨w.heap.size, 0, none⟩) n n] 162)
  · rw [Below.heap_alloc _ _ _ (by simp), heap_alloc_new]
theorem pmade_bad (n : Int) (w : World) (h : n < 1 ∨ 1024 < n) : Calls Tryz.prog 61 #[.int .i64 n] w fun e w' => e = .returned (.tuple #[.pointer none, .iface 98 (.int .i64 22)]) ∧ New w w' := by
  by_cases c : n < 1
  · clear h
    go_enter Tryz.func61, Tryz.ntmps61
    go_wp2
    go_ret2
    exact ⟨rfl, New.refl _⟩
  · have d : 1024 < n := by omega
    clear h
    go_enter Tryz.func61, Tryz.ntmps61
    go_wp2
    go_ret2
    exact ⟨rfl, New.refl _⟩
theorem many_any {w : World} {mb rb many : Nat} {bs : List Int} (h : Ph w mb rb many bs) : Calls Tryz.prog 139 #[.pointer (some ⟨mb, 0, none⟩)] w fun e w' => e = .returned (.int .i64 many) ∧ w = w' := by
  have hh := h.head
  clear h
  go_enter Tryz.func139, Tryz.ntmps139
  go_wp2
  go_ret
  exact ⟨rfl, rfl⟩
theorem many_nil (w : World) : Calls Tryz.prog 139 #[.pointer none] w fun e w' => e = .returned (.int .i64 0) ∧ w = w' := by
  go_enter Tryz.func139, Tryz.ntmps139
  go_wp2
  go_ret
  exact ⟨rfl, rfl⟩
theorem has_yes (j : Nat) {w : World} {mb rb many : Nat} {bs : List Int} (h : Ph w mb rb many bs) (hj : j < many) : Calls Tryz.prog 136 #[.pointer (some ⟨mb, 0, none⟩), .int .i64 j] w fun e w' => e = .returned (.bool true) ∧ w = w' := by
  have X := many_any h
  have f : decide ((j : Int) < (many : Int)) = true := by simp; omega
  have f2 : decide (j < many) = true := by simp; omega
  clear h
  go_enter Tryz.func136, Tryz.ntmps136
  go_wp2_with (go_at_call 139; (with_reducible refine (X).mono ?_); rintro e w' ⟨rfl, rfl⟩)
  go_ret
  exact ⟨rfl, rfl⟩
theorem has_no (m : Int) {w : World} {mb rb many : Nat} {bs : List Int} (h : Ph w mb rb many bs) (hm : ¬ (0 ≤ m ∧ m < many)) : Calls Tryz.prog 136 #[.pointer (some ⟨mb, 0, none⟩), .int .i64 m] w fun e w' => e = .returned (.bool false) ∧ w = w' := by
  have X := many_any h
  clear h
  by_cases c : 0 ≤ m
  · have d : decide (m < (many : Int)) = false := by simp; omega
    have d2 : (many : Int) ≤ m := by omega
    clear hm
    go_enter Tryz.func136, Tryz.ntmps136
    go_wp2_with (go_at_call 139; (with_reducible refine (X).mono ?_); rintro e w' ⟨rfl, rfl⟩)
    go_ret
    exact ⟨rfl, rfl⟩
  · have d : decide (0 ≤ m) = false := by simpa using c
    have d2 : m < 0 := by omega
    clear hm c
    go_enter Tryz.func136, Tryz.ntmps136
    go_wp2_with (go_at_call 139; (with_reducible refine (X).mono ?_); rintro e w' ⟨rfl, rfl⟩)
    go_ret
    exact ⟨rfl, rfl⟩
theorem has_nil (m : Int) (w : World) : Calls Tryz.prog 136 #[.pointer none, .int .i64 m] w fun e w' => e = .returned (.bool false) ∧ w = w' := by
  by_cases c : 0 ≤ m
  · have d : decide (m < 0) = false := by simp; omega
    go_enter Tryz.func136, Tryz.ntmps136
    go_wp2_with (go_at_call 139; (with_reducible refine (many_nil _).mono ?_); rintro e w' ⟨rfl, rfl⟩)
    go_ret
    exact ⟨rfl, rfl⟩
  · have d : decide (0 ≤ m) = false := by simpa using c
    have d2 : m < 0 := by omega
    clear c
    go_enter Tryz.func136, Tryz.ntmps136
    go_wp2_with (go_at_call 139; (with_reducible refine (many_nil _).mono ?_); rintro e w' ⟨rfl, rfl⟩)
    go_ret
    exact ⟨rfl, rfl⟩
end Go.Proofs.YtgedimlhldfkaaaGreatDoor
namespace Go.Proofs.YtgedimlhldfkaaaGreatDoor
open Go.RowKit
set_option linter.unusedVariables false
section
variable {w : World} {mb rb many : Nat} {bs : List Int}
theorem check_arg (m o n : Int) (h : Ph w mb rb many bs) (hm : ¬ (0 ≤ m ∧ m < many)) :
    Calls Tryz.prog 87 #[.pointer (some ⟨mb, 0, none⟩), .int .i64 m, .int .i64 o, .int .i64 n] w fun e w' => e = .returned (.iface 98 (.int .i64 22)) ∧ w = w' := by
  have X := has_no m h hm
  clear h hm
  go_enter Tryz.func87, Tryz.ntmps87
  go_wp2_with (go_at_call 136; (with_reducible refine (X).mono ?_); rintro e w' ⟨rfl, rfl⟩)
  go_ret
  exact ⟨rfl, rfl⟩
theorem check_nil (m o n : Int) (w : World) :
    Calls Tryz.prog 87 #[.pointer none, .int .i64 m, .int .i64 o, .int .i64 n] w fun e w' => e = .returned (.iface 98 (.int .i64 22)) ∧ w = w' := by
  go_enter Tryz.func87, Tryz.ntmps87
  go_wp2_with (go_at_call 136; (with_reducible refine (has_nil m _).mono ?_); rintro e w' ⟨rfl, rfl⟩)
  go_ret
  exact ⟨rfl, rfl⟩
theorem check_fault (j : Nat) (o n : Int) (h : Ph w mb rb many bs) (hj : j < many) (ho : o < 0 ∨ n < 0 ∨ 256 < o + n) (b1 : o ≤ 9223372036854775807) :
    Calls Tryz.prog 87 #[.pointer (some ⟨mb, 0, none⟩), .int .i64 j, .int .i64 o, .int .i64 n] w fun e w' => e = .returned (.iface 98 (.int .i64 14)) ∧ w = w' := by
  have X := has_yes j h hj
  clear h
  by_cases c1 : o < 0
  · clear ho b1
    go_enter Tryz.func87, Tryz.ntmps87
    go_wp2_with (go_at_call 136; (with_reducible refine (X).mono ?_); rintro e w' ⟨rfl, rfl⟩)
    go_ret
    exact ⟨rfl, rfl⟩
  · by_cases c2 : n < 0
    · have d1 : decide (o < 0) = false := by simpa using c1
      clear ho
      go_enter Tryz.func87, Tryz.ntmps87
      go_wp2_with (go_at_call 136; (with_reducible refine (X).mono ?_); rintro e w' ⟨rfl, rfl⟩)
      go_ret
      exact ⟨rfl, rfl⟩
    · have d1 : decide (o < 0) = false := by simpa using c1
      have d2 : decide (n < 0) = false := by simpa using c2
      have e1 : 0 ≤ o := by omega
      have e3 : 256 - o < n := by omega
      have d3 : decide (256 - o < n) = true := by simp; omega
      clear ho c1 c2
      go_enter Tryz.func87, Tryz.ntmps87
      go_wp2_with (go_at_call 136; (with_reducible refine (X).mono ?_); rintro e w' ⟨rfl, rfl⟩)
      go_ret
      exact ⟨rfl, rfl⟩
theorem check_ok (j o n : Nat) (h : Ph w mb rb many bs) (hj : j < many) (ho : o + n ≤ 256) :
    Calls Tryz.prog 87 #[.pointer (some ⟨mb, 0, none⟩), .int .i64 j, .int .i64 o, .int .i64 n] w fun e w' => e = .returned .nilIface ∧ w = w' := by
  have X := has_yes j h hj
  have d1 : decide ((o : Int) < 0) = false := by simp
  have d2 : decide ((n : Int) < 0) = false := by simp
  have d3 : decide (256 - (o : Int) < (n : Int)) = false := by simp; omega
  have e1 : (o : Int) ≤ 256 := by omega
  have e3 : (n : Int) ≤ 256 - (o : Int) := by omega
  clear h ho hj
  go_enter Tryz.func87, Tryz.ntmps87
  go_wp2_with (go_at_call 136; (with_reducible refine (X).mono ?_); rintro e w' ⟨rfl, rfl⟩)
  go_ret
  exact ⟨rfl, rfl⟩
theorem read_arg (m o n : Int) (h : Ph w mb rb many bs) (hm : ¬ (0 ≤ m ∧ m < many)) :
    Calls Tryz.prog 43 #[.pointer (some ⟨mb, 0, none⟩), .int .i64 m, .int .i64 o, .int .i64 n] w fun e w' => e = .returned (.tuple #[.slice none 0 0, .iface 98 (.int .i64 22)]) ∧ w = w' := by
  have X := check_arg m o n h hm
  clear h hm
  go_enter Tryz.func43, Tryz.ntmps43
  go_wp2_with (go_at_call 87; (with_reducible refine (X).mono ?_); rintro e w' ⟨rfl, rfl⟩)
  go_ret2
  exact ⟨rfl, rfl⟩
theorem read_nil (m o n : Int) (w : World) :
    Calls Tryz.prog 43 #[.pointer none, .int .i64 m, .int .i64 o, .int .i64 n] w fun e w' => e = .returned (.tuple #[.slice none 0 0, .iface 98 (.int .i64 22)]) ∧ w = w' := by
  go_enter Tryz.func43, Tryz.ntmps43
  go_wp2_with (go_at_call 87; (with_reducible refine (check_nil m o n _).mono ?_); rintro e w' ⟨rfl, rfl⟩)
  go_ret2
  exact ⟨rfl, rfl⟩
theorem read_fault (j : Nat) (o n : Int) (h : Ph w mb rb many bs) (hj : j < many) (ho : o < 0 ∨ n < 0 ∨ 256 < o + n) (b1 : o ≤ 9223372036854775807) :
    Calls Tryz.prog 43 #[.pointer (some ⟨mb, 0, none⟩), .int .i64 j, .int .i64 o, .int .i64 n] w fun e w' => e = .returned (.tuple #[.slice none 0 0, .iface 98 (.int .i64 14)]) ∧ w = w' := by
  have X := check_fault j o n h hj ho b1
  clear h hj ho
  go_enter Tryz.func43, Tryz.ntmps43
  go_wp2_with (go_at_call 87; (with_reducible refine (X).mono ?_); rintro e w' ⟨rfl, rfl⟩)
  go_ret2
  exact ⟨rfl, rfl⟩
theorem write_arg (m o : Int) (p : Option Addr) (n cap : Nat) (hn : n ≤ maxLen) (h : Ph w mb rb many bs) (hm : ¬ (0 ≤ m ∧ m < many)) :
    Calls Tryz.prog 57 #[.pointer (some ⟨mb, 0, none⟩), .int .i64 m, .int .i64 o, .slice p n cap] w fun e w' => e = .returned (.iface 98 (.int .i64 22)) ∧ w = w' := by
  have X := check_arg m o n h hm
  unfold maxLen at hn
  clear h hm
  go_enter Tryz.func57, Tryz.ntmps57
  go_wp2_with (go_at_call 87; (with_reducible refine (X).mono ?_); rintro e w' ⟨rfl, rfl⟩)
  go_ret
  exact ⟨rfl, rfl⟩
theorem write_nil (m o : Int) (p : Option Addr) (n cap : Nat) (hn : n ≤ maxLen) (w : World) :
    Calls Tryz.prog 57 #[.pointer none, .int .i64 m, .int .i64 o, .slice p n cap] w fun e w' => e = .returned (.iface 98 (.int .i64 22)) ∧ w = w' := by
  have X := check_nil m o n w
  unfold maxLen at hn
  go_enter Tryz.func57, Tryz.ntmps57
  go_wp2_with (go_at_call 87; (with_reducible refine (X).mono ?_); rintro e w' ⟨rfl, rfl⟩)
  go_ret
  exact ⟨rfl, rfl⟩
theorem write_fault (j : Nat) (o : Int) (p : Option Addr) (n cap : Nat) (hn : n ≤ maxLen) (h : Ph w mb rb many bs) (hj : j < many) (ho : o < 0 ∨ 256 < o + n) (b1 : o ≤ 9223372036854775807) :
    Calls Tryz.prog 57 #[.pointer (some ⟨mb, 0, none⟩), .int .i64 j, .int .i64 o, .slice p n cap] w fun e w' => e = .returned (.iface 98 (.int .i64 14)) ∧ w = w' := by
  have X := check_fault j o n h hj (by omega) b1
  unfold maxLen at hn
  clear h hj ho
  go_enter Tryz.func57, Tryz.ntmps57
  go_wp2_with (go_at_call 87; (with_reducible refine (X).mono ?_); rintro e w' ⟨rfl, rfl⟩)
  go_ret
  exact ⟨rfl, rfl⟩
theorem zero_arg (m : Int) (h : Ph w mb rb many bs) (hm : ¬ (0 ≤ m ∧ m < many)) :
    Calls Tryz.prog 133 #[.pointer (some ⟨mb, 0, none⟩), .int .i64 m] w fun e w' => e = .returned (.iface 98 (.int .i64 22)) ∧ w = w' := by
  have X := has_no m h hm
  clear h hm
  go_enter Tryz.func133, Tryz.ntmps133
  go_wp2_with (go_at_call 136; (with_reducible refine (X).mono ?_); rintro e w' ⟨rfl, rfl⟩)
  go_ret
  exact ⟨rfl, rfl⟩
theorem zero_nil (m : Int) (w : World) :
    Calls Tryz.prog 133 #[.pointer none, .int .i64 m] w fun e w' => e = .returned (.iface 98 (.int .i64 22)) ∧ w = w' := by
  go_enter Tryz.func133, Tryz.ntmps133
  go_wp2_with (go_at_call 136; (with_reducible refine (has_nil m _).mono ?_); rintro e w' ⟨rfl, rfl⟩)
  go_ret
  exact ⟨rfl, rfl⟩
theorem copy_nil (m k : Int) (w : World) :
    Calls Tryz.prog 135 #[.pointer none, .int .i64 m, .int .i64 k] w fun e w' => e = .returned (.iface 98 (.int .i64 22)) ∧ w = w' := by
  go_enter Tryz.func135, Tryz.ntmps135
  go_wp2_with (go_at_call 136; (with_reducible refine (has_nil _ _).mono ?_); rintro e w' ⟨rfl, rfl⟩)
  go_ret
  exact ⟨rfl, rfl⟩
theorem copy_arg (m k : Int) (h : Ph w mb rb many bs) (hm : ¬ (0 ≤ m ∧ m < many) ∨ ¬ (0 ≤ k ∧ k < many)) :
    Calls Tryz.prog 135 #[.pointer (some ⟨mb, 0, none⟩), .int .i64 m, .int .i64 k] w fun e w' => e = .returned (.iface 98 (.int .i64 22)) ∧ w = w' := by
  by_cases c : 0 ≤ m ∧ m < many
  · have Y := has_no k h (hm.resolve_left (fun g => g c))
    obtain ⟨j, rfl⟩ := Int.eq_ofNat_of_zero_le c.1
    have X := has_yes j h (by omega)
    clear h hm c
    go_enter Tryz.func135, Tryz.ntmps135
    go_wp2_with (first | (go_at_call 136; (with_reducible refine (X).mono ?_); rintro e w' ⟨rfl, rfl⟩) | (go_at_call 136; (with_reducible refine (Y).mono ?_); rintro e w' ⟨rfl, rfl⟩))
    go_ret
    exact ⟨rfl, rfl⟩
  · have X := has_no m h c
    clear h hm c
    go_enter Tryz.func135, Tryz.ntmps135
    go_wp2_with (go_at_call 136; (with_reducible refine (X).mono ?_); rintro e w' ⟨rfl, rfl⟩)
    go_ret
    exact ⟨rfl, rfl⟩
end
end Go.Proofs.YtgedimlhldfkaaaGreatDoor
namespace Go.Proofs.YtgedimlhldfkaaaGreatDoor
open Go.RowKit
set_option linter.unusedVariables false
set_option maxRecDepth 100000
/-- bytes that were answered: a new block, and nothing else has changed -/
def Got (l : List Int) (w : World) (e : Ending) (w' : World) : Prop :=
  e = .returned (.tuple #[.slice (some ⟨w.heap.size, 0, none⟩) l.length l.length, .nilIface]) ∧ w'.heap[w.heap.size]? = some (.cells (cells8 l).toArray 5 (0, 0)) ∧ New w w'
/-- an answer, the bytes then, and nothing else has changed -/
def DidP (mb rb many : Nat) (bs : List Int) (v : Value) (w : World) (e : Ending) (w' : World) : Prop := e = .returned v ∧ Ph w' mb rb many bs ∧ Far rb w w'
section
variable {w : World} {mb rb many : Nat} {bs : List Int}
theorem made_byte (n : Nat) : madeCells #[Value.int .u8 0] n = (cells8 (List.replicate n 0)).toArray := by
  rw [cells8_zeros]; exact made_same 1 n _ (by omega)
theorem splice_zeros (c : List Int) : splice (cells8 (List.replicate c.length 0)) 0 (cells8 c) = cells8 c := by
  simp [splice, cells8]
set_option maxHeartbeats 1000000 in
theorem read_in (j o n : Nat) (h : Ph w mb rb many bs) (hj : j < many) (ho : o + n ≤ 256) (ho' : o < 256) :
    Calls Tryz.prog 43 #[.pointer (some ⟨mb, 0, none⟩), .int .i64 j, .int .i64 o, .int .i64 n] w (Got (cut bs (j * 256 + o) n) w) := by
  have X := check_ok j o n h hj ho
  have hmk := run_make_row' (P := Tryz.prog) 28 5 (.int .u8 0) 1 Tryz.underlying28 byte_info rfl .i64 .i64 n (by omega) (by omega)
  have hf := frame_fits h.len hj
  have hh := h.head
  have hlt := h.lt
  have hbd := h.bd
  obtain ⟨C, hC⟩ : ∃ C, C = cut bs (j * 256 + o) n := ⟨_, rfl⟩
  have hCl : C.length = n := by rw [hC]; exact cut_len _ _ _ (by omega)
  have hr := h.range (j * 256 + o) n (by omega)
  rw [← hC] at hr
  rw [← hC]
  clear hC
  subst hCl
  rw [made_byte] at hmk
  have HR := Lib.hid hr
  have e1 : (j : Int) < (many : Int) := by omega
  have e2 : (o : Int) ≤ 256 := by omega
  have e3 : C.length ≤ 256 - o := by omega
  have e5 : ¬ 256 = o := by omega
  clear h hr hj ho hf ho'
  go_enter Tryz.func43, Tryz.ntmps43
  go_wp2_with (first
    | (go_at_call 87; (with_reducible refine (X).mono ?_); rintro e w' ⟨rfl, rfl⟩)
    | ((with_reducible refine at_slot 31 ?_); refine wpList_copy_far rfl _ _ _ _ rfl 5 Tryz.underlying28 byte_size _ _ _ _ _ _ rfl rfl w.heap.size 0 (cells8 (List.replicate C.length 0)) 5 (heap_alloc_new w _) (cells8 C) ?c2 ?c3 ?c4 cells8_one ?_))
  case c2 => rw [cells8_len]; exact (Nat.min_eq_right e3).symm
  case c3 => first | exact HR.out | exact fun _ => HR.out
  case c4 => rw [cells8_len, cells8_len, List.length_replicate]; omega
  intro w2 hg2 hf2
  go_wp2
  go_ret2
  refine ⟨rfl, by rw [← splice_zeros]; exact hg2.out, ?_⟩
  exact hf2.new ((New.refl w).alloc _ _) (Nat.le_refl _)
set_option maxHeartbeats 1000000 in
theorem read_end (j : Nat) (h : Ph w mb rb many bs) (hj : j < many) :
    Calls Tryz.prog 43 #[.pointer (some ⟨mb, 0, none⟩), .int .i64 j, .int .i64 256, .int .i64 0] w (Got [] w) := by
  have X : Calls Tryz.prog 87 #[.pointer (some ⟨mb, 0, none⟩), .int .i64 j, .int .i64 256, .int .i64 0] w fun e w' => e = .returned .nilIface ∧ w = w' := check_ok j 256 0 h hj (by omega)
  have hmk : ∀ W : World, (Instr.makeSlice 28 (.int .i64 0) (.int .i64 0)).run Tryz.prog W = .ok (.slice (some ⟨W.heap.size, 0, none⟩) 0 0) (W.alloc (.cells (madeCells #[Value.int .u8 0] 0) 5)) :=
    run_make_row' (P := Tryz.prog) 28 5 (.int .u8 0) 1 Tryz.underlying28 byte_info rfl .i64 .i64 0 (by omega) (by omega)
  have hh := h.head
  have hlt := h.lt
  have hbd := h.bd
  rw [made_byte] at hmk
  have e1 : (j : Int) < (many : Int) := by omega
  clear h hj
  go_enter Tryz.func43, Tryz.ntmps43
  go_wp2_with (first
    | (go_at_call 87; (with_reducible refine (X).mono ?_); rintro e w' ⟨rfl, rfl⟩)
    | ((with_reducible refine at_slot 31 ?_); refine wpList_copy_far rfl _ _ _ _ rfl 5 Tryz.underlying28 byte_size _ _ _ _ _ _ rfl rfl w.heap.size 0 (cells8 []) 5 (heap_alloc_new w _) (cells8 []) ?c2 ?c3 ?c4 cells8_one ?_))
  case c2 => simp [cells8]
  case c3 => first | (intro hl; exact absurd hl (by simp [cells8])) | simp [cells8]
  case c4 => simp [cells8]
  intro w2 hg2 hf2
  go_wp2
  go_ret2
  refine ⟨rfl, by simpa [splice, cells8] using hg2.out, ?_⟩
  exact hf2.new ((New.refl w).alloc _ _) (Nat.le_refl _)
theorem read_any (j o n : Nat) (h : Ph w mb rb many bs) (hj : j < many) (ho : o + n ≤ 256) :
    Calls Tryz.prog 43 #[.pointer (some ⟨mb, 0, none⟩), .int .i64 j, .int .i64 o, .int .i64 n] w (Got (cut bs (j * 256 + o) n) w) := by
  by_cases c : o < 256
  · exact read_in j o n h hj ho c
  · obtain rfl : o = 256 := by omega
    obtain rfl : n = 0 := by omega
    rw [cut_none]
    exact read_end j h hj
set_option maxHeartbeats 1000000 in
theorem write_in (j o : Nat) (v : Value) (l : List Int) (h : Ph w mb rb many bs) (hv : Byts w v l) (hc : Oct l) (hj : j < many) (ho : o + l.length ≤ 256) (ho' : o < 256) :
    Calls Tryz.prog 57 #[.pointer (some ⟨mb, 0, none⟩), .int .i64 j, .int .i64 o, v] w (DidP mb rb many (splice bs (j * 256 + o) l) .nilIface w) := by
  obtain ⟨p, cap, rfl, hlm, hs⟩ := hv
  obtain ⟨_, _, hp⟩ := Byts.copy (cap := cap) ⟨p, cap, rfl, hlm, hs⟩
  have X := check_ok j o l.length h hj ho
  unfold maxLen at hlm
  have hf := frame_fits h.len hj
  have hh := h.head
  have hlt := h.lt
  have HP := Lib.hid h
  have HR := Lib.hid h.row
  have HS := Lib.hid hp
  have e1 : (j : Int) < (many : Int) := by omega
  have e2 : (o : Int) ≤ 256 := by omega
  have e3 : l.length ≤ 256 - o := by omega
  have e5 : j * 256 + o + l.length ≤ bs.length := by omega
  have e6 : ¬ 256 = o := by omega
  clear h hj ho hf hs hp
  go_enter Tryz.func57, Tryz.ntmps57
  go_wp2_with (first
    | (go_at_call 87; (with_reducible refine (X).mono ?_); rintro e w' ⟨rfl, rfl⟩)
    | ((with_reducible refine at_slot 28 ?_); refine wpList_copy_far rfl _ _ _ _ rfl 5 Tryz.underlying28 byte_size _ _ _ _ _ _ rfl rfl rb (j * 256 + o) (cells8 bs) 159 HR.out (cells8 l) ?c2 ?c3 ?c4 cells8_one ?_))
  case c2 => rw [cells8_len]; exact (Nat.min_eq_left e3).symm
  case c3 => first | exact HS.out | exact fun hl => ⟨rfl, HS.out hl⟩
  case c4 => rw [cells8_len, cells8_len]; omega
  intro w2 hg2 hf2
  go_wp2
  go_ret
  exact ⟨rfl, HP.out.turn hf2 _ hc e5 hg2.out, hf2⟩
set_option maxHeartbeats 1000000 in
theorem write_end (j cap : Nat) (p : Option Addr) (h : Ph w mb rb many bs) (hj : j < many) :
    Calls Tryz.prog 57 #[.pointer (some ⟨mb, 0, none⟩), .int .i64 j, .int .i64 256, .slice p 0 cap] w (DidP mb rb many bs .nilIface w) := by
  have X : Calls Tryz.prog 87 #[.pointer (some ⟨mb, 0, none⟩), .int .i64 j, .int .i64 256, .int .i64 0] w fun e w' => e = .returned .nilIface ∧ w = w' := check_ok j 256 0 h hj (by omega)
  have hh := h.head
  have hlt := h.lt
  have HP := Lib.hid h
  have HR := Lib.hid h.row
  have e1 : (j : Int) < (many : Int) := by omega
  clear h hj
  go_enter Tryz.func57, Tryz.ntmps57
  go_wp2_with (first
    | (go_at_call 87; (with_reducible refine (X).mono ?_); rintro e w' ⟨rfl, rfl⟩)
    | ((with_reducible refine at_slot 28 ?_); refine wpList_copy_far rfl _ _ _ _ rfl 5 Tryz.underlying28 byte_size _ _ _ _ _ _ rfl rfl rb 0 (cells8 bs) 159 HR.out (cells8 []) ?c2 ?c3 ?c4 cells8_one ?_))
  case c2 => simp [cells8]
  case c3 => first | (intro hl; exact absurd hl (by simp [cells8])) | simp [cells8]
  case c4 => simp [cells8]
  intro w2 hg2 hf2
  go_wp2
  go_ret
  have := HP.out.turn hf2 0 Oct.nil (Nat.zero_le _) hg2.out
  rw [show splice bs 0 [] = bs by simp [splice]] at this
  exact ⟨rfl, this, hf2⟩
theorem splice_none (l : List Int) (p : Nat) (h : p ≤ l.length) : splice l p [] = l := by simp [splice]
theorem write_any (j o : Nat) (v : Value) (l : List Int) (h : Ph w mb rb many bs) (hv : Byts w v l) (hc : Oct l) (hj : j < many) (ho : o + l.length ≤ 256) :
    Calls Tryz.prog 57 #[.pointer (some ⟨mb, 0, none⟩), .int .i64 j, .int .i64 o, v] w (DidP mb rb many (splice bs (j * 256 + o) l) .nilIface w) := by
  by_cases c : o < 256
  · exact write_in j o v l h hv hc hj ho c
  · obtain rfl : o = 256 := by omega
    obtain rfl : l = [] := List.eq_nil_of_length_eq_zero (by omega)
    obtain ⟨p, cap, rfl, _, _⟩ := hv
    rw [splice_none _ _ (by have := frame_fits h.len hj; omega)]
    exact write_end j cap p h hj
end
end Go.Proofs.YtgedimlhldfkaaaGreatDoor
namespace Go.Proofs.YtgedimlhldfkaaaGreatDoor
open Go.RowKit
set_option linter.unusedVariables false
set_option maxRecDepth 100000
theorem zero_page (W : World) : (zeroValue 159).run Tryz.prog W = .ok (.agg (List.replicate 256 (Value.int .u8 0)).toArray) W := by kernel_rfl
section
variable {w : World} {mb rb many : Nat} {bs : List Int}
set_option maxHeartbeats 1000000 in
theorem zero_any (j : Nat) (h : Ph w mb rb many bs) (hj : j < many) :
    Calls Tryz.prog 133 #[.pointer (some ⟨mb, 0, none⟩), .int .i64 j] w (DidP mb rb many (splice bs (j * 256) (List.replicate 256 0)) .nilIface w) := by
  have X := has_yes j h hj
  have hb := zero_page
  rw [← cells8_zeros] at hb
  obtain ⟨Z, hZ⟩ : ∃ Z, Z = List.replicate 256 (0 : Int) := ⟨_, rfl⟩
  have hZl : (cells8 Z).toArray.size = 256 := by rw [hZ]; simp [cells8]
  have hZo : Oct Z := by rw [hZ]; exact Oct.zeros _
  have hZn : Z.length = 256 := by rw [hZ]; simp
  rw [← hZ] at hb ⊢
  have hf := frame_fits h.len hj
  have hh := h.head
  have hlt := h.lt
  have HP := Lib.hid h
  have HT := Lib.hid (h.there (j * 256) 256 hf)
  have HZ := Lib.hid hZl
  have HN := Lib.hid hZn
  have e1 : (j : Int) < (many : Int) := by omega
  clear h hj hf hZ hZl hZn
  go_enter Tryz.func133, Tryz.ntmps133
  go_wp2_with (first
    | (go_at_call 136; (with_reducible refine (X).mono ?_); rintro e w' ⟨rfl, rfl⟩)
    | ((with_reducible refine at_store 159 ?_); refine wpList_store_mid rfl 159 _ _ rfl rb (j * 256) (cells8 Z).toArray rfl rfl ?c1 ?c2 (all_oneCell_toArray cells8_one) ?_))
  case c1 => rw [HZ.out]; exact HT.out
  case c2 => rw [HZ.out]; exact page_size
  go_wp2
  go_ret
  obtain ⟨r1, r2⟩ := setCells_row (cells8 Z) (j * 256) (cells8 bs) w HP.out.row (by rw [cells8_len, cells8_len, HN.out]; exact frame_fits HP.out.len (by omega))
  exact ⟨rfl, HP.out.turn r2 _ hZo (by rw [HN.out]; exact frame_fits HP.out.len (by omega)) r1, r2⟩
theorem has_two (i k : Nat) (h : Ph w mb rb many bs) (hi : i < many) (hk : k < many) (m : Nat) (hm : m = i ∨ m = k) :
    Calls Tryz.prog 136 #[.pointer (some ⟨mb, 0, none⟩), .int .i64 m] w fun e w' => e = .returned (.bool true) ∧ w = w' := has_yes m h (by omega)
theorem copy_keep (i k : Nat) (cs : List Value) (hl : cs.length = 256) (hne : mb ≠ rb) (s : Value) (W : World) (h : W.cell? ⟨mb, 0, none⟩ = some s ∧ W.rangeAt rb (k * 256) cs ∧ W.there rb (i * 256) 256) :
    (W.setCells rb (i * 256) cs).cell? ⟨mb, 0, none⟩ = some s ∧ (W.setCells rb (i * 256) cs).rangeAt rb (k * 256) cs ∧ (W.setCells rb (i * 256) cs).there rb (i * 256) 256 := by
  obtain ⟨h1, h2, h3⟩ := h
  refine ⟨by rw [World.cell?_setCells_out rb cs _ W _ (fun e => absurd e hne)]; exact h1, ?_, World.there_setCells h3 _ _ _⟩
  by_cases c : i = k
  · subst c; exact World.rangeAt_setCells_same _ _ _ _ (by rw [hl]; exact h3)
  · exact World.rangeAt_setCells_apart h2 _ _ _ (.inr (by omega))
set_option maxHeartbeats 2000000 in
theorem copy_any (i k : Nat) (h : Ph w mb rb many bs) (hi : i < many) (hk : k < many) :
    Calls Tryz.prog 135 #[.pointer (some ⟨mb, 0, none⟩), .int .i64 i, .int .i64 k] w (DidP mb rb many (splice bs (i * 256) (cut bs (k * 256) 256)) .nilIface w) := by
  have X := has_yes i h hi
  have Y := has_yes k h hk
  have fi := frame_fits h.len hi
  have fk := frame_fits h.len hk
  have hh := h.head
  have hlt := h.lt
  have HP := Lib.hid h
  have HL := Lib.hid (cut_len bs (k * 256) 256 fk)
  have HO := Lib.hid (h.oct.cut (k * 256) 256)
  have hr := h.range (k * 256) 256 fk
  have ht := h.there (i * 256) 256 fi
  have e1 : (i : Int) < (many : Int) := by omega
  have e2 : (k : Int) < (many : Int) := by omega
  have E3 := Lib.hid (show i * 256 + 256 ≤ bs.length from fi)
  generalize cut bs (k * 256) 256 = C at *
  have hl : (cells8 C).length = 256 := by rw [cells8_len]; exact HL.out
  have hu := Tryz.underlying159
  have hi' : (Tryz.prog.info? 159).map (·.size) = some (cells8 C).length := by rw [hl]; exact page_size
  have h1 : ∀ v ∈ cells8 C, v.oneCell' = true := cells8_one
  generalize hcs : cells8 C = cs at *
  have HCS := Lib.hid hcs
  have HK := Lib.hid (copy_keep (mb := mb) (rb := rb) i k cs hl h.2.2.2.2.1 (.slice (some ⟨rb, 0, none⟩) many many))
  clear h hi hk fi fk hcs
  go_enter Tryz.func135, Tryz.ntmps135
  go_wp2_with (first
    | (go_at_call 136; (with_reducible refine (X).mono ?_); rintro e w' ⟨rfl, rfl⟩)
    | (go_at_call 136; (with_reducible refine (Y).mono ?_); rintro e w' ⟨rfl, rfl⟩))
  go_region_held3 (fun w' => w'.cell? ⟨mb, 0, none⟩ = some (.slice (some ⟨rb, 0, none⟩) many many) ∧ w'.rangeAt rb (k * 256) cs ∧ w'.there rb (i * 256) 256) (first | go_keep | exact HK.out _ ⟨by simpa using hh, by simpa using hr, by simpa using ht⟩) (fail)
  go_wp2
  go_ret
  obtain ⟨r1, r2⟩ := setCells_row cs (i * 256) (cells8 bs) w.drew (HP.out.new (New.refl w).drew).row (by rw [hl, cells8_len]; exact E3.out)
  exact ⟨rfl, HP.out.turn ((Far.drew rb w).trans r2) _ HO.out (by rw [HL.out]; exact E3.out) (by rw [HCS.out]; exact r1), (Far.drew rb w).trans r2⟩
end
end Go.Proofs.YtgedimlhldfkaaaGreatDoor
namespace Go.Proofs.YtgedimlhldfkaaaGreatDoor
open Go.RowKit
set_option linter.unusedVariables false
set_option maxRecDepth 100000
def suZ : List Int := List.replicate (2 * 256) 0
def suA : List Int := splice suZ (1 * 256 + 250) [7, 8]
def suB : List Int := splice suA (0 * 256) (cut suA (1 * 256) 256)
theorem su_cut : cut suB (0 * 256 + 250) 3 = [7, 8, 0] := by kernel_rfl
section
variable {w : World} {mb rb : Nat}
theorem pmade_two (w : World) : Calls Tryz.prog 61 #[.int .i64 2] w (MadeP 2 w) := pmade_any 2 w (by omega) (by omega)
theorem oct78 : Oct [7, 8] := fun x hx => by simp at hx; omega
theorem psure_1 {v : Value} (h : Ph w mb rb 2 suZ) (hv : Byts w v [7, 8]) : Calls Tryz.prog 57 #[.pointer (some ⟨mb, 0, none⟩), .int .i64 1, .int .i64 250, v] w (DidP mb rb 2 suA .nilIface w) :=
  write_any 1 250 v [7, 8] h hv oct78 (by omega) (by simp)
theorem psure_2 (h : Ph w mb rb 2 suA) : Calls Tryz.prog 135 #[.pointer (some ⟨mb, 0, none⟩), .int .i64 0, .int .i64 1] w (DidP mb rb 2 suB .nilIface w) := copy_any 0 1 h (by omega) (by omega)
theorem psure_3 (h : Ph w mb rb 2 suB) : Calls Tryz.prog 43 #[.pointer (some ⟨mb, 0, none⟩), .int .i64 0, .int .i64 250, .int .i64 3] w (Got [7, 8, 0] w) := by
  have := read_any 0 250 3 h (by omega) (by omega)
  rw [su_cut] at this
  exact this
theorem psure_4 (h : Ph w mb rb 2 suB) : Calls Tryz.prog 43 #[.pointer (some ⟨mb, 0, none⟩), .int .i64 0, .int .i64 255, .int .i64 2] w fun e w' => e = .returned (.tuple #[.slice none 0 0, .iface 98 (.int .i64 14)]) ∧ w = w' :=
  read_fault 0 255 2 h (by omega) (by omega) (by omega)
theorem psure_5 (h : Ph w mb rb 2 suB) : Calls Tryz.prog 139 #[.pointer (some ⟨mb, 0, none⟩)] w fun e w' => e = .returned (.int .i64 2) ∧ w = w' := many_any h
theorem str_780 : strOfNums [7, 8, 0] = ⟨#[7, 8, 0]⟩ := rfl
end
end Go.Proofs.YtgedimlhldfkaaaGreatDoor
namespace Go.Proofs.YtgedimlhldfkaaaGreatDoor
open Go.RowKit
set_option linter.unusedVariables false
set_option maxRecDepth 100000
/-- a frame, when bytes are laid into it -/
theorem cut_splice_frame (l : List Int) (f o : Nat) (c : List Int) (hf : f * 256 + 256 ≤ l.length) (ho : o + c.length ≤ 256) :
    cut (splice l (f * 256 + o) c) (f * 256) 256 = splice (cut l (f * 256) 256) o c := by
  have hl := splice_len l (f * 256 + o) c (by omega)
  have hc := cut_len l (f * 256) 256 hf
  apply ext_getD (by rw [cut_len _ _ _ (by omega), splice_len _ _ _ (by omega), hc])
  intro j hj
  rw [cut_len _ _ _ (by omega)] at hj
  rw [cut_get _ _ _ _ (by omega) hj, splice_get _ _ _ (by omega), splice_get _ _ _ (by omega)]
  by_cases d : o ≤ j ∧ j < o + c.length
  · rw [if_pos d, if_pos (by omega)]; exact getD_at _ (by omega)
  · rw [if_neg d, if_neg (by omega), cut_get _ _ _ _ hf hj]
theorem cut_splice_other (l : List Int) (f g o : Nat) (c : List Int) (hf : f * 256 + 256 ≤ l.length) (hg : g * 256 + 256 ≤ l.length) (ho : o + c.length ≤ 256) (hne : f ≠ g) :
    cut (splice l (f * 256 + o) c) (g * 256) 256 = cut l (g * 256) 256 := cut_splice_off _ _ _ _ _ (by omega) hg (by omega)
theorem splice_two (l : List Int) (p : Nat) (a b : List Int) (h : p + a.length + b.length ≤ l.length) : splice (splice l p a) (p + a.length) b = splice l p (a ++ b) := by
  have h1 := splice_len l p a (by omega)
  have h2 := splice_len l p (a ++ b) (by rw [List.length_append]; omega)
  apply ext_getD (by rw [splice_len _ _ _ (by omega), h1, h2])
  intro j hj
  rw [splice_get _ _ _ (by omega), splice_get _ _ _ (by omega), splice_get _ _ _ (by rw [List.length_append]; omega), List.length_append]
  by_cases c1 : p + a.length ≤ j ∧ j < p + a.length + b.length
  · rw [if_pos c1, if_pos (by omega)]
    simp only [List.getD_eq_getElem?_getD]
    rw [List.getElem?_append_right (by omega)]
    congr 2; omega
  · rw [if_neg c1]
    by_cases c2 : p ≤ j ∧ j < p + a.length
    · rw [if_pos c2, if_pos (by omega)]
      simp only [List.getD_eq_getElem?_getD]
      rw [List.getElem?_append_left (by omega)]
    · rw [if_neg c2, if_neg (by omega)]
theorem splice_swap (l : List Int) (p : Nat) (a b : List Int) (h : p + a.length + b.length ≤ l.length) : splice (splice l (p + a.length) b) p a = splice l p (a ++ b) := by
  have h1 := splice_len l (p + a.length) b (by omega)
  rw [← splice_two l p a b h]
  have h2 := splice_len l p a (by omega)
  have h3 := splice_len (splice l (p + a.length) b) p a (by omega)
  have h4 := splice_len (splice l p a) (p + a.length) b (by omega)
  apply ext_getD (by omega)
  intro j hj
  rw [splice_get _ _ _ (by omega), splice_get _ _ _ (by omega), splice_get _ _ _ (by omega), splice_get _ _ _ (by omega)]
  by_cases c1 : p ≤ j ∧ j < p + a.length
  · rw [if_pos c1, if_neg (by omega), if_pos c1]
  · rw [if_neg c1, if_neg c1]
end Go.Proofs.YtgedimlhldfkaaaGreatDoor
