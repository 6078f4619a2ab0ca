/- What the package of frames of bytes does: contracts, for any number of frames and any bytes in them, in any world. -/
import Derived.Test.YtpjmcdlkockbdaaFar
import Derived.Test.YtpjmcdlkockbdaaPhMath
import Derived.Deep.LoopGhost
import Derived.Deep.QuietTactic
import Derived.BigQuiet
import Derived.Deep.OwnRows
import Derived.Deep.MidRow
import Derived.Deep.WholeRow
import Derived.Deep.RegionHeld3
namespace Go.Proofs.Ytpjmcdlkockbdaa
open Go.RowKit
set_option linter.unusedVariables false
theorem byte_info : (Try.prog.info? 5).map (fun i => (i.zero, i.size, i.bytes)) = some (some (.int .u8 0), 1, 1) := by kernel_rfl
theorem byte_size : (Try.prog.info? 5).map (·.size) = some 1 := by kernel_rfl
theorem page_info : (Try.prog.info? 75).map (fun i => (i.zero, i.size, i.bytes)) = some (some (.agg (List.replicate 256 (Value.int .u8 0)).toArray), 256, 256) := by kernel_rfl
theorem page_size : (Try.prog.info? 75).map (·.size) = some 256 := by kernel_rfl
/-- bytes as cells -/
def cells8 (l : List Int) : List Value := l.map (Value.int .u8)
theorem cells8_len (l : List Int) : (cells8 l).length = l.length := by simp [cells8]
theorem cells8_one {l : List Int} : ∀ v ∈ cells8 l, v.oneCell' = true := by
  intro v hv
  simp only [cells8, List.mem_map] at hv
  obtain ⟨x, _, rfl⟩ := hv
  rfl
theorem cells8_get {l : List Int} {j : Nat} {v : Value} (h : (cells8 l)[j]? = some v) : j < l.length ∧ v = .int .u8 (l.getD j 0) := by
  simp only [cells8, List.getElem?_map] at h
  rcases hj : l[j]? with _ | y
  · rw [hj] at h; cases h
  · rw [hj] at h
    have hl : j < l.length := by
      rcases Nat.lt_or_ge j l.length with k | k
      · exact k
      · rw [List.getElem?_eq_none k] at hj; cases hj
    refine ⟨hl, ?_⟩
    rw [List.getD_eq_getElem?_getD, hj]
    simpa using h.symm
theorem cells8_zeros (n : Nat) : cells8 (List.replicate n 0) = List.replicate n (.int .u8 0) := by simp [cells8]
theorem cells8_splice (l : List Int) (p : Nat) (b : List Int) : cells8 (splice l p b) = splice (cells8 l) p (cells8 b) := splice_map _ _ _ _
/-- frames of bytes in memory: the struct is block mb, the bytes are block rb -/
def Ph (w : World) (mb rb many : Nat) (bs : List Int) : Prop :=
  Oct bs ∧ bs.length = many * 256 ∧ 1 ≤ many ∧ many ≤ 1024 ∧ mb ≠ rb ∧ w.heap[mb]? = some (.cells #[.slice (some ⟨rb, 0, none⟩) many many] 48 (0, 0)) ∧
  w.heap[rb]? = some (.cells (cells8 bs).toArray 75 (0, 0))
section
variable {w w' : World} {mb rb many : Nat} {bs : List Int}
theorem Ph.lt (h : Ph w mb rb many bs) : mb < w.heap.size ∧ rb < w.heap.size :=
  ⟨(Array.getElem?_eq_some_iff.1 h.2.2.2.2.2.1).1, (Array.getElem?_eq_some_iff.1 h.2.2.2.2.2.2).1⟩
theorem Ph.len (h : Ph w mb rb many bs) : bs.length = many * 256 := h.2.1
theorem Ph.oct (h : Ph w mb rb many bs) : Oct bs := h.1
theorem Ph.bd (h : Ph w mb rb many bs) : 1 ≤ many ∧ many ≤ 1024 := ⟨h.2.2.1, h.2.2.2.1⟩
theorem Ph.row (h : Ph w mb rb many bs) : w.heap[rb]? = some (.cells (cells8 bs).toArray 75 (0, 0)) := h.2.2.2.2.2.2
theorem Ph.new (h : Ph w mb rb many bs) (k : New w w') : Ph w' mb rb many bs :=
  ⟨h.1, h.2.1, h.2.2.1, h.2.2.2.1, h.2.2.2.2.1, by rw [k.block h.lt.1]; exact h.2.2.2.2.2.1, by rw [k.block h.lt.2]; exact h.2.2.2.2.2.2⟩
theorem Ph.off {b : Nat} (h : Ph w mb rb many bs) (k : Far b w w') (h1 : mb ≠ b) (h2 : rb ≠ b) : Ph w' mb rb many bs :=
  ⟨h.1, h.2.1, h.2.2.1, h.2.2.2.1, h.2.2.2.2.1, by rw [k.block h.lt.1 h1]; exact h.2.2.2.2.2.1, by rw [k.block h.lt.2 h2]; exact h.2.2.2.2.2.2⟩
theorem Ph.head (h : Ph w mb rb many bs) : w.cell? ⟨mb, 0, none⟩ = some (.slice (some ⟨rb, 0, none⟩) many many) := by
  rw [cell_of_row w mb 0 _ _ _ h.2.2.2.2.2.1]; rfl
theorem Ph.cell (h : Ph w mb rb many bs) (j : Nat) (hj : j < bs.length) : w.cell? ⟨rb, j, none⟩ = some (.int .u8 (bs.getD j 0)) ∧ w.frozen? ⟨rb, j, none⟩ = false := by
  refine ⟨?_, by simp [World.frozen?, h.row]⟩
  rw [cell_of_row w rb j _ _ _ h.row, List.getElem?_toArray, cells8, List.getElem?_map, List.getElem?_eq_getElem hj, getD_eq bs j hj]; rfl
theorem Ph.turn {c : List Int} (h : Ph w mb rb many bs) (k : Far rb w w') (p : Nat) (hc : Oct c) (hp : p + c.length ≤ bs.length) (hr : w'.heap[rb]? = some (.cells (splice (cells8 bs) p (cells8 c)).toArray 75 (0, 0))) :
    Ph w' mb rb many (splice bs p c) :=
  ⟨h.1.splice hc p, by rw [splice_len _ _ _ hp]; exact h.2.1, h.2.2.1, h.2.2.2.1, h.2.2.2.2.1, by rw [k.block h.lt.1 h.2.2.2.2.1]; exact h.2.2.2.2.2.1, by rw [cells8_splice]; exact hr⟩
theorem Ph.range (h : Ph w mb rb many bs) (p n : Nat) (hp : p + n ≤ bs.length) : w.rangeAt rb p (cells8 (cut bs p n)) := fun j v hv => by
  obtain ⟨h1, rfl⟩ := cells8_get hv
  rw [cut_len _ _ _ hp] at h1
  rw [(h.cell (p + j) (by omega)).1, cut_get _ _ _ _ hp h1]
theorem Ph.there (h : Ph w mb rb many bs) (p n : Nat) (hp : p + n ≤ bs.length) : w.there rb p n := fun j hj => by
  obtain ⟨h1, h2⟩ := h.cell (p + j) (by omega)
  exact ⟨by rw [h1]; rfl, h2⟩
end
/-- a slice of bytes that can be read -/
def Byts (w : World) (v : Value) (l : List Int) : Prop :=
  ∃ p cap, v = .slice p l.length cap ∧ l.length ≤ maxLen ∧ ∀ i, i < l.length → ∃ a, p = some a ∧ w.cell? (a.add i) = some (.int .u8 (l.getD i 0))
theorem Byts.nil (w : World) : Byts w (.slice none 0 0) [] := ⟨none, 0, rfl, Nat.zero_le _, fun i h => absurd h (Nat.not_lt_zero _)⟩
theorem Byts.new {w w' : World} {v : Value} {l : List Int} (h : Byts w v l) (k : New w w') : Byts w' v l := by
  obtain ⟨p, cap, h1, h2, h3⟩ := h
  refine ⟨p, cap, h1, h2, fun i hi => ?_⟩
  obtain ⟨a, ha, hc⟩ := h3 i hi
  exact ⟨a, ha, by rw [k.cell (cell_lt hc)]; exact hc⟩
theorem Byts.copy {w : World} {p : Option Addr} {n cap : Nat} {l : List Int} (h : Byts w (.slice p n cap) l) : n = l.length ∧ l.length ≤ maxLen ∧
    (0 < (cells8 l).length → ∃ ad, p = some ad ∧ ∀ j v, (cells8 l)[j]? = some v → w.cell? (ad.add j) = some v) := by
  obtain ⟨p', cap', h1, h2, h3⟩ := h
  cases h1
  refine ⟨rfl, h2, fun hl => ?_⟩
  rw [cells8_len] at hl
  obtain ⟨a, rfl, _⟩ := h3 0 hl
  refine ⟨a, rfl, fun j v hv => ?_⟩
  obtain ⟨hj, rfl⟩ := cells8_get hv
  obtain ⟨a', e, hc⟩ := h3 j hj
  cases e
  exact hc
theorem made_same (k m : Nat) (v : Value) (hk : 0 < k) : madeCells (List.replicate k v).toArray m = (List.replicate m v).toArray := by
  apply Array.ext
  · simp [madeCells]
  · intro i h1 h2
    have : i % k < k := Nat.mod_lt _ hk
    simp [madeCells, this]
theorem cells_zeros (n : Nat) : madeCells (List.replicate 256 (Value.int .u8 0)).toArray (n * 256) = (cells8 (List.replicate (n * 256) 0)).toArray := by
  rw [cells8_zeros, made_same 256 _ _ (by omega)]
theorem make_frames (n : Nat) (hn : n ≤ 1024) (w : World) : (Instr.makeSlice 46 (.int .i64 (n : Int)) (.int .i64 (n : Int))).run Try.prog w =
    .ok (.slice (some ⟨w.heap.size, 0, none⟩) n n) (w.alloc (.cells (cells8 (List.replicate (n * 256) 0)).toArray 75)) := by
  obtain ⟨i, hi, hz, hs, hb⟩ := info_parts page_info
  have hr := run_make (P := Try.prog) w 46 75 i _ Try.underlying46 hi hz .i64 .i64 n n (by omega) (Int.le_refl _) (by rw [hb]; omega) (by omega)
  simp only [Int.toNat_natCast, hs] at hr
  rw [hr]
  exact congrArg (fun c => Result.ok (Value.slice (some ⟨w.heap.size, 0, none⟩) n n) (w.alloc (.cells c 75))) (cells_zeros n)
/-- what New answers -/
def MadeP (n : Nat) (w : World) (e : Ending) (w' : World) : Prop :=
  e = .returned (.tuple #[.pointer (some ⟨w.heap.size + 1, 0, none⟩), .nilIface]) ∧ Ph w' (w.heap.size + 1) w.heap.size n (List.replicate (n * 256) 0) ∧ New w w'
theorem pmade_any (n : Nat) (w : World) (h1 : 1 ≤ n) (h2 : n ≤ 1024) : Calls Try.prog 5 #[.int .i64 n] w (MadeP n w) := by
  have hmk := make_frames n h2
  have f1 : decide ((n : Int) < 1) = false := by simp; omega
  have f2 : decide ((1024 : Int) < (n : Int)) = false := by simp; omega
  obtain ⟨Z, hZ⟩ : ∃ Z, Z = List.replicate (n * 256) (0 : Int) := ⟨_, rfl⟩
  rw [← hZ] at hmk
  have HZ := Lib.hid hZ
  clear hZ
  go_enter Try.func5, Try.ntmps5
  go_wp2
  refine bodyPost_ret (v := .tuple #[.pointer (some ⟨w.heap.size + 1, 0, none⟩), .nilIface]) (by simp [results, Try.results5, go_sem]) rfl ⟨rfl, ?_, ((New.refl _).alloc _ _).alloc _ _⟩
  rw [← HZ.out]
  refine ⟨by rw [HZ.out]; exact Oct.zeros _, by rw [HZ.out]; simp, h1, h2, by omega, ?_, ?_⟩
  · simpa using heap_alloc_new (w.alloc (.cells (cells8 Z).toArray 75)) (.cells #[.slice (some ⟨w.heap.size, 0, none⟩) n n] 48)
  · rw [Below.heap_alloc _ _ _ (by simp), heap_alloc_new]
theorem pmade_bad (n : Int) (w : World) (h : n < 1 ∨ 1024 < n) : Calls Try.prog 5 #[.int .i64 n] w fun e w' => e = .returned (.tuple #[.pointer none, .iface 43 (.int .i64 22)]) ∧ New w w' := by
  by_cases c : n < 1
  · clear h
    go_enter Try.func5, Try.ntmps5
    go_wp2
    go_ret2
    exact ⟨rfl, New.refl _⟩
  · have d : 1024 < n := by omega
    clear h
    go_enter Try.func5, Try.ntmps5
    go_wp2
    go_ret2
    exact ⟨rfl, New.refl _⟩
theorem many_any {w : World} {mb rb many : Nat} {bs : List Int} (h : Ph w mb rb many bs) : Calls Try.prog 12 #[.pointer (some ⟨mb, 0, none⟩)] w fun e w' => e = .returned (.int .i64 many) ∧ w = w' := by
  have hh := h.head
  clear h
  go_enter Try.func12, Try.ntmps12
  go_wp2
  go_ret
  exact ⟨rfl, rfl⟩
theorem many_nil (w : World) : Calls Try.prog 12 #[.pointer none] w fun e w' => e = .returned (.int .i64 0) ∧ w = w' := by
  go_enter Try.func12, Try.ntmps12
  go_wp2
  go_ret
  exact ⟨rfl, rfl⟩
theorem has_yes (j : Nat) {w : World} {mb rb many : Nat} {bs : List Int} (h : Ph w mb rb many bs) (hj : j < many) : Calls Try.prog 32 #[.pointer (some ⟨mb, 0, none⟩), .int .i64 j] w fun e w' => e = .returned (.bool true) ∧ w = w' := by
  have X := many_any h
  have f : decide ((j : Int) < (many : Int)) = true := by simp; omega
  have f2 : decide (j < many) = true := by simp; omega
  clear h
  go_enter Try.func32, Try.ntmps32
  go_wp2_with (go_at_call 12; (with_reducible refine (X).mono ?_); rintro e w' ⟨rfl, rfl⟩)
  go_ret
  exact ⟨rfl, rfl⟩
theorem has_no (m : Int) {w : World} {mb rb many : Nat} {bs : List Int} (h : Ph w mb rb many bs) (hm : ¬ (0 ≤ m ∧ m < many)) : Calls Try.prog 32 #[.pointer (some ⟨mb, 0, none⟩), .int .i64 m] w fun e w' => e = .returned (.bool false) ∧ w = w' := by
  have X := many_any h
  clear h
  by_cases c : 0 ≤ m
  · have d : decide (m < (many : Int)) = false := by simp; omega
    have d2 : (many : Int) ≤ m := by omega
    clear hm
    go_enter Try.func32, Try.ntmps32
    go_wp2_with (go_at_call 12; (with_reducible refine (X).mono ?_); rintro e w' ⟨rfl, rfl⟩)
    go_ret
    exact ⟨rfl, rfl⟩
  · have d : decide (0 ≤ m) = false := by simpa using c
    have d2 : m < 0 := by omega
    clear hm c
    go_enter Try.func32, Try.ntmps32
    go_wp2_with (go_at_call 12; (with_reducible refine (X).mono ?_); rintro e w' ⟨rfl, rfl⟩)
    go_ret
    exact ⟨rfl, rfl⟩
theorem has_nil (m : Int) (w : World) : Calls Try.prog 32 #[.pointer none, .int .i64 m] w fun e w' => e = .returned (.bool false) ∧ w = w' := by
  by_cases c : 0 ≤ m
  · have d : decide (m < 0) = false := by simp; omega
    go_enter Try.func32, Try.ntmps32
    go_wp2_with (go_at_call 12; (with_reducible refine (many_nil _).mono ?_); rintro e w' ⟨rfl, rfl⟩)
    go_ret
    exact ⟨rfl, rfl⟩
  · have d : decide (0 ≤ m) = false := by simpa using c
    have d2 : m < 0 := by omega
    clear c
    go_enter Try.func32, Try.ntmps32
    go_wp2_with (go_at_call 12; (with_reducible refine (many_nil _).mono ?_); rintro e w' ⟨rfl, rfl⟩)
    go_ret
    exact ⟨rfl, rfl⟩
end Go.Proofs.Ytpjmcdlkockbdaa
