/- What the package of frames does: contracts, for any number of frames and any row of how often each is taken, in any world. -/
import Derived.Test.YtgedimlhldfkaaaGreatDoorNumF
import Derived.Test.YtgedimlhldfkaaaGreatDoorFar
import Derived.Test.YtgedimlhldfkaaaGreatDoorFrMath
import Derived.Deep.LoopGhost
import Derived.Deep.QuietTactic
import Derived.BigQuiet
import Derived.Deep.OwnRows
import Derived.Deep.RegionHeld3
import Derived.Deep.DeepCutAuto
import Derived.Deep.CutBlock
namespace Go.Proofs.YtgedimlhldfkaaaGreatDoor
open Go.RowKit
set_option linter.unusedVariables false
theorem int_info : (Tryz.prog.info? 3).map (fun i => (i.zero, i.size, i.bytes)) = some (some (.int .i64 0), 1, 8) := by kernel_rfl
/-- frames in memory: the struct is block fb, its row of numbers is block rb -/
def Fr (w : World) (fb rb : Nat) (rs : List Int) : Prop :=
  Fits rs ∧ fb ≠ rb ∧ w.heap[fb]? = some (.cells #[.slice (some ⟨rb, 0, none⟩) rs.length rs.length] 141 (0, 0)) ∧
  w.heap[rb]? = some (.cells (rs.map (Value.int .i64)).toArray 3 (0, 0))
theorem Fr.lt {w : World} {fb rb : Nat} {rs : List Int} (h : Fr w fb rb rs) : fb < w.heap.size ∧ rb < w.heap.size :=
  ⟨(Array.getElem?_eq_some_iff.1 h.2.2.1).1, (Array.getElem?_eq_some_iff.1 h.2.2.2).1⟩
theorem Fr.new {w w' : World} {fb rb : Nat} {rs : List Int} (h : Fr w fb rb rs) (k : New w w') : Fr w' fb rb rs :=
  ⟨h.1, h.2.1, by rw [k.block h.lt.1]; exact h.2.2.1, by rw [k.block h.lt.2]; exact h.2.2.2⟩
theorem Fr.head {w : World} {fb rb : Nat} {rs : List Int} (h : Fr w fb rb rs) : w.cell? ⟨fb, 0, none⟩ = some (.slice (some ⟨rb, 0, none⟩) rs.length rs.length) := by
  rw [cell_of_row w fb 0 _ _ _ h.2.2.1]; rfl
theorem Fr.cell {w : World} {fb rb : Nat} {rs : List Int} (h : Fr w fb rb rs) (j : Nat) (hj : j < rs.length) : w.cell? ⟨rb, j, none⟩ = some (.int .i64 (rs.getD j 0)) ∧ w.frozen? ⟨rb, j, none⟩ = false := by
  refine ⟨?_, by simp [World.frozen?, h.2.2.2]⟩
  rw [cell_of_row w rb j _ _ _ h.2.2.2, List.getElem?_toArray, List.getElem?_map, List.getElem?_eq_getElem hj, List.getD_eq_getElem?_getD, List.getElem?_eq_getElem hj]; rfl
theorem Fr.set {w : World} {fb rb : Nat} {rs : List Int} (h : Fr w fb rb rs) (i : Nat) (v : Int) (h0 : 0 ≤ v) (h1 : v ≤ 1073741824) : Fr (w.setCell ⟨rb, i, none⟩ (.int .i64 v)) fb rb (rs.set i v) := by
  refine ⟨h.1.set i v h0 h1, h.2.1, ?_, ?_⟩
  · rw [List.length_set, Below.heap_setCell w _ _ fb h.2.1]; exact h.2.2.1
  · have e := h.2.2.2
    simp only [World.setCell, Array.getElem?_modify, e]
    simp [List.map_set]
theorem made_eq (n : Nat) (z : Value) : madeCells #[z] n = (List.replicate n z).toArray := by
  apply Array.ext
  · simp [madeCells]
  · intro i h1 h2
    have : i % 1 = 0 := by omega
    simp [madeCells, this]
theorem map_zeros (n : Nat) : (List.replicate n (0 : Int)).map (Value.int .i64) = List.replicate n (.int .i64 0) := by simp
/-- what New answers -/
def Made (n : Nat) (w : World) (e : Ending) (w' : World) : Prop :=
  e = .returned (.tuple #[.pointer (some ⟨w.heap.size + 1, 0, none⟩), .nilIface]) ∧ Fr w' (w.heap.size + 1) w.heap.size (List.replicate n 0) ∧ New w w'
theorem made_any (n : Nat) (w : World) (h1 : 1 ≤ n) (h2 : n ≤ 1024) : Calls Tryz.prog 60 #[.int .i64 n] w (Made n w) := by
  have hmk := run_make_row' (P := Tryz.prog) 43 3 (.int .i64 0) 8 Tryz.underlying43 int_info rfl .i64 .i64 n (by omega) (by omega)
  have f1 : decide ((n : Int) < 1) = false := by simp; omega
  have f2 : decide ((1024 : Int) < (n : Int)) = false := by simp; omega
  go_enter Tryz.func60, Tryz.ntmps60
  go_wp2
  refine bodyPost_ret (v := .tuple #[.pointer (some ⟨w.heap.size + 1, 0, none⟩), .nilIface]) (by simp [results, Tryz.results60, go_sem]) rfl ⟨rfl, ⟨Fits.zeros n h1 h2, by omega, ?_, ?_⟩, ((New.refl _).alloc _ _).alloc _ _⟩
  · rw [List.length_replicate]
    simpa using heap_alloc_new (w.alloc (.cells (madeCells #[.int .i64 0] n) 3)) (.cells #[.slice (some ⟨w.heap.size, 0, none⟩) n n] 141)
  · rw [Below.heap_alloc _ _ _ (by simp), heap_alloc_new, made_eq, map_zeros]
theorem made_bad (n : Int) (w : World) (h : n < 1 ∨ 1024 < n) : Calls Tryz.prog 60 #[.int .i64 n] w fun e w' => e = .returned (.tuple #[.pointer none, .iface 98 (.int .i64 22)]) ∧ New w w' := by
  by_cases c : n < 1
  · clear h
    go_enter Tryz.func60, Tryz.ntmps60
    go_wp2
    go_ret2
    exact ⟨rfl, New.refl _⟩
  · have d : 1024 < n := by omega
    clear h
    go_enter Tryz.func60, Tryz.ntmps60
    go_wp2
    go_ret2
    exact ⟨rfl, New.refl _⟩
theorem refs_any (m : Int) (w : World) {fb rb : Nat} {rs : List Int} (h : Fr w fb rb rs) : Calls Tryz.prog 134 #[.pointer (some ⟨fb, 0, none⟩), .int .i64 m] w fun e w' => e = .returned (.int .i64 (rfs rs m)) ∧ w = w' := by
  have hh := h.head
  have hb := h.1.2.1
  by_cases c : 0 ≤ m ∧ m < rs.length
  · obtain ⟨c1, c2⟩ := c
    obtain ⟨j, rfl⟩ := Int.eq_ofNat_of_zero_le c1
    have hj : j < rs.length := by omega
    have hc := (h.cell j hj).1
    have E := Lib.hid (rfs_in rs j hj)
    have f2 : decide ((rs.length : Int) ≤ (j : Int)) = false := by simp; omega
    have f3 : decide (rs.length ≤ j) = false := by simp; omega
    clear h
    generalize rs.getD j 0 = x at *
    go_enter Tryz.func134, Tryz.ntmps134
    go_wp2
    go_ret
    exact ⟨ret_int (by rw [E.out]), rfl⟩
  · have E := Lib.hid (rfs_out rs m c)
    clear h
    by_cases d : m < 0
    · clear c
      go_enter Tryz.func134, Tryz.ntmps134
      go_wp2
      go_ret
      exact ⟨ret_int (by rw [E.out]), rfl⟩
    · have d2 : (rs.length : Int) ≤ m := by omega
      have d1 : decide (m < 0) = false := by simpa using d
      clear c
      go_enter Tryz.func134, Tryz.ntmps134
      go_wp2
      go_ret
      exact ⟨ret_int (by rw [E.out]), rfl⟩
theorem refs_nil (m : Int) (w : World) : Calls Tryz.prog 134 #[.pointer none, .int .i64 m] w fun e w' => e = .returned (.int .i64 0) ∧ w = w' := by
  go_enter Tryz.func134, Tryz.ntmps134
  go_wp2
  go_ret
  exact ⟨rfl, rfl⟩
/-- the index of the first one that is free -/
theorem index_hit (i : Nat) (w : World) {fb rb : Nat} {rs : List Int} (h : Fr w fb rb rs) (hi : i < rs.length) (hn : NoFree rs i) (hz : rs.getD i 0 = 0) :
    Calls Tryz.prog 157 #[.slice (some ⟨rb, 0, none⟩) rs.length rs.length, .int .i64 0] w fun e w' => e = .returned (.int .i64 i) ∧ w = w' := by
  have hb := h.1.2.1
  have HN := Lib.hid hn
  have HZ := Lib.hid hz
  have HC := Lib.hid h
  clear h hn hz
  go_enter Tryz.func157, Tryz.ntmps157
  go_wp2
  go_loopg [8] (i + 1) (fun k a wr => ∃ j : Nat, j + k = i + 1 ∧ j ≤ i ∧ a = .int .i64 (j : Int) ∧ w = wr)
  case atStart => exact ⟨0, by omega, by omega, rfl, rfl⟩
  case round =>
    obtain ⟨j, hj, hji, rfl, rfl⟩ := hrel
    have hjl : j < rs.length := by omega
    have hc := (HC.out.cell j hjl).1
    have J := Lib.hid hj
    clear hj
    by_cases c : j = i
    · subst c
      rw [HZ.out] at hc
      go_wp2
      go_ret
      exact ⟨rfl, rfl⟩
    · have d := HN.out j (by omega)
      have f : ((0 : Int) == rs.getD j 0) = false := by simpa using fun e => d e.symm
      have f2 : (rs.getD j 0 == (0 : Int)) = false := by simpa using d
      generalize rs.getD j 0 = x at *
      clear d
      go_wp2
      go_roundg (i - j)
      case measure => have := J.out; omega
      case rel => exact ⟨j + 1, by have := J.out; omega, by omega, by go_num, rfl⟩
theorem index_none (w : World) {fb rb : Nat} {rs : List Int} (h : Fr w fb rb rs) (hn : NoFree rs rs.length) :
    Calls Tryz.prog 157 #[.slice (some ⟨rb, 0, none⟩) rs.length rs.length, .int .i64 0] w fun e w' => e = .returned (.int .i64 (-1)) ∧ w = w' := by
  have hb := h.1.2.1
  have HN := Lib.hid hn
  have HC := Lib.hid h
  clear h hn
  go_enter Tryz.func157, Tryz.ntmps157
  go_wp2
  go_loopg [8] rs.length (fun k a wr => ∃ j : Nat, j + k = rs.length ∧ a = .int .i64 (j : Int) ∧ w = wr)
  case atStart => exact ⟨0, by omega, rfl, rfl⟩
  case round =>
    obtain ⟨j, hj, rfl, rfl⟩ := hrel
    by_cases c : j < rs.length
    · have hc := (HC.out.cell j c).1
      have d := HN.out j c
      have f : ((0 : Int) == rs.getD j 0) = false := by simpa using fun e => d e.symm
      have f2 : (rs.getD j 0 == (0 : Int)) = false := by simpa using d
      have J := Lib.hid hj
      generalize rs.getD j 0 = x at *
      clear d hj
      go_wp2
      go_roundg (rs.length - (j + 1))
      case measure => have := J.out; omega
      case rel => exact ⟨j + 1, by have := J.out; omega, by go_num, rfl⟩
    · have hjl : j = rs.length := by omega
      clear hj c
      subst hjl
      go_wp2
      go_ret
      exact ⟨rfl, rfl⟩
theorem alloc_hit (i : Nat) (w : World) {fb rb : Nat} {rs : List Int} (h : Fr w fb rb rs) (hi : i < rs.length) (hn : NoFree rs i) (hz : rs.getD i 0 = 0) :
    Calls Tryz.prog 132 #[.pointer (some ⟨fb, 0, none⟩)] w fun e w' => e = .returned (.tuple #[.int .i64 i, .nilIface]) ∧ w' = w.setCell ⟨rb, i, none⟩ (.int .i64 1) := by
  have hh := h.head
  have hb := h.1.2.1
  have hc := h.cell i hi
  obtain ⟨hc1, hc2⟩ := hc
  have X := index_hit i w h hi hn hz
  clear h hn hz
  go_enter Tryz.func132, Tryz.ntmps132
  go_wp2_with (go_at_call 157; (with_reducible refine (X).mono ?_); rintro e w' ⟨rfl, rfl⟩)
  go_ret2
  exact ⟨rfl, rfl⟩
theorem alloc_none (w : World) {fb rb : Nat} {rs : List Int} (h : Fr w fb rb rs) (hn : NoFree rs rs.length) :
    Calls Tryz.prog 132 #[.pointer (some ⟨fb, 0, none⟩)] w fun e w' => e = .returned (.tuple #[.int .i64 0, .iface 98 (.int .i64 12)]) ∧ w = w' := by
  have hh := h.head
  have hb := h.1.2.1
  have X := index_none w h hn
  clear h hn
  go_enter Tryz.func132, Tryz.ntmps132
  go_wp2_with (go_at_call 157; (with_reducible refine (X).mono ?_); rintro e w' ⟨rfl, rfl⟩)
  go_ret2
  exact ⟨rfl, rfl⟩
theorem alloc_nil (w : World) :
    Calls Tryz.prog 132 #[.pointer none] w fun e w' => e = .returned (.tuple #[.int .i64 0, .iface 98 (.int .i64 22)]) ∧ w = w' := by
  go_enter Tryz.func132, Tryz.ntmps132
  go_wp2
  go_ret2
  exact ⟨rfl, rfl⟩
theorem ref_yes (j : Nat) (w : World) {fb rb : Nat} {rs : List Int} (h : Fr w fb rb rs) (hj : j < rs.length) (h1 : 0 < rs.getD j 0) (h2 : rs.getD j 0 < 1073741824) :
    Calls Tryz.prog 91 #[.pointer (some ⟨fb, 0, none⟩), .int .i64 j] w fun e w' => e = .returned .nilIface ∧ w' = w.setCell ⟨rb, j, none⟩ (.int .i64 (rs.getD j 0 + 1)) := by
  have hh := h.head
  have hb := h.1.2.1
  obtain ⟨hc1, hc2⟩ := h.cell j hj
  have X := refs_any j w h
  rw [rfs_in rs j hj] at X
  clear h
  generalize rs.getD j 0 = x at *
  have f1 : (x == 0) = false := by simp; omega
  have f2 : (x == 1073741824) = false := by simp; omega
  go_enter Tryz.func91, Tryz.ntmps91
  go_wp2_with (go_at_call 134; (with_reducible refine (X).mono ?_); rintro e w' ⟨rfl, rfl⟩)
  go_ret
  exact ⟨rfl, rfl⟩
theorem ref_no (m : Int) (w : World) {fb rb : Nat} {rs : List Int} (h : Fr w fb rb rs) (h1 : rfs rs m = 0 ∨ rfs rs m = 1073741824) :
    Calls Tryz.prog 91 #[.pointer (some ⟨fb, 0, none⟩), .int .i64 m] w fun e w' => e = .returned (.iface 98 (.int .i64 22)) ∧ w = w' := by
  have X := refs_any m w h
  clear h
  rcases h1 with h1 | h1
  all_goals
    rw [h1] at X
    clear h1
    go_enter Tryz.func91, Tryz.ntmps91
    go_wp2_with (go_at_call 134; (with_reducible refine (X).mono ?_); rintro e w' ⟨rfl, rfl⟩)
    go_ret
    exact ⟨rfl, rfl⟩
theorem ref_nil (m : Int) (w : World) : Calls Tryz.prog 91 #[.pointer none, .int .i64 m] w fun e w' => e = .returned (.iface 98 (.int .i64 22)) ∧ w = w' := by
  go_enter Tryz.func91, Tryz.ntmps91
  go_wp2_with (go_at_call 134; (with_reducible refine (refs_nil _ _).mono ?_); rintro e w' ⟨rfl, rfl⟩)
  go_ret
  exact ⟨rfl, rfl⟩
theorem unref_yes (j : Nat) (w : World) {fb rb : Nat} {rs : List Int} (h : Fr w fb rb rs) (hj : j < rs.length) (h1 : 0 < rs.getD j 0) :
    Calls Tryz.prog 92 #[.pointer (some ⟨fb, 0, none⟩), .int .i64 j] w fun e w' => e = .returned (.tuple #[.bool (rs.getD j 0 == 1), .nilIface]) ∧ w' = w.setCell ⟨rb, j, none⟩ (.int .i64 (rs.getD j 0 - 1)) := by
  have hh := h.head
  have hb := h.1.2.1
  have hx := h.1.2.2 j
  obtain ⟨hc1, hc2⟩ := h.cell j hj
  have X := refs_any j w h
  rw [rfs_in rs j hj] at X
  have hl := h.lt
  have hne := h.2.1
  clear h
  generalize rs.getD j 0 = x at *
  have f1 : (x == 0) = false := by simp; omega
  by_cases c : x = 1
  · subst c
    go_enter Tryz.func92, Tryz.ntmps92
    go_wp2_with (go_at_call 134; (with_reducible refine (X).mono ?_); rintro e w' ⟨rfl, rfl⟩)
    go_ret2
    exact ⟨rfl, rfl⟩
  · have f2 : (x == 1) = false := by simpa using c
    have f3 : (x - 1 == 0) = false := by simp; omega
    have F2 := Lib.hid f2
    clear f2 c
    go_enter Tryz.func92, Tryz.ntmps92
    go_wp2_with (go_at_call 134; (with_reducible refine (X).mono ?_); rintro e w' ⟨rfl, rfl⟩)
    go_ret2
    exact ⟨by show Ending.returned (.tuple #[.bool false, .nilIface]) = _; rw [F2.out], rfl⟩
theorem unref_no (m : Int) (w : World) {fb rb : Nat} {rs : List Int} (h : Fr w fb rb rs) (h1 : rfs rs m = 0) :
    Calls Tryz.prog 92 #[.pointer (some ⟨fb, 0, none⟩), .int .i64 m] w fun e w' => e = .returned (.tuple #[.bool false, .iface 98 (.int .i64 22)]) ∧ w = w' := by
  have X := refs_any m w h
  clear h
  rw [h1] at X
  clear h1
  go_enter Tryz.func92, Tryz.ntmps92
  go_wp2_with (go_at_call 134; (with_reducible refine (X).mono ?_); rintro e w' ⟨rfl, rfl⟩)
  go_ret2
  exact ⟨rfl, rfl⟩
theorem unref_nil (m : Int) (w : World) : Calls Tryz.prog 92 #[.pointer none, .int .i64 m] w fun e w' => e = .returned (.tuple #[.bool false, .iface 98 (.int .i64 22)]) ∧ w = w' := by
  go_enter Tryz.func92, Tryz.ntmps92
  go_wp2_with (go_at_call 134; (with_reducible refine (refs_nil _ _).mono ?_); rintro e w' ⟨rfl, rfl⟩)
  go_ret2
  exact ⟨rfl, rfl⟩
end Go.Proofs.YtgedimlhldfkaaaGreatDoor
namespace Go.Proofs.YtgedimlhldfkaaaGreatDoor
open Go.RowKit
set_option linter.unusedVariables false
/-- a slice of whole numbers that the call made, or nil -/
def Own (base : Nat) (w : World) (v : Value) (l : List Int) : Prop := w.ownsRow base 3 1 v l.length (l.map (Value.int .i64))
/-- a slice of whole numbers that can be read -/
def Ints (w : World) (v : Value) (l : List Int) : Prop :=
  (v = .slice none 0 0 ∧ l = []) ∨ ∃ b cap, v = .slice (some ⟨b, 0, none⟩) l.length cap ∧ l.length ≤ cap ∧ cap ≤ maxLen ∧ b < w.heap.size ∧ ∀ i, i < l.length → w.cell? ⟨b, i, none⟩ = some (.int .i64 (l.getD i 0))
theorem Own.nil (base : Nat) (w : World) : Own base w (.slice none 0 0) [] := ⟨by simp, .inl ⟨rfl, rfl⟩⟩
theorem Own.new {base : Nat} {w w' : World} {v : Value} {l : List Int} (h : Own base w v l) (k : New w w') : Own base w' v l := by
  refine ⟨h.1, ?_⟩
  rcases h.2 with hn | ⟨g, cap, cur, rfl, hb, hg, rest⟩
  · exact .inl hn
  · exact .inr ⟨g, cap, cur, rfl, hb, by rw [k.block (Array.getElem?_eq_some_iff.1 hg).1]; exact hg, rest⟩
theorem Own.more {base base' : Nat} {w : World} {v : Value} {l : List Int} (h : Own base w v l) (k : base' ≤ base) : Own base' w v l := by
  refine ⟨h.1, ?_⟩
  rcases h.2 with hn | ⟨g, cap, cur, rfl, hb, rest⟩
  · exact .inl hn
  · exact .inr ⟨g, cap, cur, rfl, by omega, rest⟩
theorem Own.ints {base : Nat} {w : World} {v : Value} {l : List Int} (h : Own base w v l) : Ints w v l := by
  rcases h.2 with ⟨rfl, hn⟩ | ⟨g, cap, cur, rfl, hb, hg, h1, h2, h3, h4⟩
  · exact .inl ⟨rfl, by simpa using hn⟩
  · refine .inr ⟨g, cap, rfl, h1, h2, (Array.getElem?_eq_some_iff.1 hg).1, fun i hi => ?_⟩
    have e : (cur.toList.take (l.length * 1))[i]? = some (.int .i64 (l.getD i 0)) := by
      rw [h4, List.getElem?_map, List.getElem?_eq_getElem hi, List.getD_eq_getElem?_getD, List.getElem?_eq_getElem hi]; rfl
    rw [List.getElem?_take] at e
    split at e
    · simpa [World.cell?, hg] using e
    · cases e
theorem Ints.new {w w' : World} {v : Value} {l : List Int} (h : Ints w v l) (k : New w w') : Ints w' v l := by
  rcases h with h | ⟨b, cap, h1, h2, h3, h4, h5⟩
  · exact .inl h
  · exact .inr ⟨b, cap, h1, h2, h3, Nat.lt_of_lt_of_le h4 k.size, fun i hi => by rw [k.cell h4]; exact h5 i hi⟩
theorem Ints.len {w : World} {v : Value} {l : List Int} (h : Ints w v l) : ∃ p cap, v = .slice p l.length cap := by
  rcases h with ⟨rfl, rfl⟩ | ⟨b, cap, rfl, _⟩
  · exact ⟨_, _, rfl⟩
  · exact ⟨_, _, rfl⟩
theorem Own.push {base : Nat} {w0 wr w1 : World} {v v' : Value} {l : List Int} {n : Int} {o : Obj} (hnx : New w0 wr) (hb : base = w0.heap.size)
    (hown : Own base wr v l) (hown' : w1.ownsRow base 3 1 v' (l.length + 1) (l.map (Value.int .i64) ++ [.int .i64 n])) (hgrow : (wr.alloc o).grownBy w1 v.ownBlock) : Own base w1 v' (l ++ [n]) ∧ New w0 w1 := by
  subst hb
  refine ⟨?_, (hnx.allocO o).grown hgrow fun k hk => (World.ownsRow.lt hown k hk).1⟩
  unfold Own; simpa using hown'
/-- a list, and only new blocks -/
def Lists (l : List Int) (w : World) (e : Ending) (w' : World) : Prop := ∃ v, e = .returned v ∧ Own w.heap.size w' v l ∧ New w w'
set_option maxHeartbeats 1000000 in
theorem taken_any (w : World) {fb rb : Nat} {rs : List Int} (h : Fr w fb rb rs) :
    Calls Tryz.prog 71 #[.pointer (some ⟨fb, 0, none⟩)] w (Lists (tk rs rs.length) w) := by
  obtain ⟨i0, hi, hz0, hz1, hz2⟩ := info_parts int_info
  have hh := h.head
  have hb := h.1.2.1
  have HF := Lib.hid h
  clear h
  go_enter Tryz.func71, Tryz.ntmps71
  go_wp2
  go_loopg [3, 13] rs.length (fun k l i wr => ∃ j : Nat, j + k = rs.length ∧ i = .int .i64 (j : Int) ∧ Own w.heap.size wr l (tk rs j) ∧ New w wr)
  case atStart => exact ⟨0, by omega, rfl, Own.nil _ _, New.refl _⟩
  case round =>
    obtain ⟨j, hj, rfl, hown, hnx⟩ := hrel
    have hl := tk_len rs j
    by_cases c : j < rs.length
    · obtain ⟨hc, _⟩ := (HF.out.new hnx).cell j c
      by_cases d : 0 < rs.getD j 0
      · have P := Lib.hid (tk_push rs j d)
        have J := Lib.hid hj
        clear hj
        generalize rs.getD j 0 = x at *
        go_wp2_with (at_builtin; refine wpList_append_own _ rfl _ _ 43 rfl w.heap.size 3 i0 (.int .i64 0) 1 8 Tryz.underlying43 hi hz0 hz1 hz2 rfl (by decide) _ _ _ rfl (World.ownsRow.alloc hown _) ⟨wr.heap.size, 0, none⟩ 1 1 [.int .i64 (j : Int)] rfl rfl ?c1 ?c2 ?c3 ?c4 ?c5 ?_)
        try (case c1 => intro i u hu; rcases i with _ | i <;> simp at hu; subst hu; exact (World.cell?_alloc_at _ _ _ _ rfl).trans rfl)
        case c2 => first | rfl | (intro u hu; simp at hu; subst hu; rfl)
        case c3 => unfold maxLen; omega
        case c4 => omega
        case c5 => have := hnx.size; simp; omega
        intro v' w1 hown' hgrow _
        obtain ⟨o', hnx'⟩ := Own.push hnx rfl hown hown' hgrow
        rw [← P.out] at o'
        clear hown' hgrow hown hnx hc
        go_wp2
        go_roundg (rs.length - (j + 1))
        case measure => have := J.out; omega
        case rel => exact ⟨j + 1, by have := J.out; omega, by go_num, o', hnx'⟩
      · have P := Lib.hid (tk_skip rs j d)
        have J := Lib.hid hj
        clear hj
        rw [← P.out] at hown
        generalize rs.getD j 0 = x at *
        go_wp2
        go_roundg (rs.length - (j + 1))
        case measure => have := J.out; omega
        case rel => exact ⟨j + 1, by have := J.out; omega, by go_num, hown, hnx⟩
    · have hjl : j = rs.length := by omega
      clear hj c
      subst hjl
      go_wp2
      go_ret
      exact ⟨_, rfl, hown, hnx⟩
theorem taken_nil (w : World) :
    Calls Tryz.prog 71 #[.pointer none] w fun e w' => e = .returned (.slice none 0 0) ∧ w = w' := by
  go_enter Tryz.func71, Tryz.ntmps71
  go_wp2
  go_ret
  exact ⟨rfl, rfl⟩
theorem free_nil (w : World) :
    Calls Tryz.prog 25 #[.pointer none] w fun e w' => e = .returned (.int .i64 0) ∧ w = w' := by
  go_enter Tryz.func25, Tryz.ntmps25
  go_wp2
  go_ret
  exact ⟨rfl, rfl⟩
/-- a number, and only new blocks -/
def IntN (n : Int) (w : World) (e : Ending) (w' : World) : Prop := e = .returned (.int .i64 n) ∧ New w w'
/-- a slice of so many, and only new blocks -/
def LenN (k : Nat) (w : World) (e : Ending) (w' : World) : Prop := ∃ p cap, e = .returned (.slice p k cap) ∧ New w w'
theorem taken_len (w : World) {fb rb : Nat} {rs : List Int} (h : Fr w fb rb rs) :
    Calls Tryz.prog 71 #[.pointer (some ⟨fb, 0, none⟩)] w (LenN (tk rs rs.length).length w) := by
  refine (taken_any w h).mono ?_
  rintro e w1 ⟨v, rfl, hown, hnx⟩
  obtain ⟨p, cap, rfl⟩ := hown.ints.len
  exact ⟨p, cap, rfl, hnx⟩
set_option maxHeartbeats 1000000 in
theorem free_any (w : World) {fb rb : Nat} {rs : List Int} (h : Fr w fb rb rs) :
    Calls Tryz.prog 25 #[.pointer (some ⟨fb, 0, none⟩)] w (IntN (rs.length - (tk rs rs.length).length) w) := by
  have hh := h.head
  have hb := h.1.2.1
  have hl := tk_len rs rs.length
  have hlt := h.lt.1
  go_enter Tryz.func25, Tryz.ntmps25
  go_wp2
  go_region_held3 (fun w' => w'.cell? ⟨fb, 0, none⟩ = some (.slice (some ⟨rb, 0, none⟩) rs.length rs.length))
    (first | go_keep | (rw [hnx.cell (p := ⟨fb, 0, none⟩) (by simp; omega)]; simpa using hh))
    (first | (go_at_call 71; (refine (taken_len _ (h.new (by first | exact New.refl _ | exact (New.refl _).drew | exact (New.refl _).drewN _))).mono ?_); rintro e w1 ⟨p, cap, rfl, hnx⟩))
  go_wp2
  go_ret
  exact ⟨ret_int (by rw [IntKind.wrap_i64]; omega), by first | exact hnx | exact (((New.refl w).drew).trans hnx)⟩
end Go.Proofs.YtgedimlhldfkaaaGreatDoor
