/- Texts as lists of bytes: their sizes, bytes, parts; cells that can be read. -/
import Derived.Test.YtealjgfijlencaaDoorBase
import Derived.Lib.Strings
namespace Go.Proofs.YtealjgfijlencaaDoor
open Go.RowKit
set_option linter.unusedVariables false
/-- a text of bytes -/
def ba (l : List UInt8) : ByteArray := ⟨l.toArray⟩
theorem ba_data (l : List UInt8) : (ba l).data.toList = l := by unfold ba; simp
theorem ba_of (s : ByteArray) : ba s.data.toList = s := by unfold ba; cases s; simp
theorem ba_size (l : List UInt8) : (ba l).size = l.length := by rw [Lib.size_eq, ba_data]
theorem ba_inj {a b : List UInt8} : ba a = ba b ↔ a = b := ⟨fun h => by have := congrArg (fun s : ByteArray => s.data.toList) h; simpa only [ba_data] using this, fun h => by rw [h]⟩
theorem ba_list (l : List UInt8) : (ba l).toList = l := by rw [ByteArray.toList_eq, ba_data]
theorem ba_eq {a b : List UInt8} (h : a = b) : ((ba a).toList == (ba b).toList) = true := by rw [h]; exact beq_self_eq_true _
theorem ba_ne {a b : List UInt8} (h : a ≠ b) : ((ba a).toList == (ba b).toList) = false := by rw [ba_list, ba_list]; exact beq_eq_false_iff_ne.2 h
theorem lt_cell {w : World} {a : Addr} {v : Value} (h : w.cell? a = some v) : a.block < w.heap.size := by
  rcases Nat.lt_or_ge a.block w.heap.size with k | k
  · exact k
  · simp [World.cell?, Array.getElem?_eq_none k] at h
theorem New.cellv {w w' : World} (n : New w w') {a : Addr} {v : Value} (h : w.cell? a = some v) : w'.cell? a = some v := (n.cell (lt_cell h)).trans h
theorem ba_app (a b : List UInt8) : ba (a ++ b) = ba a ++ ba b := by
  have : (ba (a ++ b)).data.toList = (ba a ++ ba b).data.toList := by rw [ba_data, ByteArray.data_append, Array.toList_append, ba_data, ba_data]
  rw [← ba_of (ba (a ++ b)), ← ba_of (ba a ++ ba b), this]
theorem ba_get (l : List UInt8) (j : Nat) (c : UInt8) (h : l[j]? = some c) (hj : j < (ba l).size) : (ba l)[j] = c := by
  obtain ⟨h1, h2⟩ := List.getElem?_eq_some_iff.1 h
  subst h2
  show (ba l).data[j] = l[j]
  unfold ba; simp
theorem idx_ba {P : Program} {t : TypeId} (ht : P.underlying t = some .string) (l : List UInt8) (j : Nat) (c : UInt8) (h : l[j]? = some c) (w : World) : (Instr.index t (.string (ba l)) (.int .i64 (j : Int))).run P w = .ok (.int .u8 (c.toNat : Int)) w := by
  have hj : j < (ba l).size := by rw [ba_size]; exact (List.getElem?_eq_some_iff.1 h).1
  rw [run_index_string w t (ba l) .i64 j ht, dif_pos ⟨by omega, by omega⟩]
  have := ba_get l j c h hj
  simp only [Int.toNat_natCast, this]
theorem part_slice (l : List UInt8) (p j : Nat) (hp : p ≤ j) (hj : j ≤ l.length) (W : World) : (Instr.slice 9 (.string (ba l)) (some (.int .i64 (p : Int))) (some (.int .i64 (j : Int))) none).run Tryd.prog W = .ok (.string (ba ((l.drop p).take (j - p)))) W := by
  have e := run_slice_string (P := Tryd.prog) W 9 (ba l) .i64 .i64 (p : Int) (j : Int) Tryd.underlying9 (by omega) (by omega) (by rw [ba_size]; omega)
  rw [e]
  have h : ((ba l).extract ((p : Int)).toNat ((j : Int)).toNat).data.toList = (l.drop p).take (j - p) := by
    rw [Lib.extract_data, ba_data, Int.toNat_natCast, Int.toNat_natCast]
  have key : (ba l).extract ((p : Int)).toNat ((j : Int)).toNat = ba ((l.drop p).take (j - p)) := (ba_of _).symm.trans (congrArg ba h)
  rw [key]
theorem to_slice (l : List UInt8) (j : Nat) (hj : j ≤ l.length) (W : World) : (Instr.slice 9 (.string (ba l)) none (some (.int .i64 (j : Int))) none).run Tryd.prog W = .ok (.string (ba (l.take j))) W := by
  rw [run_slice_string_h (P := Tryd.prog) W 9 (ba l) Tryd.underlying9 .i64 (j : Int) (by omega) (by rw [ba_size]; omega)]
  have h : ((ba l).extract 0 ((j : Int)).toNat).data.toList = l.take j := by
    rw [Lib.extract_data, ba_data, Int.toNat_natCast]; simp
  have key : (ba l).extract 0 ((j : Int)).toNat = ba (l.take j) := (ba_of _).symm.trans (congrArg ba h)
  rw [key]
theorem byte_slice (l : List UInt8) (j : Nat) (b : UInt8) (hb : l[j]? = some b) (W : World) : (Instr.slice 9 (.string (ba l)) (some (.int .i64 (j : Int))) (some (.int .i64 ((j : Int) + 1))) none).run Tryd.prog W = .ok (.string (ba [b])) W := by
  have hlt := (List.getElem?_eq_some_iff.1 hb).1
  have e := run_slice_string (P := Tryd.prog) W 9 (ba l) .i64 .i64 (j : Int) ((j : Int) + 1) Tryd.underlying9 (by omega) (by omega) (by rw [ba_size]; omega)
  rw [e]
  have h : ((ba l).extract ((j : Int)).toNat ((j : Int) + 1).toNat).data.toList = [b] := by
    rw [Lib.extract_data, ba_data, show ((j : Int) + 1).toNat = j + 1 by omega, Int.toNat_natCast]
    rw [List.drop_eq_getElem_cons hlt, show j + 1 - j = 1 by omega, List.take_succ_cons, List.take_zero, (List.getElem?_eq_some_iff.1 hb).2]
  have key : (ba l).extract ((j : Int)).toNat ((j : Int) + 1).toNat = ba [b] := (ba_of _).symm.trans (congrArg ba h)
  rw [key]
theorem ba_isnil (l : List UInt8) : ((ba l).toList == []) = decide (l = []) := by
  rw [ba_list]; cases l <;> simp
end Go.Proofs.YtealjgfijlencaaDoor
