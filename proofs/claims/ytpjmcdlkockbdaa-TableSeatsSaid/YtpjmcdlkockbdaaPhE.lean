/- What the statements on frames of bytes ask at their ends: sure; and a slice of bytes as a string. -/
import Derived.Test.YtpjmcdlkockbdaaPhD
import Derived.Laws.BytesArg
namespace Go.Proofs.Ytpjmcdlkockbdaa
open Go.RowKit
set_option linter.unusedVariables false
set_option maxRecDepth 100000
theorem str_of {w : World} {v : Value} {l : List Int} (h : Byts w v l) : (convert 69 9 v).run Try.prog w = .ok (.string (strOfNums l)) w := by
  obtain ⟨p, cap, rfl, _, hc⟩ := h
  rcases p with _ | a
  · have hl : l = [] := by
      rcases l with _ | ⟨x, l⟩
      · rfl
      · obtain ⟨a, ha, _⟩ := hc 0 (by simp); cases ha
    subst hl
    exact run_convert_bytes_nil w 69 5 Try.underlying69 Try.underlying5 _ _ 9 Try.underlying9
  · have hl : (loadCells a l.length).run Try.prog w = .ok (l.map (Value.int .u8)).toArray w := by
      have := run_loadCells_list (P := Try.prog) w a (l.map (Value.int .u8)) (fun j v hv => by
        obtain ⟨hj, rfl⟩ := cells8_get (l := l) hv
        obtain ⟨a', e, hc⟩ := hc j hj
        cases e
        exact hc)
      simpa using this
    rw [run_convert_bytes_string w 69 9 5 (some a) l.length cap Try.underlying69 Try.underlying5 Try.underlying9, run_bytesToString w a l.length cap l hl, foldl_push_bytes]
    simp [strOfNums, ByteArray.empty, ByteArray.emptyWithCapacity]
    rfl
theorem byts_of_block {w : World} {b cap : Nat} {l : List Int} (h : w.heap[b]? = some (.cells (cells8 l).toArray 5 (0, 0))) (hl : l.length ≤ maxLen) : Byts w (.slice (some ⟨b, 0, none⟩) l.length cap) l :=
  ⟨_, _, rfl, hl, fun i hi => ⟨_, rfl, by rw [Addr.add_mid, cell_of_row w b (0 + i) _ _ _ h, Nat.zero_add, List.getElem?_toArray, cells8, List.getElem?_map, List.getElem?_eq_getElem hi, getD_eq l i hi]; rfl⟩⟩
def suZ : List Int := List.replicate (2 * 256) 0
def suA : List Int := splice suZ (1 * 256 + 250) [7, 8]
def suB : List Int := splice suA (0 * 256) (cut suA (1 * 256) 256)
theorem su_cut : cut suB (0 * 256 + 250) 3 = [7, 8, 0] := by kernel_rfl
section
variable {w : World} {mb rb : Nat}
theorem pmade_two (w : World) : Calls Try.prog 5 #[.int .i64 2] w (MadeP 2 w) := pmade_any 2 w (by omega) (by omega)
theorem oct78 : Oct [7, 8] := fun x hx => by simp at hx; omega
theorem psure_1 {v : Value} (h : Ph w mb rb 2 suZ) (hv : Byts w v [7, 8]) : Calls Try.prog 30 #[.pointer (some ⟨mb, 0, none⟩), .int .i64 1, .int .i64 250, v] w (DidP mb rb 2 suA .nilIface w) :=
  write_any 1 250 v [7, 8] h hv oct78 (by omega) (by simp)
theorem psure_3 (h : Ph w mb rb 2 suB) : Calls Try.prog 33 #[.pointer (some ⟨mb, 0, none⟩), .int .i64 0, .int .i64 250, .int .i64 3] w (Got [7, 8, 0] w) := by
  have := read_any 0 250 3 h (by omega) (by omega)
  rw [su_cut] at this
  exact this
theorem psure_4 (h : Ph w mb rb 2 suB) : Calls Try.prog 33 #[.pointer (some ⟨mb, 0, none⟩), .int .i64 0, .int .i64 255, .int .i64 2] w fun e w' => e = .returned (.tuple #[.slice none 0 0, .iface 43 (.int .i64 14)]) ∧ w = w' :=
  read_fault 0 255 2 h (by omega) (by omega) (by omega)
theorem psure_5 (h : Ph w mb rb 2 suB) : Calls Try.prog 12 #[.pointer (some ⟨mb, 0, none⟩)] w fun e w' => e = .returned (.int .i64 2) ∧ w = w' := many_any h
theorem str_780 : strOfNums [7, 8, 0] = ⟨#[7, 8, 0]⟩ := rfl
end
end Go.Proofs.Ytpjmcdlkockbdaa
