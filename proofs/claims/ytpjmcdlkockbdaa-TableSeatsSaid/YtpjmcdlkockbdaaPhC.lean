/- What the package of frames of bytes does where there is such a frame: bytes read, written, made 0, and copied. Contracts, for any number of frames and any bytes in them, in any world. -/
import Derived.Test.YtpjmcdlkockbdaaPhB
namespace Go.Proofs.Ytpjmcdlkockbdaa
open Go.RowKit
set_option linter.unusedVariables false
set_option maxRecDepth 100000
/-- bytes that were answered: a new block, and nothing else has changed -/
def Got (l : List Int) (w : World) (e : Ending) (w' : World) : Prop :=
  e = .returned (.tuple #[.slice (some ⟨w.heap.size, 0, none⟩) l.length l.length, .nilIface]) ∧ w'.heap[w.heap.size]? = some (.cells (cells8 l).toArray 5 (0, 0)) ∧ New w w'
/-- an answer, the bytes then, and nothing else has changed -/
def DidP (mb rb many : Nat) (bs : List Int) (v : Value) (w : World) (e : Ending) (w' : World) : Prop := e = .returned v ∧ Ph w' mb rb many bs ∧ Far rb w w'
section
variable {w : World} {mb rb many : Nat} {bs : List Int}
theorem made_byte (n : Nat) : madeCells #[Value.int .u8 0] n = (cells8 (List.replicate n 0)).toArray := by
  rw [cells8_zeros]; exact made_same 1 n _ (by omega)
theorem splice_zeros (c : List Int) : splice (cells8 (List.replicate c.length 0)) 0 (cells8 c) = cells8 c := by
  simp [splice, cells8]
set_option maxHeartbeats 1000000 in
theorem read_in (j o n : Nat) (h : Ph w mb rb many bs) (hj : j < many) (ho : o + n ≤ 256) (ho' : o < 256) :
    Calls Try.prog 33 #[.pointer (some ⟨mb, 0, none⟩), .int .i64 j, .int .i64 o, .int .i64 n] w (Got (cut bs (j * 256 + o) n) w) := by
  have X := check_ok j o n h hj ho
  have hmk := run_make_row' (P := Try.prog) 69 5 (.int .u8 0) 1 Try.underlying69 byte_info rfl .i64 .i64 n (by omega) (by omega)
  have hf := frame_fits h.len hj
  have hh := h.head
  have hlt := h.lt
  have hbd := h.bd
  obtain ⟨C, hC⟩ : ∃ C, C = cut bs (j * 256 + o) n := ⟨_, rfl⟩
  have hCl : C.length = n := by rw [hC]; exact cut_len _ _ _ (by omega)
  have hr := h.range (j * 256 + o) n (by omega)
  rw [← hC] at hr
  rw [← hC]
  clear hC
  subst hCl
  rw [made_byte] at hmk
  have HR := Lib.hid hr
  have e1 : (j : Int) < (many : Int) := by omega
  have e2 : (o : Int) ≤ 256 := by omega
  have e3 : C.length ≤ 256 - o := by omega
  have e5 : ¬ 256 = o := by omega
  clear h hr hj ho hf ho'
  go_enter Try.func33, Try.ntmps33
  go_wp2_with (first
    | (go_at_call 37; (with_reducible refine (X).mono ?_); rintro e w' ⟨rfl, rfl⟩)
    | ((with_reducible refine at_slot 31 ?_); refine wpList_copy_far rfl _ _ _ _ rfl 5 Try.underlying69 byte_size _ _ _ _ _ _ rfl rfl w.heap.size 0 (cells8 (List.replicate C.length 0)) 5 (heap_alloc_new w _) (cells8 C) ?c2 ?c3 ?c4 cells8_one ?_))
  case c2 => rw [cells8_len]; exact (Nat.min_eq_right e3).symm
  case c3 => first | exact HR.out | exact fun _ => HR.out
  case c4 => rw [cells8_len, cells8_len, List.length_replicate]; omega
  intro w2 hg2 hf2
  go_wp2
  go_ret2
  refine ⟨rfl, by rw [← splice_zeros]; exact hg2.out, ?_⟩
  exact hf2.new ((New.refl w).alloc _ _) (Nat.le_refl _)
set_option maxHeartbeats 1000000 in
theorem read_end (j : Nat) (h : Ph w mb rb many bs) (hj : j < many) :
    Calls Try.prog 33 #[.pointer (some ⟨mb, 0, none⟩), .int .i64 j, .int .i64 256, .int .i64 0] w (Got [] w) := by
  have X : Calls Try.prog 37 #[.pointer (some ⟨mb, 0, none⟩), .int .i64 j, .int .i64 256, .int .i64 0] w fun e w' => e = .returned .nilIface ∧ w = w' := check_ok j 256 0 h hj (by omega)
  have hmk : ∀ W : World, (Instr.makeSlice 69 (.int .i64 0) (.int .i64 0)).run Try.prog W = .ok (.slice (some ⟨W.heap.size, 0, none⟩) 0 0) (W.alloc (.cells (madeCells #[Value.int .u8 0] 0) 5)) :=
    run_make_row' (P := Try.prog) 69 5 (.int .u8 0) 1 Try.underlying69 byte_info rfl .i64 .i64 0 (by omega) (by omega)
  have hh := h.head
  have hlt := h.lt
  have hbd := h.bd
  rw [made_byte] at hmk
  have e1 : (j : Int) < (many : Int) := by omega
  clear h hj
  go_enter Try.func33, Try.ntmps33
  go_wp2_with (first
    | (go_at_call 37; (with_reducible refine (X).mono ?_); rintro e w' ⟨rfl, rfl⟩)
    | ((with_reducible refine at_slot 31 ?_); refine wpList_copy_far rfl _ _ _ _ rfl 5 Try.underlying69 byte_size _ _ _ _ _ _ rfl rfl w.heap.size 0 (cells8 []) 5 (heap_alloc_new w _) (cells8 []) ?c2 ?c3 ?c4 cells8_one ?_))
  case c2 => simp [cells8]
  case c3 => first | (intro hl; exact absurd hl (by simp [cells8])) | simp [cells8]
  case c4 => simp [cells8]
  intro w2 hg2 hf2
  go_wp2
  go_ret2
  refine ⟨rfl, by simpa [splice, cells8] using hg2.out, ?_⟩
  exact hf2.new ((New.refl w).alloc _ _) (Nat.le_refl _)
theorem read_any (j o n : Nat) (h : Ph w mb rb many bs) (hj : j < many) (ho : o + n ≤ 256) :
    Calls Try.prog 33 #[.pointer (some ⟨mb, 0, none⟩), .int .i64 j, .int .i64 o, .int .i64 n] w (Got (cut bs (j * 256 + o) n) w) := by
  by_cases c : o < 256
  · exact read_in j o n h hj ho c
  · obtain rfl : o = 256 := by omega
    obtain rfl : n = 0 := by omega
    rw [cut_none]
    exact read_end j h hj
set_option maxHeartbeats 1000000 in
theorem write_in (j o : Nat) (v : Value) (l : List Int) (h : Ph w mb rb many bs) (hv : Byts w v l) (hc : Oct l) (hj : j < many) (ho : o + l.length ≤ 256) (ho' : o < 256) :
    Calls Try.prog 30 #[.pointer (some ⟨mb, 0, none⟩), .int .i64 j, .int .i64 o, v] w (DidP mb rb many (splice bs (j * 256 + o) l) .nilIface w) := by
  obtain ⟨p, cap, rfl, hlm, hs⟩ := hv
  obtain ⟨_, _, hp⟩ := Byts.copy (cap := cap) ⟨p, cap, rfl, hlm, hs⟩
  have X := check_ok j o l.length h hj ho
  unfold maxLen at hlm
  have hf := frame_fits h.len hj
  have hh := h.head
  have hlt := h.lt
  have HP := Lib.hid h
  have HR := Lib.hid h.row
  have HS := Lib.hid hp
  have e1 : (j : Int) < (many : Int) := by omega
  have e2 : (o : Int) ≤ 256 := by omega
  have e3 : l.length ≤ 256 - o := by omega
  have e5 : j * 256 + o + l.length ≤ bs.length := by omega
  have e6 : ¬ 256 = o := by omega
  clear h hj ho hf hs hp
  go_enter Try.func30, Try.ntmps30
  go_wp2_with (first
    | (go_at_call 37; (with_reducible refine (X).mono ?_); rintro e w' ⟨rfl, rfl⟩)
    | ((with_reducible refine at_slot 28 ?_); refine wpList_copy_far rfl _ _ _ _ rfl 5 Try.underlying69 byte_size _ _ _ _ _ _ rfl rfl rb (j * 256 + o) (cells8 bs) 75 HR.out (cells8 l) ?c2 ?c3 ?c4 cells8_one ?_))
  case c2 => rw [cells8_len]; exact (Nat.min_eq_left e3).symm
  case c3 => first | exact HS.out | exact fun hl => ⟨rfl, HS.out hl⟩
  case c4 => rw [cells8_len, cells8_len]; omega
  intro w2 hg2 hf2
  go_wp2
  go_ret
  exact ⟨rfl, HP.out.turn hf2 _ hc e5 hg2.out, hf2⟩
set_option maxHeartbeats 1000000 in
theorem write_end (j cap : Nat) (p : Option Addr) (h : Ph w mb rb many bs) (hj : j < many) :
    Calls Try.prog 30 #[.pointer (some ⟨mb, 0, none⟩), .int .i64 j, .int .i64 256, .slice p 0 cap] w (DidP mb rb many bs .nilIface w) := by
  have X : Calls Try.prog 37 #[.pointer (some ⟨mb, 0, none⟩), .int .i64 j, .int .i64 256, .int .i64 0] w fun e w' => e = .returned .nilIface ∧ w = w' := check_ok j 256 0 h hj (by omega)
  have hh := h.head
  have hlt := h.lt
  have HP := Lib.hid h
  have HR := Lib.hid h.row
  have e1 : (j : Int) < (many : Int) := by omega
  clear h hj
  go_enter Try.func30, Try.ntmps30
  go_wp2_with (first
    | (go_at_call 37; (with_reducible refine (X).mono ?_); rintro e w' ⟨rfl, rfl⟩)
    | ((with_reducible refine at_slot 28 ?_); refine wpList_copy_far rfl _ _ _ _ rfl 5 Try.underlying69 byte_size _ _ _ _ _ _ rfl rfl rb 0 (cells8 bs) 75 HR.out (cells8 []) ?c2 ?c3 ?c4 cells8_one ?_))
  case c2 => simp [cells8]
  case c3 => first | (intro hl; exact absurd hl (by simp [cells8])) | simp [cells8]
  case c4 => simp [cells8]
  intro w2 hg2 hf2
  go_wp2
  go_ret
  have := HP.out.turn hf2 0 Oct.nil (Nat.zero_le _) hg2.out
  rw [show splice bs 0 [] = bs by simp [splice]] at this
  exact ⟨rfl, this, hf2⟩
theorem splice_none (l : List Int) (p : Nat) (h : p ≤ l.length) : splice l p [] = l := by simp [splice]
theorem write_any (j o : Nat) (v : Value) (l : List Int) (h : Ph w mb rb many bs) (hv : Byts w v l) (hc : Oct l) (hj : j < many) (ho : o + l.length ≤ 256) :
    Calls Try.prog 30 #[.pointer (some ⟨mb, 0, none⟩), .int .i64 j, .int .i64 o, v] w (DidP mb rb many (splice bs (j * 256 + o) l) .nilIface w) := by
  by_cases c : o < 256
  · exact write_in j o v l h hv hc hj ho c
  · obtain rfl : o = 256 := by omega
    obtain rfl : l = [] := List.eq_nil_of_length_eq_zero (by omega)
    obtain ⟨p, cap, rfl, _, _⟩ := hv
    rw [splice_none _ _ (by have := frame_fits h.len hj; omega)]
    exact write_end j cap p h hj
end
end Go.Proofs.Ytpjmcdlkockbdaa
