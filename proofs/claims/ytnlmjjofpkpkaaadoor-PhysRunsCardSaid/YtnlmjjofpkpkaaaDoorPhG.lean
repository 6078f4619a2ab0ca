/- For the laws of frames of bytes: the contracts at numbers as the laws have them; numbers as the laws cut them down. -/
import Derived.Test.YtnlmjjofpkpkaaaDoorPhF
namespace Go.Proofs.YtnlmjjofpkpkaaaDoor
open Go.RowKit
set_option linter.unusedVariables false
set_option maxRecDepth 100000
theorem cut_by (a : Int) (n : Nat) (h1 : 0 < n) (h2 : n ≤ 4096) : ∃ x : Nat, wrap64 ((IntKind.u64.wrap a).tmod (n : Int)) = (x : Int) ∧ x < n := by
  rw [IntKind.wrap_u64, Int.tmod_eq_emod_of_nonneg (by omega)]
  have h := Int.emod_lt_of_pos (a % 18446744073709551616) (show (0 : Int) < n by omega)
  have h' := Int.emod_nonneg (a % 18446744073709551616) (show (n : Int) ≠ 0 by omega)
  refine ⟨(a % 18446744073709551616 % n).toNat, ?_, by omega⟩
  unfold wrap64; omega
section
variable {w : World} {mb rb many : Nat} {bs : List Int}
theorem write_at (f : Nat) {v : Value} {l : List Int} (m : Int) (hm : m = (f : Int)) (o : Int) (k : Nat) (hk : o = (k : Int)) (h : Ph w mb rb many bs) (hv : Byts w v l) (hc : Oct l) (hj : f < many) (ho : k + l.length ≤ 256) :
    Calls Tryd.prog 8 #[.pointer (some ⟨mb, 0, none⟩), .int .i64 m, .int .i64 o, v] w (DidP mb rb many (splice bs (f * 256 + k) l) .nilIface w) := by
  subst hm; subst hk; exact write_any f k v l h hv hc hj ho
theorem read_frame (f : Nat) (m : Int) (hm : m = (f : Int)) (h : Ph w mb rb many bs) (hj : f < many) :
    Calls Tryd.prog 6 #[.pointer (some ⟨mb, 0, none⟩), .int .i64 m, .int .i64 0, .int .i64 256] w (Got (cut bs (f * 256) 256) w) := by
  subst hm; exact read_any f 0 256 h hj (by omega)
theorem copy_at (f g : Nat) (m n : Int) (hm : m = (f : Int)) (hn : n = (g : Int)) (h : Ph w mb rb many bs) (hi : f < many) (hk : g < many) :
    Calls Tryd.prog 10 #[.pointer (some ⟨mb, 0, none⟩), .int .i64 m, .int .i64 n] w (DidP mb rb many (splice bs (f * 256) (cut bs (g * 256) 256)) .nilIface w) := by
  subst hm; subst hn; exact copy_any f g h hi hk
theorem pmade_three (w : World) : Calls Tryd.prog 12 #[.int .i64 3] w (MadeP 3 w) := pmade_any 3 w (by omega) (by omega)
end
/-- a block of bytes -/
def Blk8 (w : World) (b : Nat) (l : List Int) : Prop := w.heap[b]? = some (.cells (cells8 l).toArray 5 (0, 0))
theorem Blk8.lt {w : World} {b : Nat} {l : List Int} (h : Blk8 w b l) : b < w.heap.size := (Array.getElem?_eq_some_iff.1 h).1
theorem Blk8.new {w w' : World} {b : Nat} {l : List Int} (h : Blk8 w b l) (k : New w w') : Blk8 w' b l := by unfold Blk8; rw [k.block h.lt]; exact h
theorem Blk8.off {w w' : World} {b rb : Nat} {l : List Int} (h : Blk8 w b l) (k : Far rb w w') (hr : b ≠ rb) : Blk8 w' b l := by unfold Blk8; rw [k.block h.lt hr]; exact h
theorem Blk8.byts {w : World} {b cap : Nat} {l : List Int} (h : Blk8 w b l) (hl : l.length ≤ maxLen) : Byts w (.slice (some ⟨b, 0, none⟩) l.length cap) l := byts_of_block h hl
theorem Blk8.cell {w : World} {b : Nat} {l : List Int} (h : Blk8 w b l) (j : Nat) (hj : j < l.length) : w.cell? ⟨b, j, none⟩ = some (.int .u8 (l.getD j 0)) ∧ w.frozen? ⟨b, j, none⟩ = false := by
  refine ⟨?_, by unfold Blk8 at h; simp [World.frozen?, h]⟩
  rw [cell_of_row w b j _ _ _ h, List.getElem?_toArray, cells8, List.getElem?_map, List.getElem?_eq_getElem hj, getD_eq l j hj]; rfl
/-- a part of a block -/
theorem Blk8.part {w : World} {b cap : Nat} {l : List Int} (h : Blk8 w b l) (p n : Nat) (hp : p + n ≤ l.length) (hl : l.length ≤ maxLen) : Byts w (.slice (some ⟨b, p, none⟩) n cap) (cut l p n) := by
  have hc := cut_len l p n hp
  refine ⟨some ⟨b, p, none⟩, cap, by rw [hc], by omega, fun i hi => ⟨_, rfl, ?_⟩⟩
  rw [hc] at hi
  rw [Addr.add_mid, cell_of_row w b (p + i) _ _ _ h, List.getElem?_toArray, cells8, List.getElem?_map, List.getElem?_eq_getElem (show p + i < l.length by omega), cut_get _ _ _ _ hp hi, getD_eq l (p + i) (by omega)]; rfl
/-- what is behind a place of a block, as slices have it -/
theorem Blk8.rest {w : World} {b : Nat} {l : List Int} (h : Blk8 w b l) (k : Nat) (hl : l.length = 256) (hk : k ≤ 256) (c : Nat) :
    Byts w (.slice (if 256 = k then some ⟨b, 0, none⟩ else some ⟨b, k, none⟩) (256 - k) c) (cut l k (256 - k)) := by
  have hm : maxLen = 9223372036854775807 := rfl
  by_cases e : 256 = k
  · rw [if_pos e]; subst e
    have := h.part (cap := c) 0 0 (by omega) (by omega)
    rwa [cut_none, ← cut_none l 256] at this
  · rw [if_neg e]
    exact h.part k (256 - k) (by omega) (by omega)
theorem flip_fin : ∀ n : Fin 256, 0 ≤ bits BinOp.xor IntKind.u8 ((n.val : Nat) : Int) 1 ∧ bits BinOp.xor IntKind.u8 ((n.val : Nat) : Int) 1 ≤ 255 ∧ bits BinOp.xor IntKind.u8 ((n.val : Nat) : Int) 1 ≠ ((n.val : Nat) : Int) := by decide +kernel
/-- a byte's lowest bit turned -/
theorem flip_bit (y : Int) (h0 : 0 ≤ y) (h1 : y ≤ 255) : 0 ≤ bits BinOp.xor IntKind.u8 y 1 ∧ bits BinOp.xor IntKind.u8 y 1 ≤ 255 ∧ bits BinOp.xor IntKind.u8 y 1 ≠ y := by
  obtain ⟨n, rfl⟩ := Int.eq_ofNat_of_zero_le h0
  exact flip_fin ⟨n, by omega⟩
/-- all bytes of three frames, when two writes were done in the one order, in the other one, and both at once -/
def apartB (Z A B : List Int) (o : Nat) : List Int :=
  splice (splice (splice (splice (splice Z (0 * 256 + o) A) (0 * 256 + (o + A.length)) B) (1 * 256 + (o + A.length)) B) (1 * 256 + o) A) (2 * 256 + o) (A ++ B)
theorem apart_eq (Z A B z : List Int) (o : Nat) (hZ : Z.length = 3 * 256) (h : o + A.length + B.length ≤ 256) (h0 : cut Z (0 * 256) 256 = z) (h1 : cut Z (1 * 256) 256 = z) (h2 : cut Z (2 * 256) 256 = z) :
    (apartB Z A B o).length = 3 * 256 ∧ cut (apartB Z A B o) (0 * 256) 256 = splice z o (A ++ B) ∧ cut (apartB Z A B o) (1 * 256) 256 = splice z o (A ++ B) ∧ cut (apartB Z A B o) (2 * 256) 256 = splice z o (A ++ B) := by
  have hl : (A ++ B).length = A.length + B.length := List.length_append
  have hz : z.length = 256 := by rw [← h0]; exact cut_len _ _ _ (by omega)
  unfold apartB
  generalize e1 : splice Z (0 * 256 + o) A = B1
  have l1 : B1.length = 3 * 256 := by rw [← e1, splice_len _ _ _ (by omega)]; exact hZ
  generalize e2 : splice B1 (0 * 256 + (o + A.length)) B = B2
  have l2 : B2.length = 3 * 256 := by rw [← e2, splice_len _ _ _ (by omega)]; exact l1
  generalize e3 : splice B2 (1 * 256 + (o + A.length)) B = B3
  have l3 : B3.length = 3 * 256 := by rw [← e3, splice_len _ _ _ (by omega)]; exact l2
  generalize e4 : splice B3 (1 * 256 + o) A = B4
  have l4 : B4.length = 3 * 256 := by rw [← e4, splice_len _ _ _ (by omega)]; exact l3
  refine ⟨by rw [splice_len _ _ _ (by omega)]; exact l4, ?_, ?_, ?_⟩
  · rw [cut_splice_other B4 2 0 o _ (by omega) (by omega) (by omega) (by decide), ← e4, cut_splice_other B3 1 0 o _ (by omega) (by omega) (by omega) (by decide), ← e3, cut_splice_other B2 1 0 (o + A.length) _ (by omega) (by omega) (by omega) (by decide), ← e2, cut_splice_frame B1 0 (o + A.length) _ (by omega) (by omega), ← e1, cut_splice_frame Z 0 o _ (by omega) (by omega), h0]
    exact splice_two _ _ _ _ (by omega)
  · rw [cut_splice_other B4 2 1 o _ (by omega) (by omega) (by omega) (by decide), ← e4, cut_splice_frame B3 1 o _ (by omega) (by omega), ← e3, cut_splice_frame B2 1 (o + A.length) _ (by omega) (by omega), ← e2, cut_splice_other B1 0 1 (o + A.length) _ (by omega) (by omega) (by omega) (by decide), ← e1, cut_splice_other Z 0 1 o _ (by omega) (by omega) (by omega) (by decide), h1]
    exact splice_swap _ _ _ _ (by omega)
  · rw [cut_splice_frame B4 2 o _ (by omega) (by omega), ← e4, cut_splice_other B3 1 2 o _ (by omega) (by omega) (by omega) (by decide), ← e3, cut_splice_other B2 1 2 (o + A.length) _ (by omega) (by omega) (by omega) (by decide), ← e2, cut_splice_other B1 0 2 (o + A.length) _ (by omega) (by omega) (by omega) (by decide), ← e1, cut_splice_other Z 0 2 o _ (by omega) (by omega) (by omega) (by decide), h2]
theorem cut_zeros (n p m : Nat) (h : p + m ≤ n) : cut (List.replicate n 0) p m = List.replicate m 0 := by
  unfold cut; rw [List.drop_replicate, List.take_replicate]; congr 1; omega
end Go.Proofs.YtnlmjjofpkpkaaaDoor
