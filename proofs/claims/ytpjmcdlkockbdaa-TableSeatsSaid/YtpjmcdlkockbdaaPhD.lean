/- What the package of frames of bytes does where there are such frames: a frame made 0, and copied. Contracts, for any number of frames and any bytes in them, in any world. -/
import Derived.Test.YtpjmcdlkockbdaaPhC
namespace Go.Proofs.Ytpjmcdlkockbdaa
open Go.RowKit
set_option linter.unusedVariables false
set_option maxRecDepth 100000
theorem zero_page (W : World) : (zeroValue 75).run Try.prog W = .ok (.agg (List.replicate 256 (Value.int .u8 0)).toArray) W := by kernel_rfl
section
variable {w : World} {mb rb many : Nat} {bs : List Int}
set_option maxHeartbeats 1000000 in
theorem zero_any (j : Nat) (h : Ph w mb rb many bs) (hj : j < many) :
    Calls Try.prog 26 #[.pointer (some ⟨mb, 0, none⟩), .int .i64 j] w (DidP mb rb many (splice bs (j * 256) (List.replicate 256 0)) .nilIface w) := by
  have X := has_yes j h hj
  have hb := zero_page
  rw [← cells8_zeros] at hb
  obtain ⟨Z, hZ⟩ : ∃ Z, Z = List.replicate 256 (0 : Int) := ⟨_, rfl⟩
  have hZl : (cells8 Z).toArray.size = 256 := by rw [hZ]; simp [cells8]
  have hZo : Oct Z := by rw [hZ]; exact Oct.zeros _
  have hZn : Z.length = 256 := by rw [hZ]; simp
  rw [← hZ] at hb ⊢
  have hf := frame_fits h.len hj
  have hh := h.head
  have hlt := h.lt
  have HP := Lib.hid h
  have HT := Lib.hid (h.there (j * 256) 256 hf)
  have HZ := Lib.hid hZl
  have HN := Lib.hid hZn
  have e1 : (j : Int) < (many : Int) := by omega
  clear h hj hf hZ hZl hZn
  go_enter Try.func26, Try.ntmps26
  go_wp2_with (first
    | (go_at_call 32; (with_reducible refine (X).mono ?_); rintro e w' ⟨rfl, rfl⟩)
    | ((with_reducible refine at_store 75 ?_); refine wpList_store_mid rfl 75 _ _ rfl rb (j * 256) (cells8 Z).toArray rfl rfl ?c1 ?c2 (all_oneCell_toArray cells8_one) ?_))
  case c1 => rw [HZ.out]; exact HT.out
  case c2 => rw [HZ.out]; exact page_size
  go_wp2
  go_ret
  obtain ⟨r1, r2⟩ := setCells_row (cells8 Z) (j * 256) (cells8 bs) w HP.out.row (by rw [cells8_len, cells8_len, HN.out]; exact frame_fits HP.out.len (by omega))
  exact ⟨rfl, HP.out.turn r2 _ hZo (by rw [HN.out]; exact frame_fits HP.out.len (by omega)) r1, r2⟩
theorem has_two (i k : Nat) (h : Ph w mb rb many bs) (hi : i < many) (hk : k < many) (m : Nat) (hm : m = i ∨ m = k) :
    Calls Try.prog 32 #[.pointer (some ⟨mb, 0, none⟩), .int .i64 m] w fun e w' => e = .returned (.bool true) ∧ w = w' := has_yes m h (by omega)
theorem copy_keep (i k : Nat) (cs : List Value) (hl : cs.length = 256) (hne : mb ≠ rb) (s : Value) (W : World) (h : W.cell? ⟨mb, 0, none⟩ = some s ∧ W.rangeAt rb (k * 256) cs ∧ W.there rb (i * 256) 256) :
    (W.setCells rb (i * 256) cs).cell? ⟨mb, 0, none⟩ = some s ∧ (W.setCells rb (i * 256) cs).rangeAt rb (k * 256) cs ∧ (W.setCells rb (i * 256) cs).there rb (i * 256) 256 := by
  obtain ⟨h1, h2, h3⟩ := h
  refine ⟨by rw [World.cell?_setCells_out rb cs _ W _ (fun e => absurd e hne)]; exact h1, ?_, World.there_setCells h3 _ _ _⟩
  by_cases c : i = k
  · subst c; exact World.rangeAt_setCells_same _ _ _ _ (by rw [hl]; exact h3)
  · exact World.rangeAt_setCells_apart h2 _ _ _ (.inr (by omega))
end
end Go.Proofs.Ytpjmcdlkockbdaa
