/- What the package of frames of bytes does where there are such frames: a frame made 0, and copied. Contracts, for any number of frames and any bytes in them, in any world. -/
import Derived.Test.YtnlmjjofpkpkaaaDoorPhC
namespace Go.Proofs.YtnlmjjofpkpkaaaDoor
open Go.RowKit
set_option linter.unusedVariables false
set_option maxRecDepth 100000
theorem zero_page (W : World) : (zeroValue 53).run Tryd.prog W = .ok (.agg (List.replicate 256 (Value.int .u8 0)).toArray) W := by kernel_rfl
section
variable {w : World} {mb rb many : Nat} {bs : List Int}
set_option maxHeartbeats 1000000 in
theorem zero_any (j : Nat) (h : Ph w mb rb many bs) (hj : j < many) :
    Calls Tryd.prog 9 #[.pointer (some ⟨mb, 0, none⟩), .int .i64 j] w (DidP mb rb many (splice bs (j * 256) (List.replicate 256 0)) .nilIface w) := by
  have X := has_yes j h hj
  have hb := zero_page
  rw [← cells8_zeros] at hb
  obtain ⟨Z, hZ⟩ : ∃ Z, Z = List.replicate 256 (0 : Int) := ⟨_, rfl⟩
  have hZl : (cells8 Z).toArray.size = 256 := by rw [hZ]; simp [cells8]
  have hZo : Oct Z := by rw [hZ]; exact Oct.zeros _
  have hZn : Z.length = 256 := by rw [hZ]; simp
  rw [← hZ] at hb ⊢
  have hf := frame_fits h.len hj
  have hh := h.head
  have hlt := h.lt
  have HP := Lib.hid h
  have HT := Lib.hid (h.there (j * 256) 256 hf)
  have HZ := Lib.hid hZl
  have HN := Lib.hid hZn
  have e1 : (j : Int) < (many : Int) := by omega
  clear h hj hf hZ hZl hZn
  go_enter Tryd.func9, Tryd.ntmps9
  go_wp2_with (first
    | (go_at_call 20; (with_reducible refine (X).mono ?_); rintro e w' ⟨rfl, rfl⟩)
    | ((with_reducible refine at_store 53 ?_); refine wpList_store_mid rfl 53 _ _ rfl rb (j * 256) (cells8 Z).toArray rfl rfl ?c1 ?c2 (all_oneCell_toArray cells8_one) ?_))
  case c1 => rw [HZ.out]; exact HT.out
  case c2 => rw [HZ.out]; exact page_size
  go_wp2
  go_ret
  obtain ⟨r1, r2⟩ := setCells_row (cells8 Z) (j * 256) (cells8 bs) w HP.out.row (by rw [cells8_len, cells8_len, HN.out]; exact frame_fits HP.out.len (by omega))
  exact ⟨rfl, HP.out.turn r2 _ hZo (by rw [HN.out]; exact frame_fits HP.out.len (by omega)) r1, r2⟩
theorem has_two (i k : Nat) (h : Ph w mb rb many bs) (hi : i < many) (hk : k < many) (m : Nat) (hm : m = i ∨ m = k) :
    Calls Tryd.prog 20 #[.pointer (some ⟨mb, 0, none⟩), .int .i64 m] w fun e w' => e = .returned (.bool true) ∧ w = w' := has_yes m h (by omega)
theorem copy_keep (i k : Nat) (cs : List Value) (hl : cs.length = 256) (hne : mb ≠ rb) (s : Value) (W : World) (h : W.cell? ⟨mb, 0, none⟩ = some s ∧ W.rangeAt rb (k * 256) cs ∧ W.there rb (i * 256) 256) :
    (W.setCells rb (i * 256) cs).cell? ⟨mb, 0, none⟩ = some s ∧ (W.setCells rb (i * 256) cs).rangeAt rb (k * 256) cs ∧ (W.setCells rb (i * 256) cs).there rb (i * 256) 256 := by
  obtain ⟨h1, h2, h3⟩ := h
  refine ⟨by rw [World.cell?_setCells_out rb cs _ W _ (fun e => absurd e hne)]; exact h1, ?_, World.there_setCells h3 _ _ _⟩
  by_cases c : i = k
  · subst c; exact World.rangeAt_setCells_same _ _ _ _ (by rw [hl]; exact h3)
  · exact World.rangeAt_setCells_apart h2 _ _ _ (.inr (by omega))
set_option maxHeartbeats 2000000 in
theorem copy_any (i k : Nat) (h : Ph w mb rb many bs) (hi : i < many) (hk : k < many) :
    Calls Tryd.prog 10 #[.pointer (some ⟨mb, 0, none⟩), .int .i64 i, .int .i64 k] w (DidP mb rb many (splice bs (i * 256) (cut bs (k * 256) 256)) .nilIface w) := by
  have X := has_yes i h hi
  have Y := has_yes k h hk
  have fi := frame_fits h.len hi
  have fk := frame_fits h.len hk
  have hh := h.head
  have hlt := h.lt
  have HP := Lib.hid h
  have HL := Lib.hid (cut_len bs (k * 256) 256 fk)
  have HO := Lib.hid (h.oct.cut (k * 256) 256)
  have hr := h.range (k * 256) 256 fk
  have ht := h.there (i * 256) 256 fi
  have e1 : (i : Int) < (many : Int) := by omega
  have e2 : (k : Int) < (many : Int) := by omega
  have E3 := Lib.hid (show i * 256 + 256 ≤ bs.length from fi)
  generalize cut bs (k * 256) 256 = C at *
  have hl : (cells8 C).length = 256 := by rw [cells8_len]; exact HL.out
  have hu := Tryd.underlying53
  have hi' : (Tryd.prog.info? 53).map (·.size) = some (cells8 C).length := by rw [hl]; exact page_size
  have h1 : ∀ v ∈ cells8 C, v.oneCell' = true := cells8_one
  generalize hcs : cells8 C = cs at *
  have HCS := Lib.hid hcs
  have HK := Lib.hid (copy_keep (mb := mb) (rb := rb) i k cs hl h.2.2.2.2.1 (.slice (some ⟨rb, 0, none⟩) many many))
  clear h hi hk fi fk hcs
  go_enter Tryd.func10, Tryd.ntmps10
  go_wp2_with (first
    | (go_at_call 20; (with_reducible refine (X).mono ?_); rintro e w' ⟨rfl, rfl⟩)
    | (go_at_call 20; (with_reducible refine (Y).mono ?_); rintro e w' ⟨rfl, rfl⟩))
  go_region_held3 (fun w' => w'.cell? ⟨mb, 0, none⟩ = some (.slice (some ⟨rb, 0, none⟩) many many) ∧ w'.rangeAt rb (k * 256) cs ∧ w'.there rb (i * 256) 256) (first | go_keep | exact HK.out _ ⟨by simpa using hh, by simpa using hr, by simpa using ht⟩) (fail)
  go_wp2
  go_ret
  obtain ⟨r1, r2⟩ := setCells_row cs (i * 256) (cells8 bs) w.drew (HP.out.new (New.refl w).drew).row (by rw [hl, cells8_len]; exact E3.out)
  exact ⟨rfl, HP.out.turn ((Far.drew rb w).trans r2) _ HO.out (by rw [HL.out]; exact E3.out) (by rw [HCS.out]; exact r1), (Far.drew rb w).trans r2⟩
end
end Go.Proofs.YtnlmjjofpkpkaaaDoor
