/- What storing and loading four bytes does: contracts, in any world. -/
import Derived.Test.YtealjgfijlencaaDoorWordA
namespace Go.Proofs.YtealjgfijlencaaDoor
open Go.RowKit
set_option linter.unusedVariables false
theorem issize4 (w : World) : Calls Tryd.prog 33 #[.int .i64 4] w fun e w' => e = .returned (.bool true) ∧ w = w' := by
  go_enter Tryd.func33, Tryd.ntmps33
  go_wp2
  go_ret
  exact ⟨rfl, rfl⟩
theorem or4 (b0 b1 b2 b3 : Int) (h0 : 0 ≤ b0) (h0' : b0 ≤ 255) (h1 : 0 ≤ b1) (h1' : b1 ≤ 255) (h2 : 0 ≤ b2) (h2' : b2 ≤ 255) (h3 : 0 ≤ b3) (h3' : b3 ≤ 255) :
    bits .or .u32 (bits .or .u32 (bits .or .u32 (bits .or .u32 0 b0) (b1 * 256)) (b2 * 65536)) (b3 * 16777216) = b0 + 256 * b1 + 65536 * b2 + 16777216 * b3 := by
  have e8 : (256 : Int) = pw 8 := by decide +kernel
  have e16 : (65536 : Int) = pw 16 := by decide +kernel
  have e24 : (16777216 : Int) = pw 24 := by decide +kernel
  have f0 : bits .or .u32 0 b0 = b0 := by
    have h := or_up 0 b0 0 (by omega) (by rw [pw_zero]; omega) h0 (by rw [pw_zero]; omega)
    rw [pw_zero] at h; simpa using h
  have f1 : bits .or .u32 b0 (b1 * 256) = b0 + b1 * 256 := by rw [e8]; exact or_up _ _ _ h0 (by rw [← e8]; omega) h1 (by rw [← e8]; omega)
  have f2 : bits .or .u32 (b0 + b1 * 256) (b2 * 65536) = b0 + b1 * 256 + b2 * 65536 := by rw [e16]; exact or_up _ _ _ (by omega) (by rw [← e16]; omega) h2 (by rw [← e16]; omega)
  have f3 : bits .or .u32 (b0 + b1 * 256 + b2 * 65536) (b3 * 16777216) = b0 + b1 * 256 + b2 * 65536 + b3 * 16777216 := by rw [e24]; exact or_up _ _ _ (by omega) (by rw [← e24]; omega) h3 (by rw [← e24]; omega)
  rw [f0, f1, f2, f3]; omega
set_option maxHeartbeats 400000 in
theorem store4 (v : Int) (w : World) (h0 : 0 ≤ v) (h : v ≤ 4294967295) :
    Calls Tryd.prog 25 #[.int .u32 v, .int .i64 4] w fun e w' => e = .returned (.tuple #[.slice (some ⟨w.heap.size, 0, none⟩) 4 4, .nilIface]) ∧ w' = w.alloc (.cells #[.int .u8 (v % 256), .int .u8 (v / 256 % 256), .int .u8 (v / 65536 % 256), .int .u8 (v / 16777216)] 5) := by
  have hmk : ∀ w : World, (Instr.makeSlice 26 (.int .i64 4) (.int .i64 4)).run Tryd.prog w = .ok (.slice (some ⟨w.heap.size, 0, none⟩) 4 4) (w.alloc (.cells #[.int .u8 0, .int .u8 0, .int .u8 0, .int .u8 0] 5)) := fun _ => by kernel_rfl
  go_enter Tryd.func25, Tryd.ntmps25
  go_wp2_with (go_at_call 33; (with_reducible refine (issize4 _).mono ?_); rintro e w' ⟨rfl, rfl⟩)
  go_rounds 5
  go_ret2
  exact ⟨rfl, rfl⟩
theorem load4 (b0 b1 b2 b3 : Int) (p : Addr) (w : World) (h0 : 0 ≤ b0) (h0' : b0 ≤ 255) (h1 : 0 ≤ b1) (h1' : b1 ≤ 255) (h2 : 0 ≤ b2) (h2' : b2 ≤ 255) (h3 : 0 ≤ b3) (h3' : b3 ≤ 255)
    (c0 : w.cell? ⟨p.block, p.off, none⟩ = some (.int .u8 b0)) (c1 : w.cell? ⟨p.block, p.off + 1, none⟩ = some (.int .u8 b1)) (c2 : w.cell? ⟨p.block, p.off + 2, none⟩ = some (.int .u8 b2)) (c3 : w.cell? ⟨p.block, p.off + 3, none⟩ = some (.int .u8 b3)) :
    Calls Tryd.prog 26 #[.slice (some ⟨p.block, p.off, none⟩) 4 4] w fun e w' => e = .returned (.tuple #[.int .u32 (b0 + 256 * b1 + 65536 * b2 + 16777216 * b3), .nilIface]) ∧ w = w' := by
  go_enter Tryd.func26, Tryd.ntmps26
  go_wp2_with (go_at_call 33; (with_reducible refine (issize4 _).mono ?_); rintro e w' ⟨rfl, rfl⟩)
  go_rounds 5
  go_ret2
  exact ⟨by rw [← or4 b0 b1 b2 b3 h0 h0' h1 h1' h2 h2' h3 h3']; rfl, rfl⟩
end Go.Proofs.YtealjgfijlencaaDoor
