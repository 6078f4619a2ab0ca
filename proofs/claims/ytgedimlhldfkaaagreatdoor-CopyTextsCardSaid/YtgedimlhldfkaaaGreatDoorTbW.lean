/- What storing and loading numbers of four bytes does: contracts, in any world. -/
import Derived.Test.YtgedimlhldfkaaaGreatDoorNumF
import Derived.Laws.MathBits
import Derived.Laws.BitsAllLaws
namespace Go.Proofs.YtgedimlhldfkaaaGreatDoor
open Go.RowKit
set_option linter.unusedVariables false
theorem join_up (a b k : Nat) (m : Nat) (hm : m = 2 ^ k) (ha : a < m) (hs : a + b * m ≤ 4294967295) : bits .or .u32 (a : Int) ((b : Int) * (m : Int)) = (a : Int) + (b : Int) * (m : Int) := by
  subst hm
  have h3 := Nat.two_pow_add_eq_or_of_lt ha b
  rw [show ((b : Int) * ((2 ^ k : Nat) : Int)) = ((b * 2 ^ k : Nat) : Int) from (Int.natCast_mul _ _).symm]
  rw [u32_or_nat a (b * 2 ^ k) (by omega) (by omega), Nat.or_comm, Nat.mul_comm b, ← h3]; push_cast; omega
theorem join4 (b0 b1 b2 b3 : Int) (h0 : 0 ≤ b0) (h0' : b0 ≤ 255) (h1 : 0 ≤ b1) (h1' : b1 ≤ 255) (h2 : 0 ≤ b2) (h2' : b2 ≤ 255) (h3 : 0 ≤ b3) (h3' : b3 ≤ 255) :
    bits .or .u32 (bits .or .u32 (bits .or .u32 (bits .or .u32 0 b0) (b1 * 256)) (b2 * 65536)) (b3 * 16777216) = b0 + 256 * b1 + 65536 * b2 + 16777216 * b3 := by
  obtain ⟨n0, rfl⟩ := Int.eq_ofNat_of_zero_le h0
  obtain ⟨n1, rfl⟩ := Int.eq_ofNat_of_zero_le h1
  obtain ⟨n2, rfl⟩ := Int.eq_ofNat_of_zero_le h2
  obtain ⟨n3, rfl⟩ := Int.eq_ofNat_of_zero_le h3
  have f0 : bits .or .u32 0 (n0 : Int) = n0 := by
    have h := join_up 0 n0 0 1 rfl (by omega) (by omega); simpa using h
  have f1 := join_up n0 n1 8 256 rfl (by omega) (by omega)
  have f2 := join_up (n0 + n1 * 256) n2 16 65536 rfl (by omega) (by omega)
  have f3 := join_up (n0 + n1 * 256 + n2 * 65536) n3 24 16777216 rfl (by omega) (by omega)
  simp only [Int.natCast_add, Int.natCast_mul] at f1 f2 f3
  rw [show ((256 : Nat) : Int) = 256 from rfl] at f1 f2 f3
  rw [show ((65536 : Nat) : Int) = 65536 from rfl] at f2 f3
  rw [show ((16777216 : Nat) : Int) = 16777216 from rfl] at f3
  rw [f0, f1, f2, f3]; omega
theorem wsize4 (w : World) : Calls Tryz.prog 127 #[.int .i64 4] w fun e w' => e = .returned (.bool true) ∧ w = w' := by
  go_enter Tryz.func127, Tryz.ntmps127
  go_wp2
  go_ret
  exact ⟨rfl, rfl⟩
set_option maxHeartbeats 400000 in
theorem wstore4 (v : Int) (w : World) (h0 : 0 ≤ v) (h : v ≤ 4294967295) :
    Calls Tryz.prog 76 #[.int .u32 v, .int .i64 4] w fun e w' => e = .returned (.tuple #[.slice (some ⟨w.heap.size, 0, none⟩) 4 4, .nilIface]) ∧ w' = w.alloc (.cells #[.int .u8 (v % 256), .int .u8 (v / 256 % 256), .int .u8 (v / 65536 % 256), .int .u8 (v / 16777216)] 5) := by
  have hmk : ∀ w : World, (Instr.makeSlice 28 (.int .i64 4) (.int .i64 4)).run Tryz.prog w = .ok (.slice (some ⟨w.heap.size, 0, none⟩) 4 4) (w.alloc (.cells #[.int .u8 0, .int .u8 0, .int .u8 0, .int .u8 0] 5)) := fun _ => by kernel_rfl
  go_enter Tryz.func76, Tryz.ntmps76
  go_wp2_with (go_at_call 127; (with_reducible refine (wsize4 _).mono ?_); rintro e w' ⟨rfl, rfl⟩)
  go_rounds 5
  go_ret2
  exact ⟨rfl, rfl⟩
theorem wload4 (b0 b1 b2 b3 : Int) (p : Addr) (w : World) (h0 : 0 ≤ b0) (h0' : b0 ≤ 255) (h1 : 0 ≤ b1) (h1' : b1 ≤ 255) (h2 : 0 ≤ b2) (h2' : b2 ≤ 255) (h3 : 0 ≤ b3) (h3' : b3 ≤ 255)
    (c0 : w.cell? ⟨p.block, p.off, none⟩ = some (.int .u8 b0)) (c1 : w.cell? ⟨p.block, p.off + 1, none⟩ = some (.int .u8 b1)) (c2 : w.cell? ⟨p.block, p.off + 2, none⟩ = some (.int .u8 b2)) (c3 : w.cell? ⟨p.block, p.off + 3, none⟩ = some (.int .u8 b3)) :
    Calls Tryz.prog 75 #[.slice (some ⟨p.block, p.off, none⟩) 4 4] w fun e w' => e = .returned (.tuple #[.int .u32 (b0 + 256 * b1 + 65536 * b2 + 16777216 * b3), .nilIface]) ∧ w = w' := by
  go_enter Tryz.func75, Tryz.ntmps75
  go_wp2_with (go_at_call 127; (with_reducible refine (wsize4 _).mono ?_); rintro e w' ⟨rfl, rfl⟩)
  go_rounds 5
  go_ret2
  exact ⟨by rw [← join4 b0 b1 b2 b3 h0 h0' h1 h1' h2 h2' h3 h3']; rfl, rfl⟩
end Go.Proofs.YtgedimlhldfkaaaGreatDoor
