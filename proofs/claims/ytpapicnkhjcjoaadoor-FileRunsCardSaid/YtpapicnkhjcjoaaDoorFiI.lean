/- Open files: what the laws ask beside the contracts: one file by value that came in, slices of numbers, the law's own ints. -/
import Derived.Test.YtpapicnkhjcjoaaDoorFiE
import Derived.Test.YtpapicnkhjcjoaaDoorFiF
import Derived.Test.YtpapicnkhjcjoaaDoorFiG
import Derived.Test.YtpapicnkhjcjoaaDoorByIn
import Derived.Deep.QuietTactic
import Derived.BigQuiet
namespace Go.Proofs.YtpapicnkhjcjoaaDoor
open Go.RowKit
set_option linter.unusedVariables false
set_option maxRecDepth 100000
section
variable {w w' : World}
/-- a slice of numbers that can be read -/
def Nums (w : World) (v : Value) (l : List Int) : Prop := ∃ p cap, v = .slice p l.length cap ∧ (l.length ≤ cap ∧ cap ≤ maxLen) ∧ ∀ i, i < l.length → ∃ a, p = some a ∧ w.cell? (a.add i) = some (.int .i64 (l.getD i 0))
theorem Nums.nil : Nums w (.slice none 0 0) [] := ⟨none, 0, rfl, ⟨Nat.le_refl _, Nat.zero_le _⟩, fun i h => absurd h (Nat.not_lt_zero _)⟩
theorem Nums.new {v : Value} {l : List Int} (h : Nums w v l) (k : New w w') : Nums w' v l := by
  obtain ⟨p, cap, h1, h2, h3⟩ := h
  refine ⟨p, cap, h1, h2, fun i hi => ?_⟩
  obtain ⟨a, ha, hc⟩ := h3 i hi
  exact ⟨a, ha, k.keeps hc⟩
theorem Nums.shape {v : Value} {l : List Int} (h : Nums w v l) : ∃ p cap, v = .slice p l.length cap := by obtain ⟨p, cap, h1, -⟩ := h; exact ⟨p, cap, h1⟩
/-- one file of a row of cells -/
theorem fl_of {x0 x1 x2 x3 x4 x5 x6 : Value} (h0 : FkIs w (.num .i64) x0) (h1 : FkIs w (.num .i64) x1) (h2 : FkIs w (.num .i64) x2) (h3 : FkIs w .bit x3) (h4 : FkIs w .bit x4) (h5 : FkIs w .str x5) (h6 : FkIs w (.num .i64) x6) :
    ∃ f : Fl, x0 = .int .i64 f.k ∧ x1 = .int .i64 f.id ∧ x2 = .int .i64 f.off ∧ x3 = .bool f.rd ∧ x4 = .bool f.wt ∧ x5 = .string (ba f.nm) ∧ x6 = .int .i64 f.rf := by
  obtain ⟨k, rfl, -⟩ := h0
  obtain ⟨id, rfl, -⟩ := h1
  obtain ⟨off, rfl, -⟩ := h2
  obtain ⟨rd, rfl⟩ := h3
  obtain ⟨wt, rfl⟩ := h4
  obtain ⟨nm, rfl, -⟩ := h5
  obtain ⟨rf, rfl, -⟩ := h6
  exact ⟨⟨k, id, off, rd, wt, nm, rf⟩, rfl, rfl, rfl, rfl, rfl, rfl, rfl⟩
theorem array7 {cs : Array Value} (h : cs.size = 7) : ∃ x0 x1 x2 x3 x4 x5 x6, cs = #[x0, x1, x2, x3, x4, x5, x6] := by
  obtain ⟨l⟩ := cs
  match l, h with
  | [x0, x1, x2, x3, x4, x5, x6], _ => exact ⟨x0, x1, x2, x3, x4, x5, x6, rfl⟩
theorem fl_in {v : Value} (h : FkVal [.num .i64, .num .i64, .num .i64, .bit, .bit, .str, .num .i64] w v) : ∃ f : Fl, v = FlV f := by
  obtain ⟨cs, rfl, hz, hf⟩ := h
  obtain ⟨x0, x1, x2, x3, x4, x5, x6, rfl⟩ := array7 (hz.trans rfl)
  obtain ⟨f, rfl, rfl, rfl, rfl, rfl, rfl, rfl⟩ := fl_of (hf 0 _ _ rfl rfl) (hf 1 _ _ rfl rfl) (hf 2 _ _ rfl rfl) (hf 3 _ _ rfl rfl) (hf 4 _ _ rfl rfl) (hf 5 _ _ rfl rfl) (hf 6 _ _ rfl rfl)
  exact ⟨f, rfl⟩
set_option maxHeartbeats 1000000 in
/-- the same one number in both -/
theorem fints_one {u v : Value} {n : Int} (hu : Nums w u [n]) (hv : Nums w v [n]) : Calls Tryd.prog 21 #[u, v] w fun e w' => e = .returned (.bool true) ∧ New w w' := by
  obtain ⟨p, cap, rfl, -, hc⟩ := hu
  obtain ⟨q, cap2, rfl, -, hd⟩ := hv
  obtain ⟨a, rfl, ha⟩ := hc 0 (by simp)
  obtain ⟨b, rfl, hb⟩ := hd 0 (by simp)
  have ha : w.cell? (a.add 0) = some (.int .i64 n) := ha
  have hb : w.cell? (b.add 0) = some (.int .i64 n) := hb
  have a0 : a.add 0 = a := by simp [Addr.add]
  have b0 : b.add 0 = b := by simp [Addr.add]
  have ha2 := ha
  have hb2 := hb
  rw [a0] at ha
  rw [b0] at hb
  clear hc hd
  dsimp only [List.length_cons, List.length_nil]
  go_enter Tryd.func21, Tryd.ntmps21
  go_wp2
  go_loopg [5] 1 (fun k i wr => ∃ j : Nat, j + k = 1 ∧ i = .int .i64 (j : Int) ∧ New w wr)
  case atStart => exact ⟨0, rfl, rfl, New.refl _⟩
  case round =>
    obtain ⟨j, hj, rfl, hn⟩ := hrel
    have E : j = 0 ∨ j = 1 := by omega
    have J := Lib.hid hj
    have HN := Lib.hid hn
    have ha := hn.keeps ha
    have hb := hn.keeps hb
    clear hj hn ha2 hb2
    rcases E with rfl | rfl
    · go_wp2_with fail
      go_quiet (fail)
      have n2 := Lib.hid (HN.out.trans ((New.refl _).drewN nq))
      go_wp2
      go_roundg 0
      case measure => have := J.out; omega
      case rel => exact ⟨1, rfl, rfl, n2.out⟩
    · go_wp2
      go_ret
      exact ⟨rfl, HN.out⟩
end
end Go.Proofs.YtpapicnkhjcjoaaDoor
