/- Spaces of pages in memory: an address's place, how many frames a table takes, the library's DeleteFunc over numbers, the pages of a range that have frames. Contracts, in any world; behind each there are only new blocks. -/
import Derived.Test.YtfllplinafnpbaaGreatDoorSpB
import Derived.Lib.SliceRun
namespace Go.Proofs.YtfllplinafnpbaaGreatDoor
open Go.RowKit
set_option linter.unusedVariables false
set_option maxRecDepth 100000
/-- do so many bytes at an address lie in one page? -/
def plc (at_ : Nat) (n : Int) : Bool := decide (at_ / 256 < 4096) && decide (0 ≤ n) && decide ((at_ % 256 : Nat) + n ≤ 256)
theorem plc_iff {a : Nat} {n : Int} : plc a n = true ↔ a / 256 < 4096 ∧ 0 ≤ n ∧ (a % 256 : Nat) + n ≤ 256 := by unfold plc; simp [and_assoc]
/-- what place answers -/
def plcV (a : Nat) (n : Int) : Value := if plc a n = true then .tuple #[.int .i64 ((a / 256 : Nat) : Int), .int .i64 ((a % 256 : Nat) : Int), .nilIface] else .tuple #[.int .i64 0, .int .i64 0, .iface 72 (.int .i64 14)]
theorem place_any (w : World) (a : Nat) (n : Int) (ha : a < 4294967296) (hn : -9223372036854775808 ≤ n ∧ n ≤ 9223372036854775807) : Calls Tryz.prog 27 #[.int .u32 a, .int .i64 n] w fun e w' => e = .returned (plcV a n) ∧ w = w' := by
  have E1 : ((a / 256 : Nat) : Int) = (a : Int) / 256 := by omega
  have E2 : ((a % 256 : Nat) : Int) = (a : Int) % 256 := by omega
  unfold plcV
  rw [E1, E2]
  by_cases c1 : a / 256 < 4096
  · have d1 : decide (4096 ≤ (a : Int) / 256) = false := by simp; omega
    by_cases c2 : 0 ≤ n
    · have d2 : decide (n < 0) = false := by simp; omega
      by_cases c3 : ((a % 256 : Nat) : Int) + n ≤ 256
      · have d3 : decide (256 - (a : Int) % 256 < n) = false := by simp; omega
        rw [if_pos (plc_iff.2 ⟨c1, c2, c3⟩)]
        have f1 : ¬ 256 - (a : Int) % 256 < n := by omega
        clear c1 c3
        go_enter Tryz.func27, Tryz.ntmps27
        go_wp2
        exact bodyPost_ret (v := .tuple #[.int .i64 ((a : Int) / 256), .int .i64 ((a : Int) % 256), .nilIface]) (by simp [results, Tryz.results27, go_sem]) rfl ⟨rfl, rfl⟩
      · have d3 : decide (256 - (a : Int) % 256 < n) = true := by simp; omega
        rw [if_neg (fun k => c3 (plc_iff.1 k).2.2)]
        have f1 : 256 - (a : Int) % 256 < n := by omega
        clear c1 c3
        go_enter Tryz.func27, Tryz.ntmps27
        go_wp2
        exact bodyPost_ret (v := .tuple #[.int .i64 0, .int .i64 0, .iface 72 (.int .i64 14)]) (by simp [results, Tryz.results27, go_sem]) rfl ⟨rfl, rfl⟩
    · have d2 : decide (n < 0) = true := by simp; omega
      rw [if_neg (fun k => c2 (plc_iff.1 k).2.1)]
      have f1 : n < 0 := by omega
      clear c1 c2
      go_enter Tryz.func27, Tryz.ntmps27
      go_wp2
      exact bodyPost_ret (v := .tuple #[.int .i64 0, .int .i64 0, .iface 72 (.int .i64 14)]) (by simp [results, Tryz.results27, go_sem]) rfl ⟨rfl, rfl⟩
  · have d1 : decide (4096 ≤ (a : Int) / 256) = true := by simp; omega
    rw [if_neg (fun k => c1 (plc_iff.1 k).1)]
    have f1 : 4096 ≤ (a : Int) / 256 := by omega
    clear c1
    go_enter Tryz.func27, Tryz.ntmps27
    go_wp2
    exact bodyPost_ret (v := .tuple #[.int .i64 0, .int .i64 0, .iface 72 (.int .i64 14)]) (by simp [results, Tryz.results27, go_sem]) rfl ⟨rfl, rfl⟩
/-- one page more: how many frames, which upper part was last -/
def tbs1 (s : Int × Int) (p : Int) : Int × Int := if p / 64 = s.2 then s else (s.1 + 1, p / 64)
/-- how many frames a table takes for some pages -/
def tbs (l : List Int) : Int × Int := l.foldl tbs1 (1, -1)
theorem tbs_push (l : List Int) (p : Int) : tbs (l ++ [p]) = tbs1 (tbs l) p := by simp [tbs]
theorem tbs_bd (l : List Int) (h : ∀ x ∈ l, 0 ≤ x ∧ x < 4096) : 1 ≤ (tbs l).1 ∧ (tbs l).1 ≤ 1 + l.length ∧ -1 ≤ (tbs l).2 ∧ (tbs l).2 < 64 := by
  have key : ∀ m : List Int, (∀ x ∈ m, 0 ≤ x ∧ x < 4096) → 1 ≤ (tbs m.reverse).1 ∧ (tbs m.reverse).1 ≤ 1 + m.length ∧ -1 ≤ (tbs m.reverse).2 ∧ (tbs m.reverse).2 < 64 := by
    intro m
    induction m with
    | nil => intro _; simp [tbs]
    | cons x m ih =>
      intro h
      have h0 := h x List.mem_cons_self
      obtain ⟨h1, h2, h3, h4⟩ := ih fun y hy => h y (List.mem_cons_of_mem _ hy)
      rw [List.reverse_cons, tbs_push, List.length_cons]
      unfold tbs1
      split
      · omega
      · dsimp only; omega
  have := key l.reverse (by simpa using h)
  simpa using this
set_option maxHeartbeats 1000000 in
theorem tables_any (w : World) (v : Value) (l : List Int) (h : Ints w v l) (hb : ∀ x ∈ l, 0 ≤ x ∧ x < 4096) (hl : l.length ≤ 4096) : Calls Tryz.prog 30 #[v] w fun e w' => e = .returned (.int .i64 (tbs l).1) ∧ w = w' := by
  obtain ⟨p, cap, rfl, hc, hm⟩ : ∃ p cap, v = .slice p l.length cap ∧ True ∧ True := by obtain ⟨p, cap, e⟩ := h.len; exact ⟨p, cap, e, trivial, trivial⟩
  have HI := Lib.hid h
  have HB := Lib.hid hb
  clear h hb hc hm
  go_enter Tryz.func30, Tryz.ntmps30
  go_wp2
  go_loopg [3, 4, 9] l.length (fun k x y i wr => ∃ j : Nat, j + k = l.length ∧ i = .int .i64 (j : Int) ∧ w = wr ∧ x = .int .i64 (tbs (l.take j)).1 ∧ y = .int .i64 (tbs (l.take j)).2)
  case atStart => exact ⟨0, by omega, rfl, rfl, rfl, rfl⟩
  case round =>
    obtain ⟨j, hj, rfl, rfl, rfl, rfl⟩ := hrel
    by_cases c : j < l.length
    · have hT := take_snoc_int l j c
      have hm : l.getD j 0 ∈ l := getD_mem c rfl
      obtain ⟨x, hx, hx2⟩ : ∃ x : Nat, l.getD j 0 = (x : Int) ∧ x < 4096 := by
        have := HB.out _ hm
        exact ⟨(l.getD j 0).toNat, by omega, by omega⟩
      have hcell : ∃ b, p = some ⟨b, 0, none⟩ ∧ w.cell? ⟨b, j, none⟩ = some (.int .i64 x) := by
        rcases HI.out with ⟨e, e2⟩ | ⟨b, cap', e, _, _, _, hh⟩
        · rw [e2] at c; exact absurd c (Nat.not_lt_zero _)
        · cases e; exact ⟨b, rfl, by rw [hh j c, hx]⟩
      obtain ⟨b, rfl, c0⟩ := hcell
      have hbd := tbs_bd (l.take j) fun y hy => HB.out y (List.mem_of_mem_take hy)
      have hl2 : (l.take j).length ≤ 4096 := by rw [List.length_take]; omega
      have T1 : tbs (l.take (j + 1)) = tbs1 (tbs (l.take j)) x := by rw [hT, tbs_push, hx]
      have HT1 := Lib.hid T1
      have J := Lib.hid hj
      generalize tbs (l.take j) = s at *
      obtain ⟨s1, s2⟩ := s
      dsimp only at *
      have f1 : j < l.length := c
      clear hT hm hx T1 hj c
      by_cases hq : (x : Int) / 64 = s2
      · have g1 : ((x : Int) / 64 != s2) = false := by simpa using hq
        have H2 := Lib.hid hq
        clear hq
        go_wp2
        go_roundg (l.length - (j + 1))
        case measure => have := J.out; omega
        case rel => exact ⟨j + 1, by have := J.out; omega, by go_num, rfl, by rw [HT1.out]; unfold tbs1; rw [if_pos H2.out], by rw [HT1.out]; unfold tbs1; rw [if_pos H2.out]⟩
      · have g1 : ((x : Int) / 64 != s2) = true := by simpa using hq
        have H2 := Lib.hid hq
        go_wp2
        go_roundg (l.length - (j + 1))
        case measure => have := J.out; omega
        case rel => exact ⟨j + 1, by have := J.out; omega, by go_num, rfl, by rw [HT1.out]; unfold tbs1; rw [if_neg H2.out], by rw [HT1.out]; unfold tbs1; rw [if_neg H2.out]⟩
    · obtain rfl : j = l.length := by omega
      rw [List.take_length]
      go_wp2
      go_ret
      exact ⟨rfl, rfl⟩
end Go.Proofs.YtfllplinafnpbaaGreatDoor
