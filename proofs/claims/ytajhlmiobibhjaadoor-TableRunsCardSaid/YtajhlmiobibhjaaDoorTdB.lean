/- What the document's own answers on tables of two levels make of a list of pages and entries: a page's entry, and the list without it. Contracts, for any list, in any world, behind which there are only new blocks. -/
import Derived.Test.YtajhlmiobibhjaaDoorTdA
namespace Go.Proofs.YtajhlmiobibhjaaDoor
open Go.RowKit
set_option linter.unusedVariables false
set_option maxRecDepth 100000
/-- a slice, whichever -/
def Sl (v : Value) : Prop := ∃ p k c, v = .slice p k c
theorem Its.sl {w : World} {v : Value} {l : List (Int × Int)} (h : Its w v l) : Sl v := by obtain ⟨p, c, e⟩ := h.len; exact ⟨p, _, c, e⟩
theorem Ints.sl {w : World} {v : Value} {l : List Int} (h : Ints w v l) : Sl v := by obtain ⟨p, c, e⟩ := h.len; exact ⟨p, _, c, e⟩
section
variable {w : World} {vL vU vO : Value} {L : List (Int × Int)}
theorem rget_gone (m : Int) (h1 : Sl vL) (h2 : Sl vU) (h3 : Sl vO) : Calls Tryd.prog 20 #[.agg #[vL, vU, vO, .bool true], .int .i64 m] w (Said (gotE 0 (.int .i64 22)) w) := by
  obtain ⟨p1, k1, c1, rfl⟩ := h1
  obtain ⟨p2, k2, c2, rfl⟩ := h2
  obtain ⟨p3, k3, c3, rfl⟩ := h3
  rw [gotE_zero]
  have n0 := ((New.refl w).alloc #[.slice p1 k1 c1, .slice p2 k2 c2, .slice p3 k3 c3, .bool true] 47).alloc #[.int .i64 0, .int .u8 0, .bool false] 52
  go_enter Tryd.func20, Tryd.ntmps20
  go_wp2
  exact bodyPost_ret (v := .tuple #[.agg #[.int .i64 0, .int .u8 0, .bool false], .bool false, .int .i64 22]) (by simp [results, Tryd.results20, go_sem]) rfl ⟨rfl, by repeat (first | exact n0 | refine New.setCell ?_ (by simp) _)⟩
theorem rget_bad (m : Int) (h1 : Sl vL) (h2 : Sl vU) (h3 : Sl vO) (hp : ¬ (0 ≤ m ∧ m < 4096)) : Calls Tryd.prog 20 #[.agg #[vL, vU, vO, .bool false], .int .i64 m] w (Said (gotE 0 (.int .i64 22)) w) := by
  obtain ⟨p1, k1, c1, rfl⟩ := h1
  obtain ⟨p2, k2, c2, rfl⟩ := h2
  obtain ⟨p3, k3, c3, rfl⟩ := h3
  rw [gotE_zero]
  have X := fun W => rpage_no m W hp
  have n0 := ((New.refl w).alloc #[.slice p1 k1 c1, .slice p2 k2 c2, .slice p3 k3 c3, .bool false] 47).alloc #[.int .i64 0, .int .u8 0, .bool false] 52
  clear hp
  go_enter Tryd.func20, Tryd.ntmps20
  go_wp2_with (go_at_call 39; (with_reducible refine (X _).mono ?_); rintro e w' ⟨rfl, rfl⟩)
  exact bodyPost_ret (v := .tuple #[.agg #[.int .i64 0, .int .u8 0, .bool false], .bool false, .int .i64 22]) (by simp [results, Tryd.results20, go_sem]) rfl ⟨rfl, by repeat (first | exact n0 | refine New.setCell ?_ (by simp) _)⟩
set_option maxHeartbeats 1000000 in
theorem rget_none (p : Nat) (h1 : Its w vL L) (h2 : Sl vU) (h3 : Sl vO) (hp : p < 4096) (hlen : L.length ≤ 5000) (hn : ∀ x ∈ L, x.1 ≠ (p : Int)) : Calls Tryd.prog 20 #[.agg #[vL, vU, vO, .bool false], .int .i64 p] w (Said (gotE 0 (.int .i64 0)) w) := by
  obtain ⟨p2, k2, c2, rfl⟩ := h2
  obtain ⟨p3, k3, c3, rfl⟩ := h3
  obtain ⟨p1, c1, rfl⟩ := h1.len
  rw [gotE_zero]
  have X := fun W => rpage_yes p W hp
  have n0 := ((New.refl w).alloc #[.slice p1 L.length c1, .slice p2 k2 c2, .slice p3 k3 c3, .bool false] 47).alloc #[.int .i64 0, .int .u8 0, .bool false] 52
  have HN := Lib.hid hn
  have HI := Lib.hid (h1.new n0)
  clear h1 hn hp
  go_enter Tryd.func20, Tryd.ntmps20
  go_wp2_with (go_at_call 39; (with_reducible refine (X _).mono ?_); rintro e w' ⟨rfl, rfl⟩)
  obtain ⟨W0, hW0⟩ : ∃ W0, W0 = (w.alloc (.cells #[.slice p1 L.length c1, .slice p2 k2 c2, .slice p3 k3 c3, .bool false] 47)).alloc (.cells #[.int .i64 0, .int .u8 0, .bool false] 52) := ⟨_, rfl⟩
  rw [← hW0]
  rw [← hW0] at n0 HI
  have B0 : Box W0 w.heap.size #[.slice p1 L.length c1, .slice p2 k2 c2, .slice p3 k3 c3, .bool false] 47 := by rw [hW0]; exact (Box.here w _ _ _ rfl).alloc _
  have B1 : Box W0 (w.heap.size + 1) #[.int .i64 0, .int .u8 0, .bool false] 52 := by rw [hW0]; exact Box.here _ _ _ _ (by simp)
  clear hW0 X
  obtain ⟨a0, a1, a2, a3⟩ := B0.four
  go_loopg [7] L.length (fun k i wr => ∃ j : Nat, j + k = L.length ∧ i = .int .i64 (j : Int) ∧ W0 = wr)
  case atStart => exact ⟨0, by omega, rfl, rfl⟩
  case round =>
    obtain ⟨j, hj, rfl, rfl⟩ := hrel
    by_cases c : j < L.length
    · obtain ⟨b, cap, e, _, _, _, hc⟩ := HI.out.some (by omega)
      cases e
      obtain ⟨c0, _, _, _⟩ := hc j c
      have d := HN.out L[j] (List.getElem_mem c)
      have f : ((L[j]).1 == (p : Int)) = false := by simpa using d
      have J := Lib.hid hj
      generalize (L[j]).1 = x at *
      clear d hj hc
      go_wp2
      go_roundg (L.length - (j + 1))
      case measure => have := J.out; omega
      case rel => exact ⟨j + 1, by have := J.out; omega, by go_num, rfl⟩
    · obtain rfl : j = L.length := by omega
      clear hj c
      obtain ⟨hs, k0, k1, k2', f0, f1, f2⟩ := B1.three'
      go_wp2
      exact bodyPost_ret (v := .tuple #[.agg #[.int .i64 0, .int .u8 0, .bool false], .bool false, .int .i64 0]) (by simp [results, Tryd.results20, go_sem, k0, k1, k2']) rfl ⟨rfl, by repeat (first | exact n0 | refine New.setCell ?_ (by simp) _)⟩
set_option maxHeartbeats 1000000 in
theorem rget_some (p i : Nat) (h1 : Its w vL L) (h2 : Sl vU) (h3 : Sl vO) (hp : p < 4096) (hlen : L.length ≤ 5000) (hi : i < L.length) (hn : ∀ j (hj : j < L.length), j < i → (L[j]).1 ≠ (p : Int)) (he : (L[i]).1 = (p : Int)) (hd : dcb (L[i]).2 = true) :
    Calls Tryd.prog 20 #[.agg #[vL, vU, vO, .bool false], .int .i64 p] w (Said (gotE (L[i]).2 (.int .i64 0)) w) := by
  obtain ⟨p2, k2, c2, rfl⟩ := h2
  obtain ⟨p3, k3, c3, rfl⟩ := h3
  obtain ⟨p1, c1, rfl⟩ := h1.len
  unfold gotE
  rw [hd]
  obtain ⟨x1, hx1⟩ : ∃ x, x = dcf (L[i]).2 := ⟨_, rfl⟩
  obtain ⟨x2, hx2⟩ : ∃ x, x = dcp (L[i]).2 := ⟨_, rfl⟩
  obtain ⟨x3, hx3⟩ : ∃ x, x = dcc (L[i]).2 := ⟨_, rfl⟩
  rw [← hx1, ← hx2, ← hx3]
  have H1 := Lib.hid hx1
  have H2 := Lib.hid hx2
  have H3 := Lib.hid hx3
  clear hx1 hx2 hx3
  have X := fun W => rpage_yes p W hp
  have n0 := ((New.refl w).alloc #[.slice p1 L.length c1, .slice p2 k2 c2, .slice p3 k3 c3, .bool false] 47).alloc #[.int .i64 0, .int .u8 0, .bool false] 52
  have HN := Lib.hid hn
  have HE := Lib.hid he
  have HI := Lib.hid (h1.new n0)
  clear h1 hn hp he hd
  go_enter Tryd.func20, Tryd.ntmps20
  go_wp2_with (go_at_call 39; (with_reducible refine (X _).mono ?_); rintro e w' ⟨rfl, rfl⟩)
  obtain ⟨W0, hW0⟩ : ∃ W0, W0 = (w.alloc (.cells #[.slice p1 L.length c1, .slice p2 k2 c2, .slice p3 k3 c3, .bool false] 47)).alloc (.cells #[.int .i64 0, .int .u8 0, .bool false] 52) := ⟨_, rfl⟩
  rw [← hW0]
  rw [← hW0] at n0 HI
  have B0 : Box W0 w.heap.size #[.slice p1 L.length c1, .slice p2 k2 c2, .slice p3 k3 c3, .bool false] 47 := by rw [hW0]; exact (Box.here w _ _ _ rfl).alloc _
  have B1 : Box W0 (w.heap.size + 1) #[.int .i64 0, .int .u8 0, .bool false] 52 := by rw [hW0]; exact Box.here _ _ _ _ (by simp)
  clear hW0 X
  obtain ⟨a0, a1, a2, a3⟩ := B0.four
  obtain ⟨b, cap, e, _, _, _, hc⟩ := HI.out.some (by omega)
  cases e
  have HC := Lib.hid hc
  clear hc
  go_loopg [7] (i + 1) (fun k a wr => ∃ j : Nat, j + k = i + 1 ∧ j ≤ i ∧ a = .int .i64 (j : Int) ∧ W0 = wr)
  case atStart => exact ⟨0, by omega, by omega, rfl, rfl⟩
  case round =>
    obtain ⟨j, hj, hji, rfl, rfl⟩ := hrel
    have c : j < L.length := by omega
    obtain ⟨c0, e1, e2, e3⟩ := HC.out j c
    have J := Lib.hid hj
    clear hj
    by_cases d : j = i
    · subst d
      rw [HE.out] at c0
      rw [← H1.out] at e1
      rw [← H2.out] at e2
      rw [← H3.out] at e3
      obtain ⟨hs, k0, k1, k2', f0, f1, f2⟩ := B1.three'
      go_wp2
      exact bodyPost_ret (v := .tuple #[.agg #[.int .i64 x1, .int .u8 x2, .bool x3], .bool true, .int .i64 0]) (by simp [results, Tryd.results20, go_sem, k0, k1, k2']) rfl ⟨rfl, by repeat (first | exact n0 | refine New.setCell ?_ (by simp) _)⟩
    · have d2 := HN.out j c (by omega)
      have f : ((L[j]).1 == (p : Int)) = false := by simpa using d2
      have hlt : j < i := by omega
      generalize (L[j]).1 = x at *
      clear d2 d e1 e2 e3
      go_wp2
      go_roundg (i - j)
      case measure => have := J.out; omega
      case rel => exact ⟨j + 1, by have := J.out; omega, by omega, by go_num, rfl⟩
theorem rget_any (f : Nat → Int) (p : Nat) (h1 : Its w vL (can f 4096)) (h2 : Sl vU) (h3 : Sl vO) (hp : p < 4096) (hf : Pn (f p)) : Calls Tryd.prog 20 #[.agg #[vL, vU, vO, .bool false], .int .i64 p] w (Said (gotE (f p) (.int .i64 0)) w) := by
  have hlen : (can f 4096).length ≤ 5000 := by have := can_len f 4096; omega
  rcases hf with h0 | ⟨g1, g2⟩
  · rw [h0]
    refine rget_none p h1 h2 h3 hp hlen fun x hx e => ?_
    obtain ⟨j, hj, hfj, rfl⟩ := can_mem hx
    obtain rfl : j = p := by have e' : (j : Int) = (p : Int) := e; omega
    exact hfj h0
  · obtain ⟨i, hi, hn, hi2, he⟩ := page_at (p := (p : Int)) ⟨_, can_in (f := f) (k := 4096) hp (by omega), rfl⟩
    obtain ⟨j, hj, hfj, ej⟩ := can_mem (List.getElem_mem hi)
    obtain rfl : j = p := by rw [ej] at he; have e' : (j : Int) = (p : Int) := he; omega
    have X := rget_some j i h1 h2 h3 hp hlen hi hn he (by rw [ej]; exact (dc_is g1 g2).2.2.2)
    rw [ej] at X
    exact X
end
end Go.Proofs.YtajhlmiobibhjaaDoor
