/- The document's open files: May, At, Get. -/
import Derived.Test.YtpapicnkhjcjoaaDoorFiMath
import Derived.Test.YtpapicnkhjcjoaaDoorRw
import Derived.Deep.LoopGhost
namespace Go.Proofs.YtpapicnkhjcjoaaDoor
open Go.RowKit
set_option linter.unusedVariables false
set_option maxRecDepth 100000
/-- items -/
def RIt : RTy := ⟨82, 42, 8, 64, .agg #[.int .i64 0, .int .i64 0, .int .i64 0, .int .i64 0, .bool false, .bool false, .string ByteArray.empty, .int .i64 0], Tryd.underlying42, by kernel_rfl, by kernel_rfl, by decide, by decide⟩
theorem it_wf (L : Ft) : Wf RIt (L.map itC) := fun r hr => by
  obtain ⟨q, _, rfl⟩ := List.mem_map.1 hr
  refine ⟨rfl, fun x hx => ?_⟩
  simp only [itC, flC, List.mem_cons, List.not_mem_nil, or_false] at hx
  rcases hx with rfl | rfl | rfl | rfl | rfl | rfl | rfl | rfl <;> rfl
/-- the document's table by value -/
def DtV (most : Int) (u : Value) : Value := .agg #[.int .i64 most, u]
def Its (w : World) (u : Value) (L : Ft) : Prop := Rws RIt w u (L.map itC)
section
variable {w w' : World} {u : Value} {L : Ft} {most : Int}
theorem Its.new (h : Its w u L) (k : New w w') : Its w' u L := Rws.new h k
theorem Its.shape (h : Its w u L) : ∃ p cap, u = .slice p L.length cap ∧ L.length ≤ cap ∧ cap ≤ maxLen := by
  obtain ⟨p, cap, h1, h2, h3⟩ := Rws.shape h
  rw [List.length_map] at h1 h2
  exact ⟨p, cap, h1, h2, h3⟩
theorem Its.cell {p : Option Addr} {n cap : Nat} (h : Its w (.slice p n cap) L) (i : Nat) (hi : i < L.length) : ∃ a, p = some a ∧ ∀ f x, (itC L[i])[f]? = some x → w.cell? (a.add (i * 8 + f)) = some x := by
  have h0 := Rws.at_ h i 0 (by rw [List.length_map]; exact hi) (.int .i64 L[i].1) (by rw [List.getElem_map]; rfl)
  obtain ⟨a, rfl, _⟩ := h0
  refine ⟨a, rfl, fun f x hx => ?_⟩
  obtain ⟨a', e, hc⟩ := Rws.at_ h i f (by rw [List.length_map]; exact hi) x (by rw [List.getElem_map]; exact hx)
  cases e
  exact hc
set_option maxHeartbeats 2000000 in
theorem rfmay_any (f : Fl) (w : World) : Calls Tryd.prog 30 #[FlV f] w fun e w' => e = .returned (.bool (decide (flOk f))) ∧ New w w' := by
  have nn : New w (w.alloc (.cells #[.int .i64 f.k, .int .i64 f.id, .int .i64 f.off, .bool f.rd, .bool f.wt, .string (ba f.nm), .int .i64 f.rf] 45)) := (New.refl w).alloc _ _
  have hs := ba_size f.nm
  unfold FlV
  by_cases h0 : 0 ≤ f.k
  · have _k0 := True.intro
    by_cases h1 : f.k ≤ 3
    · have _k1 := True.intro
      by_cases h2 : 0 ≤ f.id
      · have _k2 := True.intro
        by_cases h3 : f.id ≤ 1073741824
        · have _k3 := True.intro
          by_cases h4 : 0 ≤ f.off
          · have _k4 := True.intro
            by_cases h5 : f.off ≤ 1073741824
            · have _k5 := True.intro
              by_cases h6 : (f.nm.length : Int) ≤ 256
              · have _k6 := True.intro
                rw [decide_eq_true (show flOk f from ⟨⟨h0, h1⟩, ⟨h2, h3⟩, ⟨h4, h5⟩, by omega⟩)]
                have d6 : decide (((ba f.nm).size : Int) ≤ 256) = true := decide_eq_true (by rw [hs]; exact h6)
                obtain ⟨k, id, off, rd, wt, nm, rf⟩ := f
                dsimp only at *
                clear hs
                go_enter Tryd.func30, Tryd.ntmps30
                go_wp2
                go_ret
                exact ⟨rfl, nn⟩
              · rw [decide_eq_false (show ¬ flOk f from fun c => h6 (by have := c.2.2.2; omega))]
                skip
                have d6 : decide (((ba f.nm).size : Int) ≤ 256) = false := decide_eq_false (by rw [hs]; exact h6)
                obtain ⟨k, id, off, rd, wt, nm, rf⟩ := f
                dsimp only at *
                clear hs
                go_enter Tryd.func30, Tryd.ntmps30
                go_wp2
                go_ret
                exact ⟨rfl, nn⟩
            · rw [decide_eq_false (show ¬ flOk f from fun c => h5 c.2.2.1.2)]
              skip
              skip
              obtain ⟨k, id, off, rd, wt, nm, rf⟩ := f
              dsimp only at *
              clear hs
              go_enter Tryd.func30, Tryd.ntmps30
              go_wp2
              go_ret
              exact ⟨rfl, nn⟩
          · rw [decide_eq_false (show ¬ flOk f from fun c => h4 c.2.2.1.1)]
            skip
            skip
            obtain ⟨k, id, off, rd, wt, nm, rf⟩ := f
            dsimp only at *
            clear hs
            go_enter Tryd.func30, Tryd.ntmps30
            go_wp2
            go_ret
            exact ⟨rfl, nn⟩
        · rw [decide_eq_false (show ¬ flOk f from fun c => h3 c.2.1.2)]
          skip
          skip
          obtain ⟨k, id, off, rd, wt, nm, rf⟩ := f
          dsimp only at *
          clear hs
          go_enter Tryd.func30, Tryd.ntmps30
          go_wp2
          go_ret
          exact ⟨rfl, nn⟩
      · rw [decide_eq_false (show ¬ flOk f from fun c => h2 c.2.1.1)]
        skip
        skip
        obtain ⟨k, id, off, rd, wt, nm, rf⟩ := f
        dsimp only at *
        clear hs
        go_enter Tryd.func30, Tryd.ntmps30
        go_wp2
        go_ret
        exact ⟨rfl, nn⟩
    · rw [decide_eq_false (show ¬ flOk f from fun c => h1 c.1.2)]
      skip
      skip
      obtain ⟨k, id, off, rd, wt, nm, rf⟩ := f
      dsimp only at *
      clear hs
      go_enter Tryd.func30, Tryd.ntmps30
      go_wp2
      go_ret
      exact ⟨rfl, nn⟩
  · rw [decide_eq_false (show ¬ flOk f from fun c => h0 c.1.1)]
    skip
    skip
    obtain ⟨k, id, off, rd, wt, nm, rf⟩ := f
    dsimp only at *
    clear hs
    go_enter Tryd.func30, Tryd.ntmps30
    go_wp2
    go_ret
    exact ⟨rfl, nn⟩
set_option maxHeartbeats 1000000 in
theorem rat_any (h : Its w u L) (hl : L.length ≤ 1000000) (n : Int) : Calls Tryd.prog 31 #[DtV most u, .int .i64 n] w fun e w' => e = .returned (.int .i64 (lix L n 0)) ∧ New w w' := by
  have H := Lib.hid h
  obtain ⟨p, cap, rfl, h1, h2⟩ := h.shape
  unfold maxLen at h2
  clear h
  unfold DtV
  have nn := (New.refl w).alloc #[.int .i64 most, .slice p L.length cap] 44
  have bx := Lib.hid (Box.here w w.heap.size #[.int .i64 most, .slice p L.length cap] 44 rfl)
  have NN := Lib.hid nn
  clear nn
  go_enter Tryd.func31, Tryd.ntmps31
  go_wp2_with fail
  go_loopg [5] L.length (fun k i wr => ∃ j : Nat, j + k = L.length ∧ i = .int .i64 (j : Int) ∧ lix (L.drop j) n (j : Int) = lix L n 0 ∧ w.alloc (.cells #[.int .i64 most, .slice p L.length cap] 44) = wr)
  case atStart => exact ⟨0, by omega, rfl, rfl, rfl⟩
  case round =>
    obtain ⟨j, hj, rfl, hx, rfl⟩ := hrel
    have J := Lib.hid hj
    have HX := Lib.hid hx
    obtain ⟨b0, b1⟩ := bx.out.two
    by_cases c : j < L.length
    · obtain ⟨a, rfl, hc⟩ := (H.out.new NN.out).cell j c
      have c0 := hc 0 _ rfl
      rw [Nat.add_zero] at c0
      have hd : L.drop j = L[j] :: L.drop (j + 1) := List.drop_eq_getElem_cons c
      rw [hd] at hx
      have hx2 : (if L[j].1 = n then (j : Int) else lix (L.drop (j + 1)) n ((j : Int) + 1)) = lix L n 0 := hx
      generalize L[j].1 = m at *
      clear hx hd hc hj
      by_cases e : m = n
      · rw [if_pos e] at hx2
        subst e
        have hx3 := Lib.hid hx2
        have d1 : decide ((j : Int) < (L.length : Int)) = true := decide_eq_true (by omega)
        clear hx2
        generalize L.length = ln at *
        go_wp2
        go_ret
        exact ⟨by rw [← hx3.out]; rfl, NN.out⟩
      · rw [if_neg e] at hx2
        have hx3 := Lib.hid hx2
        have e1 : (m == n) = false := by simpa using e
        clear hx2
        generalize hln : L.length = ln at *
        have HLN := Lib.hid hln
        clear hln
        go_wp2
        go_roundg (ln - (j + 1))
        case measure => have := J.out; omega
        case rel => exact ⟨j + 1, by have := J.out; omega, by go_num, by rw [← hx3.out]; congr 1, rfl⟩
    · obtain rfl : j = L.length := by omega
      rw [List.drop_length] at hx
      have hx2 : (-1 : Int) = lix L n 0 := hx
      have hx3 := Lib.hid hx2
      clear hx hx2 HX
      generalize L.length = ln at *
      go_wp2
      go_ret
      exact ⟨by rw [← hx3.out]; rfl, NN.out⟩
end
end Go.Proofs.YtpapicnkhjcjoaaDoor
