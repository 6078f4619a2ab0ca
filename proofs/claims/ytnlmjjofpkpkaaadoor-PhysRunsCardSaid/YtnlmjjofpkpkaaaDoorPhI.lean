/- What the document's own answers on frames of bytes answer: whether there is a frame; a byte; bytes. Contracts, for any list of notes, in any world, behind which there are only new blocks. -/
import Derived.Test.YtnlmjjofpkpkaaaDoorPhH
namespace Go.Proofs.YtnlmjjofpkpkaaaDoor
open Go.RowKit
set_option linter.unusedVariables false
set_option maxRecDepth 100000
/-- an answer, and only new blocks -/
def Ans (v : Value) (w : World) (e : Ending) (w' : World) : Prop := e = .returned v ∧ New w w'
theorem rhas_yes (many j : Nat) (v : Value) (w : World) (hj : j < many) : Calls Tryd.prog 21 #[.agg #[.int .i64 many, v], .int .i64 j] w (Ans (.bool true) w) := by
  have f : decide ((j : Int) < (many : Int)) = true := by simp; omega
  have f2 : decide (j < many) = true := by simp; omega
  go_enter Tryd.func21, Tryd.ntmps21
  go_wp2
  go_ret
  exact ⟨rfl, (New.refl w).alloc _ _⟩
theorem rhas_no (many : Nat) (m : Int) (v : Value) (w : World) (hm : ¬ (0 ≤ m ∧ m < many)) : Calls Tryd.prog 21 #[.agg #[.int .i64 many, v], .int .i64 m] w (Ans (.bool false) w) := by
  by_cases c : 0 ≤ m
  · have d : decide (m < (many : Int)) = false := by simp; omega
    have d2 : (many : Int) ≤ m := by omega
    clear hm
    go_enter Tryd.func21, Tryd.ntmps21
    go_wp2
    go_ret
    exact ⟨rfl, (New.refl w).alloc _ _⟩
  · have d : decide (0 ≤ m) = false := by simpa using c
    have d2 : m < 0 := by omega
    clear hm c
    go_enter Tryd.func21, Tryd.ntmps21
    go_wp2
    go_ret
    exact ⟨rfl, (New.refl w).alloc _ _⟩
/-- each lies within a frame -/
def Small (L : List Nt) : Prop := ∀ n ∈ L, n.fr < 1024 ∧ n.off + n.bs.length ≤ 256
section
variable {S : Nat → Prop} {w : World}
set_option maxHeartbeats 4000000 in
theorem rat_any (many : Int) (v : Value) (L : List Nt) (f o : Nat) (h : Notes S w v L) (hl : L.length ≤ 1000000) (hS : Small L) (ho : o ≤ 255) (hf : f < 1024) :
    Calls Tryd.prog 22 #[.agg #[.int .i64 many, v], .int .i64 f, .int .i64 o] w (Ans (.int .u8 (byteAt L f o)) w) := by
  obtain ⟨p, cap, rfl, hlc, hcm⟩ := h.shape
  have HN := Lib.hid h
  have HS := Lib.hid hS
  unfold maxLen at hcm
  have A0 : ∃ a, a = byteAt L f o := ⟨_, rfl⟩
  obtain ⟨a, ha⟩ := A0
  rw [← ha]
  have HA := Lib.hid ha
  clear h ha hS
  go_enter Tryd.func22, Tryd.ntmps22
  go_wp2
  go_loopg [7, 8] L.length (fun k i _ wr => ∃ m : Int, m + 1 = (k : Int) ∧ k ≤ L.length ∧ i = .int .i64 m ∧ a = lk L f o k ∧ New (w.alloc (.cells #[.int .i64 many, .slice p L.length cap] 39)) wr)
  case atStart => exact ⟨_, by omega, Nat.le_refl _, rfl, HA.out, New.refl _⟩
  case round =>
    obtain ⟨m, hm, hk, rfl, hak, hN⟩ := hrel
    rcases gk with _ | k
    · obtain rfl : m = -1 := by omega
      rw [lk] at hak
      subst hak
      clear hm hk
      go_wp2
      go_ret
      exact ⟨rfl, ((New.refl w).alloc _ _).trans hN⟩
    · obtain rfl : m = (k : Int) := by omega
      have hkl : k < L.length := by omega
      have n0 : New w wr := ((New.refl w).alloc _ _).trans hN
      have hs := hN.size
      simp only [World.size_alloc] at hs
      have b1 : wr.cell? ⟨w.heap.size, 1, none⟩ = some (.slice p L.length cap) := by rw [hN.cell (by simp)]; simp
      obtain ⟨_, b, u, rfl, c0, c1, c2, hu⟩ := (HN.out.new n0).at_ k hkl
      obtain ⟨s1, s2⟩ := HS.out _ (List.getElem_mem hkl)
      rw [lk_at L f o k hkl] at hak
      generalize L[k] = n at *
      have HAK := Lib.hid hak
      clear hm hak
      obtain ⟨_, pu, cu, rfl, hum, hub⟩ := hu
      unfold maxLen at hum
      have HU := Lib.hid hub
      clear hub
      by_cases d1 : n.fr = f
      · by_cases d2 : n.off ≤ o
        · by_cases d3 : o < n.off + n.bs.length
          · obtain ⟨d, rfl⟩ : ∃ d, o = n.off + d := ⟨o - n.off, by omega⟩
            have hd : d < n.bs.length := by omega
            have hak : a = n.bs.getD d 0 := by rw [HAK.out, if_pos ⟨d1, d2, d3⟩, Nat.add_sub_cancel_left]
            obtain ⟨ad, rfl, _, hc⟩ := HU.out d hd
            rw [← hak] at hc
            have hcA : ∀ ob, (wr.alloc ob).cell? (ad.add d) = some (.int .u8 a) := fun ob => by rw [World.cell?_alloc_lt _ _ _ (cell_lt hc)]; exact hc
            have e1 : ((n.fr : Int) == (f : Int)) = true := by simp; omega
            have e2 : (n.fr == f) = true := by simpa using d1
            have e3 : decide ((n.off : Int) ≤ (n.off : Int) + (d : Int)) = true := decide_eq_true (by omega)
            have e4 : decide ((n.off : Int) + (d : Int) < (n.off : Int) + (n.bs.length : Int)) = true := decide_eq_true (by omega)
            have e5 : (n.off : Int) + (d : Int) - (n.off : Int) = (d : Int) := by omega
            have e6 : (d : Int) < (n.bs.length : Int) := by omega
            clear d1 d2 d3 hak HAK HA
            go_wp2
            go_ret
            exact ⟨rfl, n0.alloc _ _⟩
          · have hak : a = lk L f o k := by rw [HAK.out, if_neg (fun q => d3 q.2.2)]
            have HAK2 := Lib.hid hak
            have e1 : ((n.fr : Int) == (f : Int)) = true := by simp; omega
            have e2 : (n.fr == f) = true := by simpa using d1
            have e3 : decide ((n.off : Int) ≤ (o : Int)) = true := decide_eq_true (by omega)
            have e4 : decide ((o : Int) < (n.off : Int) + (n.bs.length : Int)) = false := decide_eq_false (by omega)
            have e5 : decide (n.off ≤ o) = true := decide_eq_true d2
            have e6 : decide (o < n.off + n.bs.length) = false := decide_eq_false d3
            clear d1 d2 d3 hak HAK
            go_wp2
            go_roundg k
            case measure => omega
            case rel => exact ⟨(k : Int) - 1, by omega, by omega, rfl, HAK2.out, hN.alloc _ _⟩
        · have hak : a = lk L f o k := by rw [HAK.out, if_neg (fun q => d2 q.2.1)]
          have HAK2 := Lib.hid hak
          have e1 : ((n.fr : Int) == (f : Int)) = true := by simp; omega
          have e2 : (n.fr == f) = true := by simpa using d1
          have e3 : decide ((n.off : Int) ≤ (o : Int)) = false := decide_eq_false (by omega)
          have e5 : decide (n.off ≤ o) = false := decide_eq_false d2
          clear d1 d2 hak HAK
          go_wp2
          go_roundg k
          case measure => omega
          case rel => exact ⟨(k : Int) - 1, by omega, by omega, rfl, HAK2.out, hN.alloc _ _⟩
      · have e1 : ((n.fr : Int) == (f : Int)) = false := by simp; omega
        have e2 : (n.fr == f) = false := by simpa using d1
        have hak : a = lk L f o k := by rw [HAK.out, if_neg (fun q => d1 q.1)]
        have HAK2 := Lib.hid hak
        clear d1 hak HAK
        go_wp2
        go_roundg k
        case measure => omega
        case rel => exact ⟨(k : Int) - 1, by omega, by omega, rfl, HAK2.out, hN.alloc _ _⟩
theorem rread_arg (many : Nat) (v : Value) (m o n : Int) (w : World) (hm : ¬ (0 ≤ m ∧ m < many)) :
    Calls Tryd.prog 17 #[.agg #[.int .i64 many, v], .int .i64 m, .int .i64 o, .int .i64 n] w (Ans (.tuple #[.slice none 0 0, .int .i64 22]) w) := by
  have X := rhas_no many m v (w.alloc (.cells #[.int .i64 many, v] 39)) hm
  clear hm
  go_enter Tryd.func17, Tryd.ntmps17
  go_wp2_with (go_at_call 21; (with_reducible refine X.mono ?_); rintro e w1 ⟨rfl, n1⟩)
  go_ret2
  exact ⟨rfl, ((New.refl w).alloc _ _).trans n1⟩
set_option maxHeartbeats 1000000 in
theorem rread_fault (many j : Nat) (v : Value) (o n : Int) (w : World) (hj : j < many) (ho : o < 0 ∨ n < 0 ∨ 256 < o + n) (b1 : o ≤ 9223372036854775807) (b2 : n ≤ 9223372036854775807) :
    Calls Tryd.prog 17 #[.agg #[.int .i64 many, v], .int .i64 j, .int .i64 o, .int .i64 n] w (Ans (.tuple #[.slice none 0 0, .int .i64 14]) w) := by
  have X := rhas_yes many j v (w.alloc (.cells #[.int .i64 many, v] 39)) hj
  by_cases c1 : o < 0
  · clear ho b1 b2 hj
    go_enter Tryd.func17, Tryd.ntmps17
    go_wp2_with (go_at_call 21; (with_reducible refine X.mono ?_); rintro e w1 ⟨rfl, n1⟩)
    go_ret2
    exact ⟨rfl, ((New.refl w).alloc _ _).trans n1⟩
  · have d1 : decide (o < 0) = false := decide_eq_false c1
    by_cases c2 : 256 < o
    · have d2 : decide (256 < o) = true := decide_eq_true c2
      clear ho b1 b2 c1 hj
      go_enter Tryd.func17, Tryd.ntmps17
      go_wp2_with (go_at_call 21; (with_reducible refine X.mono ?_); rintro e w1 ⟨rfl, n1⟩)
      go_ret2
      exact ⟨rfl, ((New.refl w).alloc _ _).trans n1⟩
    · have d2 : decide (256 < o) = false := decide_eq_false c2
      by_cases c3 : n < 0
      · have d3 : decide (n < 0) = true := decide_eq_true c3
        clear ho b1 b2 c1 c2 hj
        go_enter Tryd.func17, Tryd.ntmps17
        go_wp2_with (go_at_call 21; (with_reducible refine X.mono ?_); rintro e w1 ⟨rfl, n1⟩)
        go_ret2
        exact ⟨rfl, ((New.refl w).alloc _ _).trans n1⟩
      · have d3 : decide (n < 0) = false := decide_eq_false c3
        by_cases c4 : 256 < n
        · have d4 : decide (256 < n) = true := decide_eq_true c4
          clear ho b1 b2 c1 c2 c3 hj
          go_enter Tryd.func17, Tryd.ntmps17
          go_wp2_with (go_at_call 21; (with_reducible refine X.mono ?_); rintro e w1 ⟨rfl, n1⟩)
          go_ret2
          exact ⟨rfl, ((New.refl w).alloc _ _).trans n1⟩
        · have d4 : decide (256 < n) = false := decide_eq_false c4
          have e1 : 0 ≤ o := by omega
          have e2 : o ≤ 256 := by omega
          have e3 : 0 ≤ n := by omega
          have e4 : n ≤ 256 := by omega
          have d5 : decide (256 < o + n) = true := decide_eq_true (by omega)
          clear ho b1 b2 c1 c2 c3 c4 hj
          go_enter Tryd.func17, Tryd.ntmps17
          go_wp2_with (go_at_call 21; (with_reducible refine X.mono ?_); rintro e w1 ⟨rfl, n1⟩)
          go_ret2
          exact ⟨rfl, ((New.refl w).alloc _ _).trans n1⟩
/-- bytes, and only new blocks -/
def AnsB (l : List Int) (w : World) (e : Ending) (w' : World) : Prop := ∃ v, e = .returned (.tuple #[v, .int .i64 0]) ∧ OwnB w.heap.size w' v l ∧ New w w'
set_option maxHeartbeats 4000000 in
theorem rread_any (many f : Nat) (v : Value) (L : List Nt) (o n : Nat) (h : Notes S w v L) (hl : L.length ≤ 1000000) (hS : Small L) (hf : f < many) (hm : many ≤ 1024) (ho : o + n ≤ 256) :
    Calls Tryd.prog 17 #[.agg #[.int .i64 many, v], .int .i64 f, .int .i64 o, .int .i64 n] w (AnsB (rd L f o n) w) := by
  have X := rhas_yes many f v (w.alloc (.cells #[.int .i64 many, v] 39)) hf
  have HN := Lib.hid h
  have HS := Lib.hid hS
  have HO := Lib.hid h.oct
  have d1 : decide ((o : Int) < 0) = false := decide_eq_false (by omega)
  have d2 : decide (256 < (o : Int)) = false := decide_eq_false (by omega)
  have d3 : decide ((n : Int) < 0) = false := decide_eq_false (by omega)
  have d4 : decide (256 < (n : Int)) = false := decide_eq_false (by omega)
  have d5 : decide (256 < (o : Int) + (n : Int)) = false := decide_eq_false (by omega)
  clear h hS
  go_enter Tryd.func17, Tryd.ntmps17
  go_wp2_with (go_at_call 21; (with_reducible refine X.mono ?_); rintro e w1 ⟨rfl, n1⟩)
  clear X
  have n2 := ((New.refl w).alloc _ _).trans n1
  have bb0 : w1.cell? ⟨w.heap.size, 0, none⟩ = some (.int .i64 many) := by rw [n1.cell (by simp)]; simp
  have bb1 : w1.cell? ⟨w.heap.size, 1, none⟩ = some v := by rw [n1.cell (by simp)]; simp
  have hsz := n1.size
  simp only [World.size_alloc] at hsz
  go_loopg [10, 11] n (fun k l i wr => ∃ j : Nat, j + k = n ∧ i = .int .i64 (j : Int) ∧ OwnB w1.heap.size wr l (rd L f o j) ∧ New w1 wr)
  case atStart => exact ⟨0, by omega, rfl, OwnB.nil _ _, New.refl _⟩
  case round =>
    obtain ⟨j, hj, rfl, hown, hN⟩ := hrel
    have J := Lib.hid hj
    clear hj
    by_cases c : j < n
    · have Y := rat_any many v L f (o + j) (HN.out.new (n2.trans hN)) hl HS.out (by omega) (by omega)
      have hb := byteAt_oct HO.out f (o + j)
      have P := Lib.hid (rd_push L f o j)
      have c0 : wr.cell? ⟨w.heap.size, 0, none⟩ = some (.int .i64 many) := by rw [hN.cell (by show w.heap.size < _; omega)]; exact bb0
      have c1 : wr.cell? ⟨w.heap.size, 1, none⟩ = some v := by rw [hN.cell (by show w.heap.size < _; omega)]; exact bb1
      generalize byteAt L f (o + j) = y at *
      have e1 : ((o + j : Nat) : Int) = (o : Int) + (j : Int) := by omega
      rw [e1] at Y
      clear e1
      go_wp2_with fail
      refine Y.mono ?_
      rintro e w2 ⟨rfl, n2'⟩
      have hown2 := hown.new n2'
      have hN2 := hN.trans n2'
      clear Y hown n2' c0 c1
      have by1 : ∀ W : World, Byts (W.alloc (.cells #[.int .u8 y] 5)) (.slice (some ⟨W.heap.size, 0, none⟩) 1 1) [y] := fun W => byts_of_block (l := [y]) (heap_alloc_new W _) (by simp [maxLen])
      have hll : (rd L f o j).length + ([y] : List Int).length ≤ 1000000 := by rw [rd_len]; simp; omega
      have hs2 := hN2.size
      go_wp2_with (first
        | ((with_reducible refine at_slot 49 ?_); refine wpList_append_bytes rfl _ _ rfl rfl w1.heap.size _ _ rfl (hown2.new ((New.refl w2).alloc _ _)) _ [y] rfl (by1 w2) hll (by simp; omega) ?_))
      intro v3 w3 o3 k3
      have hN3 := k3 w1 (Nat.le_refl _) (hN2.alloc _ _)
      rw [← P.out] at o3
      clear k3 hown2 hN2 hN by1 hll hs2 hb
      go_wp2
      go_roundg (n - (j + 1))
      case measure => have := J.out; omega
      case rel => exact ⟨j + 1, by have := J.out; omega, by go_num, o3, hN3⟩
    · have hjl : j = n := by have := J.out; omega
      clear J c
      subst hjl
      have e1 : decide ((j : Int) < (j : Int)) = false := by simp
      go_wp2
      go_ret2
      exact ⟨_, rfl, hown.more (by omega), n2.trans hN⟩
end
end Go.Proofs.YtnlmjjofpkpkaaaDoor
