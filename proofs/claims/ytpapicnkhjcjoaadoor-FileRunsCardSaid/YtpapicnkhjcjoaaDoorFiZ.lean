/- The package's table of open files: List. -/
import Derived.Test.YtpapicnkhjcjoaaDoorFiT
import Derived.Deep.LoopGhost
namespace Go.Proofs.YtpapicnkhjcjoaaDoor
open Go.RowKit
set_option linter.unusedVariables false
set_option maxRecDepth 100000
/-- whole numbers -/
def RNum : RTy := ⟨3, 37, 1, 8, .int .i64 0, Tryd.underlying37, by kernel_rfl, by kernel_rfl, by decide, by decide⟩
def nmC (n : Int) : List Value := [.int .i64 n]
theorem nm_wf (l : List Int) : Wf RNum (l.map nmC) := fun r hr => by
  obtain ⟨n, _, rfl⟩ := List.mem_map.1 hr
  exact ⟨rfl, fun x hx => by rw [nmC, List.mem_singleton] at hx; subst hx; rfl⟩
theorem nm_laid (w : World) (n : Int) : Rws RNum (w.alloc (.cells #[.int .i64 n] 3)) (.slice (some ⟨w.heap.size, 0, none⟩) 1 1) [nmC n] :=
  Rws.single (nm_wf [n] _ (by simp)).1 (nm_wf [n] _ (by simp)).2 (heap_alloc_new w _)
theorem OwnW.nums {base : Nat} {w : World} {v : Value} {l : List Int} (h : OwnW RNum base w v (l.map nmC)) : Nums w v l := by
  have R := h.rws
  obtain ⟨p, cap, rfl, h1, h2⟩ := R.shape
  rw [List.length_map] at *
  refine ⟨p, cap, rfl, ⟨h1, h2⟩, fun i hi => ?_⟩
  obtain ⟨a, ha, hc⟩ := R.at_ i 0 (by rw [List.length_map]; exact hi) (.int .i64 (l.getD i 0)) (by
    rw [List.getElem_map, List.getD_eq_getElem?_getD, List.getElem?_eq_getElem hi]; rfl)
  refine ⟨a, ha, ?_⟩
  have : i * RNum.c + 0 = i := by show i * 1 + 0 = i; omega
  rw [this] at hc; exact hc
section
variable {S : Nat → Prop} {w w' : World} {tb rb m : Nat} {most : Int} {L : Ft}
theorem flist_nil (w : World) : Calls Tryd.prog 12 #[.pointer none] w fun e w' => ∃ v, e = .returned v ∧ Nums w' v [] ∧ New w w' := by
  go_enter Tryd.func12, Tryd.ntmps12
  go_wp2
  go_ret
  exact ⟨_, rfl, Nums.nil, New.refl _⟩
set_option maxHeartbeats 4000000 in
theorem flist_ok (h : Ftq w tb rb m L) : Calls Tryd.prog 12 #[.pointer (some ⟨tb, 0, none⟩)] w fun e w' => ∃ v, e = .returned v ∧ OwnW RNum w.heap.size w' v ((fiL L m).map nmC) ∧ New w w' := by
  have hh := h.head.one
  have m32 := h.m32
  have H := Lib.hid h
  clear h
  go_enter Tryd.func12, Tryd.ntmps12
  go_wp2
  go_loopg [3, 13] m (fun k l i wr => ∃ j : Nat, j + k = m ∧ i = .int .i64 (j : Int) ∧ OwnW RNum w.heap.size wr l ((fiL L j).map nmC) ∧ New w wr)
  case atStart => exact ⟨0, by omega, rfl, OwnW.nil, New.refl _⟩
  case round =>
    obtain ⟨j, hj, rfl, hown, hnx⟩ := hrel
    have J := Lib.hid hj
    have HO := Lib.hid hown
    have HN := Lib.hid hnx
    have hlen := fiL_le L j
    by_cases c : j < m
    · obtain ⟨f, hf⟩ : ∃ f, f = fgF L (j : Int) := ⟨_, rfl⟩
      obtain ⟨lr, ⟨c0, c1, c2, c3, c4, c5, c6⟩, -⟩ := (H.out.new hnx).row.seven j c f hf
      have q := fun W => fnone_any f W
      obtain ⟨pl, kl, rfl, -, -⟩ := hown.shape
      simp only [List.length_map] at hown
      have HO := Lib.hid hown
      simp only [List.length_map]
      have HLEN := Lib.hid hlen
      by_cases hg : lget L (j : Int) = none
      · have P : fiL L (j + 1) = fiL L j := by rw [fiL_succ, hg]; simp
        have HP := Lib.hid P
        rw [decide_eq_true (show f.rf = 0 by rw [hf]; exact (H.out.ok.rf_zero _).2 hg)] at q
        unfold FlV at q
        obtain ⟨k, id, off, rd, wt, nm, rf⟩ := f
        dsimp only at *
        have al : New wr (wr.alloc (.cells #[.int .i64 k, .int .i64 id, .int .i64 off, .bool rd, .bool wt, .string (ba nm), .int .i64 rf] 29)) := (New.refl wr).alloc _ _
        clear hj hown hnx hlen P hf hg
        go_wp2_with fail
        refine (q _).mono ?_
        rintro e w1 ⟨rfl, n1⟩
        have n2 := al.trans n1
        clear c0 c1 c2 c3 c4 c5 c6 al n1 q
        go_wp2
        go_roundg (m - (j + 1))
        case measure => have := J.out; omega
        case rel => exact ⟨j + 1, by have := J.out; omega, by go_num, by rw [HP.out]; exact HO.out.new n2, HN.out.trans n2⟩
      · have P : fiL L (j + 1) = fiL L j ++ [(j : Int)] := by
          rw [fiL_succ]
          cases hc : lget L (j : Int) with
          | none => exact absurd hc hg
          | some x => rfl
        have HP := Lib.hid P
        rw [decide_eq_false (show ¬ f.rf = 0 by rw [hf]; exact fun c => hg ((H.out.ok.rf_zero _).1 c))] at q
        unfold FlV at q
        obtain ⟨k, id, off, rd, wt, nm, rf⟩ := f
        dsimp only at *
        have al : New wr (wr.alloc (.cells #[.int .i64 k, .int .i64 id, .int .i64 off, .bool rd, .bool wt, .string (ba nm), .int .i64 rf] 29)) := (New.refl wr).alloc _ _
        clear hj hown hnx hlen P hf hg
        go_wp2_with fail
        refine (q _).mono ?_
        rintro e w1 ⟨rfl, n1⟩
        have n2 := al.trans n1
        have HO1 := Lib.hid ((HO.out.new n2).new ((New.refl w1).alloc #[.int .i64 (j : Int)] 3))
        have HS1 := Lib.hid (nm_laid w1 (j : Int))
        have hn3 := HN.out.trans n2
        have hb1 : w.heap.size ≤ (w1.alloc (.cells #[.int .i64 (j : Int)] 3)).heap.size := (hn3.trans ((New.refl w1).alloc _ _)).size
        have N4 := Lib.hid (hn3.trans ((New.refl w1).alloc #[.int .i64 (j : Int)] 3))
        clear c0 c1 c2 c3 c4 c5 c6 al n1 q hn3 n2
        go_wp2_with (first
          | ((with_reducible refine at_slot 24 ?_); refine wpList_app_w (R := RNum) rfl _ _ rfl rfl rfl HO1.out rfl HS1.out (by rw [List.length_map, List.length_singleton]; have := HLEN.out; omega) hb1 ?_))
        intro v3 w3 o3 k3 x3 n3
        have O3 := Lib.hid o3
        have N3 := Lib.hid (n3 w (Nat.le_refl _) N4.out)
        obtain ⟨p3, k4, rfl, -, -⟩ := o3.shape
        clear o3 k3 x3 n3
        go_wp2
        go_roundg (m - (j + 1))
        case measure => have := J.out; omega
        case rel => exact ⟨j + 1, by have := J.out; omega, by go_num, by rw [HP.out, List.map_append]; exact O3.out, N3.out⟩
    · obtain rfl : j = m := by omega
      clear hj hown hnx
      go_wp2
      go_ret
      exact ⟨_, rfl, HO.out, HN.out⟩
theorem flist_any (h : Ftb S w tb most L) : Calls Tryd.prog 12 #[.pointer (some ⟨tb, 0, none⟩)] w fun e w' => ∃ v l, e = .returned v ∧ Nums w' v l ∧ l.length = L.length ∧ (∀ n : Int, n ∈ l ↔ lget L n ≠ none) ∧ FtD S w w' tb most L ∧ (∀ g, v.ownBlock = some g → w.heap.size ≤ g) := by
  obtain ⟨m, rb, h1, h2, h3⟩ := id h
  exact (flist_ok h2).mono fun e w' ⟨v, he, ho, hn⟩ => ⟨v, fiL L m, he, ho.nums, fiL_len m L h2.ok.key h2.ok.apart, fiL_mem h2.ok, FtD.new h hn, fun g hg => ho.ge hg⟩
end
end Go.Proofs.YtpapicnkhjcjoaaDoor
