/- The document's paths: Last. -/
import Derived.Test.YtmaocaddoohfmaaDoorPaG
namespace Go.Proofs.YtmaocaddoohfmaaDoor
open Go.RowKit
set_option linter.unusedVariables false
set_option maxRecDepth 100000
set_option maxHeartbeats 1000000 in
theorem rlast_any (l : List UInt8) (w : World) (hl : l.length ≤ 100000000) : Calls Tryd.prog 10 #[.string (ba l)] w (LaA l w id) := by
  have cS := rsplit_any l w hl
  unfold SpA at cS
  simp only [id] at cS
  have sL := ba_size l
  by_cases hE : spE l = 0
  · have e1 : spL l = segs l := by unfold spL; rw [if_pos hE]
    rw [e1, hE] at cS
    by_cases hn : segs l = []
    · have E1 := Lib.hid (laN_nil hE hn)
      rw [hn] at cS
      clear hE e1 hn
      go_enter Tryd.func10, Tryd.ntmps10
      go_wp2_with fail
      refine cS.mono ?_
      rintro e w1 ⟨v, rfl, o1, n1⟩
      obtain ⟨p, cap, rfl, -⟩ := o1.txr
      clear cS
      simp only [List.length_nil]
      go_wp2
      refine bodyPost_ret (v := .tuple #[.string ⟨#[]⟩, .string ⟨#[]⟩, .int .i64 22]) (by simp [results, Tryd.results10, go_sem]) rfl ?_
      unfold LaA
      rw [E1.out]
      exact ⟨rfl, n1⟩
    · obtain ⟨L, s, hLs⟩ : ∃ L s, segs l = L ++ [s] := ⟨_, _, (List.dropLast_concat_getLast hn).symm⟩
      have hsz := segs_many l
      have hsl := (segs_clean l s (by rw [hLs]; simp)).2.2
      have hx : (segs l)[L.length]? = some s := by rw [hLs]; simp
      have hlen : (segs l).length = L.length + 1 := by rw [hLs]; simp
      rw [hlen] at hsz
      have hL0 : ¬ ((L.length : Int) < 0) := by omega
      have hL9 : (L.length : Int) ≤ 100000000 := by omega
      by_cases hd : s = [46] ∨ s = [46, 46]
      · have E1 := Lib.hid (laN_dot hE hLs hd)
        have hd2 : ((ba s).toList == [46]) = true ∨ (((ba s).toList == [46]) = false ∧ ((ba s).toList == [46, 46]) = true) := by
          rw [ba_list]
          rcases hd with rfl | rfl
          · exact .inl rfl
          · exact .inr ⟨rfl, rfl⟩
        have HX := Lib.hid hx
        clear hE e1 hn hLs hd hsl hx
        rcases hd2 with hd2 | ⟨hd2, hd3⟩
        · go_enter Tryd.func10, Tryd.ntmps10
          go_wp2_with fail
          refine cS.mono ?_
          rintro e w1 ⟨v, rfl, o1, n1⟩
          obtain ⟨p, cap, rfl, hc1, hc0, hc⟩ := o1.txr
          obtain ⟨a, rfl, ca⟩ := hc _ _ HX.out
          rw [hlen] at hc1 ⊢
          clear cS hc o1
          go_wp2
          refine bodyPost_ret (v := .tuple #[.string ⟨#[]⟩, .string ⟨#[]⟩, .int .i64 22]) (by simp [results, Tryd.results10, go_sem]) rfl ?_
          unfold LaA
          rw [E1.out]
          exact ⟨rfl, n1⟩
        · go_enter Tryd.func10, Tryd.ntmps10
          go_wp2_with fail
          refine cS.mono ?_
          rintro e w1 ⟨v, rfl, o1, n1⟩
          obtain ⟨p, cap, rfl, hc1, hc0, hc⟩ := o1.txr
          obtain ⟨a, rfl, ca⟩ := hc _ _ HX.out
          rw [hlen] at hc1 ⊢
          clear cS hc o1
          go_wp2
          refine bodyPost_ret (v := .tuple #[.string ⟨#[]⟩, .string ⟨#[]⟩, .int .i64 22]) (by simp [results, Tryd.results10, go_sem]) rfl ?_
          unfold LaA
          rw [E1.out]
          exact ⟨rfl, n1⟩
      · have hd1 : s ≠ [46] := fun e => hd (.inl e)
        have hd2 : s ≠ [46, 46] := fun e => hd (.inr e)
        have hok : ∀ (A : List UInt8) (m : Nat), l = A ++ s ++ List.replicate m 47 → laN l = (s, A, 0) := fun A m hp => laN_ok hE hLs hd1 hd2 hp
        have HOK := Lib.hid hok
        have g1 : ((ba s).toList == [46]) = false := by rw [ba_list]; exact beq_eq_false_iff_ne.2 hd1
        have g2 : ((ba s).toList == [46, 46]) = false := by rw [ba_list]; exact beq_eq_false_iff_ne.2 hd2
        have HX := Lib.hid hx
        have HL := Lib.hid hLs
        have cP := fun W => rparts_any l W hl
        clear hE e1 hn hLs hd hsl hx hd1 hd2 hok
        go_enter Tryd.func10, Tryd.ntmps10
        go_wp2_with fail
        refine cS.mono ?_
        rintro e w1 ⟨v, rfl, o1, n1⟩
        obtain ⟨p, cap, rfl, hc1, hc0, hc⟩ := o1.txr
        obtain ⟨a, rfl, ca⟩ := hc _ _ HX.out
        rw [hlen] at hc1 ⊢
        clear cS hc
        go_wp2_with fail
        refine (cP _).mono ?_
        rintro e w2 ⟨v2, u2, ns, rfl, o2, on2, hnl, hat, n2⟩
        obtain ⟨pu, cu, rfl, hcu⟩ := on2.read
        obtain ⟨pv, cv, rfl, -⟩ := o2.txr
        obtain ⟨q, m, hq, hql, hp⟩ := hat _ _ HL.out
        obtain ⟨g, rfl, hgc, hgs, hgl⟩ := hcu _ _ hq
        have HP := Lib.hid (HOK.out _ _ hp)
        have ca2 := fun n => (((New.refl _).drewN n).cellv (n2.cellv ca))
        have ca3 := n2.cellv ca
        have hgl2 := fun n => (((New.refl _).drewN n).cellv hgl)
        have hsl := fun W => to_slice l q hql W
        have hql' : (q : Int) ≤ (l.length : Int) := by omega
        rw [hnl, hlen] at hgc
        rw [hnl, hlen]
        clear cP hat hq hp hcu o1 o2 on2 hnl ca
        go_wp2_with fail
        go_quiet (fail)
        go_wp2
        refine bodyPost_ret (v := .tuple #[.string (ba s), .string (ba (l.take q)), .int .i64 0]) (by simp [results, Tryd.results10, go_sem]) rfl ?_
        unfold LaA
        rw [HP.out]
        exact ⟨rfl, (n1.trans n2).drewN _⟩
  · have E1 := Lib.hid (laN_err hE)
    have hne : (spE l != 0) = true := by simp [hE]
    have e1 : spL l = [] := by unfold spL; rw [if_neg hE]
    rw [e1] at cS
    generalize spE l = c at *
    clear e1
    go_enter Tryd.func10, Tryd.ntmps10
    go_wp2_with fail
    refine cS.mono ?_
    rintro e w1 ⟨v, rfl, o1, n1⟩
    obtain ⟨p, cap, rfl, -⟩ := o1.txr
    clear cS
    go_wp2
    refine bodyPost_ret (v := .tuple #[.string ⟨#[]⟩, .string ⟨#[]⟩, .int .i64 c]) (by simp [results, Tryd.results10, go_sem]) rfl ?_
    unfold LaA
    rw [E1.out]
    exact ⟨rfl, n1⟩
end Go.Proofs.YtmaocaddoohfmaaDoor
