/- The document's paths: Split, Join, Last. -/
import Derived.Test.YtmaocaddoohfmaaDoorPaF
namespace Go.Proofs.YtmaocaddoohfmaaDoor
open Go.RowKit
set_option linter.unusedVariables false
set_option maxRecDepth 100000
theorem rsplit_any (l : List UInt8) (w : World) (hl : l.length ≤ 100000000) : Calls Tryd.prog 8 #[.string (ba l)] w (SpA l w id) := by
  by_cases h0 : l = []
  · subst h0
    have e1 : ((ba []).toList == []) = true := by rw [ba_list]; rfl
    have e2 : (ba []).toList.isEmpty = true := by rw [ba_list]; rfl
    go_enter Tryd.func8, Tryd.ntmps8
    go_wp2
    exact bodyPost_ret (v := .tuple #[.slice none 0 0, .bool false, .int .i64 2]) (by simp [results, Tryd.results8, go_sem]) rfl ⟨_, rfl, OwnS.nil _ _, New.refl _⟩
  · obtain ⟨b, t, rfl⟩ := List.exists_cons_of_ne_nil h0
    have e1 : ((ba (b :: t)).toList == []) = false := by rw [ba_list]; rfl
    have e2 : (ba (b :: t)).toList.isEmpty = false := by rw [ba_list]; rfl
    have sL := ba_size (b :: t)
    have cP := rparts_any (b :: t) w hl
    have hcl := fun x hx => (segs_clean (b :: t) x hx).2.2
    have hix := fun W => idx_ba (P := Tryd.prog) Tryd.underlying9 (b :: t) 0 b rfl W
    have hr : rootB (b :: t) = ((b.toNat : Int) == 47) := by
      unfold rootB
      show (some b == some 47) = _
      by_cases h : b = 47
      · subst h; rfl
      · have q1 : (some b == some (47 : UInt8)) = false := beq_eq_false_iff_ne.2 (fun e => h (Option.some.inj e))
        have q2 : ((b.toNat : Int) == 47) = false := beq_eq_false_iff_ne.2 (fun e => h (by apply UInt8.toNat_inj.1; show b.toNat = 47; omega))
        rw [q1, q2]
    have hE : spE (b :: t) = ckA (segs (b :: t)) := by unfold spE; rw [if_neg h0]
    have cA := fun v W k => rall_any (segs (b :: t)) v W k (fun x hx => by have := hcl x hx; unfold maxLen; omega)
    have hlc : (b :: t).length = t.length + 1 := rfl
    by_cases hc : ckA (segs (b :: t)) = 0
    · rw [hc] at cA
      have E1 := Lib.hid (show spB (b :: t) = ((b.toNat : Int) == 47) ∧ spL (b :: t) = segs (b :: t) ∧ spE (b :: t) = 0 from ⟨by unfold spB; rw [hE, hc, if_pos rfl, hr], by unfold spL; rw [hE, hc, if_pos rfl], by rw [hE, hc]⟩)
      have hl1 : 0 < (b :: t).length := by simp
      have hl2 : (0 : Int) < ((b :: t).length : Int) := by omega
      have hix : ∀ W, (Instr.index 9 (.string (ba (b :: t))) (.int .i64 0)).run Tryd.prog W = .ok (.int .u8 (b.toNat : Int)) W := hix
      clear hE hc hcl hlc h0 hr
      generalize b :: t = l at *
      go_enter Tryd.func8, Tryd.ntmps8
      go_wp2_with fail
      refine cP.mono ?_
      rintro e w1 ⟨v, u, ns, rfl, o1, on1, -, -, n1⟩
      obtain ⟨pu, cu, rfl, -⟩ := on1.read
      have tx := o1.txr
      obtain ⟨p, cap, rfl, -⟩ := o1.txr
      clear cP
      go_wp2_with fail
      refine (cA _ _ tx).mono ?_
      rintro e w2 ⟨rfl, rfl⟩
      clear cA tx
      go_wp2_with fail
      go_quiet (fail)
      go_wp2
      refine bodyPost_ret (v := .tuple #[.slice p (segs l).length cap, .bool ((b.toNat : Int) == 47), .int .i64 0]) (by simp [results, Tryd.results8, go_sem]) rfl ?_
      unfold SpA
      rw [E1.out.1, E1.out.2.1, E1.out.2.2]
      exact ⟨_, rfl, o1.new ((New.refl _).drewN _), n1.drewN _⟩
    · have E1 := Lib.hid (show spB (b :: t) = false ∧ spL (b :: t) = [] ∧ spE (b :: t) = ckA (segs (b :: t)) from ⟨by unfold spB; rw [hE, if_neg hc], by unfold spL; rw [hE, if_neg hc], hE⟩)
      have hne : (ckA (segs (b :: t)) != 0) = true := by simp [hc]
      generalize ckA (segs (b :: t)) = c at *
      clear hE hix hcl hr
      generalize b :: t = l at *
      go_enter Tryd.func8, Tryd.ntmps8
      go_wp2_with fail
      refine cP.mono ?_
      rintro e w1 ⟨v, u, ns, rfl, o1, on1, -, -, n1⟩
      obtain ⟨pu, cu, rfl, -⟩ := on1.read
      have tx := o1.txr
      obtain ⟨p, cap, rfl, -⟩ := o1.txr
      clear cP
      go_wp2_with fail
      refine (cA _ _ tx).mono ?_
      rintro e w2 ⟨rfl, rfl⟩
      clear cA tx
      go_wp2
      refine bodyPost_ret (v := .tuple #[.slice none 0 0, .bool false, .int .i64 c]) (by simp [results, Tryd.results8, go_sem]) rfl ?_
      unfold SpA
      rw [E1.out.1, E1.out.2.1, E1.out.2.2]
      exact ⟨_, rfl, OwnS.nil _ _, n1⟩
/-- the first names, joined -/
def jnP (ls : List (List UInt8)) (j : Nat) : List UInt8 := jn (ls.take j)
theorem jnP_step {ls : List (List UInt8)} {j : Nat} {x : List UInt8} (hx : ls[j]? = some x) : jnP ls (j + 1) = (if j = 0 then jnP ls j else jnP ls j ++ [47]) ++ x := by
  unfold jnP
  rw [List.take_add_one, hx, Option.toList_some, jn_snoc]
  by_cases h : j = 0
  · subst h; rfl
  · have hlt := (List.getElem?_eq_some_iff.1 hx).1
    have hl : (ls.take j).length = j := by rw [List.length_take]; omega
    rw [if_neg h, if_neg (by intro e; rw [e] at hl; simp at hl; omega)]
theorem rjoin_any (ls : List (List UInt8)) (v : Value) (w : World) (h : TxR w v ls) (hs : ∀ x ∈ ls, x.length ≤ maxLen) : Calls Tryd.prog 16 #[v] w fun e w' => e = .returned (.tuple #[.string (ba (jnV ls)), .int .i64 (ckA ls)]) ∧ New w w' := by
  have cA := rall_any ls v w h hs
  obtain ⟨p, cap, rfl, h1, h0, hc⟩ := h
  by_cases hk : ckA ls = 0
  · have E1 := Lib.hid (show jnV ls = jnP ls ls.length from by unfold jnV jnP; rw [if_pos hk, List.take_length])
    have E0 := Lib.hid hk
    have hl8 := (ckA_ok.1 hk).1
    have hx16 : ∀ x ∈ ls, x.length ≤ 16 := fun x hx => (ckN_ok ((ckA_ok.1 hk).2 x hx)).2.1
    rw [hk] at cA
    have e0 : ba [47] = ⟨#[47]⟩ := rfl
    clear hk
    go_enter Tryd.func16, Tryd.ntmps16
    go_wp2_with fail
    refine cA.mono ?_
    rintro e w1 ⟨rfl, rfl⟩
    clear cA
    go_wp2_with fail
    go_loopg [5, 6] ls.length (fun k s5 s6 wr => ∃ j : Nat, j + k = ls.length ∧ s6 = .int .i64 (j : Int) ∧ s5 = .string (ba (jnP ls j)) ∧ (jnP ls j).length ≤ 1 + 17 * j ∧ wr = w1)
    case atStart => exact ⟨0, by omega, rfl, by first | rfl | (rw [← e0]; rfl), by simp [jnP, jn_nil], rfl⟩
    case round =>
      obtain ⟨j, hj, rfl, rfl, hjl, rfl⟩ := hrel
      have HJ := Lib.hid hj
      by_cases hlt : j < ls.length
      · obtain ⟨x, hx⟩ : ∃ x, ls[j]? = some x := ⟨_, List.getElem?_eq_getElem hlt⟩
        obtain ⟨a, rfl, cx⟩ := hc j x hx
        have hst := jnP_step hx
        have hx1 := hx16 x (List.mem_of_getElem? hx)
        have hlt' : (j : Int) < (ls.length : Int) := by omega
        have hj9 : j ≤ 8 := by omega
        have sx := ba_size x
        have sj := ba_size (jnP ls j)
        generalize jnP ls j = J at *
        obtain ⟨J2, hE2⟩ : ∃ J2, J2 = jnP ls (j + 1) := ⟨_, rfl⟩
        rw [← hE2] at hst
        have HE := Lib.hid hE2
        clear hE2
        by_cases hj0 : j = 0
        · subst hj0
          have cx : wr.cell? a = some (.string (ba x)) := by simpa [Addr.add] using cx
          rw [if_pos rfl] at hst
          have e1 : ba J ++ ba x = ba J2 := by rw [hst, ba_app]
          have q1 : ¬ 9223372036854775807 < (ba J).size + (ba x).size := by omega
          have hJ2 : J2.length ≤ 1 + 17 * (0 + 1) := by rw [hst]; simp; omega
          clear hst hj hx hc hs
          go_wp2_with fail
          go_roundg (ls.length - (0 + 1))
          case measure => have := HJ.out; omega
          case rel => exact ⟨0 + 1, by have := HJ.out; omega, rfl, congrArg (fun z => Value.string (ba z)) HE.out, by rw [← HE.out]; assumption, rfl⟩
        · rw [if_neg hj0] at hst
          have hj1 : (0 : Int) < (j : Int) := by omega
          have e0 : ba J ++ ⟨#[47]⟩ = ba (J ++ [47]) := by rw [ba_app]; rfl
          have e1 : ba (J ++ [47]) ++ ba x = ba J2 := by rw [hst, ba_app (J ++ [47]) x]
          have sj1 := ba_size (J ++ [47])
          have q0 : ¬ 9223372036854775807 < (ba J).size + 1 := by omega
          have q1 : ¬ 9223372036854775807 < (ba (J ++ [47])).size + (ba x).size := by rw [sj1, sx]; simp; omega
          have hJ2 : J2.length ≤ 1 + 17 * (j + 1) := by rw [hst]; simp; omega
          clear hst hj hx hc hs
          go_wp2_with fail
          go_roundg (ls.length - (j + 1))
          case measure => have := HJ.out; omega
          case rel => exact ⟨j + 1, by have := HJ.out; omega, rfl, congrArg (fun z => Value.string (ba z)) HE.out, by rw [← HE.out]; assumption, rfl⟩
      · have hge : ¬ (j : Int) < (ls.length : Int) := by omega
        obtain rfl : j = ls.length := by omega
        clear hj hc hs
        go_wp2
        refine bodyPost_ret (v := .tuple #[.string (ba (jnP ls ls.length)), .int .i64 0]) (by simp [results, Tryd.results16, go_sem]) rfl ?_
        rw [E1.out, E0.out]
        exact ⟨rfl, New.refl _⟩
  · have E1 := Lib.hid (show jnV ls = [] from by unfold jnV; rw [if_neg hk])
    have hne : (ckA ls != 0) = true := by simp [hk]
    generalize ckA ls = c at *
    go_enter Tryd.func16, Tryd.ntmps16
    go_wp2_with fail
    refine cA.mono ?_
    rintro e w1 ⟨rfl, rfl⟩
    clear cA
    go_wp2
    refine bodyPost_ret (v := .tuple #[.string ⟨#[]⟩, .int .i64 c]) (by simp [results, Tryd.results16, go_sem]) rfl ?_
    rw [E1.out]
    exact ⟨rfl, New.refl _⟩
end Go.Proofs.YtmaocaddoohfmaaDoor
