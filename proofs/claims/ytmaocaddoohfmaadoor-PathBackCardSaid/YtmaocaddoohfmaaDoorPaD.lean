/- The package of paths: Join, Last. -/
import Derived.Test.YtmaocaddoohfmaaDoorPaC
namespace Go.Proofs.YtmaocaddoohfmaaDoor
open Go.RowKit
set_option linter.unusedVariables false
set_option maxRecDepth 100000
theorem ckA_size {ls : List (List UInt8)} (h : ckA ls = 0) : (Lib.join ls [47]).length ≤ 200 := by
  obtain ⟨h8, hx⟩ := ckA_ok.1 h
  have key : ∀ (ls : List (List UInt8)), (∀ x ∈ ls, x.length ≤ 16) → (Lib.join ls [47]).length ≤ 17 * ls.length := by
    intro ls
    induction ls with
    | nil => intro _; simp [Lib.join, List.intercalate]
    | cons x r ih =>
      intro hx
      have hx1 := hx x (by simp)
      have ih := ih (fun y hy => hx y (by simp [hy]))
      cases r with
      | nil => rw [Lib.join_one]; simp; omega
      | cons y r =>
        have e : Lib.join (x :: y :: r) [47] = x ++ 47 :: Lib.join (y :: r) [47] := by rw [Lib.join_cons, Lib.join_cons]; simp [Lib.joinTail]
        rw [e, List.length_append, List.length_cons]
        simp only [List.length_cons] at ih ⊢
        omega
  have := key ls (fun x hx2 => (ckN_ok (hx x hx2)).2.1)
  omega
/-- what Join answers -/
def jnV (ls : List (List UInt8)) : List UInt8 := if ckA ls = 0 then jn ls else []
theorem pjoin_any (ls : List (List UInt8)) (v : Value) (w : World) (h : TxR w v ls) (hs : ∀ x ∈ ls, x.length ≤ maxLen) : Calls Tryd.prog 15 #[v] w fun e w' => e = .returned (.tuple #[.string (ba (jnV ls)), erN (ckA ls)]) ∧ New w w' := by
  have cA := pall_any ls v w h hs
  obtain ⟨p, cap, rfl, h1, h0, hc⟩ := h
  by_cases hk : ckA ls = 0
  · have E1 := Lib.hid (show jnV ls = 47 :: Lib.join ls [47] from by unfold jnV; rw [if_pos hk]; rfl)
    have E0 := Lib.hid hk
    have hz := ckA_size hk
    have hl8 := (ckA_ok.1 hk).1
    have cJ : ∀ W, New w W → Calls Tryd.prog 27 #[.slice p ls.length cap, .string ⟨#[47]⟩] W fun e w' => e = .returned (.string (ba (Lib.join ls [47]))) ∧ New W w' := by
      intro W hW
      have hm : (ls.map ba).map (fun s : ByteArray => s.data.toList) = ls := by
        rw [List.map_map]
        have : ((fun s : ByteArray => s.data.toList) ∘ ba) = id := by funext x; exact ba_data x
        rw [this, List.map_id]
      have e47 : (⟨#[47]⟩ : ByteArray).data.toList = [47] := rfl
      by_cases hn : ls = []
      · subst hn
        have hj : ∀ (g o : Nat), (Calls Tryd.prog 27 #[.slice (some ⟨g, o, none⟩) ([] : List ByteArray).length cap, .string ⟨#[47]⟩] W fun e w' => e = .returned (.string (ba (Lib.join [] [47]))) ∧ New W w') → True := fun _ _ _ => trivial
        refine (Any.strings_Join_none Tryd.lays156 Tryd.Builder_Extra_156 p cap ⟨#[47]⟩ W).mono ?_
        rintro e w' ⟨rfl, rfl⟩
        exact ⟨rfl, New.refl _⟩
      · obtain ⟨x, r, hxr⟩ := List.exists_cons_of_ne_nil hn
        obtain ⟨a, rfl, ca⟩ := hc 0 x (by rw [hxr]; rfl)
        have ca := hW.cellv ca
        have hbl := lt_cell ca
        have hsp : a.spot = none := by
          unfold Addr.add at ca
          rw [if_pos rfl] at ca
          unfold World.cell? at ca
          revert ca
          split
          · split
            · intro h; cases h
            · rename_i h; intro _; simpa using h
          · intro h; cases h
        obtain ⟨g, o, s⟩ := a
        obtain rfl : s = none := hsp
        have hcc : ∀ (j : Nat) y, (ls.map ba)[j]? = some y → W.cell? ⟨g, o + j, none⟩ = some (.string y) := by
          intro j y hy
          rw [List.getElem?_map] at hy
          cases hl : ls[j]? with
          | none => rw [hl] at hy; cases hy
          | some z =>
            rw [hl] at hy
            obtain rfl := Option.some.inj hy
            obtain ⟨a, ha, cz⟩ := hc j z hl
            obtain rfl := Option.some.inj ha
            have := hW.cellv cz
            unfold Addr.add at this
            split at this
            · rename_i h; subst h; exact this
            · exact this
        have J := Tryd.strings_Join g o cap (ls.map ba) ⟨#[47]⟩ W hcc hbl (by rw [List.length_map]; omega) (by rw [List.length_map]; exact h1) (by rw [hm, e47]; omega)
        rw [List.length_map] at J
        refine J.mono ?_
        rintro e w' ⟨rfl, hb⟩
        rw [hm, e47]
        exact ⟨rfl, hb⟩
    have q1 : ¬ 9223372036854775807 < 1 + (ba (Lib.join ls [47])).size := by rw [ba_size]; omega
    have e1 : (⟨#[47]⟩ : ByteArray) ++ ba (Lib.join ls [47]) = ba (47 :: Lib.join ls [47]) := (ba_app [47] _).symm
    rw [hk, er0] at cA
    generalize Lib.join ls [47] = J at *
    clear hk hz
    go_enter Tryd.func15, Tryd.ntmps15
    go_wp2_with fail
    refine cA.mono ?_
    rintro e w1 ⟨rfl, n1⟩
    go_wp2_with fail
    refine (cJ _ n1).mono ?_
    rintro e w2 ⟨rfl, n2⟩
    have n3 := n1.trans n2
    clear cA cJ n1 n2
    go_wp2
    refine bodyPost_ret (v := .tuple #[.string (ba (47 :: J)), .nilIface]) (by simp [results, Tryd.results15, go_sem]) rfl ?_
    rw [E1.out, E0.out]
    exact ⟨rfl, n3⟩
  · have E1 := Lib.hid (show jnV ls = [] from by unfold jnV; rw [if_neg hk])
    have E2 := Lib.hid (erN_pos hk)
    rw [erN_pos hk] at cA
    generalize ckA ls = c at *
    clear hk
    go_enter Tryd.func15, Tryd.ntmps15
    go_wp2_with fail
    refine cA.mono ?_
    rintro e w1 ⟨rfl, n1⟩
    clear cA
    go_wp2
    refine bodyPost_ret (v := .tuple #[.string ⟨#[]⟩, .iface 44 (.int .i64 c)]) (by simp [results, Tryd.results15, go_sem]) rfl ?_
    rw [E1.out, E2.out]
    exact ⟨rfl, n1⟩
/-- what Last answers -/
def LaA (p : List UInt8) (w : World) (x : Value → Value) (e : Ending) (w' : World) : Prop := e = .returned (.tuple #[.string (ba (laN p).1), .string (ba (laN p).2.1), x (.int .i64 (laN p).2.2)]) ∧ New w w'
theorem erV_int (c : Int) : erV (.int .i64 c) = erN c := rfl
theorem tsuf (A s : List UInt8) : Lib.trimSuffix (A ++ s) s = A := by
  unfold Lib.trimSuffix Lib.hasSuffix
  rw [if_pos (by rw [List.isSuffixOf_iff_suffix]; exact List.suffix_append A s)]
  simp
set_option maxHeartbeats 1000000 in
theorem plast_any (l : List UInt8) (w : World) (hl : l.length ≤ 100000000) (h : Mx w) : Calls Tryd.prog 9 #[.string (ba l)] w (LaA l w erV) := by
  have cS := psplit_any l w hl h
  unfold SpA at cS
  simp only [erV_int] at cS
  by_cases hE : spE l = 0
  · have e1 : spL l = segs l := by unfold spL; rw [if_pos hE]
    rw [e1, hE, er0] at cS
    by_cases hn : segs l = []
    · have E1 := Lib.hid (laN_nil hE hn)
      rw [hn] at cS
      clear hE e1 hn
      go_enter Tryd.func9, Tryd.ntmps9
      go_wp2_with fail
      refine cS.mono ?_
      rintro e w1 ⟨v, rfl, o1, n1⟩
      obtain ⟨p, cap, rfl, -⟩ := o1.txr
      clear cS
      go_wp2
      refine bodyPost_ret (v := .tuple #[.string ⟨#[]⟩, .string ⟨#[]⟩, .iface 44 (.int .i64 22)]) (by simp [results, Tryd.results9, go_sem]) rfl ?_
      unfold LaA
      rw [E1.out]
      exact ⟨rfl, n1⟩
    · obtain ⟨L, s, hLs⟩ : ∃ L s, segs l = L ++ [s] := ⟨_, _, (List.dropLast_concat_getLast hn).symm⟩
      have hsz := segs_many l
      have hsl := (segs_clean l s (by rw [hLs]; simp)).2.2
      have hx : (segs l)[L.length]? = some s := by rw [hLs]; simp
      have hlen : (segs l).length = L.length + 1 := by rw [hLs]; simp
      obtain ⟨A, m, hp⟩ := segs_last l.length l (Nat.le_refl _) L s hLs
      by_cases hd : s = [46] ∨ s = [46, 46]
      · have E1 := Lib.hid (laN_dot hE hLs hd)
        have hd2 : ((ba s).toList == [46]) = true ∨ (((ba s).toList == [46]) = false ∧ ((ba s).toList == [46, 46]) = true) := by
          rw [ba_list]
          rcases hd with rfl | rfl
          · exact .inl rfl
          · exact .inr ⟨rfl, rfl⟩
        have HX := Lib.hid hx
        rw [hlen] at hsz
        have hL0 : ¬ ((L.length : Int) + 1 = 0) := by omega
        have hL1 : (((L.length : Int) + 1) == 0) = false := by simp; omega
        have hL9 : (L.length : Int) ≤ 100000000 := by omega
        clear hE e1 hn hLs hp hd hsl hx
        rcases hd2 with hd2 | ⟨hd2, hd3⟩
        · go_enter Tryd.func9, Tryd.ntmps9
          go_wp2_with fail
          refine cS.mono ?_
          rintro e w1 ⟨v, rfl, o1, n1⟩
          obtain ⟨p, cap, rfl, hc1, hc0, hc⟩ := o1.txr
          obtain ⟨a, rfl, ca⟩ := hc _ _ HX.out
          rw [hlen] at hc1 ⊢
          clear cS hc o1
          go_wp2
          refine bodyPost_ret (v := .tuple #[.string ⟨#[]⟩, .string ⟨#[]⟩, .iface 44 (.int .i64 22)]) (by simp [results, Tryd.results9, go_sem]) rfl ?_
          unfold LaA
          rw [E1.out]
          exact ⟨rfl, n1⟩
        · go_enter Tryd.func9, Tryd.ntmps9
          go_wp2_with fail
          refine cS.mono ?_
          rintro e w1 ⟨v, rfl, o1, n1⟩
          obtain ⟨p, cap, rfl, hc1, hc0, hc⟩ := o1.txr
          obtain ⟨a, rfl, ca⟩ := hc _ _ HX.out
          rw [hlen] at hc1 ⊢
          clear cS hc o1
          go_wp2
          refine bodyPost_ret (v := .tuple #[.string ⟨#[]⟩, .string ⟨#[]⟩, .iface 44 (.int .i64 22)]) (by simp [results, Tryd.results9, go_sem]) rfl ?_
          unfold LaA
          rw [E1.out]
          exact ⟨rfl, n1⟩
      · have hd1 : s ≠ [46] := fun e => hd (.inl e)
        have hd2 : s ≠ [46, 46] := fun e => hd (.inr e)
        have E1 := Lib.hid (laN_ok hE hLs hd1 hd2 hp)
        have g1 : ((ba s).toList == [46]) = false := by rw [ba_list]; exact beq_eq_false_iff_ne.2 hd1
        have g2 : ((ba s).toList == [46, 46]) = false := by rw [ba_list]; exact beq_eq_false_iff_ne.2 hd2
        have HX := Lib.hid hx
        have hA : A.length ≤ l.length := by have := congrArg List.length hp; simp at this; omega
        have cR := fun W => Tryd.strings_TrimRight_one (ba l) 47 (by decide) W (by rw [ba_size]; omega)
        rw [ba_data, (up_last hLs hp).2] at cR
        have cT := fun W => Tryd.strings_TrimSuffix (ba (A ++ s)) (ba s) W (by rw [ba_size]; simp; omega)
        rw [ba_data, ba_data, tsuf] at cT
        have cC := fun W => clone_any A W (by omega)
        rw [hlen] at hsz
        have hL0 : ¬ ((L.length : Int) + 1 = 0) := by omega
        have hL1 : (((L.length : Int) + 1) == 0) = false := by simp; omega
        have hL9 : (L.length : Int) ≤ 100000000 := by omega
        clear hE e1 hn hLs hp hd hsl hx hd1 hd2
        go_enter Tryd.func9, Tryd.ntmps9
        go_wp2_with fail
        refine cS.mono ?_
        rintro e w1 ⟨v, rfl, o1, n1⟩
        obtain ⟨p, cap, rfl, hc1, hc0, hc⟩ := o1.txr
        obtain ⟨a, rfl, ca⟩ := hc _ _ HX.out
        rw [hlen] at hc1 ⊢
        clear cS hc o1
        go_wp2_with fail
        refine (cR _).mono ?_
        rintro e w2 ⟨rfl, rfl⟩
        go_wp2_with fail
        refine (cT _).mono ?_
        rintro e w2 ⟨rfl, rfl⟩
        go_wp2_with fail
        refine (cC _).mono ?_
        rintro e w3 ⟨rfl, n3⟩
        go_wp2
        refine bodyPost_ret (v := .tuple #[.string (ba s), .string (ba A), .nilIface]) (by simp [results, Tryd.results9, go_sem]) rfl ?_
        unfold LaA
        rw [E1.out]
        exact ⟨rfl, n1.trans n3⟩
  · have E1 := Lib.hid (laN_err hE)
    have E2 := Lib.hid (erN_pos hE)
    have e1 : spL l = [] := by unfold spL; rw [if_neg hE]
    rw [e1, erN_pos hE] at cS
    generalize spE l = c at *
    clear hE e1
    go_enter Tryd.func9, Tryd.ntmps9
    go_wp2_with fail
    refine cS.mono ?_
    rintro e w1 ⟨v, rfl, o1, n1⟩
    obtain ⟨p, cap, rfl, -⟩ := o1.txr
    clear cS
    go_wp2
    refine bodyPost_ret (v := .tuple #[.string ⟨#[]⟩, .string ⟨#[]⟩, .iface 44 (.int .i64 c)]) (by simp [results, Tryd.results9, go_sem]) rfl ?_
    unfold LaA
    rw [E1.out]
    exact ⟨by rw [← E2.out]; rfl, n1⟩
end Go.Proofs.YtmaocaddoohfmaaDoor
