/- The document's paths: parts, Split, Join, Last. -/
import Derived.Test.YtmaocaddoohfmaaDoorPaE
import Derived.Test.YtmaocaddoohfmaaDoorPaD
import Derived.Test.YtmaocaddoohfmaaDoorOwnN
namespace Go.Proofs.YtmaocaddoohfmaaDoor
open Go.RowKit
set_option linter.unusedVariables false
set_option maxRecDepth 100000
theorem own_apart {base b2 : Nat} {w : World} {v u : Value} {ls : List (List UInt8)} {ns : List Int} (h : OwnS base w v ls) (k : OwnN .i64 3 b2 w u ns) : v.ownBlock = none ∨ v.ownBlock ≠ u.ownBlock := by
  rcases h.2 with ⟨rfl, _⟩ | ⟨g, cap, cur, rfl, _, hg, _⟩
  · exact .inl rfl
  · rcases k.2 with ⟨rfl, _⟩ | ⟨g2, cap2, cur2, rfl, _, hg2, _⟩
    · exact .inr (by simp [Value.ownBlock])
    · refine .inr fun e => ?_
      obtain rfl : g = g2 := by simpa [Value.ownBlock] using e
      rw [hg] at hg2
      injection hg2 with hg2
      injection hg2 with _ ht _
      exact absurd ht (by decide)
theorem own_apart2 {base b2 : Nat} {w : World} {v u : Value} {ls : List (List UInt8)} {ns : List Int} (h : OwnS base w v ls) (k : OwnN .i64 3 b2 w u ns) : u.ownBlock = none ∨ u.ownBlock ≠ v.ownBlock := by
  cases hu : u.ownBlock with
  | none => exact .inl rfl
  | some g =>
    rcases own_apart h k with e | e
    · exact .inr (by rw [e]; simp)
    · rw [hu] at e; exact .inr (fun x => e x.symm)
theorem OwnS.beside {base b2 : Nat} {w w1 : World} {v u : Value} {ls : List (List UInt8)} {ns : List Int} {o : Obj} (h : OwnS base w v ls) (k : OwnN .i64 3 b2 w u ns) (hg : (w.alloc o).grownBy w1 u.ownBlock) : OwnS base w1 v ls :=
  World.ownsRow.kept (World.ownsRow.alloc h o) hg (own_apart h k)
theorem OwnN.beside {base b2 : Nat} {w w1 : World} {v u : Value} {ls : List (List UInt8)} {ns : List Int} {o : Obj} (k : OwnN .i64 3 base w u ns) (h : OwnS b2 w v ls) (hg : (w.alloc o).grownBy w1 v.ownBlock) : OwnN .i64 3 base w1 u ns :=
  World.ownsRow.kept (World.ownsRow.alloc k o) hg (own_apart2 h k)
theorem int_info16 : (Tryd.prog.info? 3).map (fun i => (i.zero, i.size, i.bytes)) = some (some (.int .i64 0), 1, 8) := by kernel_rfl
/-- what parts answers -/
def PrA (p : List UInt8) (w : World) (e : Ending) (w' : World) : Prop := ∃ v u ns, e = .returned (.tuple #[v, u]) ∧ OwnS w.heap.size w' v (segs p) ∧ OwnN .i64 3 w.heap.size w' u ns ∧ ns.length = (segs p).length ∧
  (∀ L s, segs p = L ++ [s] → ∃ a m : Nat, ns[L.length]? = some (a : Int) ∧ a ≤ p.length ∧ p = p.take a ++ s ++ List.replicate m 47) ∧ New w w'
set_option maxHeartbeats 2000000 in
theorem rparts_any (l : List UInt8) (w : World) (hl : l.length ≤ 100000000) : Calls Tryd.prog 20 #[.string (ba l)] w (PrA l w) := by
  obtain ⟨i0, hi, hz0, hz1, hz2⟩ := info_parts str_info
  obtain ⟨k0, ki, kz0, kz1, kz2⟩ := info_parts int_info16
  have sL := ba_size l
  go_enter Tryd.func20, Tryd.ntmps20
  go_wp2_with fail
  go_loopg [4, 5, 6] (l.length + 1) (fun k s4 s5 s6 wr => ∃ (j : Nat) (out : List (List UInt8)) (ns : List Int), j + k = l.length + 1 ∧ s6 = .int .i64 (j : Int) ∧ OwnS w.heap.size wr s4 out ∧ OwnN .i64 3 w.heap.size wr s5 ns ∧ PT l j out ns ∧ out.length ≤ j ∧ New w wr)
  case atStart => exact ⟨0, [], [], by omega, rfl, OwnS.nil _ _, OwnN.nil _ _ _ _, PT.zero l, by simp, New.refl _⟩
  case round =>
    obtain ⟨j, out, ns, hj, rfl, hown, hon, hP, hol, hnx⟩ := hrel
    have HJ := Lib.hid hj
    have hnl : ns.length ≤ j := by rw [← hP.1]; exact hol
    by_cases hlt : j < l.length
    · obtain ⟨b, hb⟩ : ∃ b, l[j]? = some b := ⟨_, List.getElem?_eq_getElem hlt⟩
      have hix := fun W => idx_ba (P := Tryd.prog) Tryd.underlying9 l j b hb W
      have hbD : l.getD j 0 = b := by rw [List.getD_eq_getElem?_getD, hb]; rfl
      have hlt' : (j : Int) < (l.length : Int) := by omega
      have hj9 : (j : Int) ≤ 100000000 := by omega
      by_cases h47 : b = 47
      · subst h47
        have HP := Lib.hid (hP.slash hlt hbD)
        rw [show (((47 : UInt8).toNat : Nat) : Int) = 47 from rfl] at hix
        clear hP hb hbD hj hi hz0 hz1 hz2 ki kz0 kz1 kz2
        go_wp2_with fail
        go_roundg (l.length + 1 - (j + 1))
        case measure => have := HJ.out; omega
        case rel => exact ⟨j + 1, out, ns, by have := HJ.out; omega, rfl, hown, hon, HP.out, by omega, hnx⟩
      · have hbn : ¬ (b.toNat : Int) = 47 := fun e => h47 (by apply UInt8.toNat_inj.1; show b.toNat = 47; omega)
        have hbn2 : ((b.toNat : Int) == 47) = false := beq_eq_false_iff_ne.2 hbn
        clear hj
        have HX := Lib.hid (show l.getD j 0 ≠ 47 by rw [hbD]; exact h47)
        clear hb hbD h47
        go_wp2_with fail
        go_loopg [6] (l.length + 1 - j) (fun k s6 wx => ∃ e : Nat, e + k = l.length + 1 ∧ s6 = .int .i64 (e : Int) ∧ j ≤ e ∧ e ≤ l.length ∧ (∀ i, j ≤ i → i < e → l.getD i 0 ≠ 47) ∧ wx = wr)
        case atStart => exact ⟨j, by omega, rfl, Nat.le_refl _, by omega, fun i h1 h2 => by omega, rfl⟩
        case round =>
          obtain ⟨e, hek, rfl, hje, hel, hno, rfl⟩ := hrel
          have HK := Lib.hid hek
          by_cases hce : e < l.length
          · obtain ⟨c, hc⟩ : ∃ c, l[e]? = some c := ⟨_, List.getElem?_eq_getElem hce⟩
            have hcx := fun W => idx_ba (P := Tryd.prog) Tryd.underlying9 l e c hc W
            have hcD : l.getD e 0 = c := by rw [List.getD_eq_getElem?_getD, hc]; rfl
            have hce' : (e : Int) < (l.length : Int) := by omega
            have he9 : (e : Int) ≤ 100000000 := by omega
            by_cases c47 : c = 47
            · have hje2 : j < e := by
                rcases Nat.lt_or_ge j e with h | h
                · exact h
                · obtain rfl : e = j := by omega
                  exact absurd (hcD.trans c47) HX.out
              have HP := Lib.hid (hP.name hje2 hel hno (fun _ => by rw [hcD, c47]))
              subst c47
              rw [show (((47 : UInt8).toNat : Nat) : Int) = 47 from rfl] at hcx
              have hsl := fun W => part_slice l j e hje hel W
              rw [show (l.drop j).take (e - j) = (l.take e).drop j from (List.drop_take ..).symm] at hsl
              have hje' : (j : Int) ≤ (e : Int) := by omega
              generalize (l.take e).drop j = X at *
              clear hno hP hc hcD hek hix
              go_wp2_with (at_builtin; refine wpList_append_own _ rfl _ _ 23 rfl w.heap.size 9 i0 (.string ⟨#[]⟩) 1 16 Tryd.underlying23 hi hz0 hz1 hz2 rfl (by decide) _ _ _ rfl (World.ownsRow.alloc hown _) ⟨wr.heap.size, 0, none⟩ 1 1 [.string (ba X)] rfl rfl ?c1 ?c2 ?c3 ?c4 ?c5 ?_)
              try case c1 => intro i u hu; rcases i with _ | i <;> simp at hu; subst hu; exact (World.cell?_alloc_at _ _ _ _ rfl).trans rfl
              case c2 => first | rfl | (intro u hu; simp at hu; subst hu; rfl)
              case c3 => unfold maxLen; omega
              case c4 => omega
              case c5 => have := hnx.size; simp; omega
              intro v' w1 hown' hgrow _
              have on1 := hon.beside hown hgrow
              obtain ⟨o6, n6⟩ := OwnS.push hnx (Nat.le_refl _) hown hown' hgrow
              clear hown' hgrow hown hon hnx
              go_wp2_with (at_builtin; refine wpList_append_own _ rfl _ _ 47 rfl w.heap.size 3 k0 (.int .i64 0) 1 8 Tryd.underlying47 ki kz0 kz1 kz2 rfl (by decide) _ _ _ rfl (World.ownsRow.alloc on1 _) ⟨w1.heap.size, 0, none⟩ 1 1 [.int .i64 (j : Int)] rfl rfl ?d1 ?d2 ?d3 ?d4 ?d5 ?_)
              try case d1 => intro i u hu; rcases i with _ | i <;> simp at hu; subst hu; exact (World.cell?_alloc_at _ _ _ _ rfl).trans rfl
              case d2 => first | rfl | (intro u hu; simp at hu; subst hu; rfl)
              case d3 => unfold maxLen; omega
              case d4 => omega
              case d5 => have := n6.size; simp; omega
              intro v'' w2 hown' hgrow _
              have o7 := o6.beside on1 hgrow
              obtain ⟨on2, n7⟩ := OwnN.push n6 (Nat.le_refl _) on1 hown' hgrow
              clear hown' hgrow o6 on1 n6
              go_wp2_with fail
              go_roundg (l.length + 1 - (e + 1))
              case measure => have := HJ.out; omega
              case rel => exact ⟨e + 1, out ++ [X], ns ++ [(j : Int)], by omega, rfl, o7, on2, HP.out, by simp; omega, n7⟩
            · have cn : ¬ (c.toNat : Int) = 47 := fun x => c47 (by apply UInt8.toNat_inj.1; show c.toNat = 47; omega)
              have cn2 : ((c.toNat : Int) != 47) = true := by simp; omega
              have HN := Lib.hid (show ∀ i, j ≤ i → i < e + 1 → l.getD i 0 ≠ 47 from fun i h1 h2 => by
                rcases Nat.lt_or_ge i e with h | h
                · exact hno i h1 h
                · obtain rfl : i = e := by omega
                  rw [hcD]; exact c47)
              clear hno hP hc hcD hek hix hi hz0 hz1 hz2 ki kz0 kz1 kz2 c47 cn
              go_wp2_with fail
              go_roundg (l.length + 1 - (e + 1))
              case measure => have := HK.out; omega
              case rel => exact ⟨e + 1, by have := HK.out; omega, rfl, by omega, by omega, HN.out, rfl⟩
          · have hge : ¬ (e : Int) < (l.length : Int) := by omega
            obtain rfl : e = l.length := by omega
            have HP := Lib.hid (hP.name (e := l.length) (by omega) (Nat.le_refl _) hno (fun h => by omega))
            have hsl := fun W => part_slice l j l.length hje (Nat.le_refl _) W
            rw [show (l.drop j).take (l.length - j) = (l.take l.length).drop j from (List.drop_take ..).symm] at hsl
            have hje' : (j : Int) ≤ (l.length : Int) := by omega
            have he9 : (l.length : Int) ≤ 100000000 := by omega
            generalize (l.take l.length).drop j = X at *
            clear hno hP hek hix
            go_wp2_with (at_builtin; refine wpList_append_own _ rfl _ _ 23 rfl w.heap.size 9 i0 (.string ⟨#[]⟩) 1 16 Tryd.underlying23 hi hz0 hz1 hz2 rfl (by decide) _ _ _ rfl (World.ownsRow.alloc hown _) ⟨wr.heap.size, 0, none⟩ 1 1 [.string (ba X)] rfl rfl ?c1 ?c2 ?c3 ?c4 ?c5 ?_)
            try case c1 => intro i u hu; rcases i with _ | i <;> simp at hu; subst hu; exact (World.cell?_alloc_at _ _ _ _ rfl).trans rfl
            case c2 => first | rfl | (intro u hu; simp at hu; subst hu; rfl)
            case c3 => unfold maxLen; omega
            case c4 => omega
            case c5 => have := hnx.size; simp; omega
            intro v' w1 hown' hgrow _
            have on1 := hon.beside hown hgrow
            obtain ⟨o6, n6⟩ := OwnS.push hnx (Nat.le_refl _) hown hown' hgrow
            clear hown' hgrow hown hon hnx
            go_wp2_with (at_builtin; refine wpList_append_own _ rfl _ _ 47 rfl w.heap.size 3 k0 (.int .i64 0) 1 8 Tryd.underlying47 ki kz0 kz1 kz2 rfl (by decide) _ _ _ rfl (World.ownsRow.alloc on1 _) ⟨w1.heap.size, 0, none⟩ 1 1 [.int .i64 (j : Int)] rfl rfl ?d1 ?d2 ?d3 ?d4 ?d5 ?_)
            try case d1 => intro i u hu; rcases i with _ | i <;> simp at hu; subst hu; exact (World.cell?_alloc_at _ _ _ _ rfl).trans rfl
            case d2 => first | rfl | (intro u hu; simp at hu; subst hu; rfl)
            case d3 => unfold maxLen; omega
            case d4 => omega
            case d5 => have := n6.size; simp; omega
            intro v'' w2 hown' hgrow _
            have o7 := o6.beside on1 hgrow
            obtain ⟨on2, n7⟩ := OwnN.push n6 (Nat.le_refl _) on1 hown' hgrow
            clear hown' hgrow o6 on1 n6
            go_wp2_with fail
            go_roundg (l.length + 1 - (l.length + 1))
            case measure => have := HJ.out; omega
            case rel => exact ⟨l.length + 1, out ++ [X], ns ++ [(j : Int)], by omega, rfl, o7, on2, HP.out, by simp; omega, n7⟩
    · have hge : ¬ (j : Int) < (l.length : Int) := by omega
      have HD := Lib.hid (hP.done (by omega))
      obtain ⟨pu, cu, rfl, -⟩ := hon.read
      obtain ⟨pv, cv, rfl, -⟩ := hown.txr
      clear hP hj hi hz0 hz1 hz2 ki kz0 kz1 kz2
      go_wp2
      refine bodyPost_ret (v := .tuple #[.slice pv out.length cv, .slice pu ns.length cu]) (by simp [results, Tryd.results20, go_sem]) rfl ?_
      exact ⟨_, _, ns, rfl, by rw [← HD.out.1]; exact hown, hon, HD.out.2.1, HD.out.2.2, hnx⟩
end Go.Proofs.YtmaocaddoohfmaaDoor
