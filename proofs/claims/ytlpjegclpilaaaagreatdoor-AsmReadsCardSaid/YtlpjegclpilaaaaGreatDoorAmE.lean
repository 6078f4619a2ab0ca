/- The package's Program. -/
import Derived.Test.YtlpjegclpilaaaaGreatDoorAmD
namespace Go.Proofs.YtlpjegclpilaaaaGreatDoor
open Go.RowKit
set_option linter.unusedVariables false
theorem lnsGo_len : ∀ (l cur : List UInt8), (∀ x ∈ lnsGo cur l, x.length ≤ cur.length + l.length) ∧ (lnsGo cur l).length ≤ l.length + 1
  | [], cur => by simp [lnsGo]
  | b :: t, cur => by
    unfold lnsGo
    by_cases hb : b.toNat = 10
    · rw [if_pos hb]
      have ih := lnsGo_len t []
      refine ⟨fun x hx => ?_, by have := ih.2; simp; omega⟩
      rcases List.mem_cons.1 hx with rfl | hx
      · simp
      · have := ih.1 x hx; simp at this ⊢; omega
    · rw [if_neg hb]
      have ih := lnsGo_len t (cur ++ [b])
      exact ⟨fun x hx => by have := ih.1 x hx; simp at this ⊢; omega, by have := ih.2; simp; omega⟩
theorem lns_len (l : List UInt8) : (∀ x ∈ lns l, x.length ≤ l.length) ∧ (lns l).length ≤ l.length + 1 := by
  have := lnsGo_len l []
  simpa [lns] using this
theorem ctl_len (l : List UInt8) : (ctl l).length ≤ l.length := (List.takeWhile_sublist _).length_le
theorem split_any (l : List UInt8) (w : World) (hl : l.length ≤ 4294967280) (h : Env w) :
    Calls Tryz.prog 31 #[.string (ba l), .string ⟨#[10]⟩] w fun e w' =>
      ∃ A, e = .returned (.slice (some ⟨A, 0, none⟩) (lns l).length (lns l).length) ∧ (∀ (j : Nat) x, (lns l)[j]? = some x → w'.cell? ⟨A, j, none⟩ = some (.string (ba x))) ∧ New w w' := by
  obtain ⟨m, hm⟩ := h.max
  have hp := pieces_lns (ba l)
  rw [ba_data] at hp
  have hlen : (Lib.splitB ⟨#[10]⟩ 0 (Lib.countB (ba l) ⟨#[10]⟩) (ba l)).length = Lib.countB (ba l) ⟨#[10]⟩ + 1 := Lib.splitB_all _ (by decide) 0 _ _ rfl
  have hmap : Lib.splitB ⟨#[10]⟩ 0 (Lib.countB (ba l) ⟨#[10]⟩) (ba l) = (lns l).map ba := by
    rw [← hp, List.map_map]
    have : (ba ∘ fun s : ByteArray => s.data.toList) = id := by funext s; exact ba_of s
    rw [this, List.map_id]
  refine (Tryz.strings_Split (ba l) ⟨#[10]⟩ m w (by rw [ba_size]; omega) hm (by decide)).mono ?_
  rintro e w' ⟨rfl, rfl⟩
  rw [← hlen, hmap, List.length_map]
  refine ⟨_, rfl, fun j x hx => ?_, (New.refl w).alloc _ _⟩
  have hb : Box (w.alloc (.cells (((lns l).map ba).map Value.string).toArray 9)) w.heap.size (((lns l).map ba).map Value.string).toArray 9 := Box.here w _ _ _ rfl
  rw [hb.cell j, List.getElem?_toArray, List.getElem?_map, List.getElem?_map, hx]; rfl
theorem cut_any (l : List UInt8) (w : World) (hl : l.length ≤ 4294967280) (h : Env w) :
    Calls Tryz.prog 32 #[.string (ba l), .string ⟨#[37]⟩] w fun e w' => ∃ p q, e = .returned (.tuple #[.string (ba (ctl l)), p, q]) ∧ New w w' := by
  obtain ⟨m, hm⟩ := h.max
  refine (Tryz.strings_Cut (ba l) ⟨#[37]⟩ m w (by rw [ba_size]; omega) hm).mono ?_
  rintro e w' ⟨rfl, n, rfl⟩
  have e1 : (⟨#[37]⟩ : ByteArray).data.toList = [37] := rfl
  rw [ba_data, e1, cut_ctl]
  exact ⟨_, _, rfl, (New.refl w).drewN n⟩
theorem trim_all (l : List UInt8) (w : World) (hl : l.length ≤ 4294967280) (h : Env w) (hb : wrds l = []) :
    Calls Tryz.prog 33 #[.string (ba l), .func (.func 25) #[] #[]] w fun e w' => e = .returned (.string ⟨#[]⟩) ∧ New w w' := by
  refine (Tryz.strings_TrimFunc_grows 25 #[] blank_enter blkR (ba l) w (by rw [ba_size]; omega) h.utf (blank_grows w)).mono ?_
  rintro e w' ⟨rfl, n⟩
  refine ⟨?_, n⟩
  have hz := (trim_nil (ba l)).2 (by rw [ba_data]; exact (wrds_nil l).1 hb)
  generalize Lib.trimF blkR (ba l) = t at *
  have : t.data.toList = [] := List.eq_nil_of_length_eq_zero (by rw [← Lib.size_eq]; exact hz)
  rw [← ba_of t, this]; rfl
theorem trim_not (l : List UInt8) (w : World) (hl : l.length ≤ 4294967280) (h : Env w) (hb : wrds l ≠ []) :
    Calls Tryz.prog 33 #[.string (ba l), .func (.func 25) #[] #[]] w fun e w' => ∃ b t, e = .returned (.string (ba (b :: t))) ∧ New w w' := by
  refine (Tryz.strings_TrimFunc_grows 25 #[] blank_enter blkR (ba l) w (by rw [ba_size]; omega) h.utf (blank_grows w)).mono ?_
  rintro e w' ⟨rfl, n⟩
  have hz : ¬ (Lib.trimF blkR (ba l)).size = 0 := fun e => hb ((wrds_nil l).2 (by have := (trim_nil (ba l)).1 e; rwa [ba_data] at this))
  generalize Lib.trimF blkR (ba l) = t at *
  obtain ⟨b, r, hr⟩ := List.exists_cons_of_ne_nil (l := t.data.toList) (by intro e; apply hz; rw [Lib.size_eq, e]; rfl)
  exact ⟨b, r, by rw [← hr, ba_of], n⟩
theorem u32_info : (Tryz.prog.info? 47).map (fun i => (i.zero, i.size, i.bytes)) = some (some (.int .u32 0), 1, 4) := by kernel_rfl
/-- a slice of numbers of 32 bits that the call made -/
def OwnU (base : Nat) (w : World) (v : Value) (vs : List Int) : Prop := w.ownsRow base 47 1 v vs.length (vs.map (Value.int .u32))
theorem OwnU.nil (base : Nat) (w : World) : OwnU base w (.slice none 0 0) [] := ⟨by simp, .inl ⟨rfl, rfl⟩⟩
theorem OwnU.new {base : Nat} {w w' : World} {v : Value} {vs : List Int} (h : OwnU base w v vs) (k : New w w') : OwnU base w' v vs := by
  refine ⟨h.1, ?_⟩
  rcases h.2 with hn | ⟨g, cap, cur, rfl, hb, hg, rest⟩
  · exact .inl hn
  · exact .inr ⟨g, cap, cur, rfl, hb, by rw [k.block (Array.getElem?_eq_some_iff.1 hg).1]; exact hg, rest⟩
theorem OwnU.less {base b2 : Nat} {w : World} {v : Value} {vs : List Int} (h : OwnU base w v vs) (k : b2 ≤ base) : OwnU b2 w v vs := by
  refine ⟨h.1, ?_⟩
  rcases h.2 with hn | ⟨g, cap, cur, rfl, hb, rest⟩
  · exact .inl hn
  · exact .inr ⟨g, cap, cur, rfl, Nat.le_trans k hb, rest⟩
theorem OwnU.push {base : Nat} {w0 wr w1 : World} {v v' : Value} {vs : List Int} {n : Int} {o : Obj} (hnx : New w0 wr) (hb : w0.heap.size ≤ base)
    (hown : OwnU base wr v vs) (hown' : w1.ownsRow base 47 1 v' (vs.length + 1) (vs.map (Value.int .u32) ++ [.int .u32 n])) (hgrow : (wr.alloc o).grownBy w1 v.ownBlock) : OwnU base w1 v' (vs ++ [n]) ∧ New w0 w1 := by
  refine ⟨?_, (hnx.allocO o).grown hgrow fun k hk => Nat.le_trans hb (World.ownsRow.lt hown k hk).1⟩
  unfold OwnU; simpa using hown'
/-- where it lies, and its numbers -/
theorem OwnU.read {base : Nat} {w : World} {v : Value} {vs : List Int} (h : OwnU base w v vs) : ∃ p cap, v = .slice p vs.length cap ∧ ∀ (j : Nat) x, vs[j]? = some x → ∃ g, p = some ⟨g, 0, none⟩ ∧ vs.length ≤ cap ∧ g < w.heap.size ∧ w.cell? ⟨g, j, none⟩ = some (.int .u32 x) := by
  rcases h.2 with ⟨rfl, hn⟩ | ⟨g, cap, cur, rfl, hb, hg, h1, h2, h3, h4⟩
  · have : vs = [] := List.eq_nil_of_length_eq_zero hn
    subst this
    exact ⟨none, 0, rfl, fun j x hx => by simp at hx⟩
  · refine ⟨_, cap, rfl, fun j x hx => ⟨g, rfl, h1, (Array.getElem?_eq_some_iff.1 hg).1, ?_⟩⟩
    have hj := (List.getElem?_eq_some_iff.1 hx).1
    rw [World.ownsRow.cellAt h j (by omega), List.getElem?_map, hx]; rfl
/-- what Program answers -/
def Pgm (r : List Int × Nat × Int) (w : World) (e : Ending) (w' : World) : Prop := ∃ v, e = .returned (.tuple #[v, .int .i64 (r.2.1 : Int), erN r.2.2]) ∧ OwnU w.heap.size w' v r.1 ∧ New w w'
theorem program_long (l : List UInt8) (w : World) (hl : 65536 < l.length) (hm : l.length ≤ maxLen) : Calls Tryz.prog 15 #[.string (ba l)] w (Pgm ([], 0, 90) w) := by
  have sL := ba_size l
  unfold maxLen at hm
  have g : (65536 : Int) < (l.length : Int) := by omega
  go_enter Tryz.func15, Tryz.ntmps15
  go_wp2
  exact bodyPost_ret (v := .tuple #[.slice none 0 0, .int .i64 0, .iface 55 (.int .i64 90)]) (by simp [results, Tryz.results15, go_sem]) rfl ⟨_, by rw [erN_pos (by decide)]; rfl, OwnU.nil _ _, New.refl _⟩
set_option maxHeartbeats 4000000 in
set_option maxRecDepth 100000 in
theorem program_any (l : List UInt8) (w : World) (hl : l.length ≤ 65536) (h : Env w) : Calls Tryz.prog 15 #[.string (ba l)] w (Pgm (prg 1 (lns l) []) w) := by
  obtain ⟨i0, hi, hz0, hz1, hz2⟩ := info_parts u32_info
  have cS := split_any l w (by omega) h
  have hLl := lns_len l
  have sL := ba_size l
  have g : ¬ (65536 : Int) < (l.length : Int) := by omega
  generalize lns l = L at *
  go_enter Tryz.func15, Tryz.ntmps15
  go_wp2_with fail
  refine cS.mono ?_
  rintro e W1 ⟨A, rfl, hA, n1⟩
  clear cS
  go_wp2_with fail
  go_loopg [5, 20] L.length (fun k s5 s20 wr => ∃ (j : Nat) (vs : List Int), j + k = L.length ∧ s20 = .int .i64 (j : Int) ∧ OwnU W1.heap.size wr s5 vs ∧ vs.length ≤ j ∧ prg (j + 1) (L.drop j) vs = prg 1 L [] ∧ New W1 wr)
  case atStart => exact ⟨0, [], by omega, rfl, OwnU.nil _ _, by simp, rfl, New.refl _⟩
  case round =>
    obtain ⟨j, vs, hj, rfl, hown, hvl, hp, hnx⟩ := hrel
    by_cases hlt : j < L.length
    · obtain ⟨x, hx⟩ : ∃ x, L[j]? = some x := ⟨_, List.getElem?_eq_getElem hlt⟩
      have hxl := hLl.1 x (List.mem_of_getElem? hx)
      have hcl := ctl_len x
      have hd : L.drop j = x :: L.drop (j + 1) := by
        rw [List.drop_eq_getElem_cons hlt]; congr 1; exact (List.getElem?_eq_some_iff.1 hx).2
      rw [hd] at hp
      have cx := hnx.cellv (hA j x hx)
      have hE := h.new (n1.trans hnx)
      have cC := cut_any x wr (by omega) hE
      have hlt' : (j : Int) < (L.length : Int) := by omega
      have hj2 : (j : Int) ≤ 65536 := by omega
      have hj3 : j ≤ 65536 := by omega
      have hszA := lt_cell (hA j x hx)
      by_cases hb : wrds (ctl x) = []
      · have cT := fun W (k : Env W) => trim_all (ctl x) W (by omega) k hb
        rw [prg_skip hb] at hp
        clear hA hd hx hxl hcl hLl hszA
        go_wp2_with fail
        refine cC.mono ?_
        rintro e W2 ⟨p, q, rfl, n2⟩
        go_wp2_with fail
        refine (cT _ (hE.new n2)).mono ?_
        rintro e W3 ⟨rfl, n3⟩
        have n4 := hnx.trans (n2.trans n3)
        have o4 := hown.new (n2.trans n3)
        clear cC cT hE n2 n3 hnx hown cx
        go_wp2
        go_roundg (L.length - (j + 1))
        case measure => omega
        case rel => exact ⟨j + 1, vs, by omega, rfl, o4, by omega, hp, n4⟩
      · have cT := fun W (k : Env W) => trim_not (ctl x) W (by omega) k hb
        have cE := fun W (k : Env W) => encode_any (ctl x) W (by omega) k
        cases hq : prs (ctl x) with
        | none =>
          rw [prg_bad hb hq] at hp
          rw [hq] at cE
          unfold ev at cE
          clear hA hd hx hxl hcl hLl hszA
          go_wp2_with fail
          refine cC.mono ?_
          rintro e W2 ⟨p, q, rfl, n2⟩
          go_wp2_with fail
          refine (cT _ (hE.new n2)).mono ?_
          rintro e W3 ⟨b, t, rfl, n3⟩
          have hne : ((ba (b :: t)).toList == []) = false := by rw [ba_list]; rfl
          have hne2 : (ba (b :: t)).toList.isEmpty = false := by rw [ba_list]; rfl
          go_wp2_with fail
          refine (cE _ (hE.new (n2.trans n3))).mono ?_
          rintro e W4 ⟨rfl, n4⟩
          have n5 := n1.trans (hnx.trans ((n2.trans n3).trans n4))
          clear cC cT cE hE n2 n3 n4 hnx hown cx n1
          go_wp2
          refine bodyPost_ret (v := .tuple #[.slice none 0 0, .int .i64 ((j : Int) + 1), .iface 55 (.int .i64 22)]) (by simp [results, Tryz.results15, go_sem]) rfl ?_
          rw [← hp]
          exact ⟨_, by rw [← er22]; rfl, OwnU.nil _ _, n5⟩
        | some y =>
          rw [prg_some hq] at hp
          rw [hq] at cE
          dsimp only [ev] at cE
          generalize innum (y.1 : Int) y.2.1 y.2.2.1 y.2.2.2 = V at *
          clear hA hd hx hxl hcl hLl hszA hq
          go_wp2_with fail
          refine cC.mono ?_
          rintro e W2 ⟨p, q, rfl, n2⟩
          go_wp2_with fail
          refine (cT _ (hE.new n2)).mono ?_
          rintro e W3 ⟨b, t, rfl, n3⟩
          have hne : ((ba (b :: t)).toList == []) = false := by rw [ba_list]; rfl
          have hne2 : (ba (b :: t)).toList.isEmpty = false := by rw [ba_list]; rfl
          go_wp2_with fail
          refine (cE _ (hE.new (n2.trans n3))).mono ?_
          rintro e W4 ⟨rfl, n4⟩
          have n5 := hnx.trans ((n2.trans n3).trans n4)
          have o5 := hown.new ((n2.trans n3).trans n4)
          clear cC cT cE hE n2 n3 n4 hnx hown cx
          go_wp2_with (at_builtin; refine wpList_append_own _ rfl _ _ 42 rfl W1.heap.size 47 i0 (.int .u32 0) 1 4 Tryz.underlying42 hi hz0 hz1 hz2 rfl (by decide) _ _ _ rfl (World.ownsRow.alloc o5 _) ⟨W4.heap.size, 0, none⟩ 1 1 [.int .u32 V] rfl rfl ?c1 ?c2 ?c3 ?c4 ?c5 ?_)
          case c1 => intro i u hu; rcases i with _ | i <;> simp at hu; subst hu; exact (World.cell?_alloc_at _ _ _ _ rfl).trans rfl
          case c2 => intro u hu; simp at hu; subst hu; rfl
          case c3 => unfold maxLen; omega
          case c4 => omega
          case c5 => have := n5.size; simp; omega
          intro v' w1 hown' hgrow _
          obtain ⟨o6, n6⟩ := OwnU.push n5 (Nat.le_refl _) o5 hown' hgrow
          clear hown' hgrow o5 n5
          go_wp2
          go_roundg (L.length - (j + 1))
          case measure => omega
          case rel => exact ⟨j + 1, _, by omega, rfl, o6, by simp; omega, hp, n6⟩
    · obtain rfl : j = L.length := by omega
      rw [List.drop_length] at hp
      have hge : ¬ (L.length : Int) < (L.length : Int) := by omega
      have n5 := n1.trans hnx
      have o5 := hown.less n1.size
      clear hA hLl hown hnx n1 h
      obtain ⟨p, q, c, rfl⟩ : ∃ p q c, u5 = .slice p q c := by
        rcases o5.2 with ⟨e, _⟩ | ⟨g, cap, cur, e, _⟩
        · exact ⟨_, _, _, e⟩
        · exact ⟨_, _, _, e⟩
      go_wp2
      refine bodyPost_ret (v := .tuple #[.slice p q c, .int .i64 0, .nilIface]) (by simp [results, Tryz.results15, go_sem]) rfl ?_
      rw [← hp]
      exact ⟨_, rfl, o5, n5⟩
end Go.Proofs.YtlpjegclpilaaaaGreatDoor
