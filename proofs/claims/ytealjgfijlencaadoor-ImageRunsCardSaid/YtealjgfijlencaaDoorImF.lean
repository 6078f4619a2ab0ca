/- Programs as bytes: the law's giveImage. -/
import Derived.Test.YtealjgfijlencaaDoorImE
namespace Go.Proofs.YtealjgfijlencaaDoor
open Go.RowKit Go.Joins
set_option linter.unusedVariables false
set_option maxRecDepth 100000
/-- the package's pages as rows -/
def RSp : RTy := ⟨50, 34, 4, 48, .agg #[.int .i64 0, .int .i64 0, .int .u8 0, .slice none 0 0], Tryd.underlying34, by kernel_rfl, by kernel_rfl, by decide, by decide⟩
set_option maxHeartbeats 8000000 in
theorem rgive_any {w : World} {v : Value} {L : List Sg} (h : Sgs RSd w v L) (hL : L.length ≤ 10000) (e : Int) : Calls Tryd.prog 8 #[.agg #[.int .u32 e, v]] w fun en w' => ∃ v', en = .returned (.agg #[.int .u32 e, v']) ∧ OwSg RSp w w.heap.size w' v' L ∧ New w w' := by
  obtain ⟨p, cap, rfl, hcap, hm⟩ := h.shape
  obtain ⟨D, hD⟩ : ∃ D, D = ((w.alloc (.cells #[.int .u32 e, .slice p L.length cap] 25)).alloc (.cells #[.int .u32 0, .slice none 0 0] 36)).alloc (.cells #[.int .u32 e, .slice none 0 0] 36) := ⟨_, rfl⟩
  have nD : New w D := by rw [hD]; exact (((New.refl w).alloc _ _).alloc _ _).alloc _ _
  have szD : D.heap.size = w.heap.size + 3 := by rw [hD, World.size_alloc, World.size_alloc, World.size_alloc]
  have bI : Box D w.heap.size #[.int .u32 e, .slice p L.length cap] 25 := by rw [hD]; exact ((Box.here w _ _ _ rfl).alloc _).alloc _
  have bZ : Box D (w.heap.size + 1) #[.int .u32 0, .slice none 0 0] 36 := by rw [hD]; exact (Box.here _ _ _ _ (by rw [World.size_alloc])).alloc _
  have bO : Box D (w.heap.size + 2) #[.int .u32 e, .slice none 0 0] 36 := by rw [hD]; exact Box.here _ _ _ _ (by rw [World.size_alloc, World.size_alloc])
  have HS := Lib.hid h
  have ND := Lib.hid nD
  have BI := Lib.hid bI
  have BZ := Lib.hid bZ
  have BO := Lib.hid bO
  have SZD := Lib.hid szD
  have RBH := Lib.hid (fun (W : World) (x : Int) (y : Value) (k : Box W (w.heap.size + 1) #[.int .u32 x, y] 36) => (show (loadVar 36 ⟨w.heap.size + 1, 0, none⟩).run Tryd.prog W = .ok (.agg #[.int .u32 x, y]) W from
    run_loadVar_mid W _ 0 _ [.int .u32 x, y] _ k.range Tryd.underlying36 rfl (by kernel_rfl)))
  generalize hln : L.length = ln at *
  have HLN := Lib.hid hln
  clear h nD szD bI bZ bO hln hcap hm
  go_enter Tryd.func8, Tryd.ntmps8
  go_upto_region 2 with fail
  rw [← hD]
  clear hD
  go_wp2_with fail
  go_loopg [4] ln (fun q kv wr => ∃ (j : Nat) (ov : Value), j + q = ln ∧ kv = .int .i64 (j : Int) ∧ Box wr (w.heap.size + 2) #[.int .u32 e, ov] 36 ∧ Box wr (w.heap.size + 1) #[.int .u32 0, .slice none 0 0] 36 ∧ Box wr w.heap.size #[.int .u32 e, .slice p ln cap] 25 ∧ OwSg RSp w (w.heap.size + 3) wr ov (L.take j) ∧ New w wr ∧ w.heap.size + 3 ≤ wr.heap.size)
  case atStart => exact ⟨0, _, by omega, rfl, BO.out, BZ.out, BI.out, OwSg.nil, ND.out, Nat.le_of_eq SZD.out.symm⟩
  case round =>
    obtain ⟨j, ov, hj, rfl, hbo, hbz, hbi, how, hn, hsz⟩ := hrel
    have HBO := Lib.hid hbo
    have HBZ := Lib.hid hbz
    have HBI := Lib.hid hbi
    have HOW := Lib.hid how
    have HN := Lib.hid hn
    have HSZ := Lib.hid hsz
    obtain ⟨op, ol, oc, rfl⟩ := how.shape
    by_cases c : j < ln
    · have hjL : j < L.length := by rw [HLN.out]; exact c
      obtain ⟨a, dp, dc, rfl, e0, e1, e2, e3, db⟩ := HS.out.cells rfl j hjL
      have TK := Lib.hid (take_push L j hjL)
      have J := Lib.hid (show j + gk = ln ∧ j < ln ∧ ln ≤ 10000 ∧ (L.take j).length = j from ⟨hj, c, hL, by rw [List.length_take]; omega⟩)
      rw [fad a (j * 4) 1 (by omega)] at e1
      rw [fad a (j * 4) 2 (by omega)] at e2
      rw [fad a (j * 4) 3 (by omega)] at e3
      have DBW := Lib.hid db
      obtain ⟨sg, hsg⟩ : ∃ sg, sg = L[j] := ⟨_, rfl⟩
      rw [← hsg] at e0 e1 e2 e3 DBW TK
      obtain ⟨F0, T0, P0, dd⟩ := sg
      dsimp only at e0 e1 e2 e3 DBW
      obtain ⟨dn, hdn⟩ : ∃ dn, dn = dd.length := ⟨_, rfl⟩
      rw [← hdn] at e3 DBW
      have D0 := Lib.hid e0
      have D1 := Lib.hid e1
      have D2 := Lib.hid e2
      have D3 := Lib.hid e3
      have d0 := hn.keeps e0
      have d1 := hn.keeps e1
      have d2 := hn.keeps e2
      have d3 := hn.keeps e3
      have o1 := hbo.two.2
      have i1 := hbi.two.2
      clear hj hbo hbz hbi how hn hsz e0 e1 e2 e3 db hsg hdn hjL
      go_upto_region 5 with fail
      have nd : New wr wr.drew := (New.refl wr).drew
      have KEEP : ∀ W', New wr W' → (fun w' : World => w'.cell? ⟨w.heap.size + 2, 1, none⟩ = some (.slice op ol oc) ∧ w'.cell? ⟨w.heap.size, 1, none⟩ = some (.slice (some a) ln cap) ∧ w'.cell? (a.add (j * 4)) = some (.int .i64 F0) ∧ w'.cell? ⟨(a.add (j * 4)).block, (a.add (j * 4)).off + 1, none⟩ = some (.int .i64 T0) ∧ w'.cell? ⟨(a.add (j * 4)).block, (a.add (j * 4)).off + 2, none⟩ = some (.int .u8 P0) ∧ w'.cell? ⟨(a.add (j * 4)).block, (a.add (j * 4)).off + 3, none⟩ = some (.slice dp dn dc)) W' := fun W' k => ⟨k.keeps o1, k.keeps i1, k.keeps d0, k.keeps d1, k.keeps d2, k.keeps d3⟩
      have hS := KEEP _ nd
      refine wp_region_L (st := 10) (S := fun w' : World => w'.cell? ⟨w.heap.size + 2, 1, none⟩ = some (.slice op ol oc) ∧ w'.cell? ⟨w.heap.size, 1, none⟩ = some (.slice (some a) ln cap) ∧ w'.cell? (a.add (j * 4)) = some (.int .i64 F0) ∧ w'.cell? ⟨(a.add (j * 4)).block, (a.add (j * 4)).off + 1, none⟩ = some (.int .i64 T0) ∧ w'.cell? ⟨(a.add (j * 4)).block, (a.add (j * 4)).off + 2, none⟩ = some (.int .u8 P0) ∧ w'.cell? ⟨(a.add (j * 4)).block, (a.add (j * 4)).off + 3, none⟩ = some (.slice dp dn dc)) (by kernel_rfl) ?_
      refine wpAnyL_takeY (i := 0) (v := ?_) (by rfl) rfl (by kernel_rfl) (by kernel_rfl) (by kernel_rfl) (fun _ _ _ h => h) (Or.inl ⟨by rfl, ?_⟩) hS ?_
      rotate_left
      · intro w hSw
        go_simp
        with_reducible rfl
      try simp only [Act.put, List.setIfInBounds_toArray, List.set_cons_zero, List.set_cons_succ, List.getElem_toArray, List.getElem_cons_zero]
      refine wpAnyL_take (i := 1) (v := ?_) rfl (by kernel_rfl) (by kernel_rfl) (by kernel_rfl) (by kernel_rfl) (by kernel_rfl) (fun _ _ _ h => h) (Or.inl ⟨by rfl, ?_⟩) hS ?_
      rotate_left
      · intro w hSw
        obtain ⟨s0, s1, s2, s3, s4, s5⟩ := hSw
        go_simp
        with_reducible rfl
      try simp only [Act.put, List.setIfInBounds_toArray, List.set_cons_zero, List.set_cons_succ, List.getElem_toArray, List.getElem_cons_zero, List.getElem_cons_succ]
      refine wpAnyL_takeY (i := 2) (v := ?_) (by rfl) rfl (by kernel_rfl) (by kernel_rfl) (by kernel_rfl) (fun _ _ _ h => h) (Or.inl ⟨by rfl, ?_⟩) hS ?_
      rotate_left
      · intro w hSw
        go_simp
        with_reducible rfl
      try simp only [Act.put, List.setIfInBounds_toArray, List.set_cons_zero, List.set_cons_succ, List.getElem_toArray, List.getElem_cons_zero, List.getElem_cons_succ]
      refine wpAnyL_take (i := 3) (v := ?_) rfl (by kernel_rfl) (by kernel_rfl) (by kernel_rfl) (by kernel_rfl) (by kernel_rfl) (fun _ _ _ h => h) (Or.inl ⟨by rfl, ?_⟩) hS ?_
      rotate_left
      · intro w hSw
        obtain ⟨s0, s1, s2, s3, s4, s5⟩ := hSw
        go_simp
        with_reducible rfl
      try simp only [Act.put, List.setIfInBounds_toArray, List.set_cons_zero, List.set_cons_succ, List.getElem_toArray, List.getElem_cons_zero, List.getElem_cons_succ]
      refine wpAnyL_takeY (i := 4) (v := ?_) (by rfl) rfl (by kernel_rfl) (by kernel_rfl) (by kernel_rfl) (fun _ _ _ h => h) (Or.inl ⟨by rfl, ?_⟩) hS ?_
      rotate_left
      · intro w hSw
        go_simp
        with_reducible rfl
      try simp only [Act.put, List.setIfInBounds_toArray, List.set_cons_zero, List.set_cons_succ, List.getElem_toArray, List.getElem_cons_zero, List.getElem_cons_succ]
      refine wpAnyL_takeY (i := 5) (v := ?_) (by rfl) rfl (by kernel_rfl) (by kernel_rfl) (by kernel_rfl) (fun _ _ _ h => h) (Or.inl ⟨by rfl, ?_⟩) hS ?_
      rotate_left
      · intro w hSw
        go_simp
        with_reducible rfl
      try simp only [Act.put, List.setIfInBounds_toArray, List.set_cons_zero, List.set_cons_succ, List.getElem_toArray, List.getElem_cons_zero, List.getElem_cons_succ]
      refine wpAnyL_take (i := 6) (v := ?_) rfl (by kernel_rfl) (by kernel_rfl) (by kernel_rfl) (by kernel_rfl) (by kernel_rfl) (fun _ _ _ h => h) (Or.inl ⟨by rfl, ?_⟩) hS ?_
      rotate_left
      · intro w hSw
        obtain ⟨s0, s1, s2, s3, s4, s5⟩ := hSw
        go_simp
        with_reducible rfl
      try simp only [Act.put, List.setIfInBounds_toArray, List.set_cons_zero, List.set_cons_succ, List.getElem_toArray, List.getElem_cons_zero, List.getElem_cons_succ]
      refine wpAnyL_one (i := 7) (by kernel_rfl) rfl (fun K' hK => ?_)
      go_simp
      obtain ⟨W6, hW6⟩ : ∃ W6, W6 = (wr.alloc (.cells #[.int .i64 F0, .int .i64 T0, .int .u8 P0, .slice dp dn dc] 50)).drew := ⟨_, rfl⟩
      have n6 : New wr W6 := by rw [hW6]; exact ((New.refl wr).alloc _ _).drew
      have hs1 : Rws RSp W6 (.slice (some ⟨wr.heap.size, 0, none⟩) 1 1) [[.int .i64 F0, .int .i64 T0, .int .u8 P0, .slice dp dn dc]] := by
        rw [hW6]
        exact (Rws.single (R := RSp) (r := [.int .i64 F0, .int .i64 T0, .int .u8 P0, .slice dp dn dc]) rfl (fun x hx => by
          simp only [List.mem_cons, List.not_mem_nil, or_false] at hx
          rcases hx with rfl | rfl | rfl | rfl <;> rfl) (heap_alloc_new wr _)).new (New.refl _).drew
      rw [← hW6]
      clear hW6
      refine hK.out _ _ (fun _ => KEEP _ n6) ?_
      clear hK K'
      try simp only [Act.put, List.setIfInBounds_toArray, List.set_cons_zero, List.set_cons_succ, List.getElem_toArray, List.getElem_cons_zero, List.getElem_cons_succ]
      refine wpAnyL_one (i := 8) (by kernel_rfl) rfl (fun K' hK => ?_)
      rw [if_pos (by rfl)]
      obtain ⟨rows, h1, h2, h3⟩ := HOW.out
      have hge := fun g hg => h1.ge (g := g) hg
      have hjm : rows.length ≤ 100000 := by have := J.out; omega
      have hbs : w.heap.size + 3 ≤ W6.heap.size := Nat.le_trans HSZ.out n6.size
      refine opwp_app_w (R := RSp) (.tmp 16) (.tmp 22) rfl rfl (w.heap.size + 3) _ rows rfl (h1.new n6) _ _ rfl hs1 (by rw [List.length_singleton]; omega) hbs ?_
      intro v9 w9 o9 k9 x9 n9
      obtain ⟨p9, c9, rfl, -, -⟩ := o9.shape
      generalize hln9 : (rows ++ [([.int .i64 F0, .int .i64 T0, .int .u8 P0, .slice dp dn dc] : List Value)]).length = ln9 at *
      have bo9 : Box w9 (w.heap.size + 2) #[.int .u32 e, .slice op ol oc] 36 := (HBO.out.new n6).but k9 (fun c => by have := hge _ c; omega)
      have bz9 : Box w9 (w.heap.size + 1) #[.int .u32 0, .slice none 0 0] 36 := (HBZ.out.new n6).but k9 (fun c => by have := hge _ c; omega)
      have bi9 : Box w9 w.heap.size #[.int .u32 e, .slice (some a) ln cap] 25 := (HBI.out.new n6).but k9 (fun c => by have := hge _ c; omega)
      have nw9 : New w w9 := n9 w (by omega) (HN.out.trans n6)
      have hS9 : (fun w' : World => w'.cell? ⟨w.heap.size + 2, 1, none⟩ = some (.slice op ol oc) ∧ w'.cell? ⟨w.heap.size, 1, none⟩ = some (.slice (some a) ln cap) ∧ w'.cell? (a.add (j * 4)) = some (.int .i64 F0) ∧ w'.cell? ⟨(a.add (j * 4)).block, (a.add (j * 4)).off + 1, none⟩ = some (.int .i64 T0) ∧ w'.cell? ⟨(a.add (j * 4)).block, (a.add (j * 4)).off + 2, none⟩ = some (.int .u8 P0) ∧ w'.cell? ⟨(a.add (j * 4)).block, (a.add (j * 4)).off + 3, none⟩ = some (.slice dp dn dc)) w9 := ⟨bo9.two.2, bi9.two.2, nw9.keeps D0.out, nw9.keeps D1.out, nw9.keeps D2.out, nw9.keeps D3.out⟩
      refine hK.out _ _ (fun _ => hS9) ?_
      clear hK K'
      try simp only [Act.put, List.setIfInBounds_toArray, List.set_cons_zero, List.set_cons_succ, List.getElem_toArray, List.getElem_cons_zero, List.getElem_cons_succ]
      refine wpAnyL_takeY (i := 9) (v := ?_) (by rfl) rfl (by kernel_rfl) (by kernel_rfl) (by kernel_rfl) (fun _ _ _ h => h) (Or.inl ⟨by rfl, ?_⟩) hS9 ?_
      rotate_left
      · intro w hSw
        go_simp
        with_reducible rfl
      try simp only [Act.put, List.setIfInBounds_toArray, List.set_cons_zero, List.set_cons_succ, List.getElem_toArray, List.getElem_cons_zero, List.getElem_cons_succ]
      refine wpAnyL_one (i := 10) (by kernel_rfl) rfl (fun K' hK => ?_)
      have q1 : w9.frozen? ⟨w.heap.size + 2, 1, none⟩ = false := bo9.unfrozen 1
      have q2 : w9.cell? ⟨w.heap.size + 2, 1, none⟩ = some (.slice op ol oc) := bo9.two.2
      go_simp
      refine hK.out _ _ (fun h => by simp at h) ?_
      refine wpAnyL_done (by kernel_rfl) ?_ _
      have END : ∃ Wn : World, Wn = w9.setCell ⟨w.heap.size + 2, 1, none⟩ (.slice p9 ln9 c9) ∧ Box Wn (w.heap.size + 2) #[.int .u32 e, .slice p9 ln9 c9] 36 ∧ Box Wn (w.heap.size + 1) #[.int .u32 0, .slice none 0 0] 36 ∧ Box Wn w.heap.size #[.int .u32 e, .slice (some a) ln cap] 25 ∧ OwSg RSp w (w.heap.size + 3) Wn (.slice p9 ln9 c9) (L.take (j + 1)) ∧ New w Wn ∧ w.heap.size + 3 ≤ Wn.heap.size := by
        refine ⟨_, rfl, by simpa using bo9.set 1 (.slice p9 ln9 c9), bz9.other (by show w.heap.size + 2 ≠ _; omega) _, bi9.other (by show w.heap.size + 2 ≠ _; omega) _, ⟨_, o9.but (But.set (S := fun g => g = w.heap.size + 2) w9 (p := ⟨w.heap.size + 2, 1, none⟩) rfl _) (fun g hg c => by have := o9.ge hg; omega), by rw [TK.out]; simp [h2], fun i hi hi' => ?_⟩, nw9.setCell (p := ⟨w.heap.size + 2, 1, none⟩) (by show _ ≤ w.heap.size + 2; omega) _, by have := k9.size; simp only [World.setCell, Array.size_modify]; omega⟩
        by_cases ci : i < rows.length
        · have := h3 i ci (by omega)
          rw [List.getElem_append_left ci]
          simp only [TK.out]
          rw [List.getElem_append_left (by omega)]
          exact this
        · have ei : i = rows.length := by simp at hi; omega
          subst ei
          rw [List.getElem_append_right (Nat.le_refl _)]
          simp only [TK.out]
          rw [List.getElem_append_right (by omega)]
          simp only [Nat.sub_self, h2, List.getElem_cons_zero]
          exact ⟨_, rfl, DBW.out⟩
      obtain ⟨Wn, hWn, eo, ez, ei, ew, en, es⟩ := END
      rw [← hWn]
      have EO := Lib.hid eo
      have EZ := Lib.hid ez
      have EI := Lib.hid ei
      have EW := Lib.hid ew
      have EN := Lib.hid en
      have ES := Lib.hid es
      clear hWn eo ez ei ew en es q1 q2 hS9 nw9 bz9 bo9 bi9 n9 x9 k9 o9 hbs hjm hge h3 h2 h1 hs1 n6 hS KEEP nd o1 i1 d0 d1 d2 d3
      go_wp2
      go_roundg (ln - (j + 1))
      case measure => have := J.out; omega
      case rel => exact ⟨j + 1, _, by have := J.out; omega, by go_num, EO.out, EZ.out, EI.out, EW.out, EN.out, ES.out⟩
    · obtain rfl : j = ln := by omega
      have ht : L.take j = L := List.take_of_length_le (by have := HLN.out; omega)
      rw [ht] at how
      obtain ⟨i0, i1⟩ := hbi.two
      obtain ⟨o0, o1⟩ := hbo.two
      obtain ⟨z0, z1⟩ := hbz.two
      have zl := hbz.lt
      have zf0 := hbz.unfrozen 0
      have zf1 := hbz.unfrozen 1
      have BX := show Box ((wr.setCell ⟨w.heap.size + 1, 0, none⟩ (.int .u32 e)).setCell ⟨w.heap.size + 1, 1, none⟩ (.slice op ol oc)) (w.heap.size + 1) #[.int .u32 e, .slice op ol oc] 36 by simpa using (hbz.set 0 (.int .u32 e)).set 1 (.slice op ol oc)
      have KX := (But.set (S := fun g => g = w.heap.size + 1) wr (p := ⟨w.heap.size + 1, 0, none⟩) rfl (.int .u32 e)).trans (But.set (S := fun g => g = w.heap.size + 1) _ (p := ⟨w.heap.size + 1, 1, none⟩) rfl (.slice op ol oc))
      have NX := (hn.setCell (p := ⟨w.heap.size + 1, 0, none⟩) (by show _ ≤ w.heap.size + 1; omega) (.int .u32 e)).setCell (p := ⟨w.heap.size + 1, 1, none⟩) (by show _ ≤ w.heap.size + 1; omega) (.slice op ol oc)
      have SX : OwSg RSp w w.heap.size ((wr.setCell ⟨w.heap.size + 1, 0, none⟩ (.int .u32 e)).setCell ⟨w.heap.size + 1, 1, none⟩ (.slice op ol oc)) (.slice op ol oc) L := by
        obtain ⟨rows, h1, h2, h3⟩ := how
        exact ⟨rows, (h1.but KX (fun g hg c => by have := h1.ge hg; omega)).more (by omega), h2, h3⟩
      have ENDX := Lib.hid (And.intro BX (And.intro SX NX))
      clear hj hbo hbz hbi how hn hsz BX KX NX SX ht
      go_wp2
      refine bodyPost_ret (v := .agg #[.int .u32 e, .slice op ol oc]) (by simp [results, Tryd.results8, asAddr, RBH.out _ _ _ ENDX.out.1]) rfl ⟨_, rfl, ENDX.out.2.1, ENDX.out.2.2⟩
end Go.Proofs.YtealjgfijlencaaDoor
