/- Programs as bytes, the document's: Encode. -/
import Derived.Test.YtealjgfijlencaaDoorImC
import Derived.Deep.CutRange
namespace Go.Proofs.YtealjgfijlencaaDoor
open Go.RowKit Go.Joins
set_option linter.unusedVariables false
set_option linter.unusedSimpArgs false
set_option maxRecDepth 100000
theorem sgsB_app : ∀ (A B : List Sg), sgsB (A ++ B) = sgsB A ++ sgsB B
  | [], B => rfl
  | s :: r, B => by show sgB s ++ sgsB (r ++ B) = (sgB s ++ sgsB r) ++ sgsB B; rw [sgsB_app r B, List.append_assoc]
theorem sgB_len (s : Sg) : (sgB s).length = 7 + s.d.length := by unfold sgB nb2; simp; omega
theorem sgsB_len : ∀ (A : List Sg), (∀ s ∈ A, (s.d.length : Int) ≤ 65535) → (sgsB A).length ≤ A.length * 65542
  | [], _ => Nat.le_refl _
  | s :: r, h => by
    have h1 := h s List.mem_cons_self
    have h2 := sgsB_len r (fun x hx => h x (List.mem_cons_of_mem _ hx))
    show (sgB s ++ sgsB r).length ≤ _
    rw [List.length_append, sgB_len, List.length_cons]
    omega
set_option maxHeartbeats 8000000 in
theorem renc_ok {w : World} {v : Value} {L : List Sg} (h : Sgs RSd w v L) (hb : SgsB L) (e : Int) (he : 0 ≤ e ∧ e ≤ 4294967295) (hok : imOk e L = true) : Calls Tryd.prog 9 #[.agg #[.int .u32 e, v]] w fun en w' => ∃ u, en = .returned (.tuple #[u, .int .i64 0]) ∧ OwnB w.heap.size w' u (imB e L) ∧ New w w' := by
  obtain ⟨p, cap, rfl, hcap, hm⟩ := h.shape
  unfold maxLen at hm
  have HP := Lib.hid (imOk_parts hok)
  have hL8 : L.length ≤ 8 := HP.out.2.1
  obtain ⟨W, hW⟩ : ∃ W, W = w.alloc (.cells #[.int .u32 e, .slice p L.length cap] 25) := ⟨_, rfl⟩
  have nW : New w W := by rw [hW]; exact (New.refl w).alloc _ _
  have bI : Box W w.heap.size #[.int .u32 e, .slice p L.length cap] 25 := by rw [hW]; exact Box.here _ _ _ _ rfl
  have X := fun W' (k : New W W') => rmay21 ((h.new nW).new k) hb e he
  rw [hok] at X
  have HS := Lib.hid (h.new nW)
  have HB := Lib.hid hb
  have NW := Lib.hid nW
  have BI := Lib.hid bI
  obtain ⟨i0, i1⟩ := bI.two
  clear h hb nW bI hok
  generalize hln : L.length = ln at *
  have HLN := Lib.hid hln
  clear hln
  go_enter Tryd.func9, Tryd.ntmps9
  go_upto_region 1 with fail
  rw [← hW]
  clear hW
  go_wp2_with fail
  refine (X _ (New.refl W)).mono ?_
  rintro en w1 ⟨rfl, n1⟩
  have BI1 := Lib.hid (BI.out.new n1)
  have N1 := Lib.hid (NW.out.trans n1)
  have n1h := Lib.hid n1
  clear i0 i1 X n1
  go_upto_region 4 with fail
  obtain ⟨W3, hW3⟩ : ∃ W3, W3 = w1.alloc (.cells #[.int .u8 104, .int .u8 120, .int .u8 48, .int .u8 49] 5) := ⟨_, rfl⟩
  have o : OwnB w1.heap.size W3 (.slice (some ⟨w1.heap.size, 0, none⟩) 4 4) [104, 120, 48, 49] := by rw [hW3]; exact own_lit w1 [104, 120, 48, 49] (by unfold maxLen; decide)
  have n : New w1 W3 := by rw [hW3]; exact (New.refl w1).alloc _ _
  rw [← hW3]
  clear hW3
  have KEEP := Lib.hid (fun W' (q : New w1 W') => And.intro q (BI1.out.new q).two)
  have hnb : ∀ W' : World, Calls Tryd.prog 17 #[.int .i64 e, .int .i64 4] W' fun en w' => ∃ u, en = .returned u ∧ Byts w' u (nbL e 4) ∧ New W' w' := fun W' => rnumber_any e (by omega) 4 (by omega) W'
  have he64 : IntKind.i64.wrap e = e := by rw [IntKind.wrap_i64]; omega
  have hlb : IntKind.u8.wrap (ln : Int) = (ln : Int) := by rw [IntKind.wrap_u8]; omega
  have o0 := o
  have n0 := n
  go_cut [4] from 11 to 23 (fun v wx => ∃ u, v = u ∧ OwnB w1.heap.size wx u ([104, 120, 48, 49] ++ nbL e 4 ++ [(ln : Int)]) ∧ New w1 wx)
  case first =>
    have hS : (fun w' : World => New w1 w' ∧ w'.cell? ⟨w.heap.size, 0, none⟩ = some (.int .u32 e) ∧ w'.cell? ⟨w.heap.size, 1, none⟩ = some (.slice p ln cap)) W3.drew := KEEP.out _ (n.trans (New.refl _).drew)
    have o := o.new (New.refl W3).drew
    have n := n.trans (New.refl W3).drew
    refine wp_region_held_drew (S := (fun w' : World => New w1 w' ∧ w'.cell? ⟨w.heap.size, 0, none⟩ = some (.int .u32 e) ∧ w'.cell? ⟨w.heap.size, 1, none⟩ = some (.slice p ln cap))) (by kernel_rfl) hS (fun _ => ?_)
    refine wpAnyH_take (i := 0) (v := ?_) rfl (by kernel_rfl) (by kernel_rfl) (by kernel_rfl) (fun _ _ _ h => h) (Or.inl ⟨by rfl, ?_⟩) hS ?_
    rotate_left
    · intro w hSw
      try dsimp only at hSw
      go_simp
      try with_reducible rfl
    try simp only [Act.put, List.setIfInBounds_toArray, List.set_cons_zero, List.set_cons_succ, List.getElem_toArray, List.getElem_cons_zero, List.getElem_cons_succ]
    refine wpAnyH_take (i := 1) (v := ?_) rfl (by kernel_rfl) (by kernel_rfl) (by kernel_rfl) (fun _ _ _ h => h) (Or.inl ⟨by rfl, ?_⟩) hS ?_
    rotate_left
    · intro w hSw
      try dsimp only at hSw
      go_simp
      try with_reducible rfl
    try simp only [Act.put, List.setIfInBounds_toArray, List.set_cons_zero, List.set_cons_succ, List.getElem_toArray, List.getElem_cons_zero, List.getElem_cons_succ]
    refine wpAnyH_take (i := 2) (v := ?_) rfl (by kernel_rfl) (by kernel_rfl) (by kernel_rfl) (fun _ _ _ h => h) (Or.inl ⟨by rfl, ?_⟩) hS ?_
    rotate_left
    · intro w hSw
      try dsimp only at hSw
      go_simp
      try with_reducible rfl
    try simp only [Act.put, List.setIfInBounds_toArray, List.set_cons_zero, List.set_cons_succ, List.getElem_toArray, List.getElem_cons_zero, List.getElem_cons_succ]
    refine wpAnyH_take (i := 3) (v := ?_) rfl (by kernel_rfl) (by kernel_rfl) (by kernel_rfl) (fun _ _ _ h => h) (Or.inl ⟨by rfl, ?_⟩) hS ?_
    rotate_left
    · intro w hSw
      try dsimp only at hSw
      go_simp
      try with_reducible rfl
    try simp only [Act.put, List.setIfInBounds_toArray, List.set_cons_zero, List.set_cons_succ, List.getElem_toArray, List.getElem_cons_zero, List.getElem_cons_succ]
    refine wpAnyH_take (i := 6) (v := ?_) rfl (by kernel_rfl) (by kernel_rfl) (by kernel_rfl) (fun _ _ _ h => h) (Or.inl ⟨by rfl, ?_⟩) hS ?_
    rotate_left
    · intro w hSw
      try dsimp only at hSw
      go_simp
      try with_reducible rfl
    try simp only [Act.put, List.setIfInBounds_toArray, List.set_cons_zero, List.set_cons_succ, List.getElem_toArray, List.getElem_cons_zero, List.getElem_cons_succ]
    refine wpAnyH_take (i := 7) (v := ?_) rfl (by kernel_rfl) (by kernel_rfl) (by kernel_rfl) (fun _ _ _ h => h) (Or.inl ⟨by rfl, ?_⟩) hS ?_
    rotate_left
    · intro w hSw
      try dsimp only at hSw
      go_simp
      try with_reducible rfl
    try simp only [Act.put, List.setIfInBounds_toArray, List.set_cons_zero, List.set_cons_succ, List.getElem_toArray, List.getElem_cons_zero, List.getElem_cons_succ]
    refine wpAnyH_take (i := 8) (v := ?_) rfl (by kernel_rfl) (by kernel_rfl) (by kernel_rfl) (fun _ _ _ h => h) (Or.inl ⟨by rfl, ?_⟩) hS ?_
    rotate_left
    · intro w hSw
      try dsimp only at hSw
      go_simp
      try with_reducible rfl
    try simp only [Act.put, List.setIfInBounds_toArray, List.set_cons_zero, List.set_cons_succ, List.getElem_toArray, List.getElem_cons_zero, List.getElem_cons_succ]
    refine wpAnyH_take (i := 9) (v := ?_) rfl (by kernel_rfl) (by kernel_rfl) (by kernel_rfl) (fun _ _ _ h => h) (Or.inl ⟨by rfl, ?_⟩) hS ?_
    rotate_left
    · intro w hSw
      try dsimp only at hSw
      go_simp
      try with_reducible rfl
    try simp only [Act.put, List.setIfInBounds_toArray, List.set_cons_zero, List.set_cons_succ, List.getElem_toArray, List.getElem_cons_zero, List.getElem_cons_succ]
    refine wpAnyH_ready (rs := [4, 10]) (by kernel_rfl) (by simp) (AllReadyH.cons rfl (fun K hK => ?_) (AllReadyH.cons rfl (fun K hK => ?_) AllReadyH.nil))
    · go_simp
      refine (hnb _).mono ?_
      rintro en w1x ⟨v1x, rfl, b1x, n1x⟩
      have o := o.new n1x
      have n := n.trans n1x
      have hS := KEEP.out _ n
      refine hK.out _ _ hS (fun _ => ?_)
      clear hK K
      try simp only [Act.put, List.setIfInBounds_toArray, List.set_cons_zero, List.set_cons_succ, List.getElem_toArray, List.getElem_cons_zero, List.getElem_cons_succ]
      refine wpAnyH_ready (rs := [5, 10]) (by kernel_rfl) (by simp) (AllReadyH.cons rfl (fun K hK => ?_) (AllReadyH.cons rfl (fun K hK => ?_) AllReadyH.nil))
      · rw [if_pos (by rfl)]
        refine opwp_app (.tmp 11) (.tmp 15) rfl rfl w1.heap.size _ _ rfl o _ _ rfl b1x (by rw [nbL_len]; decide) n.size ?_
        intro v2y w2y o2y k2y x2y n2y
        have n := n2y w1 (Nat.le_refl _) n
        have o := o2y
        have hS := KEEP.out _ n
        refine hK.out _ _ hS (fun _ => ?_)
        clear hK K
        try simp only [Act.put, List.setIfInBounds_toArray, List.set_cons_zero, List.set_cons_succ, List.getElem_toArray, List.getElem_cons_zero, List.getElem_cons_succ]
        refine wpAnyH_ready (rs := [10]) (by kernel_rfl) (by simp) (AllReadyH.cons rfl (fun K hK => ?_) AllReadyH.nil)
        go_simp
        have hO : ∀ c, Value.ownBlock v2y = some c → c ≠ w2y.heap.size := fun c hc e => by have := o.lt8 hc; omega
        have a3x := (New.refl w2y).alloc #[.int .u8 (ln : Int)] 5
        have o := o.new a3x
        have bO := one_byt w2y (ln : Int)
        have gL : w2y.heap.size < (w2y.alloc (.cells #[.int .u8 (ln : Int)] 5)).heap.size := by rw [World.size_alloc]; omega
        have n := n.trans a3x
        have hS := KEEP.out _ n
        refine hK.out _ _ hS (fun _ => ?_)
        clear hK K
        try simp only [Act.put, List.setIfInBounds_toArray, List.set_cons_zero, List.set_cons_succ, List.getElem_toArray, List.getElem_cons_zero, List.getElem_cons_succ]
        refine wpAnyH_ready (rs := [11]) (by kernel_rfl) (by simp) (AllReadyH.cons rfl (fun K hK => ?_) AllReadyH.nil)
        rw [if_pos (by rfl)]
        refine opwp_app (.tmp 16) (.tmp 21) rfl rfl w1.heap.size _ _ rfl o _ _ rfl bO (by simp [nbL_len]) n.size ?_
        intro v4y w4y o4y k4y x4y n4y
        have n := n4y w1 (Nat.le_refl _) n
        have o := o4y
        have hS := KEEP.out _ n
        refine hK.out _ _ hS (fun _ => ?_)
        clear hK K
        try simp only [Act.put, List.setIfInBounds_toArray, List.set_cons_zero, List.set_cons_succ, List.getElem_toArray, List.getElem_cons_zero, List.getElem_cons_succ]
        refine wpAnyH_take (i := 12) (v := ?_) rfl (by kernel_rfl) (by kernel_rfl) (by kernel_rfl) (fun _ _ _ h => h) (Or.inl ⟨by rfl, ?_⟩) hS ?_
        rotate_left
        · intro w hSw
          try dsimp only at hSw
          go_simp
          try with_reducible rfl
        try simp only [Act.put, List.setIfInBounds_toArray, List.set_cons_zero, List.set_cons_succ, List.getElem_toArray, List.getElem_cons_zero, List.getElem_cons_succ]
        refine wpAnyH_done (by kernel_rfl) ?_ _
        go_wp2_with fail
        go_meet
        case rel => exact ⟨_, rfl, o, n⟩
      · go_simp
        have hO : ∀ c, Value.ownBlock (Value.slice (some ⟨w1.heap.size, 0, none⟩) 4 4) = some c → c ≠ w1x.heap.size := fun c hc e => by have := o.lt8 hc; omega
        have a5x := (New.refl w1x).alloc #[.int .u8 (ln : Int)] 5
        have o := o.new a5x
        have b1x := b1x.new a5x
        have bO := one_byt w1x (ln : Int)
        have gL : w1x.heap.size < (w1x.alloc (.cells #[.int .u8 (ln : Int)] 5)).heap.size := by rw [World.size_alloc]; omega
        have n := n.trans a5x
        have hS := KEEP.out _ n
        refine hK.out _ _ hS (fun _ => ?_)
        clear hK K
        try simp only [Act.put, List.setIfInBounds_toArray, List.set_cons_zero, List.set_cons_succ, List.getElem_toArray, List.getElem_cons_zero, List.getElem_cons_succ]
        refine wpAnyH_ready (rs := [5]) (by kernel_rfl) (by simp) (AllReadyH.cons rfl (fun K hK => ?_) AllReadyH.nil)
        rw [if_pos (by rfl)]
        refine opwp_app (.tmp 11) (.tmp 15) rfl rfl w1.heap.size _ _ rfl o _ _ rfl b1x (by rw [nbL_len]; decide) n.size ?_
        intro v6y w6y o6y k6y x6y n6y
        have bO := bO.but8 k6y (fun g hg c => hO _ c (Option.some.inj hg).symm)
        have hO : ∀ c, Value.ownBlock v6y = some c → c ≠ w1x.heap.size := fun c hc e => by
          rcases x6y c hc with d | d
          · exact hO c d e
          · omega
        have gL := Nat.lt_of_lt_of_le gL k6y.size
        have n := n6y w1 (Nat.le_refl _) n
        have o := o6y
        have hS := KEEP.out _ n
        refine hK.out _ _ hS (fun _ => ?_)
        clear hK K
        try simp only [Act.put, List.setIfInBounds_toArray, List.set_cons_zero, List.set_cons_succ, List.getElem_toArray, List.getElem_cons_zero, List.getElem_cons_succ]
        refine wpAnyH_ready (rs := [11]) (by kernel_rfl) (by simp) (AllReadyH.cons rfl (fun K hK => ?_) AllReadyH.nil)
        rw [if_pos (by rfl)]
        refine opwp_app (.tmp 16) (.tmp 21) rfl rfl w1.heap.size _ _ rfl o _ _ rfl bO (by simp [nbL_len]) n.size ?_
        intro v7y w7y o7y k7y x7y n7y
        have n := n7y w1 (Nat.le_refl _) n
        have o := o7y
        have hS := KEEP.out _ n
        refine hK.out _ _ hS (fun _ => ?_)
        clear hK K
        try simp only [Act.put, List.setIfInBounds_toArray, List.set_cons_zero, List.set_cons_succ, List.getElem_toArray, List.getElem_cons_zero, List.getElem_cons_succ]
        refine wpAnyH_take (i := 12) (v := ?_) rfl (by kernel_rfl) (by kernel_rfl) (by kernel_rfl) (fun _ _ _ h => h) (Or.inl ⟨by rfl, ?_⟩) hS ?_
        rotate_left
        · intro w hSw
          try dsimp only at hSw
          go_simp
          try with_reducible rfl
        try simp only [Act.put, List.setIfInBounds_toArray, List.set_cons_zero, List.set_cons_succ, List.getElem_toArray, List.getElem_cons_zero, List.getElem_cons_succ]
        refine wpAnyH_done (by kernel_rfl) ?_ _
        go_wp2_with fail
        go_meet
        case rel => exact ⟨_, rfl, o, n⟩
    · go_simp
      have hO : ∀ c, Value.ownBlock (Value.slice (some ⟨w1.heap.size, 0, none⟩) 4 4) = some c → c ≠ W3.heap.size := fun c hc e => by have := o0.lt8 hc; omega
      have o := (o0.new ((New.refl W3).alloc #[.int .u8 (ln : Int)] 5)).new (New.refl _).drew
      have bO := (one_byt W3 (ln : Int)).new (New.refl _).drew
      have gL : W3.heap.size < (W3.alloc (.cells #[.int .u8 (ln : Int)] 5)).drew.heap.size := by rw [show (W3.alloc (.cells #[.int .u8 (ln : Int)] 5)).drew.heap.size = (W3.alloc (.cells #[.int .u8 (ln : Int)] 5)).heap.size from rfl, World.size_alloc]; omega
      have n := (n0.alloc #[.int .u8 (ln : Int)] 5).drew
      have hS := KEEP.out _ n
      refine hK.out _ _ hS (fun _ => ?_)
      clear hK K
      try simp only [Act.put, List.setIfInBounds_toArray, List.set_cons_zero, List.set_cons_succ, List.getElem_toArray, List.getElem_cons_zero, List.getElem_cons_succ]
      refine wpAnyH_ready (rs := [4]) (by kernel_rfl) (by simp) (AllReadyH.cons rfl (fun K hK => ?_) AllReadyH.nil)
      go_simp
      refine (hnb _).mono ?_
      rintro en w9x ⟨v9x, rfl, b9x, n9x⟩
      have o := o.new n9x
      have bO := bO.new n9x
      have gL := Nat.lt_of_lt_of_le gL n9x.size
      have n := n.trans n9x
      have hS := KEEP.out _ n
      refine hK.out _ _ hS (fun _ => ?_)
      clear hK K
      try simp only [Act.put, List.setIfInBounds_toArray, List.set_cons_zero, List.set_cons_succ, List.getElem_toArray, List.getElem_cons_zero, List.getElem_cons_succ]
      refine wpAnyH_ready (rs := [5]) (by kernel_rfl) (by simp) (AllReadyH.cons rfl (fun K hK => ?_) AllReadyH.nil)
      rw [if_pos (by rfl)]
      refine opwp_app (.tmp 11) (.tmp 15) rfl rfl w1.heap.size _ _ rfl o _ _ rfl b9x (by rw [nbL_len]; decide) n.size ?_
      intro v10y w10y o10y k10y x10y n10y
      have bO := bO.but8 k10y (fun g hg c => hO _ c (Option.some.inj hg).symm)
      have hO : ∀ c, Value.ownBlock v10y = some c → c ≠ W3.heap.size := fun c hc e => by
        rcases x10y c hc with d | d
        · exact hO c d e
        · omega
      have gL := Nat.lt_of_lt_of_le gL k10y.size
      have n := n10y w1 (Nat.le_refl _) n
      have o := o10y
      have hS := KEEP.out _ n
      refine hK.out _ _ hS (fun _ => ?_)
      clear hK K
      try simp only [Act.put, List.setIfInBounds_toArray, List.set_cons_zero, List.set_cons_succ, List.getElem_toArray, List.getElem_cons_zero, List.getElem_cons_succ]
      refine wpAnyH_ready (rs := [11]) (by kernel_rfl) (by simp) (AllReadyH.cons rfl (fun K hK => ?_) AllReadyH.nil)
      rw [if_pos (by rfl)]
      refine opwp_app (.tmp 16) (.tmp 21) rfl rfl w1.heap.size _ _ rfl o _ _ rfl bO (by simp [nbL_len]) n.size ?_
      intro v11y w11y o11y k11y x11y n11y
      have n := n11y w1 (Nat.le_refl _) n
      have o := o11y
      have hS := KEEP.out _ n
      refine hK.out _ _ hS (fun _ => ?_)
      clear hK K
      try simp only [Act.put, List.setIfInBounds_toArray, List.set_cons_zero, List.set_cons_succ, List.getElem_toArray, List.getElem_cons_zero, List.getElem_cons_succ]
      refine wpAnyH_take (i := 12) (v := ?_) rfl (by kernel_rfl) (by kernel_rfl) (by kernel_rfl) (fun _ _ _ h => h) (Or.inl ⟨by rfl, ?_⟩) hS ?_
      rotate_left
      · intro w hSw
        try dsimp only at hSw
        go_simp
        try with_reducible rfl
      try simp only [Act.put, List.setIfInBounds_toArray, List.set_cons_zero, List.set_cons_succ, List.getElem_toArray, List.getElem_cons_zero, List.getElem_cons_succ]
      refine wpAnyH_done (by kernel_rfl) ?_ _
      go_wp2_with fail
      go_meet
      case rel => exact ⟨_, rfl, o, n⟩
  case rest =>
    obtain ⟨uv, rfl, o, n⟩ := hcut
    have hd9 : ([104, 120, 48, 49] ++ nbL e 4 ++ [(ln : Int)]).length = 9 := by simp only [List.length_append, nbL_len, List.length_cons, List.length_nil]
    have HHD := Lib.hid (show imB e L = ([104, 120, 48, 49] ++ nbL e 4 ++ [(ln : Int)]) ++ sgsB L by unfold imB; rw [nbL_four, HLN.out])
    generalize ([104, 120, 48, 49] ++ nbL e 4 ++ [(ln : Int)]) = hd at *
    have HM := Lib.hid (chOk_mem (Int.le_refl 0) HP.out.2.2.2.1)
    have o0 := Lib.hid o
    have n0 := Lib.hid n
    clear o n KEEP hnb hlb
    obtain ⟨pu, ku, rfl⟩ := o0.out.shape
    go_wp2_with fail
    go_loopg [4, 5] ln (fun qq ov kv wr => ∃ j : Nat, j + qq = ln ∧ kv = .int .i64 (j : Int) ∧ OwnB w1.heap.size wr ov (hd ++ sgsB (L.take j)) ∧ New w1 wr)
    case atStart => exact ⟨0, by omega, rfl, by show OwnB _ _ _ (hd ++ []); rw [List.append_nil]; exact o0.out, n0.out⟩
    case round =>
      obtain ⟨j, hj, rfl, o, n⟩ := hrel
      have J := Lib.hid hj
      have OO := Lib.hid o
      have NN := Lib.hid n
      obtain ⟨i0, i1⟩ := (BI1.out.new n).two
      have il := (BI1.out.new n).lt
      by_cases c : j < ln
      · have hjL : j < L.length := by rw [HLN.out]; exact c
        obtain ⟨a, q, cq, rfl, d0, d1, d2, d3, db⟩ := (HS.out.new (n1h.out.trans n)).cells rfl j hjL
        have hm4 := HM.out _ (List.getElem_mem hjL)
        rw [fad a (j * 4) 1 (by omega)] at d1
        rw [fad a (j * 4) 2 (by omega)] at d2
        rw [fad a (j * 4) 3 (by omega)] at d3
        have HT := Lib.hid (take_push L j hjL)
        have hxl : (hd ++ sgsB (L.take j)).length ≤ 600000 := by
          have := sgsB_len (L.take j) (fun s hs => (HM.out s (List.mem_of_mem_take hs)).2.2.2.2)
          rw [List.length_take] at this
          rw [List.length_append, hd9]
          have hj7 : min j L.length ≤ 7 := by omega
          have := Nat.mul_le_mul_right 65542 hj7
          omega
        obtain ⟨sj, hsj⟩ : ∃ sj, sj = L[j] := ⟨_, rfl⟩
        rw [← hsj] at d0 d1 d2 d3 hm4
        have HSJ := Lib.hid hsj.symm
        have DB0 := db
        rw [← hsj] at DB0
        obtain ⟨f, t, pp, dd⟩ := sj
        dsimp only at *
        have t4 : decide ((j : Int) < (ln : Int)) = true := decide_eq_true (by omega)
        have t5 : decide (j < ln) = true := decide_eq_true c
        have XE := Lib.hid (show hd ++ sgsB (L.take (j + 1)) = (hd ++ sgsB (L.take j)) ++ nbL f 2 ++ nbL t 2 ++ [pp] ++ nbL (dd.length : Int) 2 ++ dd by
          rw [HT.out, sgsB_app, HSJ.out]
          show hd ++ (sgsB (L.take j) ++ (sgB _ ++ [])) = _
          unfold sgB
          rw [nbL_two, nbL_two, nbL_two]
          simp only [List.append_nil, List.append_assoc])
        have DBX : Byts W (.slice q dd.length cq) dd := by
          obtain ⟨a2, q2, cq2, e2, -, -, -, g3, gb⟩ := HS.out.cells rfl j hjL
          cases e2
          have := (New.trans n1h.out n).keeps g3
          rw [fad a (j * 4) 3 (by omega), HSJ.out] at this
          rw [HSJ.out] at gb
          rw [d3] at this
          cases this
          exact gb
        have DB := Lib.hid (fun W' (k : New w1 W') => DBX.new (n1h.out.trans k))
        generalize hdl : dd.length = dl at *
        have HDL := Lib.hid hdl
        have HMM := Lib.hid hm4
        have hnf : ∀ W' : World, Calls Tryd.prog 17 #[.int .i64 f, .int .i64 2] W' fun en w' => ∃ u, en = .returned u ∧ Byts w' u (nbL f 2) ∧ New W' w' := fun W' => rnumber_any f (by have := HMM.out; omega) 2 (by omega) W'
        have hnt : ∀ W' : World, Calls Tryd.prog 17 #[.int .i64 t, .int .i64 2] W' fun en w' => ∃ u, en = .returned u ∧ Byts w' u (nbL t 2) ∧ New W' w' := fun W' => rnumber_any t (by have := HMM.out; omega) 2 (by omega) W'
        have hnd : ∀ W' : World, Calls Tryd.prog 17 #[.int .i64 (dl : Int), .int .i64 2] W' fun en w' => ∃ u, en = .returned u ∧ Byts w' u (nbL (dl : Int) 2) ∧ New W' w' := fun W' => rnumber_any (dl : Int) (by have := HMM.out; omega) 2 (by omega) W'
        have hdl2 : dl ≤ 65535 := by have := HMM.out; omega
        obtain ⟨W4, hW4⟩ : ∃ W4, W4 = wr.alloc (.cells #[.int .i64 f, .int .i64 t, .int .u8 pp, .slice q dl cq] 29) := ⟨_, rfl⟩
        obtain ⟨pv, kv, rfl⟩ := o.shape
        obtain ⟨uv, huv⟩ : ∃ uv, uv = (.slice pv (hd ++ sgsB (L.take j)).length kv : Value) := ⟨_, rfl⟩
        rw [← huv] at o
        have HUV := Lib.hid huv
        have o4 := o.new (show New wr W4 by rw [hW4]; exact (New.refl wr).alloc _ _)
        have n4 : New w1 W4 := by rw [hW4]; exact n.alloc _ _
        have BS4 : Box W4 wr.heap.size #[.int .i64 f, .int .i64 t, .int .u8 pp, .slice q dl cq] 29 := by rw [hW4]; exact Box.here _ _ _ _ rfl
        have hX4 : ∀ c, Value.ownBlock uv = some c → c ≠ wr.heap.size := fun c hc e => by have := o.lt8 hc; omega
        have F4 := Lib.hid (And.intro o4 (And.intro n4 (And.intro BS4 hX4)))
        clear hj o n hm4 DBX DB0 db hsj o4 n4 BS4 hX4
        go_upto_region 9 with fail
        rw [← hW4, ← huv]
        clear hW4 huv d0 d1 d2 d3
        have KEEP4 := Lib.hid (fun W' (k : New w1 W') (B : Box W' wr.heap.size #[.int .i64 f, .int .i64 t, .int .u8 pp, .slice q dl cq] 29) => And.intro k B.four)
        generalize hd ++ sgsB (L.take j) = X at *
        obtain ⟨o, n, BS, hX⟩ := F4.out
        have o0 := o
        have n0 := n
        have BS0 := BS
        go_cut [4] from 35 to 48 (fun v wx => ∃ u, v = u ∧ OwnB w1.heap.size wx u (X ++ nbL f 2 ++ nbL t 2 ++ [pp]) ∧ New w1 wx ∧ Box wx wr.heap.size #[.int .i64 f, .int .i64 t, .int .u8 pp, .slice q dl cq] 29 ∧ (∀ c, Value.ownBlock u = some c → c ≠ wr.heap.size))
        case first =>
          have hS : (fun w' : World => New w1 w' ∧ w'.cell? ⟨wr.heap.size, 0, none⟩ = some (.int .i64 f) ∧ w'.cell? ⟨wr.heap.size, 1, none⟩ = some (.int .i64 t) ∧ w'.cell? ⟨wr.heap.size, 2, none⟩ = some (.int .u8 pp) ∧ w'.cell? ⟨wr.heap.size, 3, none⟩ = some (.slice q dl cq)) W4.drew := KEEP4.out _ (n.trans (New.refl _).drew) (BS.new (New.refl _).drew)
          have BS := BS.new (New.refl W4).drew
          have sL := BS.lt
          have o := o.new (New.refl W4).drew
          have n := n.trans (New.refl W4).drew
          refine wp_region_held_drew (S := (fun w' : World => New w1 w' ∧ w'.cell? ⟨wr.heap.size, 0, none⟩ = some (.int .i64 f) ∧ w'.cell? ⟨wr.heap.size, 1, none⟩ = some (.int .i64 t) ∧ w'.cell? ⟨wr.heap.size, 2, none⟩ = some (.int .u8 pp) ∧ w'.cell? ⟨wr.heap.size, 3, none⟩ = some (.slice q dl cq))) (by kernel_rfl) hS (fun _ => ?_)
          refine wpAnyH_take (i := 0) (v := ?_) rfl (by kernel_rfl) (by kernel_rfl) (by kernel_rfl) (fun _ _ _ h => h) (Or.inl ⟨by rfl, ?_⟩) hS ?_
          rotate_left
          · intro w hSw
            try dsimp only at hSw
            go_simp
            try with_reducible rfl
          try simp only [Act.put, List.setIfInBounds_toArray, List.set_cons_zero, List.set_cons_succ, List.getElem_toArray, List.getElem_cons_zero, List.getElem_cons_succ]
          refine wpAnyH_take (i := 1) (v := ?_) rfl (by kernel_rfl) (by kernel_rfl) (by kernel_rfl) (fun _ _ _ h => h) (Or.inl ⟨by rfl, ?_⟩) hS ?_
          rotate_left
          · intro w hSw
            try dsimp only at hSw
            go_simp
            try with_reducible rfl
          try simp only [Act.put, List.setIfInBounds_toArray, List.set_cons_zero, List.set_cons_succ, List.getElem_toArray, List.getElem_cons_zero, List.getElem_cons_succ]
          refine wpAnyH_take (i := 2) (v := ?_) rfl (by kernel_rfl) (by kernel_rfl) (by kernel_rfl) (fun _ _ _ h => h) (Or.inl ⟨by rfl, ?_⟩) hS ?_
          rotate_left
          · intro w hSw
            try dsimp only at hSw
            go_simp
            try with_reducible rfl
          try simp only [Act.put, List.setIfInBounds_toArray, List.set_cons_zero, List.set_cons_succ, List.getElem_toArray, List.getElem_cons_zero, List.getElem_cons_succ]
          refine wpAnyH_take (i := 5) (v := ?_) rfl (by kernel_rfl) (by kernel_rfl) (by kernel_rfl) (fun _ _ _ h => h) (Or.inl ⟨by rfl, ?_⟩) hS ?_
          rotate_left
          · intro w hSw
            try dsimp only at hSw
            go_simp
            try with_reducible rfl
          try simp only [Act.put, List.setIfInBounds_toArray, List.set_cons_zero, List.set_cons_succ, List.getElem_toArray, List.getElem_cons_zero, List.getElem_cons_succ]
          refine wpAnyH_take (i := 6) (v := ?_) rfl (by kernel_rfl) (by kernel_rfl) (by kernel_rfl) (fun _ _ _ h => h) (Or.inl ⟨by rfl, ?_⟩) hS ?_
          rotate_left
          · intro w hSw
            try dsimp only at hSw
            go_simp
            try with_reducible rfl
          try simp only [Act.put, List.setIfInBounds_toArray, List.set_cons_zero, List.set_cons_succ, List.getElem_toArray, List.getElem_cons_zero, List.getElem_cons_succ]
          refine wpAnyH_take (i := 9) (v := ?_) rfl (by kernel_rfl) (by kernel_rfl) (by kernel_rfl) (fun _ _ _ h => h) (Or.inl ⟨by rfl, ?_⟩) hS ?_
          rotate_left
          · intro w hSw
            try dsimp only at hSw
            go_simp
            try with_reducible rfl
          try simp only [Act.put, List.setIfInBounds_toArray, List.set_cons_zero, List.set_cons_succ, List.getElem_toArray, List.getElem_cons_zero, List.getElem_cons_succ]
          refine wpAnyH_take (i := 10) (v := ?_) rfl (by kernel_rfl) (by kernel_rfl) (by kernel_rfl) (fun _ _ _ h => h) (Or.inl ⟨by rfl, ?_⟩) hS ?_
          rotate_left
          · intro w hSw
            try dsimp only at hSw
            go_simp
            try with_reducible rfl
          try simp only [Act.put, List.setIfInBounds_toArray, List.set_cons_zero, List.set_cons_succ, List.getElem_toArray, List.getElem_cons_zero, List.getElem_cons_succ]
          refine wpAnyH_ready (rs := [3, 11]) (by kernel_rfl) (by simp) (AllReadyH.cons rfl (fun K hK => ?_) (AllReadyH.cons rfl (fun K hK => ?_) AllReadyH.nil))
          · go_simp
            refine (hnf _).mono ?_
            rintro en w1x ⟨v1x, rfl, b1x, n1x⟩
            have o := o.new n1x
            have BS := BS.new n1x
            have sL := BS.lt
            have n := n.trans n1x
            have hS := KEEP4.out _ n BS
            refine hK.out _ _ hS (fun _ => ?_)
            clear hK K
            try simp only [Act.put, List.setIfInBounds_toArray, List.set_cons_zero, List.set_cons_succ, List.getElem_toArray, List.getElem_cons_zero, List.getElem_cons_succ]
            refine wpAnyH_ready (rs := [4, 11]) (by kernel_rfl) (by simp) (AllReadyH.cons rfl (fun K hK => ?_) (AllReadyH.cons rfl (fun K hK => ?_) AllReadyH.nil))
            · rw [if_pos (by rfl)]
              refine opwp_app (.tmp 35) (.tmp 38) rfl rfl w1.heap.size _ _ rfl o _ _ rfl b1x (by rw [nbL_len]; omega) n.size ?_
              intro v2y w2y o2y k2y x2y n2y
              have BS := BS.but k2y (fun c => hX _ c rfl)
              have hX : ∀ c, Value.ownBlock v2y = some c → c ≠ wr.heap.size := fun c hc e => by
                rcases x2y c hc with d | d
                · exact hX c d e
                · omega
              have sL := BS.lt
              have n := n2y w1 (Nat.le_refl _) n
              have o := o2y
              have hS := KEEP4.out _ n BS
              refine hK.out _ _ hS (fun _ => ?_)
              clear hK K
              try simp only [Act.put, List.setIfInBounds_toArray, List.set_cons_zero, List.set_cons_succ, List.getElem_toArray, List.getElem_cons_zero, List.getElem_cons_succ]
              refine wpAnyH_ready (rs := [7, 11]) (by kernel_rfl) (by simp) (AllReadyH.cons rfl (fun K hK => ?_) (AllReadyH.cons rfl (fun K hK => ?_) AllReadyH.nil))
              · go_simp
                refine (hnt _).mono ?_
                rintro en w3x ⟨v3x, rfl, b3x, n3x⟩
                have o := o.new n3x
                have BS := BS.new n3x
                have sL := BS.lt
                have n := n.trans n3x
                have hS := KEEP4.out _ n BS
                refine hK.out _ _ hS (fun _ => ?_)
                clear hK K
                try simp only [Act.put, List.setIfInBounds_toArray, List.set_cons_zero, List.set_cons_succ, List.getElem_toArray, List.getElem_cons_zero, List.getElem_cons_succ]
                refine wpAnyH_ready (rs := [8, 11]) (by kernel_rfl) (by simp) (AllReadyH.cons rfl (fun K hK => ?_) (AllReadyH.cons rfl (fun K hK => ?_) AllReadyH.nil))
                · rw [if_pos (by rfl)]
                  refine opwp_app (.tmp 39) (.tmp 42) rfl rfl w1.heap.size _ _ rfl o _ _ rfl b3x (by simp only [List.length_append, nbL_len]; omega) n.size ?_
                  intro v4y w4y o4y k4y x4y n4y
                  have BS := BS.but k4y (fun c => hX _ c rfl)
                  have hX : ∀ c, Value.ownBlock v4y = some c → c ≠ wr.heap.size := fun c hc e => by
                    rcases x4y c hc with d | d
                    · exact hX c d e
                    · omega
                  have sL := BS.lt
                  have n := n4y w1 (Nat.le_refl _) n
                  have o := o4y
                  have hS := KEEP4.out _ n BS
                  refine hK.out _ _ hS (fun _ => ?_)
                  clear hK K
                  try simp only [Act.put, List.setIfInBounds_toArray, List.set_cons_zero, List.set_cons_succ, List.getElem_toArray, List.getElem_cons_zero, List.getElem_cons_succ]
                  refine wpAnyH_ready (rs := [11]) (by kernel_rfl) (by simp) (AllReadyH.cons rfl (fun K hK => ?_) AllReadyH.nil)
                  go_simp
                  have hO : ∀ c, Value.ownBlock v4y = some c → c ≠ w4y.heap.size := fun c hc e => by have := o.lt8 hc; omega
                  have a5x := (New.refl w4y).alloc #[.int .u8 pp] 5
                  have o := o.new a5x
                  have bO := one_byt w4y pp
                  have gL : w4y.heap.size < (w4y.alloc (.cells #[.int .u8 pp] 5)).heap.size := by rw [World.size_alloc]; omega
                  have BS := BS.new a5x
                  have sL := BS.lt
                  have n := n.trans a5x
                  have hS := KEEP4.out _ n BS
                  refine hK.out _ _ hS (fun _ => ?_)
                  clear hK K
                  try simp only [Act.put, List.setIfInBounds_toArray, List.set_cons_zero, List.set_cons_succ, List.getElem_toArray, List.getElem_cons_zero, List.getElem_cons_succ]
                  refine wpAnyH_ready (rs := [12]) (by kernel_rfl) (by simp) (AllReadyH.cons rfl (fun K hK => ?_) AllReadyH.nil)
                  rw [if_pos (by rfl)]
                  refine opwp_app (.tmp 43) (.tmp 46) rfl rfl w1.heap.size _ _ rfl o _ _ rfl bO (by simp only [List.length_append, nbL_len, List.length_singleton]; omega) n.size ?_
                  intro v6y w6y o6y k6y x6y n6y
                  have BS := BS.but k6y (fun c => hX _ c rfl)
                  have hX : ∀ c, Value.ownBlock v6y = some c → c ≠ wr.heap.size := fun c hc e => by
                    rcases x6y c hc with d | d
                    · exact hX c d e
                    · omega
                  have sL := BS.lt
                  have n := n6y w1 (Nat.le_refl _) n
                  have o := o6y
                  have hS := KEEP4.out _ n BS
                  refine hK.out _ _ hS (fun _ => ?_)
                  clear hK K
                  try simp only [Act.put, List.setIfInBounds_toArray, List.set_cons_zero, List.set_cons_succ, List.getElem_toArray, List.getElem_cons_zero, List.getElem_cons_succ]
                  refine wpAnyH_take (i := 13) (v := ?_) rfl (by kernel_rfl) (by kernel_rfl) (by kernel_rfl) (fun _ _ _ h => h) (Or.inl ⟨by rfl, ?_⟩) hS ?_
                  rotate_left
                  · intro w hSw
                    try dsimp only at hSw
                    go_simp
                    try with_reducible rfl
                  try simp only [Act.put, List.setIfInBounds_toArray, List.set_cons_zero, List.set_cons_succ, List.getElem_toArray, List.getElem_cons_zero, List.getElem_cons_succ]
                  refine wpAnyH_done (by kernel_rfl) ?_ _
                  go_wp2_with fail
                  go_meet
                  case rel => exact ⟨_, rfl, o, n, BS, hX⟩
                · go_simp
                  have hO : ∀ c, Value.ownBlock v2y = some c → c ≠ w3x.heap.size := fun c hc e => by have := o.lt8 hc; omega
                  have a7x := (New.refl w3x).alloc #[.int .u8 pp] 5
                  have o := o.new a7x
                  have b3x := b3x.new a7x
                  have bO := one_byt w3x pp
                  have gL : w3x.heap.size < (w3x.alloc (.cells #[.int .u8 pp] 5)).heap.size := by rw [World.size_alloc]; omega
                  have BS := BS.new a7x
                  have sL := BS.lt
                  have n := n.trans a7x
                  have hS := KEEP4.out _ n BS
                  refine hK.out _ _ hS (fun _ => ?_)
                  clear hK K
                  try simp only [Act.put, List.setIfInBounds_toArray, List.set_cons_zero, List.set_cons_succ, List.getElem_toArray, List.getElem_cons_zero, List.getElem_cons_succ]
                  refine wpAnyH_ready (rs := [8]) (by kernel_rfl) (by simp) (AllReadyH.cons rfl (fun K hK => ?_) AllReadyH.nil)
                  rw [if_pos (by rfl)]
                  refine opwp_app (.tmp 39) (.tmp 42) rfl rfl w1.heap.size _ _ rfl o _ _ rfl b3x (by simp only [List.length_append, nbL_len]; omega) n.size ?_
                  intro v8y w8y o8y k8y x8y n8y
                  have bO := bO.but8 k8y (fun g hg c => hO _ c (Option.some.inj hg).symm)
                  have hO : ∀ c, Value.ownBlock v8y = some c → c ≠ w3x.heap.size := fun c hc e => by
                    rcases x8y c hc with d | d
                    · exact hO c d e
                    · omega
                  have gL := Nat.lt_of_lt_of_le gL k8y.size
                  have BS := BS.but k8y (fun c => hX _ c rfl)
                  have hX : ∀ c, Value.ownBlock v8y = some c → c ≠ wr.heap.size := fun c hc e => by
                    rcases x8y c hc with d | d
                    · exact hX c d e
                    · omega
                  have sL := BS.lt
                  have n := n8y w1 (Nat.le_refl _) n
                  have o := o8y
                  have hS := KEEP4.out _ n BS
                  refine hK.out _ _ hS (fun _ => ?_)
                  clear hK K
                  try simp only [Act.put, List.setIfInBounds_toArray, List.set_cons_zero, List.set_cons_succ, List.getElem_toArray, List.getElem_cons_zero, List.getElem_cons_succ]
                  refine wpAnyH_ready (rs := [12]) (by kernel_rfl) (by simp) (AllReadyH.cons rfl (fun K hK => ?_) AllReadyH.nil)
                  rw [if_pos (by rfl)]
                  refine opwp_app (.tmp 43) (.tmp 46) rfl rfl w1.heap.size _ _ rfl o _ _ rfl bO (by simp only [List.length_append, nbL_len, List.length_singleton]; omega) n.size ?_
                  intro v9y w9y o9y k9y x9y n9y
                  have BS := BS.but k9y (fun c => hX _ c rfl)
                  have hX : ∀ c, Value.ownBlock v9y = some c → c ≠ wr.heap.size := fun c hc e => by
                    rcases x9y c hc with d | d
                    · exact hX c d e
                    · omega
                  have sL := BS.lt
                  have n := n9y w1 (Nat.le_refl _) n
                  have o := o9y
                  have hS := KEEP4.out _ n BS
                  refine hK.out _ _ hS (fun _ => ?_)
                  clear hK K
                  try simp only [Act.put, List.setIfInBounds_toArray, List.set_cons_zero, List.set_cons_succ, List.getElem_toArray, List.getElem_cons_zero, List.getElem_cons_succ]
                  refine wpAnyH_take (i := 13) (v := ?_) rfl (by kernel_rfl) (by kernel_rfl) (by kernel_rfl) (fun _ _ _ h => h) (Or.inl ⟨by rfl, ?_⟩) hS ?_
                  rotate_left
                  · intro w hSw
                    try dsimp only at hSw
                    go_simp
                    try with_reducible rfl
                  try simp only [Act.put, List.setIfInBounds_toArray, List.set_cons_zero, List.set_cons_succ, List.getElem_toArray, List.getElem_cons_zero, List.getElem_cons_succ]
                  refine wpAnyH_done (by kernel_rfl) ?_ _
                  go_wp2_with fail
                  go_meet
                  case rel => exact ⟨_, rfl, o, n, BS, hX⟩
              · go_simp
                have hO : ∀ c, Value.ownBlock v2y = some c → c ≠ w2y.heap.size := fun c hc e => by have := o.lt8 hc; omega
                have a10x := (New.refl w2y).alloc #[.int .u8 pp] 5
                have o := o.new a10x
                have bO := one_byt w2y pp
                have gL : w2y.heap.size < (w2y.alloc (.cells #[.int .u8 pp] 5)).heap.size := by rw [World.size_alloc]; omega
                have BS := BS.new a10x
                have sL := BS.lt
                have n := n.trans a10x
                have hS := KEEP4.out _ n BS
                refine hK.out _ _ hS (fun _ => ?_)
                clear hK K
                try simp only [Act.put, List.setIfInBounds_toArray, List.set_cons_zero, List.set_cons_succ, List.getElem_toArray, List.getElem_cons_zero, List.getElem_cons_succ]
                refine wpAnyH_ready (rs := [7]) (by kernel_rfl) (by simp) (AllReadyH.cons rfl (fun K hK => ?_) AllReadyH.nil)
                go_simp
                refine (hnt _).mono ?_
                rintro en w11x ⟨v11x, rfl, b11x, n11x⟩
                have o := o.new n11x
                have bO := bO.new n11x
                have gL := Nat.lt_of_lt_of_le gL n11x.size
                have BS := BS.new n11x
                have sL := BS.lt
                have n := n.trans n11x
                have hS := KEEP4.out _ n BS
                refine hK.out _ _ hS (fun _ => ?_)
                clear hK K
                try simp only [Act.put, List.setIfInBounds_toArray, List.set_cons_zero, List.set_cons_succ, List.getElem_toArray, List.getElem_cons_zero, List.getElem_cons_succ]
                refine wpAnyH_ready (rs := [8]) (by kernel_rfl) (by simp) (AllReadyH.cons rfl (fun K hK => ?_) AllReadyH.nil)
                rw [if_pos (by rfl)]
                refine opwp_app (.tmp 39) (.tmp 42) rfl rfl w1.heap.size _ _ rfl o _ _ rfl b11x (by simp only [List.length_append, nbL_len]; omega) n.size ?_
                intro v12y w12y o12y k12y x12y n12y
                have bO := bO.but8 k12y (fun g hg c => hO _ c (Option.some.inj hg).symm)
                have hO : ∀ c, Value.ownBlock v12y = some c → c ≠ w2y.heap.size := fun c hc e => by
                  rcases x12y c hc with d | d
                  · exact hO c d e
                  · omega
                have gL := Nat.lt_of_lt_of_le gL k12y.size
                have BS := BS.but k12y (fun c => hX _ c rfl)
                have hX : ∀ c, Value.ownBlock v12y = some c → c ≠ wr.heap.size := fun c hc e => by
                  rcases x12y c hc with d | d
                  · exact hX c d e
                  · omega
                have sL := BS.lt
                have n := n12y w1 (Nat.le_refl _) n
                have o := o12y
                have hS := KEEP4.out _ n BS
                refine hK.out _ _ hS (fun _ => ?_)
                clear hK K
                try simp only [Act.put, List.setIfInBounds_toArray, List.set_cons_zero, List.set_cons_succ, List.getElem_toArray, List.getElem_cons_zero, List.getElem_cons_succ]
                refine wpAnyH_ready (rs := [12]) (by kernel_rfl) (by simp) (AllReadyH.cons rfl (fun K hK => ?_) AllReadyH.nil)
                rw [if_pos (by rfl)]
                refine opwp_app (.tmp 43) (.tmp 46) rfl rfl w1.heap.size _ _ rfl o _ _ rfl bO (by simp only [List.length_append, nbL_len, List.length_singleton]; omega) n.size ?_
                intro v13y w13y o13y k13y x13y n13y
                have BS := BS.but k13y (fun c => hX _ c rfl)
                have hX : ∀ c, Value.ownBlock v13y = some c → c ≠ wr.heap.size := fun c hc e => by
                  rcases x13y c hc with d | d
                  · exact hX c d e
                  · omega
                have sL := BS.lt
                have n := n13y w1 (Nat.le_refl _) n
                have o := o13y
                have hS := KEEP4.out _ n BS
                refine hK.out _ _ hS (fun _ => ?_)
                clear hK K
                try simp only [Act.put, List.setIfInBounds_toArray, List.set_cons_zero, List.set_cons_succ, List.getElem_toArray, List.getElem_cons_zero, List.getElem_cons_succ]
                refine wpAnyH_take (i := 13) (v := ?_) rfl (by kernel_rfl) (by kernel_rfl) (by kernel_rfl) (fun _ _ _ h => h) (Or.inl ⟨by rfl, ?_⟩) hS ?_
                rotate_left
                · intro w hSw
                  try dsimp only at hSw
                  go_simp
                  try with_reducible rfl
                try simp only [Act.put, List.setIfInBounds_toArray, List.set_cons_zero, List.set_cons_succ, List.getElem_toArray, List.getElem_cons_zero, List.getElem_cons_succ]
                refine wpAnyH_done (by kernel_rfl) ?_ _
                go_wp2_with fail
                go_meet
                case rel => exact ⟨_, rfl, o, n, BS, hX⟩
            · go_simp
              have hO : ∀ c, Value.ownBlock uv = some c → c ≠ w1x.heap.size := fun c hc e => by have := o.lt8 hc; omega
              have a14x := (New.refl w1x).alloc #[.int .u8 pp] 5
              have o := o.new a14x
              have b1x := b1x.new a14x
              have bO := one_byt w1x pp
              have gL : w1x.heap.size < (w1x.alloc (.cells #[.int .u8 pp] 5)).heap.size := by rw [World.size_alloc]; omega
              have BS := BS.new a14x
              have sL := BS.lt
              have n := n.trans a14x
              have hS := KEEP4.out _ n BS
              refine hK.out _ _ hS (fun _ => ?_)
              clear hK K
              try simp only [Act.put, List.setIfInBounds_toArray, List.set_cons_zero, List.set_cons_succ, List.getElem_toArray, List.getElem_cons_zero, List.getElem_cons_succ]
              refine wpAnyH_ready (rs := [4]) (by kernel_rfl) (by simp) (AllReadyH.cons rfl (fun K hK => ?_) AllReadyH.nil)
              rw [if_pos (by rfl)]
              refine opwp_app (.tmp 35) (.tmp 38) rfl rfl w1.heap.size _ _ rfl o _ _ rfl b1x (by rw [nbL_len]; omega) n.size ?_
              intro v15y w15y o15y k15y x15y n15y
              have bO := bO.but8 k15y (fun g hg c => hO _ c (Option.some.inj hg).symm)
              have hO : ∀ c, Value.ownBlock v15y = some c → c ≠ w1x.heap.size := fun c hc e => by
                rcases x15y c hc with d | d
                · exact hO c d e
                · omega
              have gL := Nat.lt_of_lt_of_le gL k15y.size
              have BS := BS.but k15y (fun c => hX _ c rfl)
              have hX : ∀ c, Value.ownBlock v15y = some c → c ≠ wr.heap.size := fun c hc e => by
                rcases x15y c hc with d | d
                · exact hX c d e
                · omega
              have sL := BS.lt
              have n := n15y w1 (Nat.le_refl _) n
              have o := o15y
              have hS := KEEP4.out _ n BS
              refine hK.out _ _ hS (fun _ => ?_)
              clear hK K
              try simp only [Act.put, List.setIfInBounds_toArray, List.set_cons_zero, List.set_cons_succ, List.getElem_toArray, List.getElem_cons_zero, List.getElem_cons_succ]
              refine wpAnyH_ready (rs := [7]) (by kernel_rfl) (by simp) (AllReadyH.cons rfl (fun K hK => ?_) AllReadyH.nil)
              go_simp
              refine (hnt _).mono ?_
              rintro en w16x ⟨v16x, rfl, b16x, n16x⟩
              have o := o.new n16x
              have bO := bO.new n16x
              have gL := Nat.lt_of_lt_of_le gL n16x.size
              have BS := BS.new n16x
              have sL := BS.lt
              have n := n.trans n16x
              have hS := KEEP4.out _ n BS
              refine hK.out _ _ hS (fun _ => ?_)
              clear hK K
              try simp only [Act.put, List.setIfInBounds_toArray, List.set_cons_zero, List.set_cons_succ, List.getElem_toArray, List.getElem_cons_zero, List.getElem_cons_succ]
              refine wpAnyH_ready (rs := [8]) (by kernel_rfl) (by simp) (AllReadyH.cons rfl (fun K hK => ?_) AllReadyH.nil)
              rw [if_pos (by rfl)]
              refine opwp_app (.tmp 39) (.tmp 42) rfl rfl w1.heap.size _ _ rfl o _ _ rfl b16x (by simp only [List.length_append, nbL_len]; omega) n.size ?_
              intro v17y w17y o17y k17y x17y n17y
              have bO := bO.but8 k17y (fun g hg c => hO _ c (Option.some.inj hg).symm)
              have hO : ∀ c, Value.ownBlock v17y = some c → c ≠ w1x.heap.size := fun c hc e => by
                rcases x17y c hc with d | d
                · exact hO c d e
                · omega
              have gL := Nat.lt_of_lt_of_le gL k17y.size
              have BS := BS.but k17y (fun c => hX _ c rfl)
              have hX : ∀ c, Value.ownBlock v17y = some c → c ≠ wr.heap.size := fun c hc e => by
                rcases x17y c hc with d | d
                · exact hX c d e
                · omega
              have sL := BS.lt
              have n := n17y w1 (Nat.le_refl _) n
              have o := o17y
              have hS := KEEP4.out _ n BS
              refine hK.out _ _ hS (fun _ => ?_)
              clear hK K
              try simp only [Act.put, List.setIfInBounds_toArray, List.set_cons_zero, List.set_cons_succ, List.getElem_toArray, List.getElem_cons_zero, List.getElem_cons_succ]
              refine wpAnyH_ready (rs := [12]) (by kernel_rfl) (by simp) (AllReadyH.cons rfl (fun K hK => ?_) AllReadyH.nil)
              rw [if_pos (by rfl)]
              refine opwp_app (.tmp 43) (.tmp 46) rfl rfl w1.heap.size _ _ rfl o _ _ rfl bO (by simp only [List.length_append, nbL_len, List.length_singleton]; omega) n.size ?_
              intro v18y w18y o18y k18y x18y n18y
              have BS := BS.but k18y (fun c => hX _ c rfl)
              have hX : ∀ c, Value.ownBlock v18y = some c → c ≠ wr.heap.size := fun c hc e => by
                rcases x18y c hc with d | d
                · exact hX c d e
                · omega
              have sL := BS.lt
              have n := n18y w1 (Nat.le_refl _) n
              have o := o18y
              have hS := KEEP4.out _ n BS
              refine hK.out _ _ hS (fun _ => ?_)
              clear hK K
              try simp only [Act.put, List.setIfInBounds_toArray, List.set_cons_zero, List.set_cons_succ, List.getElem_toArray, List.getElem_cons_zero, List.getElem_cons_succ]
              refine wpAnyH_take (i := 13) (v := ?_) rfl (by kernel_rfl) (by kernel_rfl) (by kernel_rfl) (fun _ _ _ h => h) (Or.inl ⟨by rfl, ?_⟩) hS ?_
              rotate_left
              · intro w hSw
                try dsimp only at hSw
                go_simp
                try with_reducible rfl
              try simp only [Act.put, List.setIfInBounds_toArray, List.set_cons_zero, List.set_cons_succ, List.getElem_toArray, List.getElem_cons_zero, List.getElem_cons_succ]
              refine wpAnyH_done (by kernel_rfl) ?_ _
              go_wp2_with fail
              go_meet
              case rel => exact ⟨_, rfl, o, n, BS, hX⟩
          · go_simp
            have hO : ∀ c, Value.ownBlock uv = some c → c ≠ W4.heap.size := fun c hc e => by have := o0.lt8 hc; omega
            have o := (o0.new ((New.refl W4).alloc #[.int .u8 pp] 5)).new (New.refl _).drew
            have bO := (one_byt W4 pp).new (New.refl _).drew
            have gL : W4.heap.size < (W4.alloc (.cells #[.int .u8 pp] 5)).drew.heap.size := by rw [show (W4.alloc (.cells #[.int .u8 pp] 5)).drew.heap.size = (W4.alloc (.cells #[.int .u8 pp] 5)).heap.size from rfl, World.size_alloc]; omega
            have BS := (BS0.new ((New.refl W4).alloc #[.int .u8 pp] 5)).new (New.refl _).drew
            have sL := BS.lt
            have n := (n0.alloc #[.int .u8 pp] 5).drew
            have hS := KEEP4.out _ n BS
            refine hK.out _ _ hS (fun _ => ?_)
            clear hK K
            try simp only [Act.put, List.setIfInBounds_toArray, List.set_cons_zero, List.set_cons_succ, List.getElem_toArray, List.getElem_cons_zero, List.getElem_cons_succ]
            refine wpAnyH_ready (rs := [3]) (by kernel_rfl) (by simp) (AllReadyH.cons rfl (fun K hK => ?_) AllReadyH.nil)
            go_simp
            refine (hnf _).mono ?_
            rintro en w20x ⟨v20x, rfl, b20x, n20x⟩
            have o := o.new n20x
            have bO := bO.new n20x
            have gL := Nat.lt_of_lt_of_le gL n20x.size
            have BS := BS.new n20x
            have sL := BS.lt
            have n := n.trans n20x
            have hS := KEEP4.out _ n BS
            refine hK.out _ _ hS (fun _ => ?_)
            clear hK K
            try simp only [Act.put, List.setIfInBounds_toArray, List.set_cons_zero, List.set_cons_succ, List.getElem_toArray, List.getElem_cons_zero, List.getElem_cons_succ]
            refine wpAnyH_ready (rs := [4]) (by kernel_rfl) (by simp) (AllReadyH.cons rfl (fun K hK => ?_) AllReadyH.nil)
            rw [if_pos (by rfl)]
            refine opwp_app (.tmp 35) (.tmp 38) rfl rfl w1.heap.size _ _ rfl o _ _ rfl b20x (by rw [nbL_len]; omega) n.size ?_
            intro v21y w21y o21y k21y x21y n21y
            have bO := bO.but8 k21y (fun g hg c => hO _ c (Option.some.inj hg).symm)
            have hO : ∀ c, Value.ownBlock v21y = some c → c ≠ W4.heap.size := fun c hc e => by
              rcases x21y c hc with d | d
              · exact hO c d e
              · omega
            have gL := Nat.lt_of_lt_of_le gL k21y.size
            have BS := BS.but k21y (fun c => hX _ c rfl)
            have hX : ∀ c, Value.ownBlock v21y = some c → c ≠ wr.heap.size := fun c hc e => by
              rcases x21y c hc with d | d
              · exact hX c d e
              · omega
            have sL := BS.lt
            have n := n21y w1 (Nat.le_refl _) n
            have o := o21y
            have hS := KEEP4.out _ n BS
            refine hK.out _ _ hS (fun _ => ?_)
            clear hK K
            try simp only [Act.put, List.setIfInBounds_toArray, List.set_cons_zero, List.set_cons_succ, List.getElem_toArray, List.getElem_cons_zero, List.getElem_cons_succ]
            refine wpAnyH_ready (rs := [7]) (by kernel_rfl) (by simp) (AllReadyH.cons rfl (fun K hK => ?_) AllReadyH.nil)
            go_simp
            refine (hnt _).mono ?_
            rintro en w22x ⟨v22x, rfl, b22x, n22x⟩
            have o := o.new n22x
            have bO := bO.new n22x
            have gL := Nat.lt_of_lt_of_le gL n22x.size
            have BS := BS.new n22x
            have sL := BS.lt
            have n := n.trans n22x
            have hS := KEEP4.out _ n BS
            refine hK.out _ _ hS (fun _ => ?_)
            clear hK K
            try simp only [Act.put, List.setIfInBounds_toArray, List.set_cons_zero, List.set_cons_succ, List.getElem_toArray, List.getElem_cons_zero, List.getElem_cons_succ]
            refine wpAnyH_ready (rs := [8]) (by kernel_rfl) (by simp) (AllReadyH.cons rfl (fun K hK => ?_) AllReadyH.nil)
            rw [if_pos (by rfl)]
            refine opwp_app (.tmp 39) (.tmp 42) rfl rfl w1.heap.size _ _ rfl o _ _ rfl b22x (by simp only [List.length_append, nbL_len]; omega) n.size ?_
            intro v23y w23y o23y k23y x23y n23y
            have bO := bO.but8 k23y (fun g hg c => hO _ c (Option.some.inj hg).symm)
            have hO : ∀ c, Value.ownBlock v23y = some c → c ≠ W4.heap.size := fun c hc e => by
              rcases x23y c hc with d | d
              · exact hO c d e
              · omega
            have gL := Nat.lt_of_lt_of_le gL k23y.size
            have BS := BS.but k23y (fun c => hX _ c rfl)
            have hX : ∀ c, Value.ownBlock v23y = some c → c ≠ wr.heap.size := fun c hc e => by
              rcases x23y c hc with d | d
              · exact hX c d e
              · omega
            have sL := BS.lt
            have n := n23y w1 (Nat.le_refl _) n
            have o := o23y
            have hS := KEEP4.out _ n BS
            refine hK.out _ _ hS (fun _ => ?_)
            clear hK K
            try simp only [Act.put, List.setIfInBounds_toArray, List.set_cons_zero, List.set_cons_succ, List.getElem_toArray, List.getElem_cons_zero, List.getElem_cons_succ]
            refine wpAnyH_ready (rs := [12]) (by kernel_rfl) (by simp) (AllReadyH.cons rfl (fun K hK => ?_) AllReadyH.nil)
            rw [if_pos (by rfl)]
            refine opwp_app (.tmp 43) (.tmp 46) rfl rfl w1.heap.size _ _ rfl o _ _ rfl bO (by simp only [List.length_append, nbL_len, List.length_singleton]; omega) n.size ?_
            intro v24y w24y o24y k24y x24y n24y
            have BS := BS.but k24y (fun c => hX _ c rfl)
            have hX : ∀ c, Value.ownBlock v24y = some c → c ≠ wr.heap.size := fun c hc e => by
              rcases x24y c hc with d | d
              · exact hX c d e
              · omega
            have sL := BS.lt
            have n := n24y w1 (Nat.le_refl _) n
            have o := o24y
            have hS := KEEP4.out _ n BS
            refine hK.out _ _ hS (fun _ => ?_)
            clear hK K
            try simp only [Act.put, List.setIfInBounds_toArray, List.set_cons_zero, List.set_cons_succ, List.getElem_toArray, List.getElem_cons_zero, List.getElem_cons_succ]
            refine wpAnyH_take (i := 13) (v := ?_) rfl (by kernel_rfl) (by kernel_rfl) (by kernel_rfl) (fun _ _ _ h => h) (Or.inl ⟨by rfl, ?_⟩) hS ?_
            rotate_left
            · intro w hSw
              try dsimp only at hSw
              go_simp
              try with_reducible rfl
            try simp only [Act.put, List.setIfInBounds_toArray, List.set_cons_zero, List.set_cons_succ, List.getElem_toArray, List.getElem_cons_zero, List.getElem_cons_succ]
            refine wpAnyH_done (by kernel_rfl) ?_ _
            go_wp2_with fail
            go_meet
            case rel => exact ⟨_, rfl, o, n, BS, hX⟩
        case rest =>
          clear o n BS hX o0 n0 BS0
          obtain ⟨u2v, rfl, o, n, BS, hX⟩ := hcut
          go_upto_region 10 with fail
          have hS : (fun w' : World => New w1 w' ∧ w'.cell? ⟨wr.heap.size, 0, none⟩ = some (.int .i64 f) ∧ w'.cell? ⟨wr.heap.size, 1, none⟩ = some (.int .i64 t) ∧ w'.cell? ⟨wr.heap.size, 2, none⟩ = some (.int .u8 pp) ∧ w'.cell? ⟨wr.heap.size, 3, none⟩ = some (.slice q dl cq)) wc.drew := KEEP4.out _ (n.trans (New.refl _).drew) (BS.new (New.refl _).drew)
          have BS := BS.new (New.refl wc).drew
          have sL := BS.lt
          have o := o.new (New.refl wc).drew
          have n := n.trans (New.refl wc).drew
          refine wp_region_held_drew (S := (fun w' : World => New w1 w' ∧ w'.cell? ⟨wr.heap.size, 0, none⟩ = some (.int .i64 f) ∧ w'.cell? ⟨wr.heap.size, 1, none⟩ = some (.int .i64 t) ∧ w'.cell? ⟨wr.heap.size, 2, none⟩ = some (.int .u8 pp) ∧ w'.cell? ⟨wr.heap.size, 3, none⟩ = some (.slice q dl cq))) (by kernel_rfl) hS (fun _ => ?_)
          refine wpAnyH_take (i := 0) (v := ?_) rfl (by kernel_rfl) (by kernel_rfl) (by kernel_rfl) (fun _ _ _ h => h) (Or.inl ⟨by rfl, ?_⟩) hS ?_
          rotate_left
          · intro w hSw
            try dsimp only at hSw
            go_simp
            try with_reducible rfl
          try simp only [Act.put, List.setIfInBounds_toArray, List.set_cons_zero, List.set_cons_succ, List.getElem_toArray, List.getElem_cons_zero, List.getElem_cons_succ]
          refine wpAnyH_take (i := 1) (v := ?_) rfl (by kernel_rfl) (by kernel_rfl) (by kernel_rfl) (fun _ _ _ h => h) (Or.inl ⟨by rfl, ?_⟩) hS ?_
          rotate_left
          · intro w hSw
            try dsimp only at hSw
            go_simp
            try with_reducible rfl
          try simp only [Act.put, List.setIfInBounds_toArray, List.set_cons_zero, List.set_cons_succ, List.getElem_toArray, List.getElem_cons_zero, List.getElem_cons_succ]
          refine wpAnyH_take (i := 2) (v := ?_) rfl (by kernel_rfl) (by kernel_rfl) (by kernel_rfl) (fun _ _ _ h => h) (Or.inl ⟨by rfl, ?_⟩) hS ?_
          rotate_left
          · intro w hSw
            try dsimp only at hSw
            go_simp
            try with_reducible rfl
          try simp only [Act.put, List.setIfInBounds_toArray, List.set_cons_zero, List.set_cons_succ, List.getElem_toArray, List.getElem_cons_zero, List.getElem_cons_succ]
          refine wpAnyH_take (i := 3) (v := ?_) rfl (by kernel_rfl) (by kernel_rfl) (by kernel_rfl) (fun _ _ _ h => h) (Or.inl ⟨by rfl, ?_⟩) hS ?_
          rotate_left
          · intro w hSw
            try dsimp only at hSw
            go_simp
            try with_reducible rfl
          try simp only [Act.put, List.setIfInBounds_toArray, List.set_cons_zero, List.set_cons_succ, List.getElem_toArray, List.getElem_cons_zero, List.getElem_cons_succ]
          refine wpAnyH_take (i := 6) (v := ?_) rfl (by kernel_rfl) (by kernel_rfl) (by kernel_rfl) (fun _ _ _ h => h) (Or.inl ⟨by rfl, ?_⟩) hS ?_
          rotate_left
          · intro w hSw
            try dsimp only at hSw
            go_simp
            try with_reducible rfl
          try simp only [Act.put, List.setIfInBounds_toArray, List.set_cons_zero, List.set_cons_succ, List.getElem_toArray, List.getElem_cons_zero, List.getElem_cons_succ]
          refine wpAnyH_take (i := 7) (v := ?_) rfl (by kernel_rfl) (by kernel_rfl) (by kernel_rfl) (fun _ _ _ h => h) (Or.inl ⟨by rfl, ?_⟩) hS ?_
          rotate_left
          · intro w hSw
            try dsimp only at hSw
            go_simp
            try with_reducible rfl
          try simp only [Act.put, List.setIfInBounds_toArray, List.set_cons_zero, List.set_cons_succ, List.getElem_toArray, List.getElem_cons_zero, List.getElem_cons_succ]
          refine wpAnyH_ready (rs := [4]) (by kernel_rfl) (by simp) (AllReadyH.cons rfl (fun K hK => ?_) AllReadyH.nil)
          go_simp
          refine (hnd _).mono ?_
          rintro en w1x ⟨v1x, rfl, b1x, n1x⟩
          have o := o.new n1x
          have BS := BS.new n1x
          have sL := BS.lt
          have n := n.trans n1x
          have hS := KEEP4.out _ n BS
          refine hK.out _ _ hS (fun _ => ?_)
          clear hK K
          try simp only [Act.put, List.setIfInBounds_toArray, List.set_cons_zero, List.set_cons_succ, List.getElem_toArray, List.getElem_cons_zero, List.getElem_cons_succ]
          refine wpAnyH_ready (rs := [5]) (by kernel_rfl) (by simp) (AllReadyH.cons rfl (fun K hK => ?_) AllReadyH.nil)
          rw [if_pos (by rfl)]
          refine opwp_app (.tmp 48) (.tmp 52) rfl rfl w1.heap.size _ _ rfl o _ _ rfl b1x (by simp only [List.length_append, nbL_len, List.length_singleton]; omega) n.size ?_
          intro v2y w2y o2y k2y x2y n2y
          have BS := BS.but k2y (fun c => hX _ c rfl)
          have hX : ∀ c, Value.ownBlock v2y = some c → c ≠ wr.heap.size := fun c hc e => by
            rcases x2y c hc with d | d
            · exact hX c d e
            · omega
          have sL := BS.lt
          have n := n2y w1 (Nat.le_refl _) n
          have o := o2y
          have hS := KEEP4.out _ n BS
          refine hK.out _ _ hS (fun _ => ?_)
          clear hK K
          try simp only [Act.put, List.setIfInBounds_toArray, List.set_cons_zero, List.set_cons_succ, List.getElem_toArray, List.getElem_cons_zero, List.getElem_cons_succ]
          refine wpAnyH_ready (rs := [8]) (by kernel_rfl) (by simp) (AllReadyH.cons rfl (fun K hK => ?_) AllReadyH.nil)
          rw [if_pos (by rfl)]
          refine opwp_app (.tmp 53) (.tmp 55) rfl rfl w1.heap.size _ _ rfl o _ _ rfl (DB.out _ n) (by simp only [List.length_append, nbL_len, List.length_singleton, HDL.out]; omega) n.size ?_
          intro v3y w3y o3y k3y x3y n3y
          have BS := BS.but k3y (fun c => hX _ c rfl)
          have hX : ∀ c, Value.ownBlock v3y = some c → c ≠ wr.heap.size := fun c hc e => by
            rcases x3y c hc with d | d
            · exact hX c d e
            · omega
          have sL := BS.lt
          have n := n3y w1 (Nat.le_refl _) n
          have o := o3y
          have hS := KEEP4.out _ n BS
          refine hK.out _ _ hS (fun _ => ?_)
          clear hK K
          try simp only [Act.put, List.setIfInBounds_toArray, List.set_cons_zero, List.set_cons_succ, List.getElem_toArray, List.getElem_cons_zero, List.getElem_cons_succ]
          refine wpAnyH_take (i := 9) (v := ?_) rfl (by kernel_rfl) (by kernel_rfl) (by kernel_rfl) (fun _ _ _ h => h) (Or.inl ⟨by rfl, ?_⟩) hS ?_
          rotate_left
          · intro w hSw
            try dsimp only at hSw
            go_simp
            try with_reducible rfl
          try simp only [Act.put, List.setIfInBounds_toArray, List.set_cons_zero, List.set_cons_succ, List.getElem_toArray, List.getElem_cons_zero, List.getElem_cons_succ]
          refine wpAnyH_done (by kernel_rfl) ?_ _
          go_wp2_with fail
          go_roundg (ln - (j + 1))
          case measure => have := J.out; omega
          case rel => exact ⟨j + 1, by have := J.out; omega, by go_num, by rw [XE.out]; exact o, n⟩
      · obtain rfl : j = ln := by omega
        have E := Lib.hid (show hd ++ sgsB (L.take j) = imB e L by rw [HHD.out, List.take_of_length_le (by rw [HLN.out]; exact Nat.le_refl _)])
        obtain ⟨pv, kv, rfl⟩ := o.shape
        clear hj o n c
        go_wp2
        go_ret2
        exact ⟨_, rfl, by rw [← E.out]; exact OO.out.more N1.out.size, N1.out.trans NN.out⟩
theorem renc_no {w : World} {v : Value} {L : List Sg} (h : Sgs RSd w v L) (hb : SgsB L) (e : Int) (he : 0 ≤ e ∧ e ≤ 4294967295) (hok : imOk e L = false) : Calls Tryd.prog 9 #[.agg #[.int .u32 e, v]] w fun en w' => en = .returned (.tuple #[.slice none 0 0, .int .i64 8]) ∧ New w w' := by
  obtain ⟨p, cap, rfl, hcap, hm⟩ := h.shape
  obtain ⟨W, hW⟩ : ∃ W, W = w.alloc (.cells #[.int .u32 e, .slice p L.length cap] 25) := ⟨_, rfl⟩
  have nW : New w W := by rw [hW]; exact (New.refl w).alloc _ _
  have bI : Box W w.heap.size #[.int .u32 e, .slice p L.length cap] 25 := by rw [hW]; exact Box.here _ _ _ _ rfl
  have X := fun W' (k : New W W') => rmay21 ((h.new nW).new k) hb e he
  rw [hok] at X
  obtain ⟨i0, i1⟩ := bI.two
  have NW := Lib.hid nW
  clear h hb nW bI hok
  generalize L.length = ln at *
  go_enter Tryd.func9, Tryd.ntmps9
  go_upto_region 1 with fail
  rw [← hW]
  clear hW
  go_wp2_with fail
  refine (X _ (New.refl W)).mono ?_
  rintro en w1 ⟨rfl, n1⟩
  go_wp2
  go_ret2
  exact ⟨rfl, NW.out.trans n1⟩
end Go.Proofs.YtealjgfijlencaaDoor
