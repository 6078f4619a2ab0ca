/- Regions, but that the pages of one more are as that one says. Contracts, for any list, in any world; behind each there are only new blocks. -/
import Derived.Test.YtfkjgbenjdmedaaDoorReF
namespace Go.Proofs.YtfkjgbenjdmedaaDoor
open Go.RowKit
set_option linter.unusedVariables false
set_option maxRecDepth 100000
theorem rgs_one (w : World) (r : Rg) (t : TypeId) : Rgs (w.alloc (.cells #[.int .i64 r.f, .int .i64 r.t, .int .u8 (r.p : Int)] t)) (.slice (some ⟨w.heap.size, 0, none⟩) 1 1) [r] := by
  have hx : Box (w.alloc (.cells #[.int .i64 r.f, .int .i64 r.t, .int .u8 (r.p : Int)] t)) w.heap.size _ _ := Box.here w _ _ _ rfl
  refine ⟨_, _, rfl, Nat.le_refl _, by show 1 ≤ maxLen; unfold maxLen; omega, fun i hi => ⟨_, rfl, ?_⟩⟩
  obtain rfl : i = 0 := by simp at hi; omega
  exact hx.three
theorem sls_three (w : World) (v1 v2 v3 : Value) (t : TypeId) {l1 l2 l3 : List Rg} (h1 : Rgs w v1 l1) (h2 : Rgs w v2 l2) (h3 : Rgs w v3 l3) : Sls (w.alloc (.cells #[v1, v2, v3] t)) w.heap.size [l1, l2, l3] := by
  have hx : Box (w.alloc (.cells #[v1, v2, v3] t)) w.heap.size _ _ := Box.here w _ _ _ rfl
  have k : New w (w.alloc (.cells #[v1, v2, v3] t)) := (New.refl w).alloc _ _
  obtain ⟨c0, c1, c2⟩ := hx.three
  intro i hi
  match i, hi with
  | 0, _ => exact ⟨_, c0, h1.new k⟩
  | 1, _ => exact ⟨_, c1, h2.new k⟩
  | 2, _ => exact ⟨_, c2, h3.new k⟩
  | i + 3, hi => simp at hi; omega
theorem sls_two (w : World) (v1 v2 : Value) (t : TypeId) {l1 l2 : List Rg} (h1 : Rgs w v1 l1) (h2 : Rgs w v2 l2) : Sls (w.alloc (.cells #[v1, v2] t)) w.heap.size [l1, l2] := by
  have hx : Box (w.alloc (.cells #[v1, v2] t)) w.heap.size _ _ := Box.here w _ _ _ rfl
  have k : New w (w.alloc (.cells #[v1, v2] t)) := (New.refl w).alloc _ _
  obtain ⟨c0, c1⟩ := hx.two
  intro i hi
  match i, hi with
  | 0, _ => exact ⟨_, c0, h1.new k⟩
  | 1, _ => exact ⟨_, c1, h2.new k⟩
  | i + 2, hi => simp at hi; omega
set_option maxHeartbeats 4000000 in
theorem lay_any (w : World) (v : Value) (l : List Rg) (r : Rg) (h : Rgs w v l) (hlen : l.length ≤ 100000) : Calls Tryd.prog 25 #[v, .agg #[.int .i64 r.f, .int .i64 r.t, .int .u8 (r.p : Int)]] w (MadeR 33 (layL l r) w) := by
  have hNW : New w (w.alloc (.cells #[.int .i64 r.f, .int .i64 r.t, .int .u8 (r.p : Int)] 33)) := (New.refl w).alloc _ _
  have BR : Box (w.alloc (.cells #[.int .i64 r.f, .int .i64 r.t, .int .u8 (r.p : Int)] 33)) w.heap.size #[.int .i64 r.f, .int .i64 r.t, .int .u8 (r.p : Int)] 33 := Box.here w _ _ _ rfl
  have hRl := h.new hNW
  have hfe : rjoins [rpart l 0 r.f, [r], rpart l r.t 4096].flatten = layL l r := by unfold layL preL; simp
  have hfl : [rpart l 0 r.f, [r], rpart l r.t 4096].flatten.length ≤ 1000000 := by
    have := rpart_len l 0 r.f
    have := rpart_len l r.t 4096
    simp; omega
  obtain ⟨p, cap, rfl, _, _⟩ := h.shape
  clear h
  go_enter Tryd.func25, Tryd.ntmps25
  go_upto_region 1 with fail
  change Code.wp _ _ _ _ (w.alloc (.cells #[.int .i64 r.f, .int .i64 r.t, .int .u8 (r.p : Int)] 33))
  generalize (w.alloc (.cells #[.int .i64 r.f, .int .i64 r.t, .int .u8 (r.p : Int)] 33)) = W at *
  generalize w.heap.size = rb at *
  obtain ⟨b0, b1, b2⟩ := BR.three
  have QP1 : ∀ W', New W W' → Calls Tryd.prog 36 #[.slice p l.length cap, .int .i64 0, .int .i64 r.f] W' (MadeR 33 (rpart l 0 r.f) W') := fun W' k => part_any W' _ l 0 r.f (hRl.new k) (by omega)
  have QP2 : ∀ W', New W W' → Calls Tryd.prog 36 #[.slice p l.length cap, .int .i64 r.t, .int .i64 4096] W' (MadeR 33 (rpart l r.t 4096) W') := fun W' k => part_any W' _ l r.t 4096 (hRl.new k) (by omega)
  have mkS : ∀ w', New W w' → (New W w' ∧ w'.cell? ⟨rb, 0, none⟩ = some (.int .i64 r.f) ∧ w'.cell? ⟨rb, 1, none⟩ = some (.int .i64 r.t) ∧ w'.cell? ⟨rb, 2, none⟩ = some (.int .u8 (r.p : Int))) := fun w' k => ⟨k, k.keeps b0, k.keeps b1, k.keeps b2⟩
  have kN := (New.refl W).drew
  go_wp2_with fail
  have hS : (fun w' : World => New W w' ∧ w'.cell? ⟨rb, 0, none⟩ = some (.int .i64 r.f) ∧ w'.cell? ⟨rb, 1, none⟩ = some (.int .i64 r.t) ∧ w'.cell? ⟨rb, 2, none⟩ = some (.int .u8 (r.p : Int))) W.drew := mkS _ kN
  refine wp_region_held_drew (S := (fun w' : World => New W w' ∧ w'.cell? ⟨rb, 0, none⟩ = some (.int .i64 r.f) ∧ w'.cell? ⟨rb, 1, none⟩ = some (.int .i64 r.t) ∧ w'.cell? ⟨rb, 2, none⟩ = some (.int .u8 (r.p : Int)))) (by kernel_rfl) hS (fun _ => ?_)
  refine wpAnyH_take (i := 0) (v := ?_) rfl (by kernel_rfl) (by kernel_rfl) (by kernel_rfl) (fun _ _ _ h => h) (Or.inl ⟨by rfl, ?_⟩) hS ?_
  rotate_left
  · intro w hSw
    try dsimp only at hSw
    go_simp
    try with_reducible rfl
  try simp only [Act.put, List.setIfInBounds_toArray, List.set_cons_zero, List.set_cons_succ, List.getElem_toArray, List.getElem_cons_zero]
  refine wpAnyH_take (i := 1) (v := ?_) rfl (by kernel_rfl) (by kernel_rfl) (by kernel_rfl) (fun _ _ _ h => h) (Or.inl ⟨by rfl, ?_⟩) hS ?_
  rotate_left
  · intro w hSw
    try dsimp only at hSw
    go_simp
    try with_reducible rfl
  try simp only [Act.put, List.setIfInBounds_toArray, List.set_cons_zero, List.set_cons_succ, List.getElem_toArray, List.getElem_cons_zero, List.getElem_cons_succ]
  refine wpAnyH_take (i := 2) (v := ?_) rfl (by kernel_rfl) (by kernel_rfl) (by kernel_rfl) (fun _ _ _ h => h) (Or.inl ⟨by rfl, ?_⟩) hS ?_
  rotate_left
  · intro w hSw
    try dsimp only at hSw
    go_simp
    try with_reducible rfl
  try simp only [Act.put, List.setIfInBounds_toArray, List.set_cons_zero, List.set_cons_succ, List.getElem_toArray, List.getElem_cons_zero, List.getElem_cons_succ]
  refine wpAnyH_take (i := 4) (v := ?_) rfl (by kernel_rfl) (by kernel_rfl) (by kernel_rfl) (fun _ _ _ h => h) (Or.inl ⟨by rfl, ?_⟩) hS ?_
  rotate_left
  · intro w hSw
    try dsimp only at hSw
    go_simp
    try with_reducible rfl
  try simp only [Act.put, List.setIfInBounds_toArray, List.set_cons_zero, List.set_cons_succ, List.getElem_toArray, List.getElem_cons_zero, List.getElem_cons_succ]
  refine wpAnyH_take (i := 6) (v := ?_) rfl (by kernel_rfl) (by kernel_rfl) (by kernel_rfl) (fun _ _ _ h => h) (Or.inl ⟨by rfl, ?_⟩) hS ?_
  rotate_left
  · intro w hSw
    try dsimp only at hSw
    go_simp
    try with_reducible rfl
  try simp only [Act.put, List.setIfInBounds_toArray, List.set_cons_zero, List.set_cons_succ, List.getElem_toArray, List.getElem_cons_zero, List.getElem_cons_succ]
  refine wpAnyH_take (i := 7) (v := ?_) rfl (by kernel_rfl) (by kernel_rfl) (by kernel_rfl) (fun _ _ _ h => h) (Or.inl ⟨by rfl, ?_⟩) hS ?_
  rotate_left
  · intro w hSw
    try dsimp only at hSw
    go_simp
    try with_reducible rfl
  try simp only [Act.put, List.setIfInBounds_toArray, List.set_cons_zero, List.set_cons_succ, List.getElem_toArray, List.getElem_cons_zero, List.getElem_cons_succ]
  refine wpAnyH_take (i := 8) (v := ?_) rfl (by kernel_rfl) (by kernel_rfl) (by kernel_rfl) (fun _ _ _ h => h) (Or.inl ⟨by rfl, ?_⟩) hS ?_
  rotate_left
  · intro w hSw
    try dsimp only at hSw
    go_simp
    try with_reducible rfl
  try simp only [Act.put, List.setIfInBounds_toArray, List.set_cons_zero, List.set_cons_succ, List.getElem_toArray, List.getElem_cons_zero, List.getElem_cons_succ]
  refine wpAnyH_ready (rs := [3, 5]) (by kernel_rfl) (by simp) (AllReadyH.cons rfl (fun K hK => ?_) (AllReadyH.cons rfl (fun K hK => ?_) (AllReadyH.nil)))
  · go_simp
    refine (QP1 _ kN).mono ?_
    rintro e W1 ⟨_, rfl, o1, n1⟩
    obtain ⟨q1, k1, rfl⟩ := o1.shape
    have kN := kN.trans n1
    have hS := mkS _ kN
    refine hK.out _ _ hS (fun _ => ?_)
    clear hK K
    try simp only [Act.put, List.setIfInBounds_toArray, List.set_cons_zero, List.set_cons_succ, List.getElem_toArray, List.getElem_cons_zero, List.getElem_cons_succ]
    refine wpAnyH_ready (rs := [5, 9]) (by kernel_rfl) (by simp) (AllReadyH.cons rfl (fun K hK => ?_) (AllReadyH.cons rfl (fun K hK => ?_) (AllReadyH.nil)))
    · go_simp
      have n2 : New W1 (W1.alloc (.cells #[.int .i64 r.f, .int .i64 r.t, .int .u8 (r.p : Int)] 33)) := (New.refl W1).alloc #[.int .i64 r.f, .int .i64 r.t, .int .u8 (r.p : Int)] 33
      have hb : Rgs (W1.alloc (.cells #[.int .i64 r.f, .int .i64 r.t, .int .u8 (r.p : Int)] 33)) (.slice (some ⟨W1.heap.size, 0, none⟩) 1 1) [r] := rgs_one W1 r _
      have o1 := o1.new n2
      have kN := kN.trans n2
      have hS := mkS _ kN
      refine hK.out _ _ hS (fun _ => ?_)
      clear hK K
      try simp only [Act.put, List.setIfInBounds_toArray, List.set_cons_zero, List.set_cons_succ, List.getElem_toArray, List.getElem_cons_zero, List.getElem_cons_succ]
      generalize (W1.alloc (.cells #[.int .i64 r.f, .int .i64 r.t, .int .u8 (r.p : Int)] 33)) = W2 at *
      generalize W1.heap.size = bb at *
      refine wpAnyH_ready (rs := [9]) (by kernel_rfl) (by simp) (AllReadyH.cons rfl (fun K hK => ?_) (AllReadyH.nil))
      · go_simp
        refine (QP2 _ kN).mono ?_
        rintro e W3 ⟨_, rfl, o2, n3⟩
        obtain ⟨q2, k2, rfl⟩ := o2.shape
        have o1 := o1.new n3
        have hb := hb.new n3
        have kN := kN.trans n3
        have hS := mkS _ kN
        refine hK.out _ _ hS (fun _ => ?_)
        clear hK K
        try simp only [Act.put, List.setIfInBounds_toArray, List.set_cons_zero, List.set_cons_succ, List.getElem_toArray, List.getElem_cons_zero, List.getElem_cons_succ]
        have hsl : Sls (W3.alloc (.cells #[.slice q1 (rpart l 0 r.f).length k1, .slice (some ⟨bb, 0, none⟩) 1 1, .slice q2 (rpart l r.t 4096).length k2] 27)) W3.heap.size [rpart l 0 r.f, [r], rpart l r.t 4096] := sls_three W3 _ _ _ _ o1.rgs hb o2.rgs
        refine wpAnyH_ready (rs := [10]) (by kernel_rfl) (by simp) (AllReadyH.cons rfl (fun K hK => ?_) AllReadyH.nil)
        go_simp
        have n8 := (New.refl W3).alloc #[.slice q1 (rpart l 0 r.f).length k1, .slice (some ⟨bb, 0, none⟩) 1 1, .slice q2 (rpart l r.t 4096).length k2] 27
        have kN := kN.trans n8
        have kN8 := kN
        have hS := mkS _ kN
        refine hK.out _ _ hS (fun _ => ?_)
        clear hK K
        try simp only [Act.put, List.setIfInBounds_toArray, List.set_cons_zero, List.set_cons_succ, List.getElem_toArray, List.getElem_cons_zero, List.getElem_cons_succ]
        refine wpAnyH_ready (rs := [11]) (by kernel_rfl) (by simp) (AllReadyH.cons rfl (fun K hK => ?_) AllReadyH.nil)
        go_simp
        refine (join_any _ _ _ 3 rfl hsl hfl (by show 3 ≤ 100; omega)).mono ?_
        rintro e W9 ⟨_, rfl, o9, n9⟩
        rw [hfe] at o9
        obtain ⟨q9, k9, rfl⟩ := o9.shape
        have kN := kN.trans n9
        have hS := mkS _ kN
        refine hK.out _ _ hS (fun _ => ?_)
        clear hK K
        try simp only [Act.put, List.setIfInBounds_toArray, List.set_cons_zero, List.set_cons_succ, List.getElem_toArray, List.getElem_cons_zero, List.getElem_cons_succ]
        refine wpAnyH_take (i := 12) (v := ?_) rfl (by kernel_rfl) (by kernel_rfl) (by kernel_rfl) (fun _ _ _ h => h) (Or.inl ⟨by rfl, ?_⟩) hS ?_
        rotate_left
        · intro w hSw
          try dsimp only at hSw
          go_simp
          try with_reducible rfl
        try simp only [Act.put, List.setIfInBounds_toArray, List.set_cons_zero, List.set_cons_succ, List.getElem_toArray, List.getElem_cons_zero, List.getElem_cons_succ]
        refine wpAnyH_done (by kernel_rfl) ?_ _
        go_wp2
        go_ret
        exact ⟨_, rfl, OwnR.more o9 (New.size (hNW.trans kN8)), hNW.trans kN⟩
    · go_simp
      refine (QP2 _ kN).mono ?_
      rintro e W2 ⟨_, rfl, o2, n2⟩
      obtain ⟨q2, k2, rfl⟩ := o2.shape
      have o1 := o1.new n2
      have kN := kN.trans n2
      have hS := mkS _ kN
      refine hK.out _ _ hS (fun _ => ?_)
      clear hK K
      try simp only [Act.put, List.setIfInBounds_toArray, List.set_cons_zero, List.set_cons_succ, List.getElem_toArray, List.getElem_cons_zero, List.getElem_cons_succ]
      refine wpAnyH_ready (rs := [5]) (by kernel_rfl) (by simp) (AllReadyH.cons rfl (fun K hK => ?_) (AllReadyH.nil))
      · go_simp
        have n3 : New W2 (W2.alloc (.cells #[.int .i64 r.f, .int .i64 r.t, .int .u8 (r.p : Int)] 33)) := (New.refl W2).alloc #[.int .i64 r.f, .int .i64 r.t, .int .u8 (r.p : Int)] 33
        have hb : Rgs (W2.alloc (.cells #[.int .i64 r.f, .int .i64 r.t, .int .u8 (r.p : Int)] 33)) (.slice (some ⟨W2.heap.size, 0, none⟩) 1 1) [r] := rgs_one W2 r _
        have o1 := o1.new n3
        have o2 := o2.new n3
        have kN := kN.trans n3
        have hS := mkS _ kN
        refine hK.out _ _ hS (fun _ => ?_)
        clear hK K
        try simp only [Act.put, List.setIfInBounds_toArray, List.set_cons_zero, List.set_cons_succ, List.getElem_toArray, List.getElem_cons_zero, List.getElem_cons_succ]
        generalize (W2.alloc (.cells #[.int .i64 r.f, .int .i64 r.t, .int .u8 (r.p : Int)] 33)) = W3 at *
        generalize W2.heap.size = bb at *
        have hsl : Sls (W3.alloc (.cells #[.slice q1 (rpart l 0 r.f).length k1, .slice (some ⟨bb, 0, none⟩) 1 1, .slice q2 (rpart l r.t 4096).length k2] 27)) W3.heap.size [rpart l 0 r.f, [r], rpart l r.t 4096] := sls_three W3 _ _ _ _ o1.rgs hb o2.rgs
        refine wpAnyH_ready (rs := [10]) (by kernel_rfl) (by simp) (AllReadyH.cons rfl (fun K hK => ?_) AllReadyH.nil)
        go_simp
        have n8 := (New.refl W3).alloc #[.slice q1 (rpart l 0 r.f).length k1, .slice (some ⟨bb, 0, none⟩) 1 1, .slice q2 (rpart l r.t 4096).length k2] 27
        have kN := kN.trans n8
        have kN8 := kN
        have hS := mkS _ kN
        refine hK.out _ _ hS (fun _ => ?_)
        clear hK K
        try simp only [Act.put, List.setIfInBounds_toArray, List.set_cons_zero, List.set_cons_succ, List.getElem_toArray, List.getElem_cons_zero, List.getElem_cons_succ]
        refine wpAnyH_ready (rs := [11]) (by kernel_rfl) (by simp) (AllReadyH.cons rfl (fun K hK => ?_) AllReadyH.nil)
        go_simp
        refine (join_any _ _ _ 3 rfl hsl hfl (by show 3 ≤ 100; omega)).mono ?_
        rintro e W9 ⟨_, rfl, o9, n9⟩
        rw [hfe] at o9
        obtain ⟨q9, k9, rfl⟩ := o9.shape
        have kN := kN.trans n9
        have hS := mkS _ kN
        refine hK.out _ _ hS (fun _ => ?_)
        clear hK K
        try simp only [Act.put, List.setIfInBounds_toArray, List.set_cons_zero, List.set_cons_succ, List.getElem_toArray, List.getElem_cons_zero, List.getElem_cons_succ]
        refine wpAnyH_take (i := 12) (v := ?_) rfl (by kernel_rfl) (by kernel_rfl) (by kernel_rfl) (fun _ _ _ h => h) (Or.inl ⟨by rfl, ?_⟩) hS ?_
        rotate_left
        · intro w hSw
          try dsimp only at hSw
          go_simp
          try with_reducible rfl
        try simp only [Act.put, List.setIfInBounds_toArray, List.set_cons_zero, List.set_cons_succ, List.getElem_toArray, List.getElem_cons_zero, List.getElem_cons_succ]
        refine wpAnyH_done (by kernel_rfl) ?_ _
        go_wp2
        go_ret
        exact ⟨_, rfl, OwnR.more o9 (New.size (hNW.trans kN8)), hNW.trans kN⟩
  · go_simp
    have n1 : New W.drew (W.alloc (.cells #[.int .i64 r.f, .int .i64 r.t, .int .u8 (r.p : Int)] 33)).drew := (New.refl W.drew).alloc #[.int .i64 r.f, .int .i64 r.t, .int .u8 (r.p : Int)] 33
    have hb : Rgs (W.alloc (.cells #[.int .i64 r.f, .int .i64 r.t, .int .u8 (r.p : Int)] 33)).drew (.slice (some ⟨W.heap.size, 0, none⟩) 1 1) [r] := rgs_one W.drew r _
    have kN := kN.trans n1
    have hS := mkS _ kN
    refine hK.out _ _ hS (fun _ => ?_)
    clear hK K
    try simp only [Act.put, List.setIfInBounds_toArray, List.set_cons_zero, List.set_cons_succ, List.getElem_toArray, List.getElem_cons_zero, List.getElem_cons_succ]
    generalize (W.alloc (.cells #[.int .i64 r.f, .int .i64 r.t, .int .u8 (r.p : Int)] 33)).drew = W1 at *
    generalize W.heap.size = bb at *
    refine wpAnyH_ready (rs := [3]) (by kernel_rfl) (by simp) (AllReadyH.cons rfl (fun K hK => ?_) (AllReadyH.nil))
    · go_simp
      refine (QP1 _ kN).mono ?_
      rintro e W2 ⟨_, rfl, o1, n2⟩
      obtain ⟨q1, k1, rfl⟩ := o1.shape
      have hb := hb.new n2
      have kN := kN.trans n2
      have hS := mkS _ kN
      refine hK.out _ _ hS (fun _ => ?_)
      clear hK K
      try simp only [Act.put, List.setIfInBounds_toArray, List.set_cons_zero, List.set_cons_succ, List.getElem_toArray, List.getElem_cons_zero, List.getElem_cons_succ]
      refine wpAnyH_ready (rs := [9]) (by kernel_rfl) (by simp) (AllReadyH.cons rfl (fun K hK => ?_) (AllReadyH.nil))
      · go_simp
        refine (QP2 _ kN).mono ?_
        rintro e W3 ⟨_, rfl, o2, n3⟩
        obtain ⟨q2, k2, rfl⟩ := o2.shape
        have hb := hb.new n3
        have o1 := o1.new n3
        have kN := kN.trans n3
        have hS := mkS _ kN
        refine hK.out _ _ hS (fun _ => ?_)
        clear hK K
        try simp only [Act.put, List.setIfInBounds_toArray, List.set_cons_zero, List.set_cons_succ, List.getElem_toArray, List.getElem_cons_zero, List.getElem_cons_succ]
        have hsl : Sls (W3.alloc (.cells #[.slice q1 (rpart l 0 r.f).length k1, .slice (some ⟨bb, 0, none⟩) 1 1, .slice q2 (rpart l r.t 4096).length k2] 27)) W3.heap.size [rpart l 0 r.f, [r], rpart l r.t 4096] := sls_three W3 _ _ _ _ o1.rgs hb o2.rgs
        refine wpAnyH_ready (rs := [10]) (by kernel_rfl) (by simp) (AllReadyH.cons rfl (fun K hK => ?_) AllReadyH.nil)
        go_simp
        have n8 := (New.refl W3).alloc #[.slice q1 (rpart l 0 r.f).length k1, .slice (some ⟨bb, 0, none⟩) 1 1, .slice q2 (rpart l r.t 4096).length k2] 27
        have kN := kN.trans n8
        have kN8 := kN
        have hS := mkS _ kN
        refine hK.out _ _ hS (fun _ => ?_)
        clear hK K
        try simp only [Act.put, List.setIfInBounds_toArray, List.set_cons_zero, List.set_cons_succ, List.getElem_toArray, List.getElem_cons_zero, List.getElem_cons_succ]
        refine wpAnyH_ready (rs := [11]) (by kernel_rfl) (by simp) (AllReadyH.cons rfl (fun K hK => ?_) AllReadyH.nil)
        go_simp
        refine (join_any _ _ _ 3 rfl hsl hfl (by show 3 ≤ 100; omega)).mono ?_
        rintro e W9 ⟨_, rfl, o9, n9⟩
        rw [hfe] at o9
        obtain ⟨q9, k9, rfl⟩ := o9.shape
        have kN := kN.trans n9
        have hS := mkS _ kN
        refine hK.out _ _ hS (fun _ => ?_)
        clear hK K
        try simp only [Act.put, List.setIfInBounds_toArray, List.set_cons_zero, List.set_cons_succ, List.getElem_toArray, List.getElem_cons_zero, List.getElem_cons_succ]
        refine wpAnyH_take (i := 12) (v := ?_) rfl (by kernel_rfl) (by kernel_rfl) (by kernel_rfl) (fun _ _ _ h => h) (Or.inl ⟨by rfl, ?_⟩) hS ?_
        rotate_left
        · intro w hSw
          try dsimp only at hSw
          go_simp
          try with_reducible rfl
        try simp only [Act.put, List.setIfInBounds_toArray, List.set_cons_zero, List.set_cons_succ, List.getElem_toArray, List.getElem_cons_zero, List.getElem_cons_succ]
        refine wpAnyH_done (by kernel_rfl) ?_ _
        go_wp2
        go_ret
        exact ⟨_, rfl, OwnR.more o9 (New.size (hNW.trans kN8)), hNW.trans kN⟩
end Go.Proofs.YtfkjgbenjdmedaaDoor
