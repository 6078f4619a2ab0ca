/- What the document's own answers on frames of bytes make of a list of notes, further: a frame made 0, and copied. Contracts, for any list of notes, in any world, behind which there are only new blocks. -/
import Derived.Test.YtnlmjjofpkpkaaaDoorPhJ
namespace Go.Proofs.YtnlmjjofpkpkaaaDoor
open Go.RowKit
set_option linter.unusedVariables false
set_option maxRecDepth 100000
section
variable {S : Nat → Prop} {w : World}
set_option maxHeartbeats 2000000 in
theorem rzero_arg (many : Nat) (v : Value) (L : List Nt) (m : Int) (h : Notes S w v L) (hm : ¬ (0 ≤ m ∧ m < many)) :
    Calls Tryd.prog 15 #[.agg #[.int .i64 many, v], .int .i64 m] w (FrmN S many L [.int .i64 22] w) := by
  have HN := Lib.hid h
  obtain ⟨p, cap, rfl, hlc, hcm⟩ := h.shape
  have X := rhas_no many m (.slice p L.length cap) ((w.alloc (.cells #[.int .i64 many, .slice p L.length cap] 39)).alloc (.cells #[.int .i64 0, .slice none 0 0] 39)) hm
  clear h hm
  go_enter Tryd.func15, Tryd.ntmps15
  go_wp2_with (go_at_call 21; (with_reducible refine X.mono ?_); rintro e w1 ⟨rfl, n1⟩; obtain ⟨n0, s0, b0, b1, b2, b3, b4, b5, b6, b7⟩ := box_two n1)
  refine bodyPost_ret (v := .tuple #[.agg #[.int .i64 many, .slice p L.length cap], .int .i64 22]) (by obtain ⟨e1, e2⟩ := set_two b4 b5 (.int .i64 many) (.slice p L.length cap); simp [results, Tryd.results15, go_sem, e1, e2]) rfl ⟨_, rfl, ?_, ?_⟩
  · exact HN.out.new ((n0.setAt _ _ (by omega) _).setAt _ _ (by omega) _)
  · exact (n0.setAt _ _ (by omega) _).setAt _ _ (by omega) _
set_option maxHeartbeats 2000000 in
theorem rcopy_arg (many : Nat) (v : Value) (L : List Nt) (m k : Int) (h : Notes S w v L) (hm : ¬ (0 ≤ m ∧ m < many) ∨ ¬ (0 ≤ k ∧ k < many)) :
    Calls Tryd.prog 16 #[.agg #[.int .i64 many, v], .int .i64 m, .int .i64 k] w (FrmN S many L [.int .i64 22] w) := by
  have HN := Lib.hid h
  obtain ⟨p, cap, rfl, hlc, hcm⟩ := h.shape
  by_cases c : 0 ≤ m ∧ m < many
  · have Y := fun W => rhas_no many k (.slice p L.length cap) W (hm.resolve_left (fun g => g c))
    obtain ⟨j, rfl⟩ := Int.eq_ofNat_of_zero_le c.1
    have X := rhas_yes many j (.slice p L.length cap) ((w.alloc (.cells #[.int .i64 many, .slice p L.length cap] 39)).alloc (.cells #[.int .i64 0, .slice none 0 0] 39)) (by omega)
    clear h hm c
    go_enter Tryd.func16, Tryd.ntmps16
    go_wp2_with (first
      | (go_at_call 21; (with_reducible refine X.mono ?_); rintro e w1 ⟨rfl, n1⟩; obtain ⟨n0, s0, b0, b1, b2, b3, b4, b5, b6, b7⟩ := box_two n1; clear X)
      | (go_at_call 21; (with_reducible refine (Y w1).mono ?_); rintro e w2 ⟨rfl, n2⟩; obtain ⟨n3, s3, c0, c1, c2, c3, c4, c5, c6, c7⟩ := box_two (n1.trans n2); clear b0 b1 b2 b3 b4 b5 b6 b7))
    refine bodyPost_ret (v := .tuple #[.agg #[.int .i64 many, .slice p L.length cap], .int .i64 22]) (by obtain ⟨e1, e2⟩ := set_two c4 c5 (.int .i64 many) (.slice p L.length cap); simp [results, Tryd.results16, go_sem, e1, e2]) rfl ⟨_, rfl, ?_, ?_⟩
    · exact HN.out.new ((n3.setAt _ _ (by omega) _).setAt _ _ (by omega) _)
    · exact (n3.setAt _ _ (by omega) _).setAt _ _ (by omega) _
  · have X := rhas_no many m (.slice p L.length cap) ((w.alloc (.cells #[.int .i64 many, .slice p L.length cap] 39)).alloc (.cells #[.int .i64 0, .slice none 0 0] 39)) c
    clear h hm c
    go_enter Tryd.func16, Tryd.ntmps16
    go_wp2_with (go_at_call 21; (with_reducible refine X.mono ?_); rintro e w1 ⟨rfl, n1⟩; obtain ⟨n0, s0, b0, b1, b2, b3, b4, b5, b6, b7⟩ := box_two n1)
    refine bodyPost_ret (v := .tuple #[.agg #[.int .i64 many, .slice p L.length cap], .int .i64 22]) (by obtain ⟨e1, e2⟩ := set_two b4 b5 (.int .i64 many) (.slice p L.length cap); simp [results, Tryd.results16, go_sem, e1, e2]) rfl ⟨_, rfl, ?_, ?_⟩
    · exact HN.out.new ((n0.setAt _ _ (by omega) _).setAt _ _ (by omega) _)
    · exact (n0.setAt _ _ (by omega) _).setAt _ _ (by omega) _
theorem rd_oct {L : List Nt} (h : ∀ n ∈ L, Oct n.bs) (f o n : Nat) : Oct (rd L f o n) := fun x hx => by
  simp only [rd, List.mem_map] at hx
  obtain ⟨i, _, rfl⟩ := hx
  exact byteAt_oct h f _
set_option maxHeartbeats 4000000 in
theorem rcopy_ok (many i k : Nat) (v : Value) (L : List Nt) (h : Notes S w v L) (hS : ∀ k, w.heap.size ≤ k → S k) (hi : i < many) (hk : k < many) (hm : many ≤ 1024) (hl : L.length ≤ 1000000) (hs : Small L) :
    Calls Tryd.prog 16 #[.agg #[.int .i64 many, v], .int .i64 i, .int .i64 k] w (FrmN S many (L ++ [nt i 0 (rd L k 0 256)]) [.int .i64 0] w) := by
  obtain ⟨p, cap, rfl, hlc, hcm⟩ := h.shape
  have X := rhas_yes many i (.slice p L.length cap) ((w.alloc (.cells #[.int .i64 many, .slice p L.length cap] 39)).alloc (.cells #[.int .i64 0, .slice none 0 0] 39)) hi
  have Y := fun W => rhas_yes many k (.slice p L.length cap) W hk
  have HO := Lib.hid (rd_oct h.oct k 0 256)
  obtain ⟨T, hT⟩ : ∃ T : Nat → Prop, T = fun k => S k ∧ (k < w.heap.size ∨ w.heap.size + 2 ≤ k) := ⟨_, rfl⟩
  have HN := Lib.hid (h.mono (T := T) (fun i h1 h2 => by rw [hT]; exact ⟨h2, .inl h1⟩))
  have HT1 := Lib.hid (show ∀ k, w.heap.size + 2 ≤ k → T k from fun k hk => by rw [hT]; exact ⟨hS k (by omega), .inr hk⟩)
  have HT2 := Lib.hid (show ¬ T w.heap.size ∧ ¬ T (w.heap.size + 1) by rw [hT]; exact ⟨fun q => by omega, fun q => by omega⟩)
  have HT3 := Lib.hid (show ∀ k, T k → S k from fun k hk => by rw [hT] at hk; exact hk.1)
  have HS := Lib.hid hs
  unfold maxLen at hcm
  clear h hT hS hs
  go_enter Tryd.func16, Tryd.ntmps16
  go_wp2_with (first
    | (go_at_call 21; (with_reducible refine X.mono ?_); rintro e w1 ⟨rfl, n1⟩; obtain ⟨n0, s0, b0, b1, b2, b3, b4, b5, b6, b7⟩ := box_two n1; clear X)
    | (go_at_call 21; (with_reducible refine (Y w1).mono ?_); rintro e w2 ⟨rfl, n2⟩; obtain ⟨m0, t0, c0, c1, c2, c3, c4, c5, c6, c7⟩ := box_two (n1.trans n2); clear b0 b1 b2 b3 b4 b5 b6 b7 Y))
  have R : Calls Tryd.prog 17 #[.agg #[.int .i64 many, .slice p L.length cap], .int .i64 k, .int .i64 0, .int .i64 256] w2 (AnsB (rd L k 0 256) w2) := rread_any many k (.slice p L.length cap) L 0 256 (HN.out.new m0) hl HS.out hk hm (by omega)
  refine R.mono ?_
  rintro e w3 ⟨v3, rfl, o3, n3⟩
  obtain ⟨l0, t1, d0, d1, d2, d3, d4, d5, d6, d7⟩ := box_two ((n1.trans n2).trans n3)
  have HU := Lib.hid (o3.outer (S := T) HO.out (fun k hk _ => HT1.out k (by omega)))
  obtain ⟨p3, c3', e3⟩ := o3.shape
  rw [rd_len] at e3
  subst e3
  have N3 := Lib.hid (HN.out.new l0)
  clear R c0 c1 c2 c3 c4 c5 c6 c7 o3 m0
  go_wp2_with fail
  have W : Calls Tryd.prog 14 #[.agg #[.int .i64 many, .slice p L.length cap], .int .i64 i, .int .i64 0, .slice p3 256 c3'] w3 (FrmN T many (L ++ [nt i 0 (rd L k 0 256)]) [.int .i64 0] w3) :=
    rwrite_ok many i 0 (.slice p L.length cap) (.slice p3 256 c3') L (rd L k 0 256) N3.out (fun k hk => HT1.out k (by omega)) HU.out hi hm (by rw [rd_len]; omega) hl
  refine W.mono ?_
  rintro e w4 ⟨v4, he, o4, n4⟩
  obtain ⟨p4, c4', e4, _, hc4⟩ := o4.shape
  generalize (L ++ [nt i 0 (rd L k 0 256)]).length = k2 at *
  subst e4
  unfold maxLen at hc4
  obtain rfl : e = .returned (.tuple #[.agg #[.int .i64 many, .slice p4 k2 c4'], .int .i64 0]) := he
  obtain ⟨m4, t4, q0, q1, q2, q3, q4, q5, q6, q7⟩ := box_two (((n1.trans n2).trans n3).trans n4)
  have O4 := Lib.hid o4
  clear W o4 d0 d1 d2 d3 d4 d5 d6 d7 N3
  go_wp2_with fail
  refine bodyPost_ret (v := .tuple #[.agg #[.int .i64 many, .slice p4 k2 c4'], .int .i64 0]) (by obtain ⟨e1, e2⟩ := set_two q4 q5 (.int .i64 many) (.slice p4 k2 c4'); simp [results, Tryd.results16, go_sem, e1, e2]) rfl ⟨_, rfl, ?_, ?_⟩
  · refine Notes.mono (S := T) ?_ (fun i _ hi => HT3.out i hi)
    exact (O4.out.gap (Gap.of_far (Far.set _ _ _ _) HT2.out.2)).gap (Gap.of_far (Far.set _ _ _ _) HT2.out.2)
  · exact (m4.setAt _ _ (by omega) _).setAt _ _ (by omega) _
set_option maxHeartbeats 4000000 in
theorem rzero_ok (many f : Nat) (v : Value) (L : List Nt) (h : Notes S w v L) (hS : ∀ k, w.heap.size ≤ k → S k) (hf : f < many) (hm : many ≤ 1024) (hl : L.length ≤ 1000000) :
    Calls Tryd.prog 15 #[.agg #[.int .i64 many, v], .int .i64 f] w (FrmN S many (L ++ [nt f 0 (List.replicate 256 0)]) [.int .i64 0] w) := by
  obtain ⟨p, cap, rfl, hlc, hcm⟩ := h.shape
  have X := rhas_yes many f (.slice p L.length cap) ((w.alloc (.cells #[.int .i64 many, .slice p L.length cap] 39)).alloc (.cells #[.int .i64 0, .slice none 0 0] 39)) hf
  obtain ⟨T, hT⟩ : ∃ T : Nat → Prop, T = fun k => S k ∧ (k < w.heap.size ∨ w.heap.size + 2 ≤ k) := ⟨_, rfl⟩
  have HN := Lib.hid (h.mono (T := T) (fun i h1 h2 => by rw [hT]; exact ⟨h2, .inl h1⟩))
  have HT1 := Lib.hid (show ∀ k, w.heap.size + 2 ≤ k → T k from fun k hk => by rw [hT]; exact ⟨hS k (by omega), .inr hk⟩)
  have HT2 := Lib.hid (show ¬ T w.heap.size ∧ ¬ T (w.heap.size + 1) by rw [hT]; exact ⟨fun q => by omega, fun q => by omega⟩)
  have HT3 := Lib.hid (show ∀ k, T k → S k from fun k hk => by rw [hT] at hk; exact hk.1)
  have hmk : ∀ W : World, (Instr.makeSlice 24 (.int .i64 256) (.int .i64 256)).run Tryd.prog W = .ok (.slice (some ⟨W.heap.size, 0, none⟩) 256 256) (W.alloc (.cells (madeCells #[Value.int .u8 0] 256) 5)) :=
    run_make_row' (P := Tryd.prog) 24 5 (.int .u8 0) 1 Tryd.underlying24 byte_info rfl .i64 .i64 256 (by omega) (by omega)
  rw [made_byte] at hmk
  obtain ⟨Z, hZ⟩ : ∃ Z, Z = List.replicate 256 (0 : Int) := ⟨_, rfl⟩
  rw [← hZ] at hmk ⊢
  have HZ := Lib.hid (show Oct Z by rw [hZ]; exact Oct.zeros _)
  have HZl := Lib.hid (show Z.length = 256 by rw [hZ]; simp)
  unfold maxLen at hcm
  clear h hT hS hZ
  go_enter Tryd.func15, Tryd.ntmps15
  go_wp2_with (go_at_call 21; (with_reducible refine X.mono ?_); rintro e w1 ⟨rfl, n1⟩; obtain ⟨n0, s0, b0, b1, b2, b3, b4, b5, b6, b7⟩ := box_two n1; clear X)
  have W : ∀ w2, New w1 w2 → Blk8 w2 w1.heap.size Z → Calls Tryd.prog 14 #[.agg #[.int .i64 many, .slice p L.length cap], .int .i64 f, .int .i64 0, .slice (some ⟨w1.heap.size, 0, none⟩) 256 256] w2 (FrmN T many (L ++ [nt f 0 Z]) [.int .i64 0] w2) := by
    intro w2 n2 hz
    have hU : BytsO T w2 (.slice (some ⟨w1.heap.size, 0, none⟩) Z.length 256) Z := hz.outer HZ.out (HT1.out _ s0) (by rw [HZl.out]; decide)
    rw [HZl.out] at hU
    exact rwrite_ok many f 0 (.slice p L.length cap) (.slice (some ⟨w1.heap.size, 0, none⟩) 256 256) L Z (HN.out.new (n0.trans n2)) (fun k hk => HT1.out k (by have := n2.size; omega)) hU hf hm (by rw [HZl.out]; omega) hl
  have W1 := W (w1.alloc (.cells (cells8 Z).toArray 5)).drew ((New.refl w1).alloc _ _).drew (heap_alloc_new w1 _)
  clear W
  have W2 : Calls Tryd.prog 14 #[.agg #[.int .i64 many, .slice p L.length cap], .int .i64 f, .int .i64 0, .slice (some ⟨w1.heap.size, 0, none⟩) 256 256] (w1.alloc (.cells (cells8 Z).toArray 5)).drew
      fun e w3 => ∃ p3 k3 c3, e = .returned (.tuple #[.agg #[.int .i64 many, .slice p3 k3 c3], .int .i64 0]) ∧ c3 ≤ 9223372036854775807 ∧ k3 ≤ c3 ∧ Notes T w3 (.slice p3 k3 c3) (L ++ [nt f 0 Z]) ∧ New w1 w3 := by
    refine W1.mono ?_
    rintro e w3 ⟨v3, he, o3, n3⟩
    obtain ⟨p3, c3, e3, hk3, hc3⟩ := o3.shape
    unfold maxLen at hc3
    subst e3
    exact ⟨p3, _, c3, he, hc3, hk3, o3, ((New.refl w1).alloc _ _).drew.trans n3⟩
  have KA := Lib.hid (box_two (n1.trans ((New.refl w1).alloc (cells8 Z).toArray 5).drew))
  clear W1
  go_region_held3 (fun w' => w'.cell? ⟨w.heap.size, 0, none⟩ = some (.int .i64 many) ∧ w'.cell? ⟨w.heap.size, 1, none⟩ = some (.slice p L.length cap))
    (first
      | go_keep
      | exact ⟨KA.out.2.2.1, KA.out.2.2.2.1⟩
      | exact ⟨q0, q1⟩
      | (refine ⟨?_, ?_⟩ <;> (rw [World.cell?_setCell_other _ _ _ _ (by simp), World.cell?_setCell_other _ _ _ _ (by simp)]; assumption)))
    (first
      | (go_at_call 14; (with_reducible refine W2.mono ?_); rintro e w3 ⟨p3, k3, c3, rfl, hc3, hk3, o3, n3⟩; obtain ⟨m4, t4, q0, q1, q2, q3, q4, q5, q6, q7⟩ := box_two (n1.trans n3); have O3 := Lib.hid o3; clear o3))
  go_wp2
  refine bodyPost_ret (v := .tuple #[.agg #[.int .i64 many, .slice p3 k3 c3], .int .i64 0]) (by obtain ⟨e1, e2⟩ := set_two q4 q5 (.int .i64 many) (.slice p3 k3 c3); simp [results, Tryd.results15, go_sem, e1, e2]) rfl ⟨_, rfl, ?_, ?_⟩
  · refine Notes.mono (S := T) ?_ (fun i _ hi => HT3.out i hi)
    exact (O3.out.gap (Gap.of_far (Far.set _ _ _ _) HT2.out.2)).gap (Gap.of_far (Far.set _ _ _ _) HT2.out.2)
  · exact (m4.setAt _ _ (by omega) _).setAt _ _ (by omega) _
end
end Go.Proofs.YtnlmjjofpkpkaaaDoor
