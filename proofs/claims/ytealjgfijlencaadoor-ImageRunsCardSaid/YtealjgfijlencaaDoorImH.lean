/- Programs as bytes: what must come whatever the input is. -/
import Derived.Test.YtealjgfijlencaaDoorImP
import Derived.Lib.SlBytesConst
namespace Go.Proofs.YtealjgfijlencaaDoor
open Go.RowKit Go.Joins
set_option linter.unusedVariables false
set_option maxRecDepth 100000
def suL : List Sg := [⟨1, 2, 5, [0, 0, 0, 29]⟩]
theorem su_ok : imOk 256 suL = true := by decide
theorem su_b : SgsB suL := fun s hs => by
  rw [suL, List.mem_singleton] at hs
  subst hs
  refine ⟨by decide, by decide, by decide, fun x hx => ?_⟩
  simp only [List.mem_cons, List.not_mem_nil, or_false] at hx
  rcases hx with rfl | rfl | rfl | rfl <;> decide
theorem su_len : (imB 256 suL).length = 20 := by decide
theorem su_d : dE (imB 256 suL) = 256 ∧ dL (imB 256 suL) = suL ∧ dX (imB 256 suL) = 0 := d_some (imD_imB (by decide) su_ok)
theorem su_x : dX [104, 120, 48, 49] = 8 ∧ dE [104, 120, 48, 49] = 0 ∧ dL [104, 120, 48, 49] = [] := by
  obtain ⟨a, b, c⟩ := d_none (b := [104, 120, 48, 49]) (imD_head (by decide))
  exact ⟨c, a, b⟩
theorem imT_oct {e : Int} {L : List Sg} (hb : SgsB L) : ∀ x ∈ imT e L, 0 ≤ x ∧ x ≤ 255 := by
  unfold imT
  split
  · rename_i hok
    have hp := imOk_parts hok
    intro x hx
    unfold imB at hx
    have key : ∀ (M : List Sg), (∀ s ∈ M, 0 ≤ s.p ∧ s.p ≤ 255 ∧ ∀ y ∈ s.d, 0 ≤ y ∧ y ≤ 255) → ∀ y ∈ sgsB M, 0 ≤ y ∧ y ≤ 255 := by
      intro M
      induction M with
      | nil => intro _ y hy; cases hy
      | cons s r ih =>
        intro h y hy
        rcases List.mem_append.1 (show y ∈ sgB s ++ sgsB r from hy) with hy | hy
        · have hs := h s List.mem_cons_self
          unfold sgB nb2 at hy
          simp only [List.mem_append, List.mem_cons, List.not_mem_nil, or_false] at hy
          rcases hy with (((((rfl | rfl) | (rfl | rfl)) | rfl) | (rfl | rfl)) | hy)
          · omega
          · omega
          · omega
          · omega
          · exact ⟨hs.1, hs.2.1⟩
          · omega
          · omega
          · exact hs.2.2 y hy
        · exact ih (fun s hs => h s (List.mem_cons_of_mem _ hs)) y hy
    simp only [List.mem_append, List.mem_cons, List.not_mem_nil, or_false] at hx
    rcases hx with ((hx | hx) | hx) | hx
    · rcases hx with rfl | rfl | rfl | rfl <;> decide
    · unfold nb4 at hx
      simp only [List.mem_cons, List.not_mem_nil, or_false] at hx
      rcases hx with rfl | rfl | rfl | rfl <;> omega
    · subst hx; omega
    · exact key L (fun s hs => ⟨(hb s hs).2.2.1.1, (hb s hs).2.2.1.2, (hb s hs).2.2.2⟩) x hx
  · intro x hx; cases hx
theorem byts_lit21 (w : World) (l : List Int) (fr : Nat × Nat) (hl : l.length ≤ 4096) : Byts (w.alloc (.cells (l.map (Value.int .u8)).toArray 5 fr)) (.slice (some ⟨w.heap.size, 0, none⟩) l.length l.length) l := by
  refine ⟨_, _, rfl, ⟨Nat.le_refl _, by unfold maxLen; omega⟩, fun i hi => ⟨_, rfl, ?_⟩⟩
  rw [Addr.add_mid, Nat.zero_add]
  have : (w.alloc (.cells (l.map (Value.int .u8)).toArray 5 fr)).heap[w.heap.size]? = some (.cells (l.map (Value.int .u8)).toArray 5 fr) := by
    show (w.heap.push _)[w.heap.size]? = _
    simp
  unfold World.cell?
  simp only [this]
  simp [hi]
set_option maxHeartbeats 4000000 in
theorem imsure_any (w : World) (hl : Laid w) : Calls Tryd.prog 6 #[] w fun e w' => e = .returned (.bool true) ∧ New w w' := by
  obtain ⟨D, hD⟩ : ∃ D, D = (w.alloc (.cells #[.int .u8 0, .int .u8 0, .int .u8 0, .int .u8 29] 5)).alloc (.cells #[.int .i64 1, .int .i64 2, .int .u8 5, .slice (some ⟨w.heap.size, 0, none⟩) 4 4] 50) := ⟨_, rfl⟩
  have nD : New w D := by rw [hD]; exact ((New.refl w).alloc _ _).alloc _ _
  have bD : Byts D (.slice (some ⟨w.heap.size, 0, none⟩) 4 4) [0, 0, 0, 29] := by
    rw [hD]
    exact (byts_of_block (cap := 4) (l := [0, 0, 0, 29]) (heap_alloc_new w _) (by unfold maxLen; decide)).new ((New.refl _).alloc _ _)
  have sD : Sgs RSp D (.slice (some ⟨(w.alloc (.cells #[.int .u8 0, .int .u8 0, .int .u8 0, .int .u8 29] 5)).heap.size, 0, none⟩) 1 1) suL := by
    refine ⟨[[.int .i64 1, .int .i64 2, .int .u8 5, .slice (some ⟨w.heap.size, 0, none⟩) 4 4]], ?_, rfl, fun i hi hi' => ?_⟩
    · rw [hD]
      exact Rws.single (R := RSp) rfl (fun x hx => by
        simp only [List.mem_cons, List.not_mem_nil, or_false] at hx
        rcases hx with rfl | rfl | rfl | rfl <;> rfl) (heap_alloc_new _ _)
    · obtain rfl : i = 0 := by simpa using hi
      exact ⟨_, rfl, bD⟩
  rw [World.size_alloc] at sD
  have cE := penc_im sD su_b 256 (by decide)
  rw [show imE 256 suL = 0 from if_pos su_ok, show imT 256 suL = imB 256 suL from if_pos su_ok, erN_zero] at cE
  have hoct := imT_oct (e := 256) su_b
  rw [show imT 256 suL = imB 256 suL from if_pos su_ok] at hoct
  have cD := fun W v (k : Byts W v (imB 256 suL)) => pdec_im k hoct
  simp only [su_d.1, su_d.2.1, su_d.2.2, erN_zero] at cD
  have cX := fun W v (k : Byts W v [104, 120, 48, 49]) => pdec_im k (by decide)
  simp only [su_x.1, su_x.2.1, su_x.2.2, erN_pos (show (8 : Int) ≠ 0 by decide)] at cX
  have cN := fun W (k : New w W) => num_er 8 W (hl.new k)
  simp only [erN_pos (show (8 : Int) ≠ 0 by decide)] at cN
  have CD := Lib.hid cD
  have CX := Lib.hid cX
  have CN := Lib.hid cN
  have ND := Lib.hid nD
  have HL := Lib.hid su_len
  clear hoct bD sD nD cD cX cN hl
  generalize imB 256 suL = ib at *
  go_enter Tryd.func6, Tryd.ntmps6
  go_wp2_with fail
  rw [← hD]
  clear hD
  refine cE.mono ?_
  rintro e w1 ⟨bv, rfl, ob, n1⟩
  obtain ⟨pb, kb, rfl⟩ := ob.shape
  simp only [HL.out] at ob ⊢
  have N1 := Lib.hid (ND.out.trans n1)
  have hob := ob.byts
  clear n1 cE ob
  go_wp2_with fail
  refine (CD.out _ _ hob).mono ?_
  rintro e w2 ⟨sv, rfl, s2, n2⟩
  obtain ⟨q, c, rfl, -, -⟩ := s2.sgs.shape
  have SS := Lib.hid (fun W (k : New w2 W) => (s2.sgs.new k).cells rfl 0 (by decide))
  have N2 := Lib.hid (N1.out.trans n2)
  have BX := Lib.hid (fun W (k : New (w2.alloc (.cells #[.int .u32 256, .slice q suL.length c] 36)) W) => (Box.here w2 w2.heap.size #[.int .u32 256, .slice q suL.length c] 36 rfl).new k)
  have kI := (New.refl w2).alloc #[.int .u32 256, .slice q suL.length c] 36
  have CV : (convert 26 26 (.slice (some ⟨(w2.alloc (.cells #[.int .u32 256, .slice q suL.length c] 36)).heap.size, 0, none⟩) 4 4)).run Tryd.prog ((w2.alloc (.cells #[.int .u32 256, .slice q suL.length c] 36)).alloc (.cells #[.int .u8 104, .int .u8 120, .int .u8 48, .int .u8 49] 5)) = .ok (.slice (some ⟨(w2.alloc (.cells #[.int .u32 256, .slice q suL.length c] 36)).heap.size, 0, none⟩) 4 4) ((w2.alloc (.cells #[.int .u32 256, .slice q suL.length c] 36)).alloc (.cells #[.int .u8 104, .int .u8 120, .int .u8 48, .int .u8 49] 5 (4, 5))) := Go.Lib.run_convert_bytes_const _ 26 5 #[.int .u8 104, .int .u8 120, .int .u8 48, .int .u8 49] 4 4 Tryd.underlying26 Tryd.underlying5
  have BY := byts_lit21 (w2.alloc (.cells #[.int .u32 256, .slice q suL.length c] 36)) [104, 120, 48, 49] (4, 5) (by simp)
  have aN : New (w2.alloc (.cells #[.int .u32 256, .slice q suL.length c] 36)) ((w2.alloc (.cells #[.int .u32 256, .slice q suL.length c] 36)).alloc (.cells #[.int .u8 104, .int .u8 120, .int .u8 48, .int .u8 49] 5 (4, 5))) := (New.refl _).allocO _
  rw [World.size_alloc] at CV BY
  have AN := Lib.hid aN
  have BYH := Lib.hid BY
  clear kI aN BY
  clear s2 n2 hob CD N1
  go_wp2_with fail
  refine (CX.out _ _ BYH.out).mono ?_
  rintro e w3 ⟨sx, rfl, s3, n3⟩
  obtain ⟨qx, cx, rfl, -, -⟩ := s3.sgs.shape
  have k3 : New (w2.alloc (.cells #[.int .u32 256, .slice q suL.length c] 36)) w3 := AN.out.trans n3
  have k2 : New w2 w3 := ((New.refl w2).alloc _ _).trans k3
  have N3 := Lib.hid (N2.out.trans k2)
  have K3 := Lib.hid k3
  have K2 := Lib.hid k2
  clear n3 s3 CX k3 k2 CV
  go_upto_region 4 with fail
  obtain ⟨W, hW⟩ : ∃ W, W = w3.alloc (.cells #[.int .u32 0, .slice qx 0 cx] 36) := ⟨_, rfl⟩
  have nW : New w3 W := by rw [hW]; exact (New.refl w3).alloc _ _
  have hx := BX.out W (K3.out.trans nW)
  obtain ⟨a, qd, cd, rfl, d0, d1, d2, d3, -⟩ := SS.out W (K2.out.trans nW)
  rw [show a.add (0 * 4 + 1) = ⟨a.block, a.off + 1, none⟩ from fadl a 1 (by decide)] at d1
  obtain ⟨x0, x1⟩ := hx.two
  have cn := CN.out W (N3.out.trans nW)
  have NW := Lib.hid (N3.out.trans nW)
  clear d0 d2 d3 hx nW
  rw [← hW]
  clear hW
  go_wp2_with fail
  refine cn.mono ?_
  rintro e w4 ⟨rfl, n4⟩
  go_wp2
  go_ret
  exact ⟨rfl, NW.out.trans n4⟩
end Go.Proofs.YtealjgfijlencaaDoor
