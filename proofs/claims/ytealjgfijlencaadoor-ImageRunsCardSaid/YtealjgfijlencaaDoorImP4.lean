/- Programs as bytes, the package's: Encode. -/
import Derived.Test.YtealjgfijlencaaDoorImP3
namespace Go.Proofs.YtealjgfijlencaaDoor
open Go.RowKit Go.Joins
set_option linter.unusedVariables false
set_option linter.unusedSimpArgs false
set_option maxRecDepth 100000
theorem OwnB.ne_box {base : Nat} {w : World} {v : Value} {l : List Int} {b : Nat} {cs : Array Value} {t : TypeId} (h : OwnB base w v l) (k : Box w b cs t) (ht : t ≠ 5) : ∀ g, v.ownBlock = some g → g ≠ b := by
  intro g hg
  rcases h.2 with ⟨rfl, hn⟩ | ⟨g', cap, cur, rfl, hb, hgc, rest⟩
  · cases hg
  · have : g' = g := by simpa [Value.ownBlock] using hg
    subst this
    rintro rfl
    unfold Box at k
    rw [hgc] at k
    cases k
    exact ht rfl
theorem nbL_one (n : Int) (h : 0 ≤ n ∧ n ≤ 255) : nbL n 1 = [n] := by
  show [n % 256] = [n]
  rw [show n % 256 = n by omega]
theorem enc_head (e : Int) (n : Int) (h : 0 ≤ n ∧ n ≤ 255) : [104, 120, 48, 49] ++ nbL e 4 ++ nbL n 1 = [104, 120, 48, 49] ++ nb4 e ++ [n] := by rw [nbL_one n h, nbL_four]
theorem enc_step (X : List Int) (L : List Sg) (j : Nat) (hj : j < L.length) (hd : List Int) (hX : X = hd ++ sgsB (L.take j)) (hp : 0 ≤ L[j].p ∧ L[j].p ≤ 255) :
    X ++ nbL L[j].f 2 ++ nbL L[j].t 2 ++ nbL L[j].p 1 ++ nbL (L[j].d.length : Int) 2 ++ L[j].d = hd ++ sgsB (L.take (j + 1)) := by
  rw [take_push L j hj, sgsB_app, hX, nbL_one _ hp, nbL_two, nbL_two, nbL_two]
  show _ = hd ++ (sgsB (L.take j) ++ (sgB L[j] ++ []))
  unfold sgB
  simp only [List.append_assoc, List.append_nil]
set_option maxHeartbeats 8000000 in
theorem penc_im {w : World} {v : Value} {L : List Sg} (h : Sgs RSp w v L) (hb : SgsB L) (e : Int) (he : 0 ≤ e ∧ e ≤ 4294967295) : Calls Tryd.prog 7 #[.agg #[.int .u32 e, v]] w fun en w' => ∃ bv, en = .returned (.tuple #[bv, erN (imE e L)]) ∧ OwnB w.heap.size w' bv (imT e L) ∧ New w w' := by
  obtain ⟨p, cap, rfl, hcap, hm⟩ := h.shape
  unfold maxLen at hm
  obtain ⟨W, hW⟩ : ∃ W, W = w.alloc (.cells #[.int .u32 e, .slice p L.length cap] 36) := ⟨_, rfl⟩
  have nW : New w W := by rw [hW]; exact (New.refl w).alloc _ _
  have bI : Box W w.heap.size #[.int .u32 e, .slice p L.length cap] 36 := by rw [hW]; exact Box.here _ _ _ _ rfl
  have q := fun W' (k : New W W') => pcheck_im ((h.new nW).new k) hb e he
  have HS := Lib.hid h
  have HB := Lib.hid hb
  have NW := Lib.hid nW
  have BI := Lib.hid bI
  obtain ⟨i0, i1⟩ := bI.two
  by_cases hok : imOk e L = true
  · have E0 : imE e L = 0 := if_pos hok
    have T0 := Lib.hid (show imT e L = imB e L from if_pos hok)
    rw [E0, erN_zero] at q ⊢
    have hp := imOk_parts hok
    have HL8 : L.length ≤ 8 := hp.2.1
    have CM := Lib.hid (chOk_mem (Int.le_refl 0) hp.2.2.2.1)
    generalize hln : L.length = ln at *
    have HLN := Lib.hid hln
    clear h hb nW bI hln hcap hm E0 hok hp
    go_enter Tryd.func7, Tryd.ntmps7
    go_upto_region 1 with fail
    rw [← hW]
    clear hW
    go_wp2_with fail
    refine (q _ (New.refl W)).mono ?_
    rintro en w1 ⟨rfl, n1⟩
    have N1 := Lib.hid (NW.out.trans n1)
    have BI1 := Lib.hid (BI.out.new n1)
    obtain ⟨i0, i1⟩ := (BI.out.new n1).two
    clear q n1
    have CV : (convert 26 26 (.slice (some ⟨w1.heap.size, 0, none⟩) 4 4)).run Tryd.prog (w1.alloc (.cells #[.int .u8 104, .int .u8 120, .int .u8 48, .int .u8 49] 5)) = .ok (.slice (some ⟨w1.heap.size, 0, none⟩) 4 4) (w1.alloc (.cells #[.int .u8 104, .int .u8 120, .int .u8 48, .int .u8 49] 5 (4, 5))) := Go.Lib.run_convert_bytes_const _ 26 5 #[.int .u8 104, .int .u8 120, .int .u8 48, .int .u8 49] 4 4 Tryd.underlying26 Tryd.underlying5
    have BY : Byts (w1.alloc (.cells #[.int .u8 104, .int .u8 120, .int .u8 48, .int .u8 49] 5 (4, 5))) (.slice (some ⟨w1.heap.size, 0, none⟩) 4 4) [104, 120, 48, 49] := by
      refine ⟨_, _, rfl, ⟨Nat.le_refl _, by simp [maxLen]⟩, fun i hi => ⟨_, rfl, ?_⟩⟩
      rw [Addr.add_mid, Nat.zero_add]
      have : (w1.alloc (.cells #[.int .u8 104, .int .u8 120, .int .u8 48, .int .u8 49] 5 (4, 5))).heap[w1.heap.size]? = some (.cells #[.int .u8 104, .int .u8 120, .int .u8 48, .int .u8 49] 5 (4, 5)) := by
        show (w1.heap.push _)[w1.heap.size]? = _
        simp
      unfold World.cell?
      simp only [this]
      match i, hi with
      | 0, _ => rfl
      | 1, _ => rfl
      | 2, _ => rfl
      | 3, _ => rfl
    have n2 : New w1 (w1.alloc (.cells #[.int .u8 104, .int .u8 120, .int .u8 48, .int .u8 49] 5 (4, 5))) := (New.refl _).allocO _
    have c2 := play_clip (p := some ⟨w1.heap.size, 0, none⟩) (xs := [104, 120, 48, 49]) BY (by simp) e he 4 (.inr (.inr rfl))
    have BI2 := Lib.hid (BI1.out.new n2)
    have N2 := Lib.hid (N1.out.trans n2)
    clear BY n2
    go_upto_region 5 with fail
    generalize (w1.alloc (.cells #[.int .u8 104, .int .u8 120, .int .u8 48, .int .u8 49] 5 (4, 5))) = w2 at *
    obtain ⟨j0, j1⟩ := BI2.out.two
    clear i0 i1 CV
    go_wp2_with fail
    refine c2.mono ?_
    rintro en w3 ⟨u3, rfl, o3, n3⟩
    obtain ⟨p3, k3, rfl⟩ := o3.shape
    have BI3 := Lib.hid (BI2.out.new n3)
    have N3 := Lib.hid (N2.out.trans n3)
    have HBS := Lib.hid n3.size
    have M2a := Lib.hid n3
    have hw : IntKind.u32.wrap (ln : Int) = (ln : Int) := by rw [IntKind.wrap_u32]; omega
    have c3 : ∀ W, W = w3 → Calls Tryd.prog 15 #[.slice p3 ([104, 120, 48, 49] ++ nbL e 4).length k3, .int .u32 (ln : Int), .int .i64 1] W _ := fun W hW => hW ▸ play o3 n3.size (by simp [nbL_len]) (ln : Int) (by omega) 1 (.inl rfl)
    have C3 := c3 w3 rfl
    obtain ⟨j0, j1⟩ := BI3.out.two
    generalize ([104, 120, 48, 49] ++ nbL e 4).length = l3 at *
    clear c2 c3 n3 o3
    go_wp2_with fail
    refine C3.mono ?_
    rintro en w4 ⟨u4, rfl, o4, k4, x4⟩
    obtain ⟨p4, q4, rfl⟩ := o4.shape
    have M2 := Lib.hid (show New w2 w4 from x4 w2 (Nat.le_refl _) M2a.out)
    obtain ⟨j0, j1⟩ := (BI2.out.new M2.out).two
    have O4 := Lib.hid (show OwnB w2.heap.size w4 (.slice p4 ([104, 120, 48, 49] ++ nbL e 4 ++ nbL (ln : Int) 1).length q4) ([104, 120, 48, 49] ++ nb4 e ++ [(ln : Int)]) by rw [← enc_head e (ln : Int) (by omega)]; exact o4)
    have HDL : ([104, 120, 48, 49] ++ nb4 e ++ [(ln : Int)]).length = 9 := by simp [nb4]
    have HDL := Lib.hid HDL
    generalize ([104, 120, 48, 49] ++ nbL e 4 ++ nbL (ln : Int) 1).length = l4 at *
    have HFIN := Lib.hid (show imB e L = ([104, 120, 48, 49] ++ nb4 e ++ [(ln : Int)]) ++ sgsB L by unfold imB; rw [HLN.out])
    generalize [104, 120, 48, 49] ++ nb4 e ++ [(ln : Int)] = hd at *
    clear C3 k4 x4 o4 hw BI3 N3 HBS
    go_wp2_with fail
    go_loopg [5, 28] ln (fun q uv kv wr => ∃ (j : Nat) (X : List Int) (bv : Value), j + q = ln ∧ kv = .int .i64 (j : Int) ∧ uv = bv ∧ OwnB w2.heap.size wr bv X ∧ X = hd ++ sgsB (L.take j) ∧ New w2 wr)
    case atStart => exact ⟨0, hd, _, by omega, rfl, rfl, O4.out, by simp [sgsB], M2.out⟩
    case round =>
      obtain ⟨j, X, bv, hj, rfl, rfl, ho, hX, hn⟩ := hrel
      obtain ⟨pb, cb, rfl⟩ := ho.shape
      have J := Lib.hid hj
      have HO := Lib.hid ho
      have HXX := Lib.hid hX
      have HN := Lib.hid hn
      by_cases c : j < ln
      · have hjL : j < L.length := by rw [HLN.out]; exact c
        obtain ⟨a, dq, dc, rfl, e0, e1, e2, e3, db⟩ := HS.out.cells rfl j hjL
        have d0 := (N2.out.trans hn).keeps e0
        have d1 := (N2.out.trans hn).keeps e1
        have d2 := (N2.out.trans hn).keeps e2
        have d3 := (N2.out.trans hn).keeps e3
        clear e0 e1 e2 e3
        obtain ⟨m0, m1, m2, m3, m4⟩ := CM.out _ (List.getElem_mem hjL)
        have hpb := (HB.out _ (List.getElem_mem hjL)).2.2.1
        have HST := Lib.hid (enc_step X L j hjL hd hX hpb)
        have hXl : X.length ≤ 500000 := by
          rw [hX, List.length_append, HDL.out]
          have h1 := sgsB_len (L.take j) (fun s hs => (CM.out s (List.mem_of_mem_take hs)).2.2.2.2)
          rw [List.length_take] at h1
          have h2 : min j L.length ≤ 7 := by omega
          have h3 : min j L.length * 65542 ≤ 7 * 65542 := Nat.mul_le_mul_right _ h2
          omega
        rw [fad a (j * 4) 1 (by omega)] at d1
        rw [fad a (j * 4) 2 (by omega)] at d2
        rw [fad a (j * 4) 3 (by omega)] at d3
        generalize L[j] = sj at *
        obtain ⟨f, t, pp, d⟩ := sj
        dsimp only at *
        have HDB := Lib.hid db
        have HX5 := Lib.hid (show X.length ≤ 500000 ∧ d.length ≤ 65535 by omega)
        have m4' : d.length ≤ 65535 := by omega
        generalize hdl : d.length = dl at *
        have HDLEN := Lib.hid hdl
        obtain ⟨W6, hW6⟩ : ∃ W6, W6 = wr.alloc (.cells #[.int .i64 f, .int .i64 t, .int .u8 pp, .slice dq dl dc] 50) := ⟨_, rfl⟩
        have n6 : New wr W6 := by rw [hW6]; exact (New.refl wr).alloc _ _
        have B6 := Lib.hid (show Box W6 wr.heap.size #[.int .i64 f, .int .i64 t, .int .u8 pp, .slice dq dl dc] 50 by rw [hW6]; exact Box.here _ _ _ _ rfl)
        have O6 := Lib.hid (HO.out.new n6)
        have N6 := Lib.hid (HN.out.trans n6)
        have R6 := Lib.hid n6
        clear hj ho hX hn db n6 hdl hXl
        go_upto_region 10 with fail
        rw [← hW6]
        clear hW6
        clear d0 d1 d2 d3 m4
        have w1a : IntKind.u32.wrap f = f := by rw [IntKind.wrap_u32]; omega
        have w1b : IntKind.u32.wrap t = t := by rw [IntKind.wrap_u32]; omega
        have w1c : IntKind.u32.wrap pp = pp := by rw [IntKind.wrap_u32]; omega
        have w1d : IntKind.u32.wrap (dl : Int) = (dl : Int) := by rw [IntKind.wrap_u32]; omega
        have hne : 50 ≠ 5 := by decide
        -- From
        obtain ⟨s0, s1, s2, s3⟩ := B6.out.four
        have C := play O6.out N6.out.size (by have := HX5.out; omega) f (by omega) 2 (.inr (.inl rfl))
        have NB := Lib.hid (O6.out.ne_box B6.out hne)
        go_wp2_with fail
        refine C.mono ?_
        rintro en w7 ⟨u7, rfl, o7, k7, x7⟩
        have B7 := Lib.hid (B6.out.but k7 (fun c => NB.out _ c rfl))
        have N7 := Lib.hid (show New w2 w7 from x7 w2 (Nat.le_refl _) N6.out)
        have R7 := Lib.hid (show New w w7 from x7 w N2.out.size (N2.out.trans N6.out))
        have NB := Lib.hid (o7.ne_box B7.out hne)
        have HX6 := Lib.hid (show (X ++ nbL f 2).length ≤ 500002 by rw [List.length_append, nbL_len]; have := HX5.out; omega)
        obtain ⟨p7, q7, rfl⟩ := o7.shape
        have C := play o7 N7.out.size (by have := HX6.out; omega) t (by omega) 2 (.inr (.inl rfl))
        generalize X ++ nbL f 2 = X7 at *
        clear k7 x7 o7 B6 N6 O6 s0 s1 s2 s3
        -- To
        obtain ⟨s0, s1, s2, s3⟩ := B7.out.four
        go_wp2_with fail
        refine C.mono ?_
        rintro en w8 ⟨u8, rfl, o8, k8, x8⟩
        have B8 := Lib.hid (B7.out.but k8 (fun c => NB.out _ c rfl))
        have N8 := Lib.hid (show New w2 w8 from x8 w2 (Nat.le_refl _) N7.out)
        have R8 := Lib.hid (show New w w8 from x8 w N2.out.size R7.out)
        have NB := Lib.hid (o8.ne_box B8.out hne)
        have HX7 := Lib.hid (show (X7 ++ nbL t 2).length ≤ 500004 by rw [List.length_append, nbL_len]; have := HX6.out; omega)
        obtain ⟨p8, q8, rfl⟩ := o8.shape
        have C := play o8 N8.out.size (by have := HX7.out; omega) pp (by omega) 1 (.inl rfl)
        generalize X7 ++ nbL t 2 = X8 at *
        clear k8 x8 o8 B7 N7 R7 s0 s1 s2 s3
        -- Perm
        obtain ⟨s0, s1, s2, s3⟩ := B8.out.four
        go_wp2_with fail
        refine C.mono ?_
        rintro en w9 ⟨u9, rfl, o9, k9, x9⟩
        have B9 := Lib.hid (B8.out.but k9 (fun c => NB.out _ c rfl))
        have N9 := Lib.hid (show New w2 w9 from x9 w2 (Nat.le_refl _) N8.out)
        have R9 := Lib.hid (show New w w9 from x9 w N2.out.size R8.out)
        have NB := Lib.hid (o9.ne_box B9.out hne)
        have HX8 := Lib.hid (show (X8 ++ nbL pp 1).length ≤ 500005 by rw [List.length_append, nbL_len]; have := HX7.out; omega)
        obtain ⟨p9, q9, rfl⟩ := o9.shape
        have C := play o9 N9.out.size (by have := HX8.out; omega) (dl : Int) (by omega) 2 (.inr (.inl rfl))
        generalize X8 ++ nbL pp 1 = X9 at *
        clear k9 x9 o9 B8 N8 R8 s0 s1 s2 s3
        -- the number of Data
        obtain ⟨s0, s1, s2, s3⟩ := B9.out.four
        go_wp2_with fail
        refine C.mono ?_
        rintro en w10 ⟨u10, rfl, o10, k10, x10⟩
        have B10 := Lib.hid (B9.out.but k10 (fun c => NB.out _ c rfl))
        have N10 := Lib.hid (show New w2 w10 from x10 w2 (Nat.le_refl _) N9.out)
        have R10 := Lib.hid (show New w w10 from x10 w N2.out.size R9.out)
        have HX9 := Lib.hid (show (X9 ++ nbL (dl : Int) 2).length ≤ 500007 by rw [List.length_append, nbL_len]; have := HX8.out; omega)
        obtain ⟨p10, q10, rfl⟩ := o10.shape
        generalize X9 ++ nbL (dl : Int) 2 = X10 at *
        clear k10 x10 B9 N9 R9 s0 s1 s2 s3 NB
        -- Data
        obtain ⟨s0, s1, s2, s3⟩ := B10.out.four
        have O10 := Lib.hid o10
        have hlen : X10.length + d.length ≤ 1000000 := by rw [HDLEN.out]; have := HX9.out; have := HX5.out; omega
        have hbs : w2.heap.size ≤ w10.heap.size := N10.out.size
        have DB := Lib.hid (show Byts w10 (.slice dq dl dc) d from HDB.out.new R10.out)
        clear o10
        go_wp2_with ((with_reducible refine at_slot 56 ?_); refine wpList_app8 rfl _ _ rfl rfl w2.heap.size _ X10 rfl O10.out _ _ rfl DB.out hlen hbs ?_)
        rintro u11 w11 o11 k11 x11
        obtain ⟨p11, q11, rfl⟩ := o11.shape
        have N11 := Lib.hid (show New w2 w11 from x11 w2 (Nat.le_refl _) N10.out)
        have O11 := Lib.hid o11
        clear k11 x11 o11
        go_wp2_with fail
        go_roundg (ln - (j + 1))
        case measure => have := J.out; omega
        case rel => exact ⟨j + 1, _, _, by have := J.out; omega, by go_num, rfl, O11.out, HST.out, N11.out⟩
      · obtain rfl : j = ln := by omega
        have E := Lib.hid (show imT e L = X by rw [T0.out, HFIN.out, hX, List.take_of_length_le (by rw [HLN.out]; exact Nat.le_refl _)])
        clear hj ho hX hn
        go_wp2
        go_ret2
        exact ⟨_, rfl, by rw [E.out]; exact HO.out.more N2.out.size, N2.out.trans HN.out⟩
  · have E8 : imE e L = 8 := if_neg hok
    have T0 := Lib.hid (show imT e L = [] from if_neg hok)
    rw [E8, erN_pos (show (8 : Int) ≠ 0 by decide)] at q ⊢
    clear h hb nW bI hcap hm E8 hok
    go_enter Tryd.func7, Tryd.ntmps7
    go_upto_region 1 with fail
    rw [← hW]
    clear hW
    go_wp2_with fail
    refine (q _ (New.refl W)).mono ?_
    rintro en w1 ⟨rfl, n1⟩
    go_wp2
    go_ret2
    exact ⟨_, rfl, by rw [T0.out]; exact OwnB.nil _ _, NW.out.trans n1⟩
end Go.Proofs.YtealjgfijlencaaDoor
