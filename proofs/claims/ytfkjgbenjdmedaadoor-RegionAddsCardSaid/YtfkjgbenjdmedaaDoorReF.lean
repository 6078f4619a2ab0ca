/- Lists of regions joined in one, in which those that go on with the next one have become one with it. Contracts, for any lists, in any world; behind each there are only new blocks. -/
import Derived.Test.YtfkjgbenjdmedaaDoorReE
namespace Go.Proofs.YtfkjgbenjdmedaaDoor
open Go.RowKit Go.Joins
set_option linter.unusedVariables false
set_option maxRecDepth 100000
section
variable {w w' w1 wr : World} {base : Nat} {v v' : Value} {l m : List Rg} {T : TypeId}
theorem OwnR.last {x : Rg} (h : OwnR T base w v (m ++ [x])) : ∃ g cap k n, m.length = k ∧ (m ++ [x]).length = n ∧ n = k + 1 ∧ v = .slice (some ⟨g, 0, none⟩) n cap ∧ base ≤ g ∧ g < w.heap.size ∧ n ≤ cap ∧ (∀ i, w.frozen? ⟨g, i, none⟩ = false) ∧
    w.cell? ⟨g, k * 3, none⟩ = some (.int .i64 x.f) ∧ w.cell? ⟨g, k * 3 + 1, none⟩ = some (.int .i64 x.t) ∧ w.cell? ⟨g, k * 3 + 2, none⟩ = some (.int .u8 (x.p : Int)) := by
  rcases h.2 with ⟨_, hn⟩ | ⟨g, cap, cur, e, hb, hg, h1, h2, h3, h4⟩
  · simp at hn
  · refine ⟨g, cap, m.length, _, rfl, rfl, by simp, e, hb, (Array.getElem?_eq_some_iff.1 hg).1, h1, fun i => by simp [World.frozen?, hg], ?_⟩
    have key := fun f hf => OwnR.cells (l := m ++ [x]) hg h1 h4 m.length (by simp) f hf
    have e : (m ++ [x])[m.length]'(by simp) = x := by simp
    rw [e] at key
    exact ⟨key 0 (by omega), key 1 (by omega), key 2 (by omega)⟩
theorem set_mid {α : Type} (a : List α) (x y z t : α) : (a ++ [x, y, z]).set (a.length + 1) t = a ++ [x, t, z] := by
  rw [List.set_append_right _ _ (by omega), show a.length + 1 - a.length = 1 by omega]; rfl
theorem OwnR.setTo {x : Rg} {g n cap : Nat} (h : OwnR T base w (.slice (some ⟨g, 0, none⟩) n cap) (m ++ [x])) (t : Int) : OwnR T base (w.setCell ⟨g, m.length * 3 + 1, none⟩ (.int .i64 t)) (.slice (some ⟨g, 0, none⟩) n cap) (m ++ [⟨x.f, t, x.p⟩]) := by
  have hl : (m ++ [(⟨x.f, t, x.p⟩ : Rg)]).length = (m ++ [x]).length := by simp
  refine ⟨by rw [rcells_len], ?_⟩
  rw [hl]
  rcases h.2 with ⟨hn, _⟩ | ⟨g', cap', cur, e, hb, hg, h1, h2, h3, h4⟩
  · cases hn
  · cases e
    refine .inr ⟨g, cap, cur.setIfInBounds (m.length * 3 + 1) (.int .i64 t), rfl, hb, block_setCell hg _, h1, h2, by simpa using h3, ?_⟩
    rw [Array.toList_setIfInBounds, List.take_set, h4, rcells_push, rcells_push, ← rcells_len m]
    exact set_mid (rcells m) _ _ _ _
end
set_option maxHeartbeats 2000000 in
theorem join_any (w : World) (b : Nat) (LL : List (List Rg)) (n : Nat) (hn : n = LL.length) (h : Sls w b LL) (hlen : LL.flatten.length ≤ 1000000) (hL : LL.length ≤ 100) :
    Calls Tryd.prog 38 #[.slice (some ⟨b, 0, none⟩) n n] w (MadeR 33 (rjoins LL.flatten) w) := by
  obtain ⟨i0, hi, hz0, hz1, hz2⟩ := info_parts3 region_info
  have q := concat_any w b LL n hn h hlen hL
  generalize LL.flatten = X at *
  have QF := fun w a b => areOne_any w a b
  clear h hL hn
  go_enter Tryd.func38, Tryd.ntmps38
  go_wp2_with (go_at_call 35; (with_reducible refine q.mono ?_); rintro e w1 ⟨v1, rfl, o1, n1⟩; obtain ⟨p1, c1, rfl⟩ := o1.shape)
  have HR := Lib.hid o1.rgs
  have N01 := Lib.hid n1
  clear q o1 n1
  go_loopg [3, 10] X.length (fun k acc i wr => ∃ j : Nat, j + k = X.length ∧ i = .int .i64 (j : Int) ∧ OwnR 33 w1.heap.size wr acc (rjoins (X.take j)) ∧ New w1 wr)
  case atStart => exact ⟨0, by omega, rfl, OwnR.nil, New.refl _⟩
  case round =>
    obtain ⟨j, hj, rfl, ho, hn1⟩ := hrel
    by_cases c : j < X.length
    · have HN := Lib.hid hn1
      have J := Lib.hid hj
      obtain ⟨_, y, ey, hx⟩ := HR.out.at_ j c
      cases ey
      obtain ⟨c0, c1', c2⟩ := hx.new hn1
      have hP := Lib.hid (show rjoins (X.take (j + 1)) = rjstep (rjoins (X.take j)) X[j] by
        rw [List.take_succ_eq_append_getElem c, rjoins_push])
      have hll : (rjoins (X.take j)).length ≤ 1000000 := by have := rjoins_len (X.take j); rw [List.length_take] at this; omega
      generalize X[j] = r at *
      generalize rjoins (X.take j) = A at *
      clear hn1 hj hx
      have NW : New wr (wr.alloc (.cells #[.int .i64 r.f, .int .i64 r.t, .int .u8 (r.p : Int)] 33)) := (New.refl wr).alloc _ _
      have BR : Box (wr.alloc (.cells #[.int .i64 r.f, .int .i64 r.t, .int .u8 (r.p : Int)] 33)) wr.heap.size #[.int .i64 r.f, .int .i64 r.t, .int .u8 (r.p : Int)] 33 := Box.here wr _ _ _ rfl
      have OW : OwnR 33 w1.heap.size (wr.alloc (.cells #[.int .i64 r.f, .int .i64 r.t, .int .u8 (r.p : Int)] 33)) u3 A := World.ownsRow.alloc ho _
      clear ho
      rcases rsnoc_of A with rfl | ⟨m, x, rfl⟩
      · obtain ⟨p3, c3, rfl⟩ := OW.shape
        have OW := Lib.hid OW
        have HLN := Lib.hid hll
        go_upto_region 6 with fail
        change Code.wp _ _ _ _ (wr.alloc (.cells #[.int .i64 r.f, .int .i64 r.t, .int .u8 (r.p : Int)] 33))
        generalize (wr.alloc (.cells #[.int .i64 r.f, .int .i64 r.t, .int .u8 (r.p : Int)] 33)) = W at *
        generalize wr.heap.size = rb at *
        have NW := Lib.hid NW
        obtain ⟨b0, b1, b2⟩ := BR.three
        clear c0 c1' c2
        go_wp2_with fail
        have kd := (New.refl W).drew
        have hS : (fun w' : World => New W w' ∧ w'.cell? ⟨rb, 0, none⟩ = some (.int .i64 r.f) ∧ w'.cell? ⟨rb, 1, none⟩ = some (.int .i64 r.t) ∧ w'.cell? ⟨rb, 2, none⟩ = some (.int .u8 (r.p : Int))) W.drew := ⟨kd, kd.keeps b0, kd.keeps b1, kd.keeps b2⟩
        refine wp_region_held_drew (S := (fun w' : World => New W w' ∧ w'.cell? ⟨rb, 0, none⟩ = some (.int .i64 r.f) ∧ w'.cell? ⟨rb, 1, none⟩ = some (.int .i64 r.t) ∧ w'.cell? ⟨rb, 2, none⟩ = some (.int .u8 (r.p : Int)))) (by kernel_rfl) hS (fun _ => ?_)
        refine wpAnyH_take (i := 0) (v := ?_) rfl (by kernel_rfl) (by kernel_rfl) (by kernel_rfl) (fun _ _ _ h => h) (Or.inl ⟨by rfl, ?_⟩) hS ?_
        rotate_left
        · intro w hSw
          try dsimp only at hSw
          go_simp
          try with_reducible rfl
        try simp only [Act.put, List.setIfInBounds_toArray, List.set_cons_zero, List.set_cons_succ, List.getElem_toArray, List.getElem_cons_zero]
        refine wpAnyH_take (i := 1) (v := ?_) rfl (by kernel_rfl) (by kernel_rfl) (by kernel_rfl) (fun _ _ _ h => h) (Or.inl ⟨by rfl, ?_⟩) hS ?_
        rotate_left
        · intro w hSw
          try dsimp only at hSw
          go_simp
          try with_reducible rfl
        try simp only [Act.put, List.setIfInBounds_toArray, List.set_cons_zero, List.set_cons_succ, List.getElem_toArray, List.getElem_cons_zero, List.getElem_cons_succ]
        refine wpAnyH_take (i := 2) (v := ?_) rfl (by kernel_rfl) (by kernel_rfl) (by kernel_rfl) (fun _ _ _ h => h) (Or.inl ⟨by rfl, ?_⟩) hS ?_
        rotate_left
        · intro w hSw
          try dsimp only at hSw
          go_simp
          try with_reducible rfl
        try simp only [Act.put, List.setIfInBounds_toArray, List.set_cons_zero, List.set_cons_succ, List.getElem_toArray, List.getElem_cons_zero, List.getElem_cons_succ]
        refine wpAnyH_take (i := 3) (v := undef) rfl (by kernel_rfl) (by kernel_rfl) (by kernel_rfl) (fun _ _ _ h => h) (Or.inr ⟨by rfl, rfl⟩) hS ?_
        try simp only [Act.put, List.setIfInBounds_toArray, List.set_cons_zero, List.set_cons_succ, List.getElem_toArray, List.getElem_cons_zero, List.getElem_cons_succ]
        refine wpAnyH_take (i := 4) (v := undef) rfl (by kernel_rfl) (by kernel_rfl) (by kernel_rfl) (fun _ _ _ h => h) (Or.inr ⟨by rfl, rfl⟩) hS ?_
        try simp only [Act.put, List.setIfInBounds_toArray, List.set_cons_zero, List.set_cons_succ, List.getElem_toArray, List.getElem_cons_zero, List.getElem_cons_succ]
        refine wpAnyH_take (i := 5) (v := undef) rfl (by kernel_rfl) (by kernel_rfl) (by kernel_rfl) (fun _ _ _ h => h) (Or.inr ⟨by rfl, rfl⟩) hS ?_
        try simp only [Act.put, List.setIfInBounds_toArray, List.set_cons_zero, List.set_cons_succ, List.getElem_toArray, List.getElem_cons_zero, List.getElem_cons_succ]
        refine wpAnyH_take (i := 6) (v := undef) rfl (by kernel_rfl) (by kernel_rfl) (by kernel_rfl) (fun _ _ _ h => h) (Or.inr ⟨by rfl, rfl⟩) hS ?_
        try simp only [Act.put, List.setIfInBounds_toArray, List.set_cons_zero, List.set_cons_succ, List.getElem_toArray, List.getElem_cons_zero, List.getElem_cons_succ]
        refine wpAnyH_take (i := 7) (v := undef) rfl (by kernel_rfl) (by kernel_rfl) (by kernel_rfl) (fun _ _ _ h => h) (Or.inr ⟨by rfl, rfl⟩) hS ?_
        try simp only [Act.put, List.setIfInBounds_toArray, List.set_cons_zero, List.set_cons_succ, List.getElem_toArray, List.getElem_cons_zero, List.getElem_cons_succ]
        refine wpAnyH_take (i := 8) (v := undef) rfl (by kernel_rfl) (by kernel_rfl) (by kernel_rfl) (fun _ _ _ h => h) (Or.inr ⟨by rfl, rfl⟩) hS ?_
        try simp only [Act.put, List.setIfInBounds_toArray, List.set_cons_zero, List.set_cons_succ, List.getElem_toArray, List.getElem_cons_zero, List.getElem_cons_succ]
        refine wpAnyH_take (i := 9) (v := ?_) rfl (by kernel_rfl) (by kernel_rfl) (by kernel_rfl) (fun _ _ _ h => h) (Or.inl ⟨by rfl, ?_⟩) hS ?_
        rotate_left
        · intro w hSw
          try dsimp only at hSw
          go_simp
          try with_reducible rfl
        try simp only [Act.put, List.setIfInBounds_toArray, List.set_cons_zero, List.set_cons_succ, List.getElem_toArray, List.getElem_cons_zero, List.getElem_cons_succ]
        refine wpAnyH_done (by kernel_rfl) ?_ _
        clear hS
        have NZ := Lib.hid (HN.out.trans (NW.out.trans kd))
        have OZ := Lib.hid (OwnR.new OW.out kd)
        have hO := OZ.out
        go_wp2_with (at_builtin; refine wpList_append_own _ rfl _ _ 27 rfl w1.heap.size 33 i0 (.agg #[.int .i64 0, .int .i64 0, .int .u8 0]) 3 24 Tryd.underlying27 hi hz0 hz1 hz2 rfl (by decide) _ _ _ rfl (World.ownsRow.alloc hO _) ⟨W.heap.size, 0, none⟩ 1 1 (rcell r) rfl rfl ?c1 ?c2 ?c3 ?c4 ?c5 ?_)
        case c1 => first | (intro j u hu; simpa [rcell] using hu; done) | exact rcell_new _ _ _
        case c2 => exact rcell_one _
        case c3 => have := HLN.out; unfold maxLen; omega
        case c4 => have := HLN.out; omega
        case c5 => have := NZ.out.size; simp at *; omega
        intro v' w2 hown' hgrow _
        obtain ⟨o1, n2⟩ := OwnR.push NZ.out rfl hO (by first | exact hown' | (rw [List.length_append, List.length_singleton]; exact hown')) hgrow
        clear hown' hgrow hO
        rw [show [] ++ [r] = rjoins (X.take (j + 1)) by rw [hP.out]; rfl] at o1
        obtain ⟨p4, c4, rfl⟩ := o1.shape
        have O1 := Lib.hid o1
        have N2 := Lib.hid n2
        clear o1 n2
        go_wp2
        go_roundg (X.length - (j + 1))
        case measure => have := J.out; omega
        case rel => exact ⟨j + 1, by have := J.out; omega, by go_num, O1.out, N2.out⟩
      · obtain ⟨g, c3, k, nA, hk, hA, hkA, rfl, hg1, hg2, hg3, hg4, x0, x1, x2⟩ := OW.last
        have OW := Lib.hid OW
        have HF := Lib.hid (hg4 (k * 3 + 1))
        have HLN := Lib.hid hll
        have qf := fun w => QF w x r
        have HK := Lib.hid hk
        have HA := Lib.hid hA
        have gs : IntKind.i64.wrap ((nA : Int) - 1) = (k : Int) := by rw [IntWalk.i64_in _ (by omega)]; omega
        have gk : k < nA := by omega
        have hnA : nA ≤ 1000000 := by omega
        clear hg4 hk hA hkA hll
        cases hone : oneR x r with
        | false =>
          rw [hone] at qf
          have HO := Lib.hid hone
          clear hone
          go_upto_region 6 with fail
          change Code.wp _ _ _ _ (wr.alloc (.cells #[.int .i64 r.f, .int .i64 r.t, .int .u8 (r.p : Int)] 33))
          generalize (wr.alloc (.cells #[.int .i64 r.f, .int .i64 r.t, .int .u8 (r.p : Int)] 33)) = W at *
          generalize wr.heap.size = rb at *
          have NW := Lib.hid NW
          obtain ⟨b0, b1, b2⟩ := BR.three
          clear c0 c1' c2
          go_wp2_with fail
          go_region_held3 (fun w' => New W w' ∧ w'.cell? ⟨rb, 0, none⟩ = some (.int .i64 r.f) ∧ w'.cell? ⟨rb, 1, none⟩ = some (.int .i64 r.t) ∧ w'.cell? ⟨rb, 2, none⟩ = some (.int .u8 (r.p : Int)) ∧ w'.cell? ⟨g, k * 3, none⟩ = some (.int .i64 x.f) ∧ w'.cell? ⟨g, k * 3 + 1, none⟩ = some (.int .i64 x.t) ∧ w'.cell? ⟨g, k * 3 + 2, none⟩ = some (.int .u8 (x.p : Int)))
            (first
              | exact ⟨hnx, hnx.keeps b0, hnx.keeps b1, hnx.keeps b2, hnx.keeps x0, hnx.keeps x1, hnx.keeps x2⟩
              | (have hnx := (New.refl W).drew; exact ⟨hnx, hnx.keeps b0, hnx.keeps b1, hnx.keeps b2, hnx.keeps x0, hnx.keeps x1, hnx.keeps x2⟩))
            (first
              | (go_at_call 43; (with_reducible refine (qf _).mono ?_); rintro e wz ⟨rfl, hny⟩; have hnx : New W wz := New.trans (by first | exact hnx | exact (New.refl _).drew | exact New.refl _) hny))
          have NZ := Lib.hid (HN.out.trans (NW.out.trans hnx))
          have OZ := Lib.hid (OwnR.new OW.out hnx)
          clear hny hnx x0 x1 x2 b0 b1 b2
          have hO := OZ.out
          go_wp2_with (at_builtin; refine wpList_append_own _ rfl _ _ 27 rfl w1.heap.size 33 i0 (.agg #[.int .i64 0, .int .i64 0, .int .u8 0]) 3 24 Tryd.underlying27 hi hz0 hz1 hz2 rfl (by decide) _ _ _ rfl (World.ownsRow.alloc hO _) ⟨wz.heap.size, 0, none⟩ 1 1 (rcell r) rfl rfl ?c1 ?c2 ?c3 ?c4 ?c5 ?_)
          case c1 => first | (intro j u hu; simpa [rcell] using hu; done) | exact rcell_new _ _ _
          case c2 => exact rcell_one _
          case c3 => have := HLN.out; unfold maxLen; omega
          case c4 => have := HLN.out; omega
          case c5 => have := NZ.out.size; simp at *; omega
          intro v' w2 hown' hgrow _
          obtain ⟨o1, n2⟩ := OwnR.push NZ.out rfl hO (by first | exact hown' | (rw [List.length_append, List.length_singleton]; exact hown')) hgrow
          clear hown' hgrow hO
          rw [show m ++ [x] ++ [r] = rjoins (X.take (j + 1)) by rw [hP.out, rjstep_snoc, HO.out]; rfl] at o1
          obtain ⟨p4, c4, rfl⟩ := o1.shape
          have O1 := Lib.hid o1
          have N2 := Lib.hid n2
          clear o1 n2
          go_wp2
          go_roundg (X.length - (j + 1))
          case measure => have := J.out; omega
          case rel => exact ⟨j + 1, by have := J.out; omega, by go_num, O1.out, N2.out⟩
        | true =>
          rw [hone] at qf
          have HO := Lib.hid hone
          clear hone
          go_upto_region 6 with fail
          change Code.wp _ _ _ _ (wr.alloc (.cells #[.int .i64 r.f, .int .i64 r.t, .int .u8 (r.p : Int)] 33))
          generalize (wr.alloc (.cells #[.int .i64 r.f, .int .i64 r.t, .int .u8 (r.p : Int)] 33)) = W at *
          generalize wr.heap.size = rb at *
          have NW := Lib.hid NW
          obtain ⟨b0, b1, b2⟩ := BR.three
          clear c0 c1' c2
          go_wp2_with fail
          go_region_held3 (fun w' => New W w' ∧ w'.cell? ⟨rb, 0, none⟩ = some (.int .i64 r.f) ∧ w'.cell? ⟨rb, 1, none⟩ = some (.int .i64 r.t) ∧ w'.cell? ⟨rb, 2, none⟩ = some (.int .u8 (r.p : Int)) ∧ w'.cell? ⟨g, k * 3, none⟩ = some (.int .i64 x.f) ∧ w'.cell? ⟨g, k * 3 + 1, none⟩ = some (.int .i64 x.t) ∧ w'.cell? ⟨g, k * 3 + 2, none⟩ = some (.int .u8 (x.p : Int)))
            (first
              | exact ⟨hnx, hnx.keeps b0, hnx.keeps b1, hnx.keeps b2, hnx.keeps x0, hnx.keeps x1, hnx.keeps x2⟩
              | (have hnx := (New.refl W).drew; exact ⟨hnx, hnx.keeps b0, hnx.keeps b1, hnx.keeps b2, hnx.keeps x0, hnx.keeps x1, hnx.keeps x2⟩))
            (first
              | (go_at_call 43; (with_reducible refine (qf _).mono ?_); rintro e wz ⟨rfl, hny⟩; have hnx : New W wz := New.trans (by first | exact hnx | exact (New.refl _).drew | exact New.refl _) hny))
          have NZ := Lib.hid (HN.out.trans (NW.out.trans hnx))
          have OZ := Lib.hid (OwnR.new OW.out hnx)
          have y0 := hnx.keeps x0
          have y1 := hnx.keeps x1
          have y2 := hnx.keeps x2
          have z0 := hnx.keeps b0
          have z1 := hnx.keeps b1
          have z2 := hnx.keeps b2
          have f1 : wz.frozen? ⟨g, k * 3 + 1, none⟩ = false := (hnx.frozen (p := ⟨g, k * 3 + 1, none⟩) hg2).trans HF.out
          have OS := Lib.hid (OwnR.setTo OZ.out r.t)
          have hgz : g < wz.heap.size := by have := hnx.size; omega
          clear hny hnx x0 x1 x2 b0 b1 b2
          go_wp2
          go_roundg (X.length - (j + 1))
          case measure => have := J.out; omega
          case rel =>
            have OS := OS.out
            rw [HK.out] at OS
            refine ⟨j + 1, by have := J.out; omega, by go_num, ?_, NZ.out.setCell hg1 _⟩
            rw [hP.out, rjstep_snoc, HO.out]; exact OS
    · obtain rfl : j = X.length := by omega
      rw [List.take_length] at ho
      obtain ⟨p3, c3, rfl⟩ := ho.shape
      go_wp2
      go_ret
      exact ⟨_, rfl, OwnR.more ho N01.out.size, N01.out.trans hn1⟩
end Go.Proofs.YtfkjgbenjdmedaaDoor
