/- What the package's Check and gather do: registers made of their 26 words, or the error. -/
import Derived.Test.YtbjpflomibcenaaDoorRgS
import Derived.Deep.Cut
namespace Go.Proofs.YtbjpflomibcenaaDoor
open Go.RowKit Go.Joins
set_option linter.unusedVariables false
/-- the number of Check's error -/
def cke (v : Int) : Int := if v < 32 then 0 else 22
set_option maxRecDepth 100000 in
theorem check_any (x f : Nat → Int) (w : World) (h0 : 0 ≤ x 17) : Calls Tryd.prog 11 #[.agg (rc x f).toArray] w fun e w' => e = .returned (erN (cke (x 17))) ∧ New w w' := by
  unfold cke
  have c17 : (w.alloc (.cells (rc x f).toArray 29)).cell? ⟨w.heap.size, 17, none⟩ = some (.int .u32 (x 17)) := (Box.here w _ _ 29 rfl).at (rc_x x f (i := 17) (by omega))
  have nw : New w (w.alloc (.cells (rc x f).toArray 29)) := (New.refl w).alloc _ _
  by_cases h : x 17 < 32
  · rw [if_pos h]
    go_enter Tryd.func11, Tryd.ntmps11
    go_upto_region 1 with fail
    generalize w.alloc (.cells (rc x f).toArray 29) = W at *
    go_wp2
    go_ret
    exact ⟨rfl, nw⟩
  · rw [if_neg h]
    have h' : 32 ≤ x 17 := by omega
    go_enter Tryd.func11, Tryd.ntmps11
    go_upto_region 1 with fail
    generalize w.alloc (.cells (rc x f).toArray 29) = W at *
    go_wp2
    go_ret
    exact ⟨rfl, nw⟩
/-- R's words, and PC and Flags, of which the first are laid down or not -/
def gx (g : Nat → Int) (i : Nat) : Int := g i
def gf (g : Nat → Int) (k : Nat) : Int := g (19 + 2 * k) * 4294967296 + g (18 + 2 * k)
def gj (g : Nat → Int) (j k : Nat) : Int := if k < j then gf g k else 0
/-- the registers of words, or none -/
def gv (g : Nat → Int) : List Value := if g 17 < 32 then rc g (gf g) else rc (fun _ => 0) fun _ => 0
def gp (g : Nat → Int) (i : Nat) : Int := if i = 16 then g 16 else if i = 17 then g 17 else 0
theorem gj_next (x g : Nat → Int) (j : Nat) (hj : j < 4) : (rc x (gj g j)).set (18 + j) (.int .u64 (gf g j)) = rc x (gj g (j + 1)) := by
  rw [rc_set_f _ _ _ _ hj]
  refine rc_inj (fun _ _ => rfl) fun k hk => ?_
  unfold upd gj
  by_cases h : k = j
  · subst h; rw [if_pos rfl, if_pos (by omega)]
  · rw [if_neg h]
    by_cases h2 : k < j
    · rw [if_pos h2, if_pos (by omega)]
    · rw [if_neg h2, if_neg (by omega)]
set_option maxHeartbeats 4000000 in
set_option maxRecDepth 100000 in
theorem gather_any (g : Nat → Int) (hg : ∀ i, i < 26 → 0 ≤ g i ∧ g i ≤ 4294967295) (w : World) :
    Calls Tryd.prog 19 #[.agg (nl .u32 26 g).toArray] w fun e w' => e = .returned (.tuple #[.agg (gv g).toArray, erN (cke (g 17))]) ∧ New w w' := by
  go_enter Tryd.func19, Tryd.ntmps19
  go_upto_region 1 with fail
  have BA : Box ((w.alloc (.cells (nl .u32 26 g).toArray 50)).alloc (.cells (rc (fun _ => 0) (fun _ => 0)).toArray 29)) w.heap.size (nl .u32 26 g).toArray 50 := (Box.here w _ _ _ rfl).alloc _
  have BR : Box ((w.alloc (.cells (nl .u32 26 g).toArray 50)).alloc (.cells (rc (fun _ => 0) (fun _ => 0)).toArray 29)) (w.heap.size + 1) (rc (fun _ => 0) (fun _ => 0)).toArray 29 := Box.here _ _ _ _ (by simp)
  have nw : New w ((w.alloc (.cells (nl .u32 26 g).toArray 50)).alloc (.cells (rc (fun _ => 0) (fun _ => 0)).toArray 29)) := ((New.refl w).alloc _ _).alloc _ _
  have hsz : ((w.alloc (.cells (nl .u32 26 g).toArray 50)).alloc (.cells (rc (fun _ => 0) (fun _ => 0)).toArray 29)).heap.size = w.heap.size + 2 := by simp
  change Code.wp _ _ _ _ ((w.alloc (.cells (nl .u32 26 g).toArray 50)).alloc (.cells (rc (fun _ => 0) (fun _ => 0)).toArray 29))
  generalize (w.alloc (.cells (nl .u32 26 g).toArray 50)).alloc (.cells (rc (fun _ => 0) (fun _ => 0)).toArray 29) = W at *
  have c16 := BA.at (nl_at g (i := 16) (by omega))
  have c17 := BA.at (nl_at g (i := 17) (by omega))
  have HA := Lib.hid BA
  have HR := Lib.hid BR
  clear BA BR
  go_wp2_with ((with_reducible refine at_store 29 ?_); refine wpList_store_box rfl 29 _ _ rfl (w.heap.size + 2) (rc (gp g) fun _ => 0) (rc (fun _ => 0) (fun _ => 0)) 29 rfl rfl ?hB ?hl ?hi (rc_one _ _) ?hr)
  case hB => exact Box.here _ _ _ _ hsz.symm
  case hl => rw [rc_len, rc_len]
  case hi => simpa [rc_len] using ar_info
  case hr =>
    intro W2 B2 f2
    have BA2 := (HA.out.alloc (.cells (rc (fun _ => 0) (fun _ => 0)).toArray 29)).far f2 (by omega)
    have BR2 := (HR.out.alloc (.cells (rc (fun _ => 0) (fun _ => 0)).toArray 29)).far f2 (by omega)
    have nw2 : New w W2 := f2.new (nw.alloc _ _) (by omega)
    have HA2 := Lib.hid BA2
    have HR2 := Lib.hid BR2
    have HB2 := Lib.hid B2
    clear HA HR f2 nw BA2 BR2 B2 hsz
    go_wp2
    go_still_tail 3, (by kernel_rfl)
    change wpList _ _ _ _ _ W2.drew
    have BA3 := HA2.out.drew
    have BR3 := HR2.out.drew
    have BB3 := HB2.out.drew
    have nw3 : New w W2.drew := nw2.drew
    generalize W2.drew = W3 at *
    clear HA2 HR2 HB2 nw2
    refine wpList_copy_far rfl _ _ _ _ rfl 22 Tryd.underlying60 u32_size _ _ _ _ _ _ rfl rfl (w.heap.size + 2) 0 (rc (gp g) fun _ => 0) 29 ?c1 (nl .u32 16 g) ?c2 ?c3 ?c4 (nl_one _) ?_
    case c1 => exact BB3
    case c2 => rw [nl_len]; rfl
    case c3 => exact fun _ => ⟨rfl, _, rfl, fun j v hv => by
      have hj : j < 16 := by
        by_cases c : j < 16
        · exact c
        · rw [nl_get, if_neg c] at hv; cases hv
      rw [nl_at g hj] at hv
      rw [Addr.add_mid, Nat.zero_add, ← hv]; exact BA3.at (nl_at g (by omega))⟩
    case c4 => rw [nl_len, rc_len]; omega
    intro W4 h4 f4
    have B4 : Box W4 (w.heap.size + 2) (rc g (gj g 0)).toArray 29 := by
      have := h4.out
      rw [splice_rc] at this
      have e : rc (fun i => if i < 16 then g i else gp g i) (fun _ => 0) = rc g (gj g 0) := rc_inj (fun k hk => by
        by_cases c : k < 16
        · rw [if_pos c]
        · rw [if_neg c]; rcases (by omega : k = 16 ∨ k = 17) with rfl | rfl <;> rfl) (fun k hk => by unfold gj; rw [if_neg (by omega)])
      rw [e] at this; exact this
    have BA4 := BA3.far f4 (by omega)
    have BR4 := BR3.far f4 (by omega)
    have nw4 : New w W4 := f4.new nw3 (by omega)
    clear BA3 BR3 BB3 nw3 h4 f4 c16 c17 W W2
    have HB4 := Lib.hid B4
    have HA4 := Lib.hid BA4
    have HR4 := Lib.hid BR4
    have HG := Lib.hid hg
    clear B4 BA4 BR4 hg
    go_wp2
    go_loopg [18] 4 (fun k i wr => ∃ j : Nat, j + k = 4 ∧ i = .int .i64 (j : Int) ∧ Box wr (w.heap.size + 2) (rc g (gj g j)).toArray 29 ∧ Box wr (w.heap.size + 1) (rc (fun _ => 0) (fun _ => 0)).toArray 29 ∧ Box wr w.heap.size (nl .u32 26 g).toArray 50 ∧ New w wr)
    case atStart => exact ⟨0, rfl, rfl, HB4.out, HR4.out, HA4.out, nw4⟩
    case round =>
      obtain ⟨j, hj, rfl, hB, hR, hA, hnx⟩ := hrel
      by_cases hlt : j < 4
      · have a0 := hA.at (nl_at g (i := 18 + 2 * j) (by omega))
        have a1 := hA.at (nl_at g (i := 18 + 2 * j + 1) (by omega))
        have c0 := hB.at (rc_f g (gj g j) hlt)
        have fr : ∀ i, wr.frozen? ⟨w.heap.size + 2, i, none⟩ = false := fun i => hB.unfrozen i
        obtain ⟨l0, l1⟩ := HG.out (18 + 2 * j) (by omega)
        obtain ⟨u0, u1⟩ := HG.out (18 + 2 * j + 1) (by omega)
        have hl2 := hB.lt
        have hN := Lib.hid (gj_next g g j hlt)
        have hgf := Lib.hid (show gf g j = g (18 + 2 * j + 1) * 4294967296 + g (18 + 2 * j) by unfold gf; rw [show 19 + 2 * j = 18 + 2 * j + 1 by omega])
        generalize g (18 + 2 * j) = l at *
        generalize g (18 + 2 * j + 1) = u at *
        have ho := or64 u l u0 u1 l0 l1
        have j0 : (0 : Int) ≤ (j : Int) := by omega
        have j4 : (j : Int) < 4 := by omega
        have HB := Lib.hid hB
        have HR := Lib.hid hR
        have HA := Lib.hid hA
        have J := Lib.hid hj
        clear hB hR hA hj
        go_wp2
        go_quiet (fail)
        go_wp2
        go_roundg (4 - (j + 1))
        case measure => have := J.out; omega
        case rel =>
          refine ⟨j + 1, by have := J.out; omega, by go_num, ?_, (HR.out.new ((New.refl _).drewN _)).other (by simp) _, (HA.out.new ((New.refl _).drewN _)).other (by simp) _, (hnx.drewN _).setCell (by simp) _⟩
          rw [← hN.out, hgf.out]; exact (HB.out.new ((New.refl _).drewN _)).setL (18 + j) _
      · obtain rfl : j = 4 := by omega
        have e4 : rc g (gj g 4) = rc g (gf g) := rc_inj (fun _ _ => rfl) fun k hk => by unfold gj; rw [if_pos hk]
        rw [e4] at hB
        have h17 := (HG.out 17 (by omega)).1
        clear hj hlt HR4 HB4 HA4
        by_cases h : g 17 < 32
        · have hck : Calls Tryd.prog 11 #[.agg (rc g (gf g)).toArray] wr fun e w' => e = .returned .nilIface ∧ New wr w' := by
            have := check_any g (gf g) wr h17
            unfold cke at this; rw [if_pos h] at this; exact this
          have eg : gv g = rc g (gf g) := by unfold gv; rw [if_pos h]
          have ec : cke (g 17) = 0 := by unfold cke; rw [if_pos h]
          go_wp2_with (first
            | ((with_reducible refine at_load 29 ?_); refine wpList_load_box rfl 29 _ rfl (w.heap.size + 2) rfl (rc g (gf g)) 29 _ hB Tryd.underlying29 rfl (by rw [rc_len]; exact ar_info) ?_)
            | (go_at_call 11; (with_reducible refine hck.mono ?_)))
          rintro e w5 rfl n5
          have HB5 := Lib.hid (hB.new n5)
          have HR5 := Lib.hid (hR.new n5)
          have n6 := New.trans hnx n5
          clear hB hR hA n5 hck
          go_wp2_with (first
            | ((with_reducible refine at_load 29 ?_); refine wpList_load_box rfl 29 _ rfl (w.heap.size + 2) rfl (rc g (gf g)) 29 _ HB5.out Tryd.underlying29 rfl (by rw [rc_len]; exact ar_info) ?_)
            | ((with_reducible refine at_store 29 ?_); refine wpList_store_box rfl 29 _ _ rfl (w.heap.size + 1) (rc g (gf g)) (rc (fun _ => 0) (fun _ => 0)) 29 rfl rfl HR5.out (by rw [rc_len, rc_len]) (by rw [rc_len]; exact ar_info) (rc_one _ _) ?_))
          intro w6 h6 f6
          have hr : (loadVar 29 ⟨w.heap.size + 1, 0, none⟩).run Tryd.prog w6 = .ok (.agg (rc g (gf g)).toArray) w6 := run_loadVar_mid w6 _ 0 _ _ _ h6.range Tryd.underlying29 rfl (by rw [rc_len]; exact ar_info)
          have nw : New w w6 := f6.new n6 (by omega)
          have EG := Lib.hid eg
          have EC := Lib.hid ec
          clear eg ec h6 f6 n6 hnx h
          go_wp2
          exact bodyPost_ret (v := .tuple #[.agg (rc g (gf g)).toArray, .nilIface]) (by simp [results, Tryd.results19, asAddr, hr]) rfl ⟨by rw [EG.out, EC.out]; rfl, nw⟩
        · have hck : Calls Tryd.prog 11 #[.agg (rc g (gf g)).toArray] wr fun e w' => e = .returned (.iface 53 (.int .i64 22)) ∧ New wr w' := by
            have := check_any g (gf g) wr h17
            unfold cke at this; rw [if_neg h] at this; exact this
          have eg : gv g = rc (fun _ => 0) fun _ => 0 := by unfold gv; rw [if_neg h]
          have ec : cke (g 17) = 22 := by unfold cke; rw [if_neg h]
          go_wp2_with (first
            | ((with_reducible refine at_load 29 ?_); refine wpList_load_box rfl 29 _ rfl (w.heap.size + 2) rfl (rc g (gf g)) 29 _ hB Tryd.underlying29 rfl (by rw [rc_len]; exact ar_info) ?_)
            | (go_at_call 11; (with_reducible refine hck.mono ?_)))
          rintro e w5 rfl n5
          have HR5 := Lib.hid (hR.new n5)
          have n6 := New.trans hnx n5
          clear hB hR hA n5 hck
          go_wp2_with ((with_reducible refine at_store 29 ?_); refine wpList_store_box rfl 29 _ _ rfl (w.heap.size + 1) (rc (fun _ => 0) (fun _ => 0)) (rc (fun _ => 0) (fun _ => 0)) 29 rfl rfl HR5.out rfl (by rw [rc_len]; exact ar_info) (rc_one _ _) ?_)
          intro w6 h6 f6
          have hr : (loadVar 29 ⟨w.heap.size + 1, 0, none⟩).run Tryd.prog w6 = .ok (.agg (rc (fun _ => 0) fun _ => 0).toArray) w6 := run_loadVar_mid w6 _ 0 _ _ _ h6.range Tryd.underlying29 rfl (by rw [rc_len]; exact ar_info)
          have nw : New w w6 := f6.new n6 (by omega)
          have EG := Lib.hid eg
          have EC := Lib.hid ec
          clear eg ec h6 f6 n6 hnx h
          go_wp2
          exact bodyPost_ret (v := .tuple #[.agg (rc (fun _ => 0) fun _ => 0).toArray, .iface 53 (.int .i64 22)]) (by simp [results, Tryd.results19, asAddr, hr]) rfl ⟨by rw [EG.out, EC.out]; rfl, nw⟩
end Go.Proofs.YtbjpflomibcenaaDoor
