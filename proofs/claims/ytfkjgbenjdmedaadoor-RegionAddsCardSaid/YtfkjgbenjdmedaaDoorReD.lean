/- What the package of regions makes of a list: parts of it, and how many pages it has. Contracts, for any list, in any world; behind each there are only new blocks. -/
import Derived.Test.YtfkjgbenjdmedaaDoorReC
import Derived.Lib.AppendZeros
namespace Go.Proofs.YtfkjgbenjdmedaaDoor
open Go.RowKit
set_option linter.unusedVariables false
set_option maxRecDepth 100000
theorem region_info : (Tryd.prog.info? 33).map (fun i => (i.zero, i.size, i.bytes)) = some (some (.agg #[.int .i64 0, .int .i64 0, .int .u8 0]), 3, 24) := by kernel_rfl
theorem info_parts3 {T : TypeId} {z : Value} {n m : Nat} (h : (Tryd.prog.info? T).map (fun i => (i.zero, i.size, i.bytes)) = some (some z, n, m)) : ∃ i, Tryd.prog.info? T = some i ∧ i.zero = some z ∧ i.size = n ∧ i.bytes = m := by
  cases h0 : Tryd.prog.info? T with
  | none => rw [h0] at h; cases h
  | some i =>
    rw [h0] at h
    simp only [Option.map_some, Option.some.injEq, Prod.mk.injEq] at h
    exact ⟨i, rfl, h.1, h.2.1, h.2.2⟩
/-- a slice of the call's own, and only new blocks -/
def MadeR (T : TypeId) (l : List Rg) (w : World) (e : Ending) (w' : World) : Prop := ∃ v, e = .returned v ∧ OwnR T w.heap.size w' v l ∧ New w w'
section
variable {w w1 wr : World} {base : Nat} {v v' : Value} {l : List Rg} {T : TypeId}
theorem OwnR.shape (h : OwnR T base w v l) : ∃ p cap, v = .slice p l.length cap := by obtain ⟨p, c, h1, _⟩ := h.rgs.shape; exact ⟨p, c, h1⟩
theorem OwnR.push {x : Rg} {o : Obj} (hnx : New w wr) (hb : base = w.heap.size) (hown : OwnR T base wr v l) (hown' : w1.ownsRow base T 3 v' (l.length + 1) (rcells l ++ rcell x)) (hgrow : (wr.alloc o).grownBy w1 v.ownBlock) :
    OwnR T base w1 v' (l ++ [x]) ∧ New w w1 := by
  subst hb
  refine ⟨?_, (hnx.allocO o).grown hgrow fun k hk => (World.ownsRow.lt hown k hk).1⟩
  unfold OwnR; rw [rcells_push, List.length_append, List.length_singleton]; exact hown'
theorem rcell_new (w : World) (x : Rg) (t : TypeId) : ∀ j u, (rcell x)[j]? = some u → (w.alloc (.cells #[.int .i64 x.f, .int .i64 x.t, .int .u8 (x.p : Int)] t)).cell? ((⟨w.heap.size, 0, none⟩ : Addr).add j) = some u := by
  intro j u hu
  have hx : Box (w.alloc (.cells #[.int .i64 x.f, .int .i64 x.t, .int .u8 (x.p : Int)] t)) w.heap.size _ _ := Box.here w _ _ _ rfl
  rw [Addr.add_mid, Nat.zero_add, hx.cell]
  rw [← hu]
  show ([Value.int .i64 x.f, .int .i64 x.t, .int .u8 (x.p : Int)].toArray)[j]? = _
  rw [List.getElem?_toArray]; rfl
end
set_option maxHeartbeats 1000000 in
theorem part_any (w : World) (v : Value) (l : List Rg) (a b : Int) (h : Rgs w v l) (hlen : l.length ≤ 1000000) : Calls Tryd.prog 36 #[v, .int .i64 a, .int .i64 b] w (MadeR 33 (rpart l a b) w) := by
  obtain ⟨i0, hi, hz0, hz1, hz2⟩ := info_parts3 region_info
  obtain ⟨p, cap, rfl, hc, hm⟩ := h.shape
  have HR := Lib.hid h
  clear h hc hm
  go_enter Tryd.func36, Tryd.ntmps36
  go_wp2
  go_loopg [7, 12] l.length (fun k acc i wr => ∃ j : Nat, j + k = l.length ∧ i = .int .i64 (j : Int) ∧ OwnR 33 w.heap.size wr acc (rpart (l.take j) a b) ∧ New w wr)
  case atStart => exact ⟨0, by omega, rfl, OwnR.nil, New.refl _⟩
  case round =>
    obtain ⟨j, hj, rfl, hown, hn⟩ := hrel
    by_cases c : j < l.length
    · have HN := Lib.hid hn
      have HO := Lib.hid hown
      have J := Lib.hid hj
      obtain ⟨_, x, rfl, hx⟩ := HR.out.at_ j c
      obtain ⟨c0, c1, c2⟩ := hx.new hn
      obtain ⟨r, hr⟩ : ∃ r, r = l[j] := ⟨_, rfl⟩
      have HRe := Lib.hid hr
      rw [← hr] at c0 c1 c2
      obtain ⟨f, t, p⟩ := r
      simp only at c0 c1 c2
      clear hn hj hr hx hown
      go_upto_region 6 with fail
      change Code.wp _ _ _ _ (wr.alloc (.cells #[.int .i64 (if f < a then a else f), .int .i64 (if b < t then b else t), .int .u8 (p : Int)] 33))
      have e1 : (if f < a then a else f) = max f a := by rw [Int.max_def]; split <;> split <;> omega
      have e2 : (if b < t then b else t) = min t b := by rw [Int.min_def]; split <;> split <;> omega
      have HP := Lib.hid (show rpart (l.take (j + 1)) a b = rpart (l.take j) a b ++ rone ⟨f, t, p⟩ a b by
        rw [List.take_succ_eq_append_getElem c, rpart_push, ← HRe.out])
      have hll : (rpart (l.take j) a b).length ≤ 1000000 := by have := rpart_len (l.take j) a b; rw [List.length_take] at this; omega
      rw [e1, e2]
      generalize hF : max f a = F at *
      generalize hT : min t b = U at *
      clear e1 e2 c0 c1 c2
      by_cases d : F < U
      · have HX := Lib.hid (show rpart (l.take (j + 1)) a b = rpart (l.take j) a b ++ [(⟨F, U, p⟩ : Rg)] by
          rw [HP.out]; unfold rone rclip; simp only; rw [hF, hT, if_pos d])
        clear HP hF hT
        generalize rpart (l.take j) a b = K at *
        have dd : decide (F < U) = true := by simpa using d
        have hO := HO.out
        go_wp2_with (at_builtin; refine wpList_append_own _ rfl _ _ 27 rfl w.heap.size 33 i0 (.agg #[.int .i64 0, .int .i64 0, .int .u8 0]) 3 24 Tryd.underlying27 hi hz0 hz1 hz2 rfl (by decide) _ _ _ rfl (World.ownsRow.alloc (World.ownsRow.alloc hO _) _) ⟨wr.heap.size + 1, 0, none⟩ 1 1 (rcell ⟨F, U, p⟩) rfl rfl ?c1 ?c2 ?c3 ?c4 ?c5 ?_)
        case c1 => intro j u hu; simpa [rcell] using hu
        case c2 => exact rcell_one _
        case c3 => unfold maxLen; omega
        case c4 => omega
        case c5 => have := HN.out.size; simp; omega
        intro v' w1 hown' hgrow _
        obtain ⟨o1, n1⟩ := OwnR.push (HN.out.alloc _ _) rfl (World.ownsRow.alloc hO _) hown' hgrow
        clear hown' hgrow hO
        rw [← HX.out] at o1
        obtain ⟨p4, c4, rfl⟩ := o1.shape
        go_wp2
        go_roundg (l.length - (j + 1))
        case measure => have := J.out; omega
        case rel => exact ⟨j + 1, by have := J.out; omega, by go_num, o1, n1⟩
      · have HX := Lib.hid (show rpart (l.take (j + 1)) a b = rpart (l.take j) a b by
          rw [HP.out]; unfold rone rclip; simp only; rw [hF, hT, if_neg d, List.append_nil])
        clear HP hF hT
        have dd : decide (F < U) = false := by simpa using d
        have NN := Lib.hid ((HN.out.alloc #[.int .i64 F, .int .i64 U, .int .u8 (p : Int)] 33))
        go_wp2
        go_roundg (l.length - (j + 1))
        case measure => have := J.out; omega
        case rel => exact ⟨j + 1, by have := J.out; omega, by go_num, by rw [HX.out]; exact World.ownsRow.alloc HO.out _, NN.out⟩
    · obtain rfl : j = l.length := by omega
      rw [List.take_length] at hown
      obtain ⟨p4, c4, rfl⟩ := hown.shape
      go_wp2
      go_ret
      exact ⟨_, rfl, hown, hn⟩
/-- how many pages -/
def rsz : List Rg → Int
  | [] => 0
  | r :: l => (r.t - r.f) + rsz l
theorem rsz_append (l m : List Rg) : rsz (l ++ m) = rsz l + rsz m := by
  induction l with
  | nil => simp [rsz]
  | cons r l ih => simp only [List.cons_append, rsz, ih]; omega
theorem rsz_bd {l : List Rg} (h : RAsc l) : 0 ≤ rsz l ∧ rsz l ≤ 4096 := by
  have key : ∀ (l : List Rg) (b : Int), b ≤ 4096 → RAsc l → (∀ s ∈ l, b ≤ s.f) → 0 ≤ rsz l ∧ rsz l ≤ 4096 - b := by
    intro l
    induction l with
    | nil => intro b hb h hs; simp only [rsz]; omega
    | cons r l ih =>
      intro b hb h hs
      have hr := okR_iff.1 h.1
      have := hs r List.mem_cons_self
      have := ih r.t (by omega) h.2.2 (RAsc.above h)
      simp only [rsz]; omega
  have := key l 0 (by omega) h fun s hs => (okR_iff.1 (RCh.mem h s hs)).1
  omega
theorem rsz_take {l : List Rg} (h : RAsc l) (j : Nat) : 0 ≤ rsz (l.take j) ∧ rsz (l.take j) ≤ 4096 := by
  refine rsz_bd ?_
  have e := List.take_append_drop j l
  rw [← e] at h
  exact ((rch_append _ _).1 h).1
noncomputable def szv (l : List Rg) : Int := if rokb l = true then rsz l else 0
theorem szv_ok {l : List Rg} (h : ROk l) : szv l = rsz l := by unfold szv; rw [if_pos (rokb_iff.2 h)]
theorem szv_no {l : List Rg} (h : ¬ ROk l) : szv l = 0 := by unfold szv; rw [if_neg (fun k => h (rokb_iff.1 k))]
set_option maxHeartbeats 1000000 in
theorem size_any (w : World) (v : Value) (l : List Rg) (h : Rgs w v l) : Calls Tryd.prog 17 #[v] w (IntN (szv l) w) := by
  have q := check_any w v l h
  obtain ⟨p, cap, rfl, hc, hm⟩ := h.shape
  have hB : l.length ≤ 9223372036854775807 := by have := h.len; unfold maxLen at this; omega
  by_cases k : ROk l
  · rw [chv_ok k, erN_zero] at q
    rw [szv_ok k]
    have HK := Lib.hid k
    have HR := Lib.hid h
    clear h hc hm k
    go_enter Tryd.func17, Tryd.ntmps17
    go_wp2_with (go_at_call 18; (with_reducible refine q.mono ?_); rintro e w1 ⟨rfl, hn1⟩)
    go_loopg [3, 11] l.length (fun k s i wr => ∃ j : Nat, j + k = l.length ∧ i = .int .i64 (j : Int) ∧ s = .int .i64 (rsz (l.take j)) ∧ New w wr)
    case atStart => exact ⟨0, by omega, rfl, rfl, hn1⟩
    case round =>
      obtain ⟨j, hj, rfl, rfl, hn⟩ := hrel
      by_cases c : j < l.length
      · have HN := Lib.hid hn
        have J := Lib.hid hj
        obtain ⟨_, x, rfl, hx⟩ := HR.out.at_ j c
        obtain ⟨c0, c1, c2⟩ := hx.new hn
        have hs := rsz_take HK.out.asc j
        have hr := okR_iff.1 (RCh.mem HK.out l[j] (List.getElem_mem c))
        have he := Lib.hid (show rsz (l.take (j + 1)) = rsz (l.take j) + ((l[j]).t - (l[j]).f) by
          rw [List.take_succ_eq_append_getElem c, rsz_append]; simp only [rsz]; omega)
        generalize l[j] = r at *
        generalize rsz (l.take j) = s at *
        obtain ⟨f, t, p⟩ := r
        simp only at c0 c1 c2 hr he
        clear hn hj hx
        go_wp2
        go_roundg (l.length - (j + 1))
        case measure => have := J.out; omega
        case rel => exact ⟨j + 1, by have := J.out; omega, by go_num, by rw [he.out], by repeat (first | exact HN.out | refine New.alloc ?_ _ _)⟩
      · obtain rfl : j = l.length := by omega
        rw [List.take_length]
        go_wp2
        go_ret
        exact ⟨rfl, hn⟩
  · rw [chv_no k, erN_pos (by decide)] at q
    rw [szv_no k]
    clear h hc hm k
    go_enter Tryd.func17, Tryd.ntmps17
    go_wp2_with (go_at_call 18; (with_reducible refine q.mono ?_); rintro e w1 ⟨rfl, hn1⟩)
    go_ret
    exact ⟨rfl, hn1⟩
set_option maxHeartbeats 1000000 in
/-- room for so many more, of nil -/
theorem grow_any (w : World) (n : Nat) (hn : n ≤ 1000000) : Calls Tryd.prog 44 #[.slice none 0 0, .int .i64 (n : Int)] w (MadeR 33 [] w) := by
  obtain ⟨i0, hi, hz0, hz1, hz2⟩ := info_parts3 region_info
  by_cases c : n = 0
  · subst c
    go_enter Tryd.func44, Tryd.ntmps44
    go_wp2
    go_ret
    exact ⟨_, rfl, OwnR.nil, New.refl _⟩
  · have d : decide ((n : Int) > 0) = true := by simp; omega
    have hr := Lib.run_append_nil_zeros (P := Tryd.prog) w 27 3 27 33 i0 _ .i64 .i64 Tryd.underlying27 Tryd.underlying3 hi hz0 n (by omega) (by omega) (by omega) (by rw [hz2]; omega)
    have hge := grownCap_ge w n 0 33
    have hcm := grownCap_le_maxLen w n 0 33 (by unfold maxLen; omega)
    generalize grownCap w n 0 33 = cp at *
    go_enter Tryd.func44, Tryd.ntmps44
    go_wp2_with (at_builtin; refine Lib.wpList_append_run _ rfl _ _ _ _ rfl _ _ rfl rfl _ _ hr ?_)
    go_ret
    generalize hC : (Builtin.zeroCells #[Value.int .i64 0, .int .i64 0, .int .u8 0] n ++ Builtin.zeroCells #[Value.int .i64 0, .int .i64 0, .int .u8 0] (cp - n)) = C
    have hs : C.size = cp * 3 := by
      rw [← hC, Array.size_append, size_zeroCells, size_zeroCells]
      show n * 3 + (cp - n) * 3 = cp * 3
      omega
    exact ⟨_, rfl, OwnR.new (World.ownsRow_made w C cp (Nat.le_refl _) hcm hs) (New.refl _).drew, ((New.refl w).alloc _ _).drew⟩
end Go.Proofs.YtfkjgbenjdmedaaDoor
