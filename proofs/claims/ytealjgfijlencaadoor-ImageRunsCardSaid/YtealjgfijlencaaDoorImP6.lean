/- Programs as bytes, the package's: seg. -/
import Derived.Test.YtealjgfijlencaaDoorImP5
namespace Go.Proofs.YtealjgfijlencaaDoor
open Go.RowKit Go.Joins
set_option linter.unusedVariables false
set_option linter.unusedSimpArgs false
set_option maxRecDepth 100000
theorem Box.far {rb n : Nat} {w w' : World} {cs : Array Value} {t : TypeId} (h : Box w n cs t) (k : Far rb w w') (hn : n ≠ rb) : Box w' n cs t := by unfold Box; rw [k.block h.lt hn]; exact h
/-- the reader's block, and two of the call's own -/
def SgB (w0 w : World) (rb : Nat) (x : World) (cs : Array Value) (v : Value) (r : List Int) (sh : Bool) : Prop :=
  Box x w.heap.size #[.int .i64 0, .int .i64 0, .int .u8 0, .slice none 0 0] 50 ∧ Box x (w.heap.size + 1) cs 50 ∧ Byts w0 v r ∧ Box x rb #[v, .bool sh] 56 ∧ Far rb w x
section
variable {w0 w x y : World} {rb : Nat} {cs : Array Value} {v v' : Value} {r : List Int} {sh : Bool}
theorem SgB.new (h : SgB w0 w rb x cs v r sh) (k : New w0 w) (hr : w0.heap.size ≤ rb) : New w0 x := h.2.2.2.2.new k hr
theorem SgB.set (h : SgB w0 w rb x cs v r sh) (hr : rb < w.heap.size) (i : Nat) (u : Value) : SgB w0 w rb (x.setCell ⟨w.heap.size + 1, i, none⟩ u) (cs.setIfInBounds i u) v r sh :=
  ⟨h.1.other (by show w.heap.size + 1 ≠ _; omega) u, h.2.1.set i u, h.2.2.1, h.2.2.2.1.other (by show w.heap.size + 1 ≠ _; omega) u,
    h.2.2.2.2.1, h.2.2.2.2.2.1, h.2.2.2.2.2.2.1, by have := h.2.2.2.2.size; simp only [World.setCell, Array.size_modify]; exact this, fun k hk hn => by
      rw [Below.heap_setCell x _ u k (by show k ≠ w.heap.size + 1; omega)]
      exact h.2.2.2.2.block hk hn⟩
theorem SgB.mono (h : SgB w0 w rb x cs v r sh) (k : New x y) : SgB w0 w rb y cs v r sh := ⟨h.1.new k, h.2.1.new k, h.2.2.1, h.2.2.2.1.new k, h.2.2.2.2.trans (Far.of_new rb k)⟩
theorem SgB.taken (h : SgB w0 w rb x cs v r sh) {r' : List Int} {sh' : Bool} (k : Far rb x y) (hv : Byts w0 v' r') (hb : Box y rb #[v', .bool sh'] 56) (hr : rb < w.heap.size) : SgB w0 w rb y cs v' r' sh' :=
  ⟨h.1.far k (by omega), h.2.1.far k (by omega), hv, hb, h.2.2.2.2.trans k⟩
end
/-- what seg reads: the pages, what is left, was it short? -/
def sgr1 (r : List Int) : List Int := tkR 2 r
def sgs1 (r : List Int) (sh : Bool) : Bool := tkS 2 r sh
def sgRd (r : List Int) (sh : Bool) : Sg × List Int × Bool :=
  let r1 := tkR 2 r; let s1 := tkS 2 r sh
  let r2 := tkR 2 r1; let s2 := tkS 2 r1 s1
  let r3 := tkR 1 r2; let s3 := tkS 1 r2 s2
  let n := (nmV 2 r3).toNat; let r4 := tkR 2 r3; let s4 := tkS 2 r3 s3
  (⟨nmV 2 r, nmV 2 r1, nmV 1 r2, tkU n r4⟩, tkR n r4, tkS n r4 s4)
theorem tkR_oct {k : Nat} {r : List Int} (h : ∀ x ∈ r, 0 ≤ x ∧ x ≤ 255) : ∀ x ∈ tkR k r, 0 ≤ x ∧ x ≤ 255 := by
  unfold tkR
  split
  · exact fun x hx => h x (List.mem_of_mem_drop hx)
  · exact h
theorem tkU_oct {k : Nat} {r : List Int} (h : ∀ x ∈ r, 0 ≤ x ∧ x ≤ 255) : ∀ x ∈ tkU k r, 0 ≤ x ∧ x ≤ 255 := by
  unfold tkU
  split
  · exact fun x hx => h x (List.mem_of_mem_take hx)
  · exact fun x hx => by cases hx
theorem tkU_len (k : Nat) (r : List Int) : (tkU k r).length ≤ k := by
  unfold tkU
  split
  · rw [List.length_take]; omega
  · simp
/-- what seg leaves -/
def SegC (w0 : World) (r : List Int) (sh : Bool) (rb : Nat) (w : World) (e : Ending) (w' : World) : Prop :=
  ∃ dv v', e = .returned (.agg #[.int .i64 (sgRd r sh).1.f, .int .i64 (sgRd r sh).1.t, .int .u8 (sgRd r sh).1.p, dv]) ∧ OwnB w.heap.size w' dv (sgRd r sh).1.d ∧ Byts w0 v' (sgRd r sh).2.1 ∧ Box w' rb #[v', .bool (sgRd r sh).2.2] 56 ∧ Far rb w w'
set_option maxHeartbeats 8000000 in
theorem pseg {w0 w : World} {rv : Value} {r : List Int} {sh : Bool} {rb : Nat} (h : Byts w0 rv r) (hB : ∀ x ∈ r, 0 ≤ x ∧ x ≤ 255) (hb : Box w rb #[rv, .bool sh] 56) (hn : New w0 w) (hrb : w0.heap.size ≤ rb) :
    Calls Tryd.prog 20 #[.pointer (some ⟨rb, 0, none⟩)] w (SegC w0 r sh rb w) := by
  have H := Lib.hid (And.intro hn (And.intro hrb hb.lt))
  obtain ⟨D, hD⟩ : ∃ D, D = (w.alloc (.cells #[.int .i64 0, .int .i64 0, .int .u8 0, .slice none 0 0] 50)).alloc (.cells #[.int .i64 0, .int .i64 0, .int .u8 0, .slice none 0 0] 50) := ⟨_, rfl⟩
  have nD : New w D := by rw [hD]; exact ((New.refl w).alloc _ _).alloc _ _
  have G0 : SgB w0 w rb D #[.int .i64 0, .int .i64 0, .int .u8 0, .slice none 0 0] rv r sh := by
    refine ⟨?_, ?_, h, hb.new nD, Far.of_new rb nD⟩
    · rw [hD]; exact (Box.here w _ _ _ rfl).alloc _
    · rw [hD]; exact Box.here _ _ _ _ (by rw [World.size_alloc])
  have RBH := Lib.hid (fun (W : World) (a b c d : Value) (k : Box W w.heap.size #[a, b, c, d] 50) => (show (loadVar 50 ⟨w.heap.size, 0, none⟩).run Tryd.prog W = .ok (.agg #[a, b, c, d]) W from
    run_loadVar_mid W _ 0 _ [a, b, c, d] _ k.range Tryd.underlying50 rfl (by kernel_rfl)))
  have O1 := Lib.hid (tkR_oct (k := 2) hB)
  have O2 := Lib.hid (tkR_oct (k := 2) O1.out)
  have O3 := Lib.hid (tkR_oct (k := 1) O2.out)
  have O4 := Lib.hid (tkR_oct (k := 2) O3.out)
  have V1 := nmV_bd 2 (by decide) r hB
  have V2 := nmV_bd 2 (by decide) (tkR 2 r) O1.out
  have V3 := nmV_bd 1 (by decide) (tkR 2 (tkR 2 r)) O2.out
  have V4 := nmV_bd 2 (by decide) (tkR 1 (tkR 2 (tkR 2 r))) O3.out
  have EQ := Lib.hid (show sgRd r sh = (⟨nmV 2 r, nmV 2 (tkR 2 r), nmV 1 (tkR 2 (tkR 2 r)), tkU (nmV 2 (tkR 1 (tkR 2 (tkR 2 r)))).toNat (tkR 2 (tkR 1 (tkR 2 (tkR 2 r))))⟩, tkR (nmV 2 (tkR 1 (tkR 2 (tkR 2 r)))).toNat (tkR 2 (tkR 1 (tkR 2 (tkR 2 r)))), tkS (nmV 2 (tkR 1 (tkR 2 (tkR 2 r)))).toNat (tkR 2 (tkR 1 (tkR 2 (tkR 2 r)))) (tkS 2 (tkR 1 (tkR 2 (tkR 2 r))) (tkS 1 (tkR 2 (tkR 2 r)) (tkS 2 (tkR 2 r) (tkS 2 r sh))))) from rfl)
  have Q1 := pnumber h hB (G0.2.2.2.1) (hn.trans nD) hrb 2 (.inr (.inl rfl))
  have Q2 := Lib.hid (fun x cs v (g : SgB w0 w rb x cs v (tkR 2 r) (tkS 2 r sh)) => pnumber g.2.2.1 O1.out g.2.2.2.1 (g.new H.out.1 H.out.2.1) H.out.2.1 2 (.inr (.inl rfl)))
  have Q3 := Lib.hid (fun x cs v (g : SgB w0 w rb x cs v (tkR 2 (tkR 2 r)) (tkS 2 (tkR 2 r) (tkS 2 r sh))) => pnumber g.2.2.1 O2.out g.2.2.2.1 (g.new H.out.1 H.out.2.1) H.out.2.1 1 (.inl rfl))
  have Q4 := Lib.hid (fun x cs v (g : SgB w0 w rb x cs v (tkR 1 (tkR 2 (tkR 2 r))) (tkS 1 (tkR 2 (tkR 2 r)) (tkS 2 (tkR 2 r) (tkS 2 r sh)))) => pnumber g.2.2.1 O3.out g.2.2.2.1 (g.new H.out.1 H.out.2.1) H.out.2.1 2 (.inr (.inl rfl)))
  rw [show (256 : Int) ^ 2 = 65536 by decide] at V1 V2 V4
  rw [show (256 : Int) ^ 1 = 256 by decide] at V3
  unfold NumC at Q1 Q2 Q3 Q4
  generalize tkS 2 r sh = h1 at *
  generalize nmV 2 r = f1 at *
  generalize tkR 2 r = r1 at *
  generalize tkS 2 r1 h1 = h2 at *
  generalize nmV 2 r1 = f2 at *
  generalize tkR 2 r1 = r2 at *
  generalize tkS 1 r2 h2 = h3 at *
  generalize nmV 1 r2 = f3 at *
  generalize tkR 1 r2 = r3 at *
  generalize tkS 2 r3 h3 = h4 at *
  generalize nmV 2 r3 = f4 at *
  generalize tkR 2 r3 = r4 at *
  obtain ⟨n, rfl⟩ : ∃ n : Nat, f4 = (n : Int) := ⟨f4.toNat, by omega⟩
  rw [Int.toNat_natCast] at EQ
  have QT := Lib.hid (fun x cs v (g : SgB w0 w rb x cs v r4 h4) => ptake g.2.2.1 g.2.2.2.1 n)
  unfold TakeC at QT
  have HLT := Lib.hid (tkU_len n r4)
  have hc1 : IntKind.i64.wrap f1 = f1 := wrap_idk _ (by omega)
  have hc2 : IntKind.i64.wrap f2 = f2 := wrap_idk _ (by omega)
  have hc3 : IntKind.u8.wrap f3 = f3 := by rw [IntKind.wrap_u8]; omega
  have hc4 : IntKind.i64.wrap (n : Int) = (n : Int) := wrap_idk _ (by omega)
  have HN16 := Lib.hid (show n ≤ 65535 by omega)
  have G0 := Lib.hid G0
  clear nD hb h hB hn hrb
  go_enter Tryd.func20, Tryd.ntmps20
  go_upto_region 2 with fail
  rw [← hD]
  clear hD
  go_wp2_with fail
  refine Q1.mono ?_
  rintro en x1 ⟨v1, rfl, hv1, hx1, hf1⟩
  have G1 := Lib.hid (G0.out.taken hf1 hv1 hx1 H.out.2.2)
  have u1 := G1.out.2.1.unfrozen 0
  have l1 := G1.out.2.1.lt
  obtain ⟨m10, m11, m12, m13⟩ := G1.out.2.1.four
  have T1 := Lib.hid (G1.out.set H.out.2.2 0 (.int .i64 f1))
  clear hv1 hx1 hf1
  go_upto_region 3 with fail
  generalize x1.setCell ⟨w.heap.size + 1, 0, none⟩ (.int .i64 f1) = y1 at *
  have T1 : SgB w0 w rb y1 #[.int .i64 f1, .int .i64 0, .int .u8 0, .slice none 0 0] v1 r1 h1 := by simpa using T1.out
  have C := Q2.out _ _ _ T1
  have G1 := Lib.hid T1
  clear T1 Q1 Q2 u1 l1 m10 m11 m12 m13
  go_wp2_with fail
  refine C.mono ?_
  rintro en x2 ⟨v2, rfl, hv2, hx2, hf2⟩
  have G2 := Lib.hid (G1.out.taken hf2 hv2 hx2 H.out.2.2)
  have u2 := G2.out.2.1.unfrozen 1
  have l2 := G2.out.2.1.lt
  obtain ⟨m20, m21, m22, m23⟩ := G2.out.2.1.four
  have T2 := Lib.hid (G2.out.set H.out.2.2 1 (.int .i64 f2))
  clear hv2 hx2 hf2
  go_upto_region 4 with fail
  generalize x2.setCell ⟨w.heap.size + 1, 1, none⟩ (.int .i64 f2) = y2 at *
  have T2 : SgB w0 w rb y2 #[.int .i64 f1, .int .i64 f2, .int .u8 0, .slice none 0 0] v2 r2 h2 := by simpa using T2.out
  have C := Q3.out _ _ _ T2
  have G2 := Lib.hid T2
  clear T2 Q3 u2 l2 m20 m21 m22 m23
  go_wp2_with fail
  refine C.mono ?_
  rintro en x3 ⟨v3, rfl, hv3, hx3, hf3⟩
  have G3 := Lib.hid (G2.out.taken hf3 hv3 hx3 H.out.2.2)
  have u3 := G3.out.2.1.unfrozen 2
  have l3 := G3.out.2.1.lt
  obtain ⟨m30, m31, m32, m33⟩ := G3.out.2.1.four
  have T3 := Lib.hid (G3.out.set H.out.2.2 2 (.int .u8 f3))
  clear hv3 hx3 hf3
  go_upto_region 5 with fail
  generalize x3.setCell ⟨w.heap.size + 1, 2, none⟩ (.int .u8 f3) = y3 at *
  have T3 : SgB w0 w rb y3 #[.int .i64 f1, .int .i64 f2, .int .u8 f3, .slice none 0 0] v3 r3 h3 := by simpa using T3.out
  have C := Q4.out _ _ _ T3
  have G3 := Lib.hid T3
  clear T3 Q4 u3 l3 m30 m31 m32 m33
  go_wp2_with fail
  refine C.mono ?_
  rintro en x4 ⟨v4, rfl, hv4, hx4, hf4⟩
  have G4 := Lib.hid (G3.out.taken hf4 hv4 hx4 H.out.2.2)
  have G4d := Lib.hid (G4.out.mono (New.refl x4).drew)
  have S4 := Lib.hid (show x4.drew.cell? ⟨w.heap.size + 1, 3, none⟩ = some (.slice none 0 0) from G4d.out.2.1.cell 3)
  clear hv4 hx4 hf4 C
  go_upto_region 6 with fail
  have hS : (fun x : World => x.cell? ⟨w.heap.size + 1, 3, none⟩ = some (.slice none 0 0)) x4.drew := S4.out
  refine wp_region_L (st := 7) (S := fun x : World => x.cell? ⟨w.heap.size + 1, 3, none⟩ = some (.slice none 0 0)) (by kernel_rfl) ?_
  refine wpAnyL_takeY (i := 0) (v := ?_) (by rfl) rfl (by kernel_rfl) (by kernel_rfl) (by kernel_rfl) (fun _ _ _ h => h) (Or.inl ⟨by rfl, ?_⟩) hS ?_
  rotate_left
  · intro w hSw
    go_simp
    with_reducible rfl
  try simp only [Act.put, List.setIfInBounds_toArray, List.set_cons_zero, List.set_cons_succ, List.getElem_toArray, List.getElem_cons_zero, List.getElem_cons_succ]
  refine wpAnyL_take (i := 1) (v := ?_) rfl (by kernel_rfl) (by kernel_rfl) (by kernel_rfl) (by kernel_rfl) (by kernel_rfl) (fun _ _ _ h => h) (Or.inl ⟨by rfl, ?_⟩) hS ?_
  rotate_left
  · intro w hSw
    try dsimp only at hSw
    go_simp
    with_reducible rfl
  try simp only [Act.put, List.setIfInBounds_toArray, List.set_cons_zero, List.set_cons_succ, List.getElem_toArray, List.getElem_cons_zero, List.getElem_cons_succ]
  refine wpAnyL_takeY (i := 2) (v := ?_) (by rfl) rfl (by kernel_rfl) (by kernel_rfl) (by kernel_rfl) (fun _ _ _ h => h) (Or.inl ⟨by rfl, ?_⟩) hS ?_
  rotate_left
  · intro w hSw
    go_simp
    with_reducible rfl
  try simp only [Act.put, List.setIfInBounds_toArray, List.set_cons_zero, List.set_cons_succ, List.getElem_toArray, List.getElem_cons_zero, List.getElem_cons_succ]
  refine wpAnyL_takeY (i := 3) (v := ?_) (by rfl) rfl (by kernel_rfl) (by kernel_rfl) (by kernel_rfl) (fun _ _ _ h => h) (Or.inl ⟨by rfl, ?_⟩) hS ?_
  rotate_left
  · intro w hSw
    go_simp
    with_reducible rfl
  try simp only [Act.put, List.setIfInBounds_toArray, List.set_cons_zero, List.set_cons_succ, List.getElem_toArray, List.getElem_cons_zero, List.getElem_cons_succ]
  refine wpAnyL_one (i := 4) (by kernel_rfl) rfl (fun K' hK => ?_)
  go_simp
  refine (QT.out _ _ _ G4d.out).mono ?_
  rintro en x5 ⟨u5, v5, rfl, hu5, hv5, hx5, hf5⟩
  have G5 := G4d.out.taken hf5 hv5 hx5 H.out.2.2
  have S5 : x5.cell? ⟨w.heap.size + 1, 3, none⟩ = some (.slice none 0 0) := G5.2.1.cell 3
  refine hK.out _ _ (fun _ => S5) ?_
  clear hK K'
  try simp only [Act.put, List.setIfInBounds_toArray, List.set_cons_zero, List.set_cons_succ, List.getElem_toArray, List.getElem_cons_zero, List.getElem_cons_succ]
  refine wpAnyL_one (i := 5) (by kernel_rfl) rfl (fun K' hK => ?_)
  rw [if_pos (by rfl)]
  have hbs : w.heap.size ≤ x5.heap.size := G5.2.2.2.2.size
  have hu5x := hu5.new (G5.new H.out.1 H.out.2.1)
  refine opwp_app (.tmp 21) (.tmp 24) rfl rfl w.heap.size _ [] rfl (OwnB.nil _ _) _ _ rfl hu5x (by have := HLT.out; rw [List.length_nil]; omega) hbs ?_
  intro v6 w6 o6 k6 z6 n6
  rw [List.nil_append] at o6
  obtain ⟨p6, c6, rfl⟩ := o6.shape
  have G6 := G5.mono (k6.new (fun i _ c => by cases c))
  have S6 : w6.cell? ⟨w.heap.size + 1, 3, none⟩ = some (.slice none 0 0) := G6.2.1.cell 3
  have hS := S6
  refine hK.out _ _ (fun _ => S6) ?_
  clear hK K'
  try simp only [Act.put, List.setIfInBounds_toArray, List.set_cons_zero, List.set_cons_succ, List.getElem_toArray, List.getElem_cons_zero, List.getElem_cons_succ]
  refine wpAnyL_takeY (i := 6) (v := ?_) (by rfl) rfl (by kernel_rfl) (by kernel_rfl) (by kernel_rfl) (fun _ _ _ h => h) (Or.inl ⟨by rfl, ?_⟩) hS ?_
  rotate_left
  · intro w hSw
    go_simp
    with_reducible rfl
  try simp only [Act.put, List.setIfInBounds_toArray, List.set_cons_zero, List.set_cons_succ, List.getElem_toArray, List.getElem_cons_zero, List.getElem_cons_succ]
  refine wpAnyL_one (i := 7) (by kernel_rfl) rfl (fun K' hK => ?_)
  have q2 := S6
  have q1 : w6.frozen? ⟨w.heap.size + 1, 3, none⟩ = false := G6.2.1.unfrozen 3
  go_simp
  refine hK.out _ _ (fun h => by simp at h) ?_
  refine wpAnyL_done (by kernel_rfl) ?_ _
  have T6 := G6.set H.out.2.2 3 (.slice p6 (tkU n r4).length c6)
  have OF := Lib.hid (show OwnB w.heap.size (w6.setCell ⟨w.heap.size + 1, 3, none⟩ (.slice p6 (tkU n r4).length c6)) (.slice p6 (tkU n r4).length c6) (tkU n r4) by
    have hne := o6.ne_box G6.2.1 (by decide)
    have := (o6.w8.but (But.set (S := fun g => g = w.heap.size + 1) w6 (p := ⟨w.heap.size + 1, 3, none⟩) rfl (.slice p6 (tkU n r4).length c6)) (fun g hg => hne g hg)).b8
    exact this)
  generalize w6.setCell ⟨w.heap.size + 1, 3, none⟩ (.slice p6 (tkU n r4).length c6) = y6 at *
  generalize (tkU n r4).length = l6 at *
  have T6 : SgB w0 w rb y6 #[.int .i64 f1, .int .i64 f2, .int .u8 f3, .slice p6 l6 c6] v5 (tkR n r4) (tkS n r4 h4) := by simpa using T6
  obtain ⟨e0, e1, e2, e3⟩ := T6.1.four
  obtain ⟨s0, s1, s2, s3⟩ := T6.2.1.four
  have el := T6.1.lt
  have g0 := T6.1.unfrozen 0
  have g1 := T6.1.unfrozen 1
  have g2 := T6.1.unfrozen 2
  have g3 := T6.1.unfrozen 3
  have FIN := Lib.hid (show ∀ y, y = (((y6.setCell ⟨w.heap.size, 0, none⟩ (.int .i64 f1)).setCell ⟨w.heap.size, 1, none⟩ (.int .i64 f2)).setCell ⟨w.heap.size, 2, none⟩ (.int .u8 f3)).setCell ⟨w.heap.size, 3, none⟩ (.slice p6 l6 c6) → Box y w.heap.size #[.int .i64 f1, .int .i64 f2, .int .u8 f3, .slice p6 l6 c6] 50 ∧ SegC w0 r sh rb w (.returned (.agg #[.int .i64 f1, .int .i64 f2, .int .u8 f3, .slice p6 l6 c6])) y from by
    intro y hy
    have B1 := T6.1.set 0 (.int .i64 f1)
    have B2 := B1.set 1 (.int .i64 f2)
    have B3 := B2.set 2 (.int .u8 f3)
    have B4 := B3.set 3 (.slice p6 l6 c6)
    have K : But (fun g => g = w.heap.size) y6 y := by
      rw [hy]
      exact (((But.set (S := fun g => g = w.heap.size) y6 (p := ⟨w.heap.size, 0, none⟩) rfl _).trans (But.set (S := fun g => g = w.heap.size) _ (p := ⟨w.heap.size, 1, none⟩) rfl _)).trans (But.set (S := fun g => g = w.heap.size) _ (p := ⟨w.heap.size, 2, none⟩) rfl _)).trans (But.set (S := fun g => g = w.heap.size) _ (p := ⟨w.heap.size, 3, none⟩) rfl _)
    have hne := OF.out.ne_box T6.1 (by decide)
    refine ⟨by rw [hy]; simpa using B4, ?_⟩
    unfold SegC
    rw [EQ.out]
    have hrw : rb ≠ w.heap.size := by have := H.out.2.2; omega
    refine ⟨_, v5, rfl, (OF.out.w8.but K (fun g hg => hne g hg)).b8, T6.2.2.1, T6.2.2.2.1.but K hrw, ?_⟩
    exact ⟨K.1.trans T6.2.2.2.2.1, K.2.1.trans T6.2.2.2.2.2.1, K.2.2.1.trans T6.2.2.2.2.2.2.1, Nat.le_trans T6.2.2.2.2.size K.size, fun i hi hn => (K.block (Nat.lt_of_lt_of_le hi T6.2.2.2.2.size) (by omega)).trans (T6.2.2.2.2.block hi hn)⟩)
  have FX := Lib.hid (FIN.out _ rfl)
  clear T6 FIN
  go_wp2
  refine bodyPost_ret (v := .agg #[.int .i64 f1, .int .i64 f2, .int .u8 f3, .slice p6 l6 c6]) (by simp [results, Tryd.results20, asAddr, RBH.out _ _ _ _ _ FX.out.1]) rfl FX.out.2
end Go.Proofs.YtealjgfijlencaaDoor
