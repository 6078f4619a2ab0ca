/- The package's encode and Text. -/
import Derived.Test.YtlpjegclpilaaaaGreatDoorAmC
import Derived.Laws.OwnMore
import Derived.Shelf.Strings.FieldsFuncAny
namespace Go.Proofs.YtlpjegclpilaaaaGreatDoor
open Go.RowKit
set_option linter.unusedVariables false
/-- what encode answers -/
def ev (x : Option (Nat × Int × Int × Int)) : Value := match x with
  | none => .tuple #[.int .u32 0, .iface 55 (.int .i64 22)]
  | some y => .tuple #[.int .u32 (innum y.1 y.2.1 y.2.2.1 y.2.2.2), .nilIface]
set_option maxHeartbeats 1000000 in
theorem encode_any (l : List UInt8) (w : World) (hl : l.length ≤ 4294967296) (h : Env w) : Calls Tryz.prog 34 #[.string (ba l)] w fun e w' => e = .returned (ev (prs l)) ∧ New w w' := by
  have c1 := parse_any l w hl h
  cases hp : prs l with
  | none =>
    rw [hp] at c1
    unfold pv at c1
    clear h hp
    go_enter Tryz.func34, Tryz.ntmps34
    go_wp2_with fail
    refine c1.mono ?_
    rintro e w1 ⟨rfl, n1⟩
    go_wp2
    go_ret2
    exact ⟨rfl, n1.alloc _ _⟩
  | some y =>
    rw [hp] at c1
    have hok := (prs_tx hp).1.1
    obtain ⟨o, a, b, m⟩ := y
    have c2 := fun W => iencode_ok (o : Int) a b m W hok
    unfold pv at c1
    clear h hp hok
    go_enter Tryz.func34, Tryz.ntmps34
    go_wp2_with fail
    refine c1.mono ?_
    rintro e w1 ⟨rfl, n1⟩
    go_wp2_with fail
    refine (c2 _).mono ?_
    rintro e w2 ⟨rfl, n2⟩
    go_wp2
    go_ret2
    exact ⟨rfl, (n1.alloc _ _).trans n2⟩

theorem str_info : (Tryz.prog.info? 9).map (fun i => (i.zero, i.size, i.bytes)) = some (some (.string ⟨#[]⟩), 1, 16) := by kernel_rfl
/-- a slice of texts that the call made -/
def OwnS (base : Nat) (w : World) (v : Value) (ls : List (List UInt8)) : Prop := w.ownsRow base 9 1 v ls.length (ls.map fun l => Value.string (ba l))
theorem OwnS.nil (base : Nat) (w : World) : OwnS base w (.slice none 0 0) [] := ⟨by simp, .inl ⟨rfl, rfl⟩⟩
theorem OwnS.new {base : Nat} {w w' : World} {v : Value} {ls : List (List UInt8)} (h : OwnS base w v ls) (k : New w w') : OwnS base w' v ls := by
  refine ⟨h.1, ?_⟩
  rcases h.2 with hn | ⟨g, cap, cur, rfl, hb, hg, rest⟩
  · exact .inl hn
  · exact .inr ⟨g, cap, cur, rfl, hb, by rw [k.block (Array.getElem?_eq_some_iff.1 hg).1]; exact hg, rest⟩
theorem OwnS.push {base : Nat} {w0 wr w1 : World} {v v' : Value} {ls : List (List UInt8)} {l : List UInt8} {o : Obj} (hnx : New w0 wr) (hb : w0.heap.size ≤ base)
    (hown : OwnS base wr v ls) (hown' : w1.ownsRow base 9 1 v' (ls.length + 1) ((ls.map fun l => Value.string (ba l)) ++ [.string (ba l)])) (hgrow : (wr.alloc o).grownBy w1 v.ownBlock) : OwnS base w1 v' (ls ++ [l]) ∧ New w0 w1 := by
  refine ⟨?_, (hnx.allocO o).grown hgrow fun k hk => Nat.le_trans hb (World.ownsRow.lt hown k hk).1⟩
  unfold OwnS; simpa using hown'
theorem OwnS.lit (w : World) (l : List UInt8) : OwnS w.heap.size (w.alloc (.cells #[.string (ba l)] 9)) (.slice (some ⟨w.heap.size, 0, none⟩) 1 1) [l] :=
  World.ownsRow_lit w #[.string (ba l)] 1 (Nat.le_refl _) (by unfold maxLen; omega) rfl
/-- where it lies, and its texts -/
theorem OwnS.some {base : Nat} {w : World} {v : Value} {ls : List (List UInt8)} (h : OwnS base w v ls) (hne : ls ≠ []) : ∃ g cap, v = .slice (some ⟨g, 0, none⟩) ls.length cap ∧ ls.length ≤ cap ∧ g < w.heap.size ∧ ∀ (j : Nat) x, ls[j]? = some x → w.cell? ⟨g, j, none⟩ = some (.string (ba x)) := by
  rcases h.2 with ⟨-, hn⟩ | ⟨g, cap, cur, rfl, hb, hg, h1, h2, h3, h4⟩
  · exact absurd (List.eq_nil_of_length_eq_zero hn) hne
  · refine ⟨g, cap, rfl, h1, (Array.getElem?_eq_some_iff.1 hg).1, fun j x hx => ?_⟩
    have hj := (List.getElem?_eq_some_iff.1 hx).1
    rw [World.ownsRow.cellAt h j (by omega), List.getElem?_map, hx]; rfl
theorem ba_app (a b : List UInt8) : ba (a ++ b) = ba a ++ ba b := by
  have : (ba (a ++ b)).data.toList = (ba a ++ ba b).data.toList := by rw [ba_data, ByteArray.data_append, Array.toList_append, ba_data, ba_data]
  rw [← ba_of (ba (a ++ b)), ← ba_of (ba a ++ ba b), this]
theorem ba_r (l : List UInt8) : ba (114 :: l) = ⟨#[114]⟩ ++ ba l := ba_app [114] l
/-- the text of any instruction -/
def txtI (o a b m : Int) : List UInt8 := ([32] : List UInt8).intercalate (nmI o :: (ndI o).map (wdOf a b m))
theorem txtI_nat (o : Nat) (a b m : Int) : txtI o a b m = txt o a b m := by unfold txtI txt wds; rw [nmI_nat, ndI_nat]
def okv (o a b m : Int) : Value := .tuple #[.string (ba (txtI o a b m)), .nilIface]
def nov : Value := .tuple #[.string (ba []), .iface 55 (.int .i64 22)]
def Same (o a b m : Int) : Prop := ∃ k : Nat, o = (k : Int) ∧ prs (txtI o a b m) = some (k, a, b, m)
/-- what Text answers -/
noncomputable def tv (o a b m : Int) : Value := by classical exact if Same o a b m then okv o a b m else nov
theorem inter_len (K : Nat) : ∀ ws : List (List UInt8), (∀ x ∈ ws, x.length ≤ K) → (([32] : List UInt8).intercalate ws).length ≤ (K + 1) * ws.length
  | [], _ => by simp [List.intercalate]
  | [x], h => by have := h x (by simp); simp [List.intercalate]; omega
  | x :: y :: t, h => by
    have ih := inter_len K (y :: t) (fun z hz => h z (by simp [hz]))
    have hx := h x (by simp)
    have e : ([32] : List UInt8).intercalate (x :: y :: t) = x ++ (32 :: ([32] : List UInt8).intercalate (y :: t)) := by simp [List.intercalate]
    rw [e, List.length_append, List.length_cons, List.length_cons, Nat.mul_add]
    rw [List.length_cons] at ih ⊢
    omega
theorem wd_len (a b m : Int) (ha : -9223372036854775808 ≤ a ∧ a ≤ 9223372036854775807) (hb : -9223372036854775808 ≤ b ∧ b ≤ 9223372036854775807) (hm : -9223372036854775808 ≤ m ∧ m ≤ 9223372036854775807) (c : UInt8) : (wdOf a b m c).length ≤ 22 := by
  have la := Lib.itoa_length_le a ha.1 ha.2
  have lb := Lib.itoa_length_le b hb.1 hb.2
  have lm := Lib.itoa_length_le m hm.1 hm.2
  unfold wdOf
  split
  · simp; omega
  · split
    · simp; omega
    · omega
theorem nmI_len (o : Int) : (nmI o).length ≤ 5 := by
  unfold nmI; split
  · exact nm_len _
  · simp
theorem txtI_len (o a b m : Int) (hN : (ndI o).length ≤ 3) (ha : -9223372036854775808 ≤ a ∧ a ≤ 9223372036854775807) (hb : -9223372036854775808 ≤ b ∧ b ≤ 9223372036854775807) (hm : -9223372036854775808 ≤ m ∧ m ≤ 9223372036854775807) : (txtI o a b m).length ≤ 92 := by
  have h := inter_len 22 (nmI o :: (ndI o).map (wdOf a b m)) (by
    intro x hx
    rcases List.mem_cons.1 hx with rfl | hx
    · have := nmI_len o; omega
    · obtain ⟨c, _, rfl⟩ := List.mem_map.1 hx
      exact wd_len a b m ha hb hm c)
  unfold txtI
  simp only [List.length_cons, List.length_map] at h
  omega
/-- strings.Join with blanks, of texts that the call made -/
theorem join_any (ls : List (List UInt8)) (g cap : Nat) (w : World) (hc : ∀ (j : Nat) x, ls[j]? = some x → w.cell? ⟨g, j, none⟩ = some (.string (ba x))) (hg : g < w.heap.size) (h1 : ls.length ≤ cap) (h2 : ls.length ≤ 100000) (h3 : (([32] : List UInt8).intercalate ls).length ≤ 100000) :
    Calls Tryz.prog 19 #[.slice (some ⟨g, 0, none⟩) ls.length cap, .string ⟨#[32]⟩] w fun e w' => e = .returned (.string (ba (([32] : List UInt8).intercalate ls))) ∧ New w w' := by
  have hmap : (ls.map ba).map (·.data.toList) = ls := by
    rw [List.map_map]
    have : ((fun s : ByteArray => s.data.toList) ∘ ba) = id := by funext s; exact ba_data s
    rw [this, List.map_id]
  have hj : Lib.join ((ls.map ba).map (·.data.toList)) (⟨#[32]⟩ : ByteArray).data.toList = ([32] : List UInt8).intercalate ls := by rw [hmap]; rfl
  have := Tryz.strings_Join g 0 cap (ls.map ba) ⟨#[32]⟩ w (fun j x hx => by
    rw [List.getElem?_map] at hx
    cases hl : ls[j]? with
    | none => rw [hl] at hx; cases hx
    | some y => rw [hl] at hx; simp only [Option.map_some, Option.some.injEq] at hx; rw [Nat.zero_add, hc j y hl, hx]) hg (by rw [List.length_map]; omega) (by rw [List.length_map]; exact h1) (by rw [hj]; omega)
  rw [hj, List.length_map] at this
  exact this
theorem letters_I (o : Int) : (ndI o).length ≤ 3 ∧ ∀ c ∈ ndI o, c = 97 ∨ c = 98 ∨ c = 105 := by
  unfold ndI
  split
  · exact ⟨nd_len _, (nd_letters _).2⟩
  · exact ⟨by simp, by simp⟩
set_option maxHeartbeats 4000000 in
set_option maxRecDepth 100000 in
theorem text_any (o a b m : Int) (w : World) (h : Env w) (ha : -9223372036854775808 ≤ a ∧ a ≤ 9223372036854775807) (hb : -9223372036854775808 ≤ b ∧ b ≤ 9223372036854775807) (hm : -9223372036854775808 ≤ m ∧ m ≤ 9223372036854775807) :
    Calls Tryz.prog 6 #[.agg #[.int .i64 o, .int .i64 a, .int .i64 b, .int .i64 m]] w fun e w' => e = .returned (tv o a b m) ∧ New w w' := by
  obtain ⟨i0, hi, hz0', hz1, hz2⟩ := info_parts str_info
  obtain ⟨T, hT⟩ : ∃ T, T = tv o a b m := ⟨_, rfl⟩
  rw [← hT]
  have cN := fun W (k : Env W) => name_any o W k
  have cD := fun W (k : Env W) => needs_any o W k
  have hL := letters_I o
  have hXl := txtI_len o a b m hL.1 ha hb hm
  have hX : txtI o a b m = ([32] : List UInt8).intercalate (nmI o :: (ndI o).map (wdOf a b m)) := rfl
  generalize nmI o = M at *
  generalize ndI o = N at *
  have i1 := Box.here w _ #[.int .i64 o, .int .i64 a, .int .i64 b, .int .i64 m] 28 rfl
  have n1 := (New.refl w).alloc #[.int .i64 o, .int .i64 a, .int .i64 b, .int .i64 m] 28
  have sN := ba_size N
  go_enter Tryz.func6, Tryz.ntmps6
  go_wp2_with fail
  refine (cN _ (h.new n1)).mono ?_
  rintro e W0 ⟨rfl, hW0⟩
  rw [← hW0] at i1 n1
  clear hW0 cN
  obtain ⟨x0, x1, x2, x3⟩ := i1.four
  have hz0 := i1.lt
  go_wp2_with fail
  have o1 := OwnS.lit W0 M
  have n2 := (New.refl W0).alloc #[.string (ba M)] 9
  refine (cD _ ((h.new n1).new n2)).mono ?_
  rintro e W1 ⟨rfl, hW1⟩
  rw [← hW1] at o1 n2
  have hz : W0.heap.size < W1.heap.size := by rw [hW1]; simp
  clear hW1 cD
  go_wp2_with fail
  go_loopg [4] N.length (fun k s4 wr => ∃ j : Nat, j + k = N.length ∧ OwnS W0.heap.size wr s4 (M :: (N.take j).map (wdOf a b m)) ∧ wr.heap[W1.heap.size]? = some (.stringIter (ba N) j) ∧ New W0 wr)
  case atStart => exact ⟨0, by omega, o1.new ((New.refl _).allocO _), World.iter_heap W1 _ 0, n2.trans ((New.refl _).allocO _)⟩
  case round =>
    clear o1 n2
    obtain ⟨j, hj, hown, hit, hnx⟩ := hrel
    by_cases hlt : j < N.length
    · obtain ⟨c, hc⟩ : ∃ c, N[j]? = some c := ⟨_, List.getElem?_eq_getElem hlt⟩
      have hcl := hL.2 c (List.mem_of_getElem? hc)
      have hjs : j < (ba N).size := by omega
      have hnx1 : ∀ ty, (Instr.next (.pointer (some ⟨W1.heap.size, 0, none⟩)) true ty).run Tryz.prog wr = _ := fun ty => Lib.run_next_ascii_at wr W1.heap.size (ba N) j ty hit hjs (by rw [ba_get N j c hc]; rcases hcl with rfl | rfl | rfl <;> decide)
      rw [ba_get N j c hc] at hnx1
      have hit2 := Lib.iterAt_heap wr W1.heap.size (ba N) j (j + 1) hit
      have hown2 : OwnS W0.heap.size (wr.iterAt W1.heap.size (ba N) (j + 1)) u4 (M :: (N.take j).map (wdOf a b m)) := own_iterAt hown hit (j + 1)
      have hnx2 : New W0 (wr.iterAt W1.heap.size (ba N) (j + 1)) := Lib.below_iterAt hnx (k := W1.heap.size) (by omega) _ _
      clear hown hit hnx
      obtain ⟨W, hW⟩ : ∃ W, wr.iterAt W1.heap.size (ba N) (j + 1) = W := ⟨_, rfl⟩
      rw [hW] at hit2 hown2 hnx2
      simp only [hW] at hnx1
      clear hW
      have hE := h.new (n1.trans hnx2)
      have y1 := hnx2.keeps x1
      have y2 := hnx2.keeps x2
      have y3 := hnx2.keeps x3
      have hzW := hnx2.size
      have hitW := (Array.getElem?_eq_some_iff.1 hit2).1
      clear h n1 i1 x0 x1 x2 x3 hz0
      rcases hcl with hcv | hcv | hcv
      · subst hcv
        have cI := fun W (k : Env W) => itoa_any a W k ha.1 ha.2
        have sI : ¬ 9223372036854775807 < 1 + (ba (Lib.itoa a)).size := by rw [ba_size]; have := Lib.itoa_length_le a ha.1 ha.2; omega
        have eW : ba (114 :: Lib.itoa a) = ⟨#[114]⟩ ++ ba (Lib.itoa a) := ba_r _
        have eL : M :: (N.take (j + 1)).map (wdOf a b m) = (M :: (N.take j).map (wdOf a b m)) ++ [114 :: Lib.itoa a] := by rw [List.take_add_one, hc, List.map_append]; rfl
        have hLl : (M :: (N.take j).map (wdOf a b m)).length ≤ 4 := by simp; omega
        generalize M :: (N.take j).map (wdOf a b m) = Ls at *
        go_wp2_with fail
        refine (cI _ hE).mono ?_
        rintro e W5 ⟨rfl, n5⟩
        have hown5 := OwnS.new hown2 n5
        have hnx5 := hnx2.trans n5
        have hit5 : W5.heap[W1.heap.size]? = some (.stringIter (ba N) (j + 1)) := by rw [n5.block hitW]; exact hit2
        have hne5 := own_ne_iter hown5 hit5
        have hlt5 := (Array.getElem?_eq_some_iff.1 hit5).1
        clear hit2 hown2 hnx2 n5 hE y1 y2 y3 hzW hitW cI
        go_wp2_with (at_builtin; refine wpList_append_own _ rfl _ _ 53 rfl W0.heap.size 9 i0 (.string ⟨#[]⟩) 1 16 Tryz.underlying53 hi hz0' hz1 hz2 rfl (by decide) _ _ _ rfl (World.ownsRow.alloc hown5 _) ⟨W5.heap.size, 0, none⟩ 1 1 [.string (⟨#[114]⟩ ++ ba (Lib.itoa a))] rfl rfl ?c1 ?c2 ?c3 ?c4 ?c5 ?_)
        case c1 => intro i u hu; rcases i with _ | i <;> simp at hu; subst hu; exact (World.cell?_alloc_at _ _ _ _ rfl).trans rfl
        case c2 => intro u hu; simp at hu; subst hu; rfl
        case c3 => unfold maxLen; omega
        case c4 => omega
        case c5 => have := hnx5.size; simp; omega
        intro v' w1 hown' hgrow _
        rw [← eW] at hown'
        obtain ⟨o6, n6⟩ := OwnS.push hnx5 (Nat.le_refl _) hown5 hown' hgrow
        have hit6 : w1.heap[W1.heap.size]? = some (.stringIter (ba N) (j + 1)) := by
          rw [hgrow.block W1.heap.size (by simp; omega) hne5, Below.heap_alloc _ _ _ hlt5]; exact hit5
        clear hown' hgrow hnx5 hown5 hit5 hne5 hlt5
        go_wp2
        go_roundg (N.length - (j + 1))
        case measure => omega
        case rel => exact ⟨j + 1, by omega, by rw [eL]; exact o6, hit6, n6⟩
      · subst hcv
        have cI := fun W (k : Env W) => itoa_any b W k hb.1 hb.2
        have sI : ¬ 9223372036854775807 < 1 + (ba (Lib.itoa b)).size := by rw [ba_size]; have := Lib.itoa_length_le b hb.1 hb.2; omega
        have eW : ba (114 :: Lib.itoa b) = ⟨#[114]⟩ ++ ba (Lib.itoa b) := ba_r _
        have eL : M :: (N.take (j + 1)).map (wdOf a b m) = (M :: (N.take j).map (wdOf a b m)) ++ [114 :: Lib.itoa b] := by rw [List.take_add_one, hc, List.map_append]; rfl
        have hLl : (M :: (N.take j).map (wdOf a b m)).length ≤ 4 := by simp; omega
        generalize M :: (N.take j).map (wdOf a b m) = Ls at *
        go_wp2_with fail
        refine (cI _ hE).mono ?_
        rintro e W5 ⟨rfl, n5⟩
        have hown5 := OwnS.new hown2 n5
        have hnx5 := hnx2.trans n5
        have hit5 : W5.heap[W1.heap.size]? = some (.stringIter (ba N) (j + 1)) := by rw [n5.block hitW]; exact hit2
        have hne5 := own_ne_iter hown5 hit5
        have hlt5 := (Array.getElem?_eq_some_iff.1 hit5).1
        clear hit2 hown2 hnx2 n5 hE y1 y2 y3 hzW hitW cI
        go_wp2_with (at_builtin; refine wpList_append_own _ rfl _ _ 53 rfl W0.heap.size 9 i0 (.string ⟨#[]⟩) 1 16 Tryz.underlying53 hi hz0' hz1 hz2 rfl (by decide) _ _ _ rfl (World.ownsRow.alloc hown5 _) ⟨W5.heap.size, 0, none⟩ 1 1 [.string (⟨#[114]⟩ ++ ba (Lib.itoa b))] rfl rfl ?c1 ?c2 ?c3 ?c4 ?c5 ?_)
        case c1 => intro i u hu; rcases i with _ | i <;> simp at hu; subst hu; exact (World.cell?_alloc_at _ _ _ _ rfl).trans rfl
        case c2 => intro u hu; simp at hu; subst hu; rfl
        case c3 => unfold maxLen; omega
        case c4 => omega
        case c5 => have := hnx5.size; simp; omega
        intro v' w1 hown' hgrow _
        rw [← eW] at hown'
        obtain ⟨o6, n6⟩ := OwnS.push hnx5 (Nat.le_refl _) hown5 hown' hgrow
        have hit6 : w1.heap[W1.heap.size]? = some (.stringIter (ba N) (j + 1)) := by
          rw [hgrow.block W1.heap.size (by simp; omega) hne5, Below.heap_alloc _ _ _ hlt5]; exact hit5
        clear hown' hgrow hnx5 hown5 hit5 hne5 hlt5
        go_wp2
        go_roundg (N.length - (j + 1))
        case measure => omega
        case rel => exact ⟨j + 1, by omega, by rw [eL]; exact o6, hit6, n6⟩
      · subst hcv
        have cI := fun W (k : Env W) => itoa_any m W k hm.1 hm.2
        have eL : M :: (N.take (j + 1)).map (wdOf a b m) = (M :: (N.take j).map (wdOf a b m)) ++ [Lib.itoa m] := by rw [List.take_add_one, hc, List.map_append]; rfl
        have hLl : (M :: (N.take j).map (wdOf a b m)).length ≤ 4 := by simp; omega
        generalize M :: (N.take j).map (wdOf a b m) = Ls at *
        go_wp2_with fail
        refine (cI _ hE).mono ?_
        rintro e W5 ⟨rfl, n5⟩
        have hown5 := OwnS.new hown2 n5
        have hnx5 := hnx2.trans n5
        have hit5 : W5.heap[W1.heap.size]? = some (.stringIter (ba N) (j + 1)) := by rw [n5.block hitW]; exact hit2
        have hne5 := own_ne_iter hown5 hit5
        have hlt5 := (Array.getElem?_eq_some_iff.1 hit5).1
        clear hit2 hown2 hnx2 n5 hE y1 y2 y3 hzW hitW cI
        go_wp2_with (at_builtin; refine wpList_append_own _ rfl _ _ 53 rfl W0.heap.size 9 i0 (.string ⟨#[]⟩) 1 16 Tryz.underlying53 hi hz0' hz1 hz2 rfl (by decide) _ _ _ rfl (World.ownsRow.alloc hown5 _) ⟨W5.heap.size, 0, none⟩ 1 1 [.string (ba (Lib.itoa m))] rfl rfl ?c1 ?c2 ?c3 ?c4 ?c5 ?_)
        case c1 => intro i u hu; rcases i with _ | i <;> simp at hu; subst hu; exact (World.cell?_alloc_at _ _ _ _ rfl).trans rfl
        case c2 => intro u hu; simp at hu; subst hu; rfl
        case c3 => unfold maxLen; omega
        case c4 => omega
        case c5 => have := hnx5.size; simp; omega
        intro v' w1 hown' hgrow _
        obtain ⟨o6, n6⟩ := OwnS.push hnx5 (Nat.le_refl _) hown5 hown' hgrow
        have hit6 : w1.heap[W1.heap.size]? = some (.stringIter (ba N) (j + 1)) := by
          rw [hgrow.block W1.heap.size (by simp; omega) hne5, Below.heap_alloc _ _ _ hlt5]; exact hit5
        clear hown' hgrow hnx5 hown5 hit5 hne5 hlt5
        go_wp2
        go_roundg (N.length - (j + 1))
        case measure => omega
        case rel => exact ⟨j + 1, by omega, by rw [eL]; exact o6, hit6, n6⟩
    · obtain rfl : j = N.length := by omega
      rw [List.take_length] at hown
      have hnx1 : ∀ ty, (Instr.next (.pointer (some ⟨W1.heap.size, 0, none⟩)) true ty).run Tryz.prog wr = _ := fun ty => Lib.run_next_end_at wr W1.heap.size (ba N) N.length ty hit (by omega)
      have hLl : (M :: N.map (wdOf a b m)).length ≤ 4 := by simp; omega
      have hLs : M :: N.map (wdOf a b m) ≠ [] := by simp
      have hXl2 := hXl
      rw [hX] at hXl2
      generalize M :: N.map (wdOf a b m) = Ls at *
      obtain ⟨g, cap, rfl, hcap, hg, hcell⟩ := hown.some hLs
      have cJ := join_any Ls g cap wr hcell hg hcap (by omega) (by omega)
      rw [← hX] at cJ
      have cP := fun W (k : Env W) => parse_any (txtI o a b m) W (by omega) k
      have hS : ∀ k : Nat, o = (k : Int) → prs (txtI o a b m) = some (k, a, b, m) → T = okv o a b m := fun k e1 e2 => by rw [hT]; unfold tv; exact if_pos ⟨k, e1, e2⟩
      have hS2 : ¬ Same o a b m → T = nov := fun k => by rw [hT]; unfold tv; exact if_neg k
      have x0' := hnx.keeps x0
      have x1' := hnx.keeps x1
      have x2' := hnx.keeps x2
      have x3' := hnx.keeps x3
      have hzr := hnx.size
      have hE := h.new (n1.trans hnx)
      have N1 := n1.trans hnx
      unfold okv at hS
      unfold Same at hS2
      generalize prs (txtI o a b m) = R at *
      generalize txtI o a b m = X at *
      clear hX hXl hXl2 hLs hown hcell hT h n1 i1 x0 x1 x2 x3 hnx hL ha hb hm hLl hit
      go_wp2_with fail
      refine cJ.mono ?_
      rintro e W5 ⟨rfl, n5⟩
      go_wp2_with fail
      refine (cP _ (hE.new n5)).mono ?_
      rintro e W6 ⟨rfl, n6⟩
      have x0 := (n5.trans n6).keeps x0'
      have x1 := (n5.trans n6).keeps x1'
      have x2 := (n5.trans n6).keeps x2'
      have x3 := (n5.trans n6).keeps x3'
      have hz6 := (n5.trans n6).size
      have N6 := N1.trans (n5.trans n6)
      have hzz : w.heap.size < W6.heap.size := by omega
      clear x0' x1' x2' x3' cJ cP hE n5 n6 N1
      cases R with
      | none =>
        have hTn : T = nov := hS2 (by rintro ⟨k, _, h⟩; cases h)
        subst hTn
        unfold pv
        go_wp2
        go_ret2
        exact ⟨rfl, N6.alloc _ _⟩
      | some y =>
        obtain ⟨k, a', b', m'⟩ := y
        unfold pv
        go_wp2_with fail
        all_goals first
          | (have hTn : T = nov := hS2 (by rintro ⟨q, h1, h2⟩; simp at h2; omega)
             subst hTn
             go_ret2
             exact ⟨rfl, N6.alloc _ _⟩)
          | (have hTn := hS k (by omega) (by simp [*])
             subst hTn
             go_ret2
             exact ⟨rfl, N6.alloc _ _⟩)
/-- an instruction that may be, and has no more than its text tells, of any numbers -/
def TxI (o a b m : Int) : Prop := ∃ k : Nat, o = (k : Int) ∧ k < 42 ∧ Tx k a b m
theorem same_tx (o a b m : Int) (ha : -9223372036854775808 ≤ a ∧ a ≤ 9223372036854775807) (hb : -9223372036854775808 ≤ b ∧ b ≤ 9223372036854775807) (hm : -9223372036854775808 ≤ m ∧ m ≤ 9223372036854775807) : Same o a b m ↔ TxI o a b m := by
  constructor
  · rintro ⟨k, rfl, h⟩
    have := prs_tx h
    exact ⟨k, rfl, this.2, this.1⟩
  · rintro ⟨k, rfl, hk, h⟩
    exact ⟨k, rfl, by rw [txtI_nat]; exact (prs_txt k a b m ha hb hm).2 h⟩
end Go.Proofs.YtlpjegclpilaaaaGreatDoor
