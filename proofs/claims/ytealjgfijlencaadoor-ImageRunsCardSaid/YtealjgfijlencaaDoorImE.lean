/- Programs as bytes, the document's: Decode. -/
import Derived.Test.YtealjgfijlencaaDoorImD
import Derived.Test.YtealjgfijlencaaDoorOrdL
import Derived.KernelRfl
namespace Go.Proofs.YtealjgfijlencaaDoor
open Go.RowKit Go.Joins
set_option linter.unusedVariables false
set_option maxRecDepth 100000
/-- what is read of bytes: where it begins, its pages, the error -/
def dE (b : List Int) : Int := match imD b with | none => 0 | some p => p.1
def dL (b : List Int) : List Sg := match imD b with | none => [] | some p => p.2
def dX (b : List Int) : Int := match imD b with | none => 8 | some _ => 0
theorem d_none {b : List Int} (h : imD b = none) : dE b = 0 ∧ dL b = [] ∧ dX b = 8 := by unfold dE dL dX; rw [h]; exact ⟨rfl, rfl, rfl⟩
theorem d_some {b : List Int} {e : Int} {L : List Sg} (h : imD b = some (e, L)) : dE b = e ∧ dL b = L ∧ dX b = 0 := by unfold dE dL dX; rw [h]; exact ⟨rfl, rfl, rfl⟩
theorem Sgs.nil {R : RTy} {w : World} : Sgs R w (.slice none 0 0) [] := ⟨[], Rws.nil, rfl, fun i h => absurd h (Nat.not_lt_zero _)⟩
theorem Byts.piece {w : World} {p : Option Addr} {n cap : Nat} {l : List Int} (h : Byts w (.slice p n cap) l) (o k : Nat) (hok : o + k ≤ l.length) : Byts w (.slice (if cap = o then p else Option.map (fun x => x.add o) p) k (cap - o)) ((l.drop o).take k) := by
  obtain ⟨p', c', e, h2, h3⟩ := h
  cases e
  have hl : ((l.drop o).take k).length = k := by simp; omega
  refine ⟨_, cap - o, by rw [hl], ⟨by rw [hl]; omega, by omega⟩, fun i hi => ?_⟩
  rw [hl] at hi
  obtain ⟨a, rfl, hc⟩ := h3 (o + i) (by omega)
  rw [if_neg (by omega)]
  refine ⟨a.add o, rfl, ?_⟩
  have e2 : ((l.drop o).take k).getD i 0 = l.getD (o + i) 0 := by
    simp only [List.getD_eq_getElem?_getD, List.getElem?_take, if_pos hi, List.getElem?_drop]
  rw [e2, ← hc, Go.Deep.add_add]
theorem wh_two (b : List Int) (i : Nat) : whL b i 2 = b.getD i 0 + 256 * b.getD (i + 1) 0 := by
  show 256 * (256 * 0 + b.getD (i + 1) 0) + b.getD i 0 = _; omega
theorem wh_four (b : List Int) : whL b 4 4 = wh4 b := by
  show 256 * (256 * (256 * (256 * 0 + b.getD 7 0) + b.getD 6 0) + b.getD 5 0) + b.getD 4 0 = _; unfold wh4; omega
theorem getD_drop (b : List Int) (k i : Nat) : (b.drop k).getD i 0 = b.getD (k + i) 0 := by
  simp only [List.getD_eq_getElem?_getD, List.getElem?_drop]
/-- one step of what is read -/
theorem decS_step (k : Nat) (b : List Int) (at_ n : Nat) (hn : (n : Int) = b.getD (at_ + 5) 0 + 256 * b.getD (at_ + 6) 0) (h7 : at_ + 7 ≤ b.length) (hl : at_ + 7 + n ≤ b.length) :
    decS (k + 1) (b.drop at_) = match decS k (b.drop (at_ + 7 + n)) with
      | none => none
      | some (L, q) => some (⟨b.getD at_ 0 + 256 * b.getD (at_ + 1) 0, b.getD (at_ + 2) 0 + 256 * b.getD (at_ + 3) 0, b.getD (at_ + 4) 0, (b.drop (at_ + 7)).take n⟩ :: L, q) := by
  rw [decS, getD_drop, getD_drop, getD_drop, getD_drop, getD_drop, getD_drop, getD_drop, ← hn, List.length_drop, if_neg (by omega), if_neg (by omega), Int.toNat_natCast, List.drop_drop, List.drop_drop, Nat.add_zero, show at_ + 7 + n = at_ + (7 + n) by omega]; rfl
theorem decS_short (k : Nat) (b : List Int) (at_ : Nat) (h7 : b.length < at_ + 7) : decS (k + 1) (b.drop at_) = none := by
  rw [decS, List.length_drop, if_pos (by omega)]
theorem decS_few (k : Nat) (b : List Int) (at_ n : Nat) (hn : (n : Int) = b.getD (at_ + 5) 0 + 256 * b.getD (at_ + 6) 0) (h7 : at_ + 7 ≤ b.length) (hl : b.length < at_ + 7 + n) : decS (k + 1) (b.drop at_) = none := by
  rw [decS, getD_drop, getD_drop, ← hn, List.length_drop, if_neg (by omega), if_pos (by omega)]
theorem wrap_id (x : Int) (h : -9223372036854775808 ≤ x ∧ x ≤ 9223372036854775807) : wrap64 x = x := by unfold wrap64; omega
theorem wrap_idk (x : Int) (h : -9223372036854775808 ≤ x ∧ x ≤ 9223372036854775807) : IntKind.i64.wrap x = x := by rw [IntKind.wrap_i64]; omega
theorem fadl (x : Addr) (f : Nat) (hf : f ≠ 0) : x.add f = ⟨x.block, x.off + f, none⟩ := by simp [Addr.add, hf]
/-- append of rows as an operation of a region that draws its order -/
theorem opwp_app_w {R : RTy} {w : World} {o : Oper} {a : Act} {K : Act → World → Prop} {Q : Exit → Act → World → Prop} (s x : Operand)
    (ho : o.op = .call { callee := .builtin .append, args := #[s, x], argTypes := #[R.TS, R.TS] }) (hty : o.type = R.TS)
    (base : Nat) (v : Value) (l : List (List Value)) (hs : a.eval s = v) (hown : OwnW R base w v l) (u : Value) (m : List (List Value)) (hx : a.eval x = u) (hu : Rws R w u m) (hlen : l.length + m.length ≤ 1000000) (hbase : base ≤ w.heap.size)
    (h : ∀ v' w', OwnW R base w' v' (l ++ m) → But (fun g => v.ownBlock = some g) w w' → (∀ g, v'.ownBlock = some g → v.ownBlock = some g ∨ g = w.heap.size) → (∀ w0 : World, w0.heap.size ≤ base → New w0 w → New w0 w') → K (a.put o.dst v') w') : Oper.wp Tryd.prog o a w K Q := by
  obtain ⟨v', w', hr, h2, h3, h4, h5⟩ := run_app_w hown hu hlen hbase
  unfold Oper.wp execOp
  rw [← hty] at hr
  simp only [ho, resolve, invoke, builtin, Sem.run_bind, Sem.run_pure, Result.andThen_ok, List.map_toArray, List.map_cons, List.map_nil, hs, hx]
  rw [hty] at hr ⊢
  simp only [hr]
  exact h v' w' h2 h3 h4 h5
theorem imD_of {b : List Int} (h : headOk b = true) : imD b = match decS (b.getD 8 0).toNat (b.drop 9) with
    | none => none
    | some (L, q) => if q = [] ∧ imOk (wh4 b) L = true then some (wh4 b, L) else none := by unfold imD; rw [h, if_neg (by simp)]; rfl
/-- what was read ahead -/
def decT (L : List Sg) : Option (List Sg × List Int) → Option (List Sg × List Int)
  | none => none
  | some (M, q) => some (L ++ M, q)
theorem decT_nil (r : Option (List Sg × List Int)) : decT [] r = r := by cases r <;> rfl
theorem decT_none (L : List Sg) : decT L none = none := rfl
/-- pages that the call gathers: rows of its own, whose bytes could be read at w -/
def OwSg (R : RTy) (w : World) (base : Nat) (wr : World) (v : Value) (L : List Sg) : Prop := ∃ rows : List (List Value), OwnW R base wr v rows ∧ rows.length = L.length ∧ ∀ i (h : i < rows.length) (h' : i < L.length), SgR w rows[i] L[i]
theorem OwSg.nil {R : RTy} {w : World} {base : Nat} {wr : World} : OwSg R w base wr (.slice none 0 0) [] := ⟨[], OwnW.nil, rfl, fun i h => absurd h (Nat.not_lt_zero _)⟩
theorem OwSg.shape {R : RTy} {w : World} {base : Nat} {wr : World} {v : Value} {L : List Sg} (h : OwSg R w base wr v L) : ∃ p n c, v = .slice p n c := by
  obtain ⟨rows, h1, -, -⟩ := h
  obtain ⟨p, c, e, -⟩ := h1.shape
  exact ⟨p, _, c, e⟩
theorem OwSg.sgs {R : RTy} {w : World} {base : Nat} {wr : World} {v : Value} {L : List Sg} (h : OwSg R w base wr v L) (k : New w wr) : Sgs R wr v L := by
  obtain ⟨rows, h1, h2, h3⟩ := h
  exact ⟨rows, h1.rws, h2, fun i a b => (h3 i a b).new k⟩
/-- where the head is wrong nothing is read -/
theorem imD_head {b : List Int} (h : headOk b = false) : imD b = none := by unfold imD; rw [if_pos h]
set_option maxHeartbeats 8000000 in
theorem rdec_any {w : World} {v : Value} {b : List Int} (h : Byts w v b) (hb : ∀ x ∈ b, 0 ≤ x ∧ x ≤ 255) : Calls Tryd.prog 11 #[v] w fun en w' => ∃ sv, en = .returned (.tuple #[.agg #[.int .u32 (dE b), sv], .int .i64 (dX b)]) ∧ Sgs RSd w' sv (dL b) ∧ New w w' := by
  obtain ⟨E, hE⟩ : ∃ E, E = w.alloc (.cells #[.int .u32 0, .slice none 0 0] 25) := ⟨_, rfl⟩
  have nE : New w E := by rw [hE]; exact (New.refl w).alloc _ _
  have bZ : Box E w.heap.size #[.int .u32 0, .slice none 0 0] 25 := by rw [hE]; exact Box.here _ _ _ _ rfl
  have hb2 : ∀ i, 0 ≤ b.getD i 0 ∧ b.getD i 0 ≤ 255 := fun i => by
    rw [List.getD_eq_getElem?_getD]
    cases c : b[i]? with
    | none => simp
    | some x => exact hb x (List.mem_of_getElem? c)
  have HV := Lib.hid h
  have HB := Lib.hid hb
  have HB2 := Lib.hid hb2
  have NE := Lib.hid nE
  have BZ := Lib.hid bZ
  obtain ⟨p, cap, rfl, hcap, hc⟩ := h
  have hlm : b.length ≤ 9223372036854775807 := by unfold maxLen at hcap; omega
  have HC := Lib.hid hc
  have HCAP := Lib.hid hcap
  clear nE bZ hb hb2 hc hcap
  have RB : ∀ W x y, Box W w.heap.size #[.int .u32 x, y] 25 → (loadVar 25 ⟨w.heap.size, 0, none⟩).run Tryd.prog W = .ok (.agg #[.int .u32 x, y]) W := fun W x y k =>
    run_loadVar_mid W _ 0 _ [.int .u32 x, y] _ k.range Tryd.underlying25 rfl (by kernel_rfl)
  have RBH := Lib.hid RB
  clear RB
  cases hh : headOk b with
  | false =>
    have BD := Lib.hid (d_none (imD_head hh))
    obtain ⟨z0, z1⟩ := BZ.out.two
    have zl := BZ.out.lt
    have zf0 := BZ.out.unfrozen 0
    have zf1 := BZ.out.unfrozen 1
    have BZ2 := Lib.hid (show Box ((E.setCell ⟨w.heap.size, 0, none⟩ (.int .u32 0)).setCell ⟨w.heap.size, 1, none⟩ (.slice none 0 0)) w.heap.size #[.int .u32 0, .slice none 0 0] 25 by simpa using (BZ.out.set 0 (.int .u32 0)).set 1 (.slice none 0 0))
    have N2 := Lib.hid (show New w ((E.setCell ⟨w.heap.size, 0, none⟩ (.int .u32 0)).setCell ⟨w.heap.size, 1, none⟩ (.slice none 0 0)) from (NE.out.setCell (p := ⟨w.heap.size, 0, none⟩) (Nat.le_refl _) _).setCell (p := ⟨w.heap.size, 1, none⟩) (Nat.le_refl _) _)
    by_cases c0 : b.length < 9
    · clear hh
      go_enter Tryd.func11, Tryd.ntmps11
      go_upto_region 1 with fail
      rw [← hE]
      clear hE
      go_wp2
      refine bodyPost_ret (v := .tuple #[.agg #[.int .u32 0, .slice none 0 0], .int .i64 8]) (by simp [results, Tryd.results11, asAddr, RBH.out _ _ _ BZ2.out]) rfl ⟨_, by rw [BD.out.1, BD.out.2.2], by rw [BD.out.2.1]; exact Sgs.nil, N2.out⟩
    · obtain ⟨a, rfl, c1⟩ := HC.out 0 (by omega)
      obtain ⟨a', e', c2⟩ := HC.out 1 (by omega)
      cases e'
      obtain ⟨a', e', c3⟩ := HC.out 2 (by omega)
      cases e'
      obtain ⟨a', e', c4⟩ := HC.out 3 (by omega)
      cases e'
      rw [show a.add 0 = a from rfl] at c1
      rw [fadl a 1 (by omega)] at c2
      rw [fadl a 2 (by omega)] at c3
      rw [fadl a 3 (by omega)] at c4
      have d1 := (NE.out).keeps c1
      have d2 := (NE.out).keeps c2
      have d3 := (NE.out).keeps c3
      have d4 := (NE.out).keeps c4
      have c0' : decide ((b.length : Int) < 9) = false := decide_eq_false (by omega)
      have c0'' : decide (b.length < 9) = false := decide_eq_false c0
      have HH := Lib.hid (show ¬ (b.getD 0 0 = 104 ∧ b.getD 1 0 = 120 ∧ b.getD 2 0 = 48 ∧ b.getD 3 0 = 49) from fun q => by
        have : headOk b = true := by unfold headOk; simp only [Bool.and_eq_true, decide_eq_true_eq]; exact ⟨⟨⟨⟨by omega, q.1⟩, q.2.1⟩, q.2.2.1⟩, q.2.2.2⟩
        rw [hh] at this; cases this)
      clear hh c1 c2 c3 c4
      generalize b.getD 0 0 = b0 at *
      generalize b.getD 1 0 = b1 at *
      generalize b.getD 2 0 = b2 at *
      generalize b.getD 3 0 = b3 at *
      by_cases q0 : b0 = 104
      · subst q0
        by_cases q1 : b1 = 120
        · subst q1
          by_cases q2 : b2 = 48
          · subst q2
            have q3 : (b3 != (49 : Int)) = true := by
              rw [bne_iff_ne]; exact fun q => HH.out ⟨rfl, rfl, rfl, q⟩
            go_enter Tryd.func11, Tryd.ntmps11
            go_upto_region 1 with fail
            rw [← hE]
            clear hE
            go_wp2
            refine bodyPost_ret (v := .tuple #[.agg #[.int .u32 0, .slice none 0 0], .int .i64 8]) (by simp [results, Tryd.results11, asAddr, RBH.out _ _ _ BZ2.out]) rfl ⟨_, by rw [BD.out.1, BD.out.2.2], by rw [BD.out.2.1]; exact Sgs.nil, N2.out⟩
          · have q2' : (b2 != (48 : Int)) = true := by rw [bne_iff_ne]; exact q2
            clear q2
            go_enter Tryd.func11, Tryd.ntmps11
            go_upto_region 1 with fail
            rw [← hE]
            clear hE
            go_wp2
            refine bodyPost_ret (v := .tuple #[.agg #[.int .u32 0, .slice none 0 0], .int .i64 8]) (by simp [results, Tryd.results11, asAddr, RBH.out _ _ _ BZ2.out]) rfl ⟨_, by rw [BD.out.1, BD.out.2.2], by rw [BD.out.2.1]; exact Sgs.nil, N2.out⟩
        · have q1' : (b1 != (120 : Int)) = true := by rw [bne_iff_ne]; exact q1
          clear q1
          go_enter Tryd.func11, Tryd.ntmps11
          go_upto_region 1 with fail
          rw [← hE]
          clear hE
          go_wp2
          refine bodyPost_ret (v := .tuple #[.agg #[.int .u32 0, .slice none 0 0], .int .i64 8]) (by simp [results, Tryd.results11, asAddr, RBH.out _ _ _ BZ2.out]) rfl ⟨_, by rw [BD.out.1, BD.out.2.2], by rw [BD.out.2.1]; exact Sgs.nil, N2.out⟩
      · have q0' : (b0 != (104 : Int)) = true := by rw [bne_iff_ne]; exact q0
        clear q0
        go_enter Tryd.func11, Tryd.ntmps11
        go_upto_region 1 with fail
        rw [← hE]
        clear hE
        go_wp2
        refine bodyPost_ret (v := .tuple #[.agg #[.int .u32 0, .slice none 0 0], .int .i64 8]) (by simp [results, Tryd.results11, asAddr, RBH.out _ _ _ BZ2.out]) rfl ⟨_, by rw [BD.out.1, BD.out.2.2], by rw [BD.out.2.1]; exact Sgs.nil, N2.out⟩
  | true =>
    have hp : 9 ≤ b.length ∧ b.getD 0 0 = 104 ∧ b.getD 1 0 = 120 ∧ b.getD 2 0 = 48 ∧ b.getD 3 0 = 49 := by
      have := hh
      unfold headOk at this
      simp only [Bool.and_eq_true, decide_eq_true_eq] at this
      exact ⟨this.1.1.1.1, this.1.1.1.2, this.1.1.2, this.1.2, this.2⟩
    obtain ⟨a, rfl, c1⟩ := HC.out 0 (by omega)
    obtain ⟨a', e', c2⟩ := HC.out 1 (by omega)
    cases e'
    obtain ⟨a', e', c3⟩ := HC.out 2 (by omega)
    cases e'
    obtain ⟨a', e', c4⟩ := HC.out 3 (by omega)
    cases e'
    obtain ⟨a', e', c9⟩ := HC.out 8 (by omega)
    cases e'
    rw [show a.add 0 = a from rfl, hp.2.1] at c1
    rw [fadl a 1 (by omega), hp.2.2.1] at c2
    rw [fadl a 2 (by omega), hp.2.2.2.1] at c3
    rw [fadl a 3 (by omega), hp.2.2.2.2] at c4
    rw [fadl a 8 (by omega)] at c9
    have d1 := NE.out.keeps c1
    have d2 := NE.out.keeps c2
    have d3 := NE.out.keeps c3
    have d4 := NE.out.keeps c4
    have h9 := hp.1
    have c0' : decide ((b.length : Int) < 9) = false := decide_eq_false (by omega)
    have c0'' : decide (b.length < 9) = false := decide_eq_false (by omega)
    have hIM := imD_of hh
    obtain ⟨many, hmany⟩ : ∃ many : Nat, b.getD 8 0 = (many : Int) := ⟨(b.getD 8 0).toNat, by have := HB2.out 8; omega⟩
    have hm255 : many ≤ 255 := by have := HB2.out 8; omega
    rw [hmany] at c9
    rw [hmany, Int.toNat_natCast] at hIM
    have W4 := fun W (k : New w W) => show Calls Tryd.prog 21 #[.slice (some a) b.length cap, .int .i64 4, .int .i64 4] W fun e w' => e = .returned (.int .i64 (whL b 4 4)) ∧ W = w' from rwhole_any (HV.out.new k) HB.out 4 4 (by omega) (by omega)
    rw [wh_four] at W4
    have he0 : 0 ≤ wh4 b ∧ wh4 b ≤ 4294967295 := by
      have h4 := HB2.out 4; have h5 := HB2.out 5; have h6 := HB2.out 6; have h7 := HB2.out 7
      unfold wh4; omega
    generalize wh4 b = e0 at *
    have hwr : IntKind.u32.wrap e0 = e0 := by rw [IntKind.wrap_u32]; omega
    have HIM := Lib.hid hIM
    have HE0 := Lib.hid he0
    have W4E := W4 E NE.out
    obtain ⟨D, hD⟩ : ∃ D, D = E.alloc (.cells #[.int .u32 e0, .slice none 0 0] 25) := ⟨_, rfl⟩
    have ND := Lib.hid (show New w D by rw [hD]; exact NE.out.alloc _ _)
    have BO := Lib.hid (show Box D E.heap.size #[.int .u32 e0, .slice none 0 0] 25 by rw [hD]; exact Box.here _ _ _ _ rfl)
    have BZD := Lib.hid (show Box D w.heap.size #[.int .u32 0, .slice none 0 0] 25 by rw [hD]; exact BZ.out.alloc _)
    have HOB := Lib.hid (show w.heap.size < E.heap.size ∧ E.heap.size < D.heap.size by rw [hD, World.size_alloc]; exact ⟨BZ.out.lt, by omega⟩)
    have BADW := Lib.hid (fun W (k : New w W) (z : Box W w.heap.size #[.int .u32 0, .slice none 0 0] 25) => And.intro (show Box ((W.setCell ⟨w.heap.size, 0, none⟩ (.int .u32 0)).setCell ⟨w.heap.size, 1, none⟩ (.slice none 0 0)) w.heap.size #[.int .u32 0, .slice none 0 0] 25 by simpa using (z.set 0 (.int .u32 0)).set 1 (.slice none 0 0)) (show New w ((W.setCell ⟨w.heap.size, 0, none⟩ (.int .u32 0)).setCell ⟨w.heap.size, 1, none⟩ (.slice none 0 0)) from (k.setCell (p := ⟨w.heap.size, 0, none⟩) (Nat.le_refl _) _).setCell (p := ⟨w.heap.size, 1, none⟩) (Nat.le_refl _) _))
    have C9 := Lib.hid c9
    clear hh hp c1 c2 c3 c4 c9 hIM W4 he0 hmany
    go_enter Tryd.func11, Tryd.ntmps11
    go_upto_region 1 with fail
    rw [← hE]
    clear hE
    go_wp2_with fail
    refine W4E.mono ?_
    rintro en wz ⟨rfl, rfl⟩
    clear W4E d1 d2 d3 d4
    go_upto_region 5 with fail
    rw [← hD]
    clear hD
    generalize E.heap.size = ob at *
    go_wp2_with fail
    go_loopg [5, 6] many (fun q atv kv wr => ∃ (j at_ : Nat) (L1 : List Sg) (ov : Value), j + q = many ∧ atv = .int .i64 (at_ : Int) ∧ kv = .int .i64 (j : Int) ∧ (at_ ≤ b.length ∧ L1.length = j) ∧ decS many (b.drop 9) = decT L1 (decS q (b.drop at_)) ∧ Box wr ob #[.int .u32 e0, ov] 25 ∧ Box wr w.heap.size #[.int .u32 0, .slice none 0 0] 25 ∧ OwSg RSd w D.heap.size wr ov L1 ∧ SgsB L1 ∧ New w wr ∧ D.heap.size ≤ wr.heap.size)
    case atStart => exact ⟨0, 9, [], _, by omega, rfl, rfl, ⟨h9, rfl⟩, (decT_nil _).symm, BO.out, BZD.out, OwSg.nil, (fun s hs => by cases hs), ND.out, Nat.le_refl _⟩
    case round =>
      obtain ⟨j, at_, L1, ov, hj, rfl, rfl, ⟨hat, hL1⟩, hdec, hbo, hbz, how, hsb, hn, hsz⟩ := hrel
      have J := Lib.hid (And.intro hj hL1)
      have HDEC := Lib.hid hdec
      have HBO := Lib.hid hbo
      have HBZ := Lib.hid hbz
      have HOW := Lib.hid how
      have HSB := Lib.hid hsb
      have HN := Lib.hid hn
      have HSZ := Lib.hid hsz
      clear hsz
      have c9 := hn.keeps C9.out
      obtain ⟨op, ol, oc, rfl⟩ := how.shape
      by_cases c : j < many
      · obtain ⟨q', hq'⟩ : ∃ q', many - j = q' + 1 := ⟨many - j - 1, by omega⟩
        have hgq : gk = q' + 1 := by omega
        obtain ⟨z0, z1⟩ := hbz.two
        have zl := hbz.lt
        have zf0 := hbz.unfrozen 0
        have zf1 := hbz.unfrozen 1
        have BW := Lib.hid (BADW.out wr hn hbz)
        rw [hgq] at hdec
        obtain ⟨rr, hrr⟩ : ∃ rr : Nat, rr + at_ = b.length := ⟨b.length - at_, by omega⟩
        have HRR := Lib.hid hrr
        have HWL := Lib.hid (show wrap64 ((b.length : Int) - (at_ : Int)) = (rr : Int) by unfold wrap64; omega)
        by_cases d1 : b.length < at_ + 7
        · have BD := Lib.hid (d_none (show imD b = none by rw [HIM.out, hdec, decS_short _ _ _ d1]; rfl))
          have d1' : (rr : Int) < 7 := by omega
          clear hj hL1 hdec hbo hbz how hsb hn hgq hq' hat hrr
          have hwl := HWL.out
          go_wp2
          refine bodyPost_ret (v := .tuple #[.agg #[.int .u32 0, .slice none 0 0], .int .i64 8]) (by simp [results, Tryd.results11, asAddr, RBH.out _ _ _ BW.out.1]) rfl ⟨_, by rw [BD.out.1, BD.out.2.2], by rw [BD.out.2.1]; exact Sgs.nil, BW.out.2⟩
        · obtain ⟨r7, hr7⟩ : ∃ r7 : Nat, r7 + 7 = rr := ⟨rr - 7, by omega⟩
          have d1' : ¬ (rr : Int) < 7 := by omega
          obtain ⟨nn, hnn⟩ : ∃ nn : Nat, (nn : Int) = b.getD (at_ + 5) 0 + 256 * b.getD (at_ + 6) 0 := ⟨(b.getD (at_ + 5) 0 + 256 * b.getD (at_ + 6) 0).toNat, by have := HB2.out (at_ + 5); have := HB2.out (at_ + 6); omega⟩
          have hn65 : nn ≤ 65535 := by have := HB2.out (at_ + 5); have := HB2.out (at_ + 6); omega
          have W5 := fun W (k : New w W) => show Calls Tryd.prog 21 #[.slice (some a) b.length cap, .int .i64 ((at_ : Int) + 5), .int .i64 2] W fun e w' => e = .returned (.int .i64 (nn : Int)) ∧ W = w' by
            have := rwhole_any (HV.out.new k) HB.out (at_ + 5) 2 (by omega) (by omega)
            rw [wh_two, ← hnn, show ((at_ + 5 : Nat) : Int) = (at_ : Int) + 5 from by omega] at this
            exact this
          have HW5 := Lib.hid (show wrap64 ((at_ : Int) + 5) = (at_ : Int) + 5 by unfold wrap64; omega)
          have W5r := W5 wr hn
          have HW7 := Lib.hid (show wrap64 ((rr : Int) - 7) = (r7 : Int) by unfold wrap64; omega)
          by_cases d2 : b.length < at_ + 7 + nn
          · have BD := Lib.hid (d_none (show imD b = none by rw [HIM.out, hdec, decS_few _ _ _ nn hnn (by omega) d2]; rfl))
            have d2' : (r7 : Int) < (nn : Int) := by omega
            clear hj hL1 hdec hbo hbz how hsb hn hgq hq' hat W5 hnn d1 d2 hr7 hrr
            have hwl := HWL.out
            have w5 := HW5.out
            have hw7 := HW7.out
            go_wp2_with fail
            refine W5r.mono ?_
            rintro en wz ⟨rfl, rfl⟩
            clear W5r
            go_wp2
            refine bodyPost_ret (v := .tuple #[.agg #[.int .u32 0, .slice none 0 0], .int .i64 8]) (by simp [results, Tryd.results11, asAddr, RBH.out _ _ _ BW.out.1]) rfl ⟨_, by rw [BD.out.1, BD.out.2.2], by rw [BD.out.2.1]; exact Sgs.nil, BW.out.2⟩
          · have d2' : ¬ (r7 : Int) < (nn : Int) := by omega
            have hB : at_ + 7 + nn ≤ b.length := by omega
            obtain ⟨F0, hF0⟩ : ∃ x, x = b.getD at_ 0 + 256 * b.getD (at_ + 1) 0 := ⟨_, rfl⟩
            obtain ⟨T0, hT0⟩ : ∃ x, x = b.getD (at_ + 2) 0 + 256 * b.getD (at_ + 3) 0 := ⟨_, rfl⟩
            obtain ⟨P0, hP0⟩ : ∃ x, x = b.getD (at_ + 4) 0 := ⟨_, rfl⟩
            have hdn : decS many (b.drop 9) = decT (L1 ++ [⟨F0, T0, P0, (b.drop (at_ + 7)).take nn⟩]) (decS q' (b.drop (at_ + 7 + nn))) := by
              rw [hdec, decS_step q' b at_ nn hnn (by omega) hB, hF0, hT0, hP0]
              cases decS q' (b.drop (at_ + 7 + nn)) with
              | none => rfl
              | some z => obtain ⟨M, q⟩ := z; show some (_, _) = some (_, _); rw [List.append_assoc]; rfl
            have hsn : SgsB (L1 ++ [⟨F0, T0, P0, (b.drop (at_ + 7)).take nn⟩]) := fun s hs => by
              rcases List.mem_append.1 hs with hs | hs
              · exact hsb s hs
              · rw [List.mem_singleton] at hs
                subst hs
                have q0 := HB2.out at_
                have q1 := HB2.out (at_ + 1)
                have q2 := HB2.out (at_ + 2)
                have q3 := HB2.out (at_ + 3)
                have q4 := HB2.out (at_ + 4)
                refine ⟨by show _ ≤ F0 ∧ F0 ≤ _; omega, by show _ ≤ T0 ∧ T0 ≤ _; omega, by show _ ≤ P0 ∧ P0 ≤ _; omega, fun x hx => HB.out x (List.mem_of_mem_drop (List.mem_of_mem_take hx))⟩
            have hC : at_ + 7 + nn ≤ cap := by have := HCAP.out; omega
            have F2 := Lib.hid (And.intro (wrap_id ((at_ : Int) + 2) (by omega)) (wrap_idk ((at_ : Int) + 2) (by omega)))
            have F4 := Lib.hid (And.intro (wrap_id ((at_ : Int) + 4) (by omega)) (wrap_idk ((at_ : Int) + 4) (by omega)))
            have F7 := Lib.hid (And.intro (wrap_id ((at_ : Int) + 7) (by omega)) (wrap_idk ((at_ : Int) + 7) (by omega)))
            have F7n := Lib.hid (And.intro (wrap_id ((at_ : Int) + 7 + (nn : Int)) (by omega)) (wrap_idk ((at_ : Int) + 7 + (nn : Int)) (by omega)))
            obtain ⟨p4, hp4⟩ : ∃ p4, p4 = at_ + 4 := ⟨_, rfl⟩
            obtain ⟨p7, hp7⟩ : ∃ p7, p7 = at_ + 7 := ⟨_, rfl⟩
            have T4 := Lib.hid (show ((at_ : Int) + 4).toNat = p4 by omega)
            have T7 := Lib.hid (show ((at_ : Int) + 7).toNat = p7 by omega)
            have T7n := Lib.hid (show ((at_ : Int) + 7 + (nn : Int)).toNat = p7 + nn by omega)
            have PIECE := Lib.hid (fun W (k : New w W) => (HV.out.new k).piece p7 nn (by omega))
            have Hi4a := Lib.hid (show 0 ≤ (at_ : Int) + 4 by omega)
            have Hi4b := Lib.hid (show (at_ : Int) + 4 < (b.length : Int) by omega)
            have Hi7a := Lib.hid (show 0 ≤ (at_ : Int) + 7 by omega)
            have Hi7b := Lib.hid (show (at_ : Int) + 7 ≤ (at_ : Int) + 7 + (nn : Int) by omega)
            have Hi7c := Lib.hid (show (at_ : Int) + 7 + (nn : Int) ≤ (cap : Int) by omega)
            have Hi7d := Lib.hid (show 0 ≤ (at_ : Int) + 7 + (nn : Int) by omega)
            have W0 := fun W (k : New w W) => show Calls Tryd.prog 21 #[.slice (some a) b.length cap, .int .i64 (at_ : Int), .int .i64 2] W fun e w' => e = .returned (.int .i64 F0) ∧ W = w' by
              have := rwhole_any (HV.out.new k) HB.out at_ 2 (by omega) (by omega)
              rw [wh_two, ← hF0] at this
              exact this
            have W2 := fun W (k : New w W) => show Calls Tryd.prog 21 #[.slice (some a) b.length cap, .int .i64 ((at_ : Int) + 2), .int .i64 2] W fun e w' => e = .returned (.int .i64 T0) ∧ W = w' by
              have := rwhole_any (HV.out.new k) HB.out (at_ + 2) 2 (by omega) (by omega)
              rw [wh_two, ← hT0, show ((at_ + 2 : Nat) : Int) = (at_ : Int) + 2 from by omega] at this
              exact this
            obtain ⟨a', e', a4⟩ := HC.out p4 (by omega)
            cases e'
            rw [hp4, ← hP0, ← hp4] at a4
            have A4W := Lib.hid a4
            have a4 := HN.out.keeps a4
            rw [← hp7] at hdn hsn
            have HB7 := Lib.hid hB
            have P7 := Lib.hid hp7
            have DECN0 := Lib.hid hdn
            have SBN := Lib.hid hsn
            have A4 := Lib.hid a4
            have HW0 := Lib.hid W0
            have HW2 := Lib.hid W2
            clear a4 hB hC W0 W2 hp4 hp7 hF0 hT0 hP0 hdn hsn
            have HNN := Lib.hid hnn
            have HQ := Lib.hid hgq
            have HAT := Lib.hid hat
            have D7 := Lib.hid (And.intro d1 (And.intro d2 hr7))
            clear z0 z1 zl zf0 zf1 BW hj hL1 hdec hbo hbz how hsb hn hgq hq' hat W5 hnn d1 d2 hr7 hrr
            have hwl := HWL.out
            have w5 := HW5.out
            have hw7 := HW7.out
            go_wp2_with fail
            refine W5r.mono ?_
            rintro en wz ⟨rfl, rfl⟩
            clear W5r
            go_upto_region 13 with fail
            clear hwl w5 hw7
            have o1 := HBO.out.two.2
            have a4 := A4.out
            obtain ⟨w2, x2⟩ := F2.out
            obtain ⟨w4, x4⟩ := F4.out
            obtain ⟨w7, x7⟩ := F7.out
            obtain ⟨w7n, x7n⟩ := F7n.out
            have t4 := T4.out
            have t7 := T7.out
            have t7n := T7n.out
            have i4a := Hi4a.out
            have i4b := Hi4b.out
            have i7a := Hi7a.out
            have i7b := Hi7b.out
            have i7c := Hi7c.out
            have i7d := Hi7d.out
            have nd : New wr wr.drew := (New.refl wr).drew
            have KEEP : ∀ W', New wr W' → (fun w' : World => w'.cell? ⟨ob, 1, none⟩ = some (.slice op ol oc) ∧ w'.cell? (a.add p4) = some (.int .u8 P0)) W' := fun W' k => ⟨k.keeps o1, k.keeps a4⟩
            have hS := KEEP _ nd
            refine wp_region_L (st := 26) (S := fun w' : World => w'.cell? ⟨ob, 1, none⟩ = some (.slice op ol oc) ∧ w'.cell? (a.add p4) = some (.int .u8 P0)) (by kernel_rfl) ?_
            refine wpAnyL_takeY (i := 0) (v := ?_) (by rfl) rfl (by kernel_rfl) (by kernel_rfl) (by kernel_rfl) (fun _ _ _ h => h) (Or.inl ⟨by rfl, ?_⟩) hS ?_
            rotate_left
            · intro w hSw
              go_simp
              with_reducible rfl
            try simp only [Act.put, List.setIfInBounds_toArray, List.set_cons_zero, List.set_cons_succ, List.getElem_toArray, List.getElem_cons_zero]
            refine wpAnyL_take (i := 1) (v := ?_) rfl (by kernel_rfl) (by kernel_rfl) (by kernel_rfl) (by kernel_rfl) (by kernel_rfl) (fun _ _ _ h => h) (Or.inl ⟨by rfl, ?_⟩) hS ?_
            rotate_left
            · intro w hSw
              obtain ⟨s0, s1⟩ := hSw
              go_simp
              with_reducible rfl
            try simp only [Act.put, List.setIfInBounds_toArray, List.set_cons_zero, List.set_cons_succ, List.getElem_toArray, List.getElem_cons_zero, List.getElem_cons_succ]
            refine wpAnyL_takeY (i := 2) (v := ?_) (by rfl) rfl (by kernel_rfl) (by kernel_rfl) (by kernel_rfl) (fun _ _ _ h => h) (Or.inl ⟨by rfl, ?_⟩) hS ?_
            rotate_left
            · intro w hSw
              go_simp
              with_reducible rfl
            try simp only [Act.put, List.setIfInBounds_toArray, List.set_cons_zero, List.set_cons_succ, List.getElem_toArray, List.getElem_cons_zero, List.getElem_cons_succ]
            refine wpAnyL_takeY (i := 3) (v := ?_) (by rfl) rfl (by kernel_rfl) (by kernel_rfl) (by kernel_rfl) (fun _ _ _ h => h) (Or.inl ⟨by rfl, ?_⟩) hS ?_
            rotate_left
            · intro w hSw
              go_simp
              with_reducible rfl
            try simp only [Act.put, List.setIfInBounds_toArray, List.set_cons_zero, List.set_cons_succ, List.getElem_toArray, List.getElem_cons_zero, List.getElem_cons_succ]
            refine wpAnyL_takeY (i := 5) (v := ?_) (by rfl) rfl (by kernel_rfl) (by kernel_rfl) (by kernel_rfl) (fun _ _ _ h => h) (Or.inl ⟨by rfl, ?_⟩) hS ?_
            rotate_left
            · intro w hSw
              go_simp
              with_reducible rfl
            try simp only [Act.put, List.setIfInBounds_toArray, List.set_cons_zero, List.set_cons_succ, List.getElem_toArray, List.getElem_cons_zero, List.getElem_cons_succ]
            refine wpAnyL_takeY (i := 6) (v := ?_) (by rfl) rfl (by kernel_rfl) (by kernel_rfl) (by kernel_rfl) (fun _ _ _ h => h) (Or.inl ⟨by rfl, ?_⟩) hS ?_
            rotate_left
            · intro w hSw
              go_simp
              with_reducible rfl
            try simp only [Act.put, List.setIfInBounds_toArray, List.set_cons_zero, List.set_cons_succ, List.getElem_toArray, List.getElem_cons_zero, List.getElem_cons_succ]
            refine wpAnyL_takeY (i := 7) (v := ?_) (by rfl) rfl (by kernel_rfl) (by kernel_rfl) (by kernel_rfl) (fun _ _ _ h => h) (Or.inl ⟨by rfl, ?_⟩) hS ?_
            rotate_left
            · intro w hSw
              go_simp
              with_reducible rfl
            try simp only [Act.put, List.setIfInBounds_toArray, List.set_cons_zero, List.set_cons_succ, List.getElem_toArray, List.getElem_cons_zero, List.getElem_cons_succ]
            refine wpAnyL_takeY (i := 9) (v := ?_) (by rfl) rfl (by kernel_rfl) (by kernel_rfl) (by kernel_rfl) (fun _ _ _ h => h) (Or.inl ⟨by rfl, ?_⟩) hS ?_
            rotate_left
            · intro w hSw
              go_simp
              with_reducible rfl
            try simp only [Act.put, List.setIfInBounds_toArray, List.set_cons_zero, List.set_cons_succ, List.getElem_toArray, List.getElem_cons_zero, List.getElem_cons_succ]
            refine wpAnyL_takeY (i := 10) (v := ?_) (by rfl) rfl (by kernel_rfl) (by kernel_rfl) (by kernel_rfl) (fun _ _ _ h => h) (Or.inl ⟨by rfl, ?_⟩) hS ?_
            rotate_left
            · intro w hSw
              go_simp
              with_reducible rfl
            try simp only [Act.put, List.setIfInBounds_toArray, List.set_cons_zero, List.set_cons_succ, List.getElem_toArray, List.getElem_cons_zero, List.getElem_cons_succ]
            refine wpAnyL_takeY (i := 11) (v := ?_) (by rfl) rfl (by kernel_rfl) (by kernel_rfl) (by kernel_rfl) (fun _ _ _ h => h) (Or.inl ⟨by rfl, ?_⟩) hS ?_
            rotate_left
            · intro w hSw
              go_simp
              with_reducible rfl
            try simp only [Act.put, List.setIfInBounds_toArray, List.set_cons_zero, List.set_cons_succ, List.getElem_toArray, List.getElem_cons_zero, List.getElem_cons_succ]
            refine wpAnyL_takeY (i := 12) (v := ?_) (by rfl) rfl (by kernel_rfl) (by kernel_rfl) (by kernel_rfl) (fun _ _ _ h => h) (Or.inl ⟨by rfl, ?_⟩) hS ?_
            rotate_left
            · intro w hSw
              go_simp
              with_reducible rfl
            try simp only [Act.put, List.setIfInBounds_toArray, List.set_cons_zero, List.set_cons_succ, List.getElem_toArray, List.getElem_cons_zero, List.getElem_cons_succ]
            refine wpAnyL_take (i := 13) (v := ?_) rfl (by kernel_rfl) (by kernel_rfl) (by kernel_rfl) (by kernel_rfl) (by kernel_rfl) (fun _ _ _ h => h) (Or.inl ⟨by rfl, ?_⟩) hS ?_
            rotate_left
            · intro w hSw
              obtain ⟨s0, s1⟩ := hSw
              go_simp
              with_reducible rfl
            try simp only [Act.put, List.setIfInBounds_toArray, List.set_cons_zero, List.set_cons_succ, List.getElem_toArray, List.getElem_cons_zero, List.getElem_cons_succ]
            refine wpAnyL_takeY (i := 14) (v := ?_) (by rfl) rfl (by kernel_rfl) (by kernel_rfl) (by kernel_rfl) (fun _ _ _ h => h) (Or.inl ⟨by rfl, ?_⟩) hS ?_
            rotate_left
            · intro w hSw
              go_simp
              with_reducible rfl
            try simp only [Act.put, List.setIfInBounds_toArray, List.set_cons_zero, List.set_cons_succ, List.getElem_toArray, List.getElem_cons_zero, List.getElem_cons_succ]
            refine wpAnyL_takeY (i := 15) (v := ?_) (by rfl) rfl (by kernel_rfl) (by kernel_rfl) (by kernel_rfl) (fun _ _ _ h => h) (Or.inl ⟨by rfl, ?_⟩) hS ?_
            rotate_left
            · intro w hSw
              go_simp
              with_reducible rfl
            try simp only [Act.put, List.setIfInBounds_toArray, List.set_cons_zero, List.set_cons_succ, List.getElem_toArray, List.getElem_cons_zero, List.getElem_cons_succ]
            refine wpAnyL_takeY (i := 16) (v := ?_) (by rfl) rfl (by kernel_rfl) (by kernel_rfl) (by kernel_rfl) (fun _ _ _ h => h) (Or.inl ⟨by rfl, ?_⟩) hS ?_
            rotate_left
            · intro w hSw
              go_simp
              with_reducible rfl
            try simp only [Act.put, List.setIfInBounds_toArray, List.set_cons_zero, List.set_cons_succ, List.getElem_toArray, List.getElem_cons_zero, List.getElem_cons_succ]
            refine wpAnyL_takeY (i := 17) (v := ?_) (by rfl) rfl (by kernel_rfl) (by kernel_rfl) (by kernel_rfl) (fun _ _ _ h => h) (Or.inl ⟨by rfl, ?_⟩) hS ?_
            rotate_left
            · intro w hSw
              go_simp
              with_reducible rfl
            try simp only [Act.put, List.setIfInBounds_toArray, List.set_cons_zero, List.set_cons_succ, List.getElem_toArray, List.getElem_cons_zero, List.getElem_cons_succ]
            refine wpAnyL_takeY (i := 18) (v := ?_) (by rfl) rfl (by kernel_rfl) (by kernel_rfl) (by kernel_rfl) (fun _ _ _ h => h) (Or.inl ⟨by rfl, ?_⟩) hS ?_
            rotate_left
            · intro w hSw
              go_simp
              with_reducible rfl
            try simp only [Act.put, List.setIfInBounds_toArray, List.set_cons_zero, List.set_cons_succ, List.getElem_toArray, List.getElem_cons_zero, List.getElem_cons_succ]
            refine wpAnyL_takeY (i := 19) (v := ?_) (by rfl) rfl (by kernel_rfl) (by kernel_rfl) (by kernel_rfl) (fun _ _ _ h => h) (Or.inl ⟨by rfl, ?_⟩) hS ?_
            rotate_left
            · intro w hSw
              go_simp
              with_reducible rfl
            try simp only [Act.put, List.setIfInBounds_toArray, List.set_cons_zero, List.set_cons_succ, List.getElem_toArray, List.getElem_cons_zero, List.getElem_cons_succ]
            refine wpAnyL_takeY (i := 20) (v := ?_) (by rfl) rfl (by kernel_rfl) (by kernel_rfl) (by kernel_rfl) (fun _ _ _ h => h) (Or.inl ⟨by rfl, ?_⟩) hS ?_
            rotate_left
            · intro w hSw
              go_simp
              with_reducible rfl
            try simp only [Act.put, List.setIfInBounds_toArray, List.set_cons_zero, List.set_cons_succ, List.getElem_toArray, List.getElem_cons_zero, List.getElem_cons_succ]
            refine wpAnyL_takeY (i := 21) (v := ?_) (by rfl) rfl (by kernel_rfl) (by kernel_rfl) (by kernel_rfl) (fun _ _ _ h => h) (Or.inl ⟨by rfl, ?_⟩) hS ?_
            rotate_left
            · intro w hSw
              go_simp
              with_reducible rfl
            try simp only [Act.put, List.setIfInBounds_toArray, List.set_cons_zero, List.set_cons_succ, List.getElem_toArray, List.getElem_cons_zero, List.getElem_cons_succ]
            refine wpAnyL_one (i := 4) (by kernel_rfl) rfl (fun K' hK => ?_)
            go_simp
            refine (HW0.out _ (HN.out.trans nd)).mono ?_
            rintro en wz ⟨rfl, rfl⟩
            refine hK.out _ _ (fun _ => hS) ?_
            clear hK K'
            try simp only [Act.put, List.setIfInBounds_toArray, List.set_cons_zero, List.set_cons_succ, List.getElem_toArray, List.getElem_cons_zero, List.getElem_cons_succ]
            refine wpAnyL_one (i := 8) (by kernel_rfl) rfl (fun K' hK => ?_)
            go_simp
            refine (HW2.out _ (HN.out.trans nd)).mono ?_
            rintro en wz ⟨rfl, rfl⟩
            refine hK.out _ _ (fun _ => hS) ?_
            clear hK K'
            try simp only [Act.put, List.setIfInBounds_toArray, List.set_cons_zero, List.set_cons_succ, List.getElem_toArray, List.getElem_cons_zero, List.getElem_cons_succ]
            refine wpAnyL_takeY (i := 22) (v := ?_) (by rfl) rfl (by kernel_rfl) (by kernel_rfl) (by kernel_rfl) (fun _ _ _ h => h) (Or.inl ⟨by rfl, ?_⟩) hS ?_
            rotate_left
            · intro w hSw
              go_simp
              with_reducible rfl
            try simp only [Act.put, List.setIfInBounds_toArray, List.set_cons_zero, List.set_cons_succ, List.getElem_toArray, List.getElem_cons_zero, List.getElem_cons_succ]
            refine wpAnyL_one (i := 23) (by kernel_rfl) rfl (fun K' hK => ?_)
            go_simp
            obtain ⟨W6, hW6⟩ : ∃ W6, W6 = (wr.alloc (.cells #[.int .i64 F0, .int .i64 T0, .int .u8 P0, .slice (if cap = p7 then some a else some (a.add p7)) nn (cap - p7)] 29)).drew := ⟨_, rfl⟩
            have n6 : New wr W6 := by rw [hW6]; exact ((New.refl wr).alloc _ _).drew
            have hs1 : Rws RSd W6 (.slice (some ⟨wr.heap.size, 0, none⟩) 1 1) [[.int .i64 F0, .int .i64 T0, .int .u8 P0, .slice (if cap = p7 then some a else some (a.add p7)) nn (cap - p7)]] := by
              rw [hW6]
              exact (Rws.single (R := RSd) (r := [.int .i64 F0, .int .i64 T0, .int .u8 P0, .slice (if cap = p7 then some a else some (a.add p7)) nn (cap - p7)]) rfl (fun x hx => by
                simp only [List.mem_cons, List.not_mem_nil, or_false] at hx
                rcases hx with rfl | rfl | rfl | rfl <;> rfl) (heap_alloc_new wr _)).new (New.refl _).drew
            rw [← hW6]
            clear hW6
            refine hK.out _ _ (fun _ => KEEP _ n6) ?_
            clear hK K'
            try simp only [Act.put, List.setIfInBounds_toArray, List.set_cons_zero, List.set_cons_succ, List.getElem_toArray, List.getElem_cons_zero, List.getElem_cons_succ]
            refine wpAnyL_one (i := 24) (by kernel_rfl) rfl (fun K' hK => ?_)
            rw [if_pos (by rfl)]
            obtain ⟨rows, h1, h2, h3⟩ := HOW.out
            have hge := fun g hg => h1.ge (g := g) hg
            have hjm : rows.length ≤ 1000 := by have := J.out; omega
            have hbs : D.heap.size ≤ W6.heap.size := Nat.le_trans HSZ.out n6.size
            refine opwp_app_w (R := RSd) (.tmp 67) (.tmp 89) rfl rfl D.heap.size _ rows rfl (h1.new n6) _ _ rfl hs1 (by rw [List.length_singleton]; omega) hbs ?_
            intro v9 w9 o9 k9 x9 n9
            obtain ⟨p9, c9, rfl, -, -⟩ := o9.shape
            generalize hln9 : (rows ++ [([.int .i64 F0, .int .i64 T0, .int .u8 P0, .slice (if cap = p7 then some a else some (a.add p7)) nn (cap - p7)] : List Value)]).length = ln9 at *
            have bo9 : Box w9 ob #[.int .u32 e0, .slice op ol oc] 25 := (HBO.out.new n6).but k9 (fun c => by have := hge _ c; have := HOB.out; omega)
            have bz9 : Box w9 w.heap.size #[.int .u32 0, .slice none 0 0] 25 := (HBZ.out.new n6).but k9 (fun c => by have := hge _ c; have := HOB.out; omega)
            have nw9 : New w w9 := n9 w (by have := HOB.out; omega) (HN.out.trans n6)
            have hS9 : (fun w' : World => w'.cell? ⟨ob, 1, none⟩ = some (.slice op ol oc) ∧ w'.cell? (a.add p4) = some (.int .u8 P0)) w9 := ⟨bo9.two.2, nw9.keeps A4W.out⟩
            refine hK.out _ _ (fun _ => hS9) ?_
            clear hK K'
            try simp only [Act.put, List.setIfInBounds_toArray, List.set_cons_zero, List.set_cons_succ, List.getElem_toArray, List.getElem_cons_zero, List.getElem_cons_succ]
            refine wpAnyL_takeY (i := 25) (v := ?_) (by rfl) rfl (by kernel_rfl) (by kernel_rfl) (by kernel_rfl) (fun _ _ _ h => h) (Or.inl ⟨by rfl, ?_⟩) hS9 ?_
            rotate_left
            · intro w hSw
              go_simp
              with_reducible rfl
            try simp only [Act.put, List.setIfInBounds_toArray, List.set_cons_zero, List.set_cons_succ, List.getElem_toArray, List.getElem_cons_zero, List.getElem_cons_succ]
            refine wpAnyL_one (i := 26) (by kernel_rfl) rfl (fun K' hK => ?_)
            have q1 : w9.frozen? ⟨ob, 1, none⟩ = false := bo9.unfrozen 1
            have q2 : w9.cell? ⟨ob, 1, none⟩ = some (.slice op ol oc) := bo9.two.2
            go_simp
            refine hK.out _ _ (fun h => by simp at h) ?_
            refine wpAnyL_done (by kernel_rfl) ?_ _
            have END : ∃ Wn : World, Wn = w9.setCell ⟨ob, 1, none⟩ (.slice p9 ln9 c9) ∧ Box Wn ob #[.int .u32 e0, .slice p9 ln9 c9] 25 ∧ Box Wn w.heap.size #[.int .u32 0, .slice none 0 0] 25 ∧ OwSg RSd w D.heap.size Wn (.slice p9 ln9 c9) (L1 ++ [⟨F0, T0, P0, (b.drop p7).take nn⟩]) ∧ New w Wn := by
              refine ⟨_, rfl, by simpa using bo9.set 1 (.slice p9 ln9 c9), bz9.other (by have := HOB.out; show ob ≠ _; omega) _, ⟨_, o9.but (But.set (S := fun g => g = ob) w9 (p := ⟨ob, 1, none⟩) rfl _) (fun g hg c => by have := o9.ge hg; have := HOB.out; omega), by simp [h2], fun i hi hi' => ?_⟩, nw9.setCell (p := ⟨ob, 1, none⟩) (by have := HOB.out; show _ ≤ ob; omega) _⟩
              by_cases ci : i < rows.length
              · have := h3 i ci (by omega)
                rw [List.getElem_append_left ci, List.getElem_append_left (by omega)]
                exact this
              · have ei : i = rows.length := by simp at hi; omega
                subst ei
                rw [List.getElem_append_right (Nat.le_refl _), List.getElem_append_right (by omega)]
                simp only [Nat.sub_self, h2, List.getElem_cons_zero]
                exact ⟨_, rfl, PIECE.out w (New.refl w)⟩
            obtain ⟨Wn, hWn, eo, ez, ew, en⟩ := END
            rw [← hWn]
            have EO := Lib.hid eo
            have EZ := Lib.hid ez
            have EW := Lib.hid ew
            have EN := Lib.hid en
            have ESZ := Lib.hid (show D.heap.size ≤ Wn.heap.size by rw [hWn]; have := k9.size; simp only [World.setCell, Array.size_modify]; omega)
            clear hWn eo ez ew en q1 q2 hS9 nw9 bz9 bo9 n9 x9 k9 o9 hbs hjm hge h3 h2 h1 hs1 n6 hS KEEP nd o1 a4
            generalize (if cap = p7 then some a else some (a.add p7)) = pp
            go_wp2
            go_roundg (many - (j + 1))
            case measure => have := J.out; omega
            case rel => exact ⟨j + 1, at_ + 7 + nn, L1 ++ [⟨F0, T0, P0, (b.drop p7).take nn⟩], _, by have := J.out; omega, by go_num, by go_num, ⟨HB7.out, by have := J.out; simp; omega⟩, by rw [show many - (j + 1) = q' by have := HQ.out; have := J.out; omega]; have q := DECN0.out; rw [P7.out] at q ⊢; exact q, EO.out, EZ.out, EW.out, SBN.out, EN.out, ESZ.out⟩
      · obtain rfl : j = many := by omega
        obtain rfl : gk = 0 := by omega
        have hd0 : decS j (b.drop 9) = some (L1, b.drop at_) := by rw [hdec]; show some (L1 ++ [], _) = _; rw [List.append_nil]
        have hI : imD b = if b.drop at_ = [] ∧ imOk e0 L1 = true then some (e0, L1) else none := by rw [HIM.out, hd0]
        have HI := Lib.hid hI
        obtain ⟨z0, z1⟩ := hbz.two
        have zl := hbz.lt
        have zf0 := hbz.unfrozen 0
        have zf1 := hbz.unfrozen 1
        obtain ⟨o0, o1⟩ := hbo.two
        by_cases d1 : at_ = b.length
        · subst d1
          have hdr : b.drop b.length = [] := List.drop_length
          rw [hdr] at hI
          have MAYX := rmay21 (how.sgs hn) hsb e0 HE0.out
          cases hok : imOk e0 L1 with
          | false =>
            have BD := Lib.hid (d_none (show imD b = none by rw [hI, hok, if_neg (by simp)]))
            rw [hok] at MAYX
            clear hj hL1 hdec hbo hbz how hsb hn hat hd0 hI hdr hok z0 z1 zl zf0 zf1
            go_wp2_with fail
            refine MAYX.mono ?_
            rintro en w8 ⟨rfl, n8⟩
            have hz8 := HBZ.out.new n8
            have BW := Lib.hid (BADW.out w8 (HN.out.trans n8) hz8)
            obtain ⟨z0, z1⟩ := hz8.two
            have zl := hz8.lt
            have zf0 := hz8.unfrozen 0
            have zf1 := hz8.unfrozen 1
            clear n8 hz8 o0 o1 MAYX
            go_wp2
            refine bodyPost_ret (v := .tuple #[.agg #[.int .u32 0, .slice none 0 0], .int .i64 8]) (by simp [results, Tryd.results11, asAddr, RBH.out _ _ _ BW.out.1]) rfl ⟨_, by rw [BD.out.1, BD.out.2.2], by rw [BD.out.2.1]; exact Sgs.nil, BW.out.2⟩
          | true =>
            have BD := Lib.hid (d_some (show imD b = some (e0, L1) by rw [hI, hok, if_pos ⟨rfl, rfl⟩]))
            rw [hok] at MAYX
            clear hj hL1 hdec hbo hbz how hsb hn hat hd0 hI hdr hok z0 z1 zl zf0 zf1
            go_wp2_with fail
            refine MAYX.mono ?_
            rintro en w8 ⟨rfl, n8⟩
            have hz8 := HBZ.out.new n8
            have N8 := HN.out.trans n8
            have R8 := (HOW.out.sgs HN.out).new n8
            have BX := show Box ((w8.setCell ⟨w.heap.size, 0, none⟩ (.int .u32 e0)).setCell ⟨w.heap.size, 1, none⟩ (.slice op ol oc)) w.heap.size #[.int .u32 e0, .slice op ol oc] 25 by simpa using (hz8.set 0 (.int .u32 e0)).set 1 (.slice op ol oc)
            have KX := (But.set (S := fun g => g = w.heap.size) w8 (p := ⟨w.heap.size, 0, none⟩) rfl (.int .u32 e0)).trans (But.set (S := fun g => g = w.heap.size) _ (p := ⟨w.heap.size, 1, none⟩) rfl (.slice op ol oc))
            have NX := (N8.setCell (p := ⟨w.heap.size, 0, none⟩) (Nat.le_refl _) (.int .u32 e0)).setCell (p := ⟨w.heap.size, 1, none⟩) (Nat.le_refl _) (.slice op ol oc)
            have SX : Sgs RSd ((w8.setCell ⟨w.heap.size, 0, none⟩ (.int .u32 e0)).setCell ⟨w.heap.size, 1, none⟩ (.slice op ol oc)) (.slice op ol oc) L1 := by
              obtain ⟨rows, h1, h2, h3⟩ := HOW.out
              exact ⟨rows, ((h1.new n8).but KX (fun g hg c => by have := h1.ge hg; have := HOB.out; omega)).rws, h2, fun i x y => (h3 i x y).new NX⟩
            have ENDX := Lib.hid (And.intro BX (And.intro SX NX))
            obtain ⟨z0, z1⟩ := hz8.two
            have zl := hz8.lt
            have zf0 := hz8.unfrozen 0
            have zf1 := hz8.unfrozen 1
            have hb8 := HBO.out.new n8
            obtain ⟨o0, o1⟩ := hb8.two
            clear n8 hz8 MAYX hb8 BX KX NX SX R8 N8
            go_wp2
            refine bodyPost_ret (v := .tuple #[.agg #[.int .u32 e0, .slice op ol oc], .int .i64 0]) (by simp [results, Tryd.results11, asAddr, RBH.out _ _ _ ENDX.out.1]) rfl ⟨_, by rw [BD.out.1, BD.out.2.2], by rw [BD.out.2.1]; exact ENDX.out.2.1, ENDX.out.2.2⟩
        · have hdr : b.drop at_ ≠ [] := fun c => by rw [List.drop_eq_nil_iff] at c; omega
          have BD := Lib.hid (d_none (show imD b = none by rw [hI, if_neg (fun c => hdr c.1)]))
          have BW := Lib.hid (BADW.out wr hn hbz)
          have d1n : ((at_ : Int) != (b.length : Int)) = true := by rw [bne_iff_ne]; omega
          have d1m : (at_ != b.length) = true := by rw [bne_iff_ne]; exact d1
          clear hj hL1 hdec hbo hbz how hsb hn hat hd0 hI hdr d1 o0 o1
          go_wp2
          refine bodyPost_ret (v := .tuple #[.agg #[.int .u32 0, .slice none 0 0], .int .i64 8]) (by simp [results, Tryd.results11, asAddr, RBH.out _ _ _ BW.out.1]) rfl ⟨_, by rw [BD.out.1, BD.out.2.2], by rw [BD.out.2.1]; exact Sgs.nil, BW.out.2⟩
end Go.Proofs.YtealjgfijlencaaDoor
