/- Programs as bytes, the package's: Decode. -/
import Derived.Test.YtealjgfijlencaaDoorImP7
namespace Go.Proofs.YtealjgfijlencaaDoor
open Go.RowKit Go.Joins
set_option linter.unusedVariables false
set_option linter.unusedSimpArgs false
set_option maxRecDepth 100000
/-- pages that lie in blocks from a number on -/
def SgN (R : RTy) (base : Nat) (w : World) (v : Value) (L : List Sg) : Prop := ∀ w2, But (fun g => g < base) w w2 → Sgs R w2 v L
theorem SgN.sgs {R : RTy} {base : Nat} {w : World} {v : Value} {L : List Sg} (h : SgN R base w v L) : Sgs R w v L := h w (But.refl _ _)
theorem SgN.later {R : RTy} {base : Nat} {w w2 : World} {v : Value} {L : List Sg} (h : SgN R base w v L) (k : But (fun g => g < base) w w2) : SgN R base w2 v L := fun w3 q => h w3 (k.trans q)
/-- pages that the call gathers, and whose bytes it made -/
def OwDg (base : Nat) (w : World) (v : Value) (L : List Sg) : Prop := ∃ rows : List (List Value), OwnW RSp base w v rows ∧ rows.length = L.length ∧ ∀ i (h : i < rows.length) (h' : i < L.length), ∃ dv, rows[i] = [.int .i64 L[i].f, .int .i64 L[i].t, .int .u8 L[i].p, dv] ∧ OwnB base w dv L[i].d
theorem OwDg.nil {base : Nat} {w : World} : OwDg base w (.slice none 0 0) [] := ⟨[], OwnW.nil, rfl, fun i h => absurd h (Nat.not_lt_zero _)⟩
theorem OwDg.shape {base : Nat} {w : World} {v : Value} {L : List Sg} (h : OwDg base w v L) : ∃ p c, v = .slice p L.length c := by
  obtain ⟨rows, h1, h2, -⟩ := h
  obtain ⟨p, c, e, -⟩ := h1.shape
  exact ⟨p, c, by rw [← h2]; exact e⟩
theorem OwnB.but9 {base : Nat} {S : Nat → Prop} {w w' : World} {v : Value} {l : List Int} (h : OwnB base w v l) (k : But S w w') (hn : ∀ g, v.ownBlock = some g → ¬ S g) : OwnB base w' v l := (h.w8.but k hn).b8
theorem OwnB.ge9 {base : Nat} {w : World} {v : Value} {l : List Int} (h : OwnB base w v l) {g : Nat} (hg : v.ownBlock = some g) : base ≤ g := h.w8.ge hg
theorem OwDg.low {base : Nat} {S : Nat → Prop} {w w' : World} {v : Value} {L : List Sg} (h : OwDg base w v L) (k : But S w w') (hS : ∀ g, S g → g < base) : OwDg base w' v L := by
  obtain ⟨rows, h1, h2, h3⟩ := h
  refine ⟨rows, h1.but k (fun g hg c => by have := h1.ge hg; have := hS g c; omega), h2, fun i hi hi' => ?_⟩
  obtain ⟨dv, e, o⟩ := h3 i hi hi'
  exact ⟨dv, e, o.but9 k (fun g hg c => by have := o.ge9 hg; have := hS g c; omega)⟩
theorem OwDg.sgn {base b2 : Nat} {w : World} {v : Value} {L : List Sg} (h : OwDg base w v L) (hb : b2 ≤ base) : SgN RSp b2 w v L := by
  intro w2 k
  obtain ⟨rows, h1, h2, h3⟩ := h.low k (fun g hg => by omega)
  refine ⟨rows, h1.rws, h2, fun i hi hi' => ?_⟩
  obtain ⟨dv, e, o⟩ := h3 i hi hi'
  exact ⟨dv, e, o.byts⟩
/-- rows of pages and bytes lie in unlike blocks -/
theorem own_unlike {base b2 : Nat} {w : World} {v u : Value} {rows : List (List Value)} {l : List Int} (h : OwnW RSp base w v rows) (k : OwnB b2 w u l) : ∀ g, u.ownBlock = some g → ¬ v.ownBlock = some g := by
  intro g hg hv
  rcases h.1.2 with ⟨rfl, _⟩ | ⟨g1, cap, cur, rfl, _, h1, _⟩
  · cases hv
  · rcases k.2 with ⟨rfl, _⟩ | ⟨g2, cap2, cur2, rfl, _, h2, _⟩
    · cases hg
    · obtain rfl : g1 = g := by simpa [Value.ownBlock] using hv
      obtain rfl : g2 = g1 := by simpa [Value.ownBlock] using hg
      rw [h1] at h2
      injection h2 with h2
      injection h2 with _ ht _
      exact absurd ht (by decide)
theorem dec_none {w W : World} {b : List Int} (hN : imD b = none) (bz : Box W w.heap.size #[.int .u32 0, .slice none 0 0] 36) (n : New w W) :
    Box ((W.setCell ⟨w.heap.size, 0, none⟩ (.int .u32 0)).setCell ⟨w.heap.size, 1, none⟩ (.slice none 0 0)) w.heap.size #[.int .u32 0, .slice none 0 0] 36 ∧ ∃ sv, (Ending.returned (.tuple #[.agg #[.int .u32 0, .slice none 0 0], .iface 60 (.int .i64 8)]) = .returned (.tuple #[.agg #[.int .u32 (dE b), sv], erN (dX b)])) ∧ SgN RSp w.heap.size ((W.setCell ⟨w.heap.size, 0, none⟩ (.int .u32 0)).setCell ⟨w.heap.size, 1, none⟩ (.slice none 0 0)) sv (dL b) ∧ New w ((W.setCell ⟨w.heap.size, 0, none⟩ (.int .u32 0)).setCell ⟨w.heap.size, 1, none⟩ (.slice none 0 0)) := by
  obtain ⟨d1, d2, d3⟩ := d_none hN
  rw [d1, d2, d3]
  exact ⟨by simpa using (bz.set 0 (.int .u32 0)).set 1 (.slice none 0 0), _, rfl, fun _ _ => Sgs.nil, (n.setCell (p := ⟨w.heap.size, 0, none⟩) (Nat.le_refl _) _).setCell (p := ⟨w.heap.size, 1, none⟩) (Nat.le_refl _) _⟩
theorem dec_some {w W : World} {b : List Int} {e : Int} {L : List Sg} {sv x y : Value} {base : Nat} (hN : imD b = some (e, L)) (bz : Box W w.heap.size #[x, y] 36) (n : New w W) (ho : OwDg base W sv L) (hb : w.heap.size < base) :
    Box ((W.setCell ⟨w.heap.size, 0, none⟩ (.int .u32 e)).setCell ⟨w.heap.size, 1, none⟩ sv) w.heap.size #[.int .u32 e, sv] 36 ∧ ∃ sv', (Ending.returned (.tuple #[.agg #[.int .u32 e, sv], .nilIface]) = .returned (.tuple #[.agg #[.int .u32 (dE b), sv'], erN (dX b)])) ∧ SgN RSp w.heap.size ((W.setCell ⟨w.heap.size, 0, none⟩ (.int .u32 e)).setCell ⟨w.heap.size, 1, none⟩ sv) sv' (dL b) ∧ New w ((W.setCell ⟨w.heap.size, 0, none⟩ (.int .u32 e)).setCell ⟨w.heap.size, 1, none⟩ sv) := by
  obtain ⟨d1, d2, d3⟩ := d_some hN
  rw [d1, d2, d3]
  have K := (But.set (S := fun g => g = w.heap.size) W (p := ⟨w.heap.size, 0, none⟩) rfl (.int .u32 e)).trans (But.set (S := fun g => g = w.heap.size) _ (p := ⟨w.heap.size, 1, none⟩) rfl sv)
  exact ⟨by simpa using (bz.set 0 (.int .u32 e)).set 1 sv, _, rfl, (ho.low K (fun g hg => by omega)).sgn (by omega), (n.setCell (p := ⟨w.heap.size, 0, none⟩) (Nat.le_refl _) _).setCell (p := ⟨w.heap.size, 1, none⟩) (Nat.le_refl _) _⟩
set_option maxHeartbeats 8000000 in
theorem pdec_im {w : World} {v : Value} {b : List Int} (h : Byts w v b) (hb : ∀ x ∈ b, 0 ≤ x ∧ x ≤ 255) : Calls Tryd.prog 10 #[v] w fun en w' => ∃ sv, en = .returned (.tuple #[.agg #[.int .u32 (dE b), sv], erN (dX b)]) ∧ SgN RSp w.heap.size w' sv (dL b) ∧ New w w' := by
  obtain ⟨vp, vc, rfl, hvc, -⟩ := id h
  obtain ⟨D, hD⟩ : ∃ D, D = (w.alloc (.cells #[.int .u32 0, .slice none 0 0] 36)).alloc (.cells #[.slice vp b.length vc, .bool false] 56) := ⟨_, rfl⟩
  have nD : New w D := by rw [hD]; exact ((New.refl w).alloc _ _).alloc _ _
  have bZ : Box D w.heap.size #[.int .u32 0, .slice none 0 0] 36 := by rw [hD]; exact (Box.here _ _ _ _ rfl).alloc _
  have bR : Box D (w.heap.size + 1) #[.slice vp b.length vc, .bool false] 56 := by rw [hD]; exact Box.here _ _ _ _ (by rw [World.size_alloc])
  have RBH := Lib.hid (fun (W : World) (x y : Value) (k : Box W w.heap.size #[x, y] 36) => (show (loadVar 36 ⟨w.heap.size, 0, none⟩).run Tryd.prog W = .ok (.agg #[x, y]) W from
    run_loadVar_mid W _ 0 _ [x, y] _ k.range Tryd.underlying36 rfl (by kernel_rfl)))
  have H := Lib.hid (And.intro h hb)
  have C1 := ptake h bR 4
  have HMK := Lib.hid (mk_str hb)
  have ND := Lib.hid nD
  have BZ := Lib.hid bZ
  have DS := Lib.hid (DecI.start (b := b))
  have O1 := Lib.hid (tkR_oct (k := 4) hb)
  have O2 := Lib.hid (tkR_oct (k := 4) O1.out)
  have O3 := Lib.hid (tkR_oct (k := 1) O2.out)
  have V1 := nmV_bd 4 (by decide) (tkR 4 b) O1.out
  have V2 := nmV_bd 1 (by decide) (tkR 4 (tkR 4 b)) O2.out
  rw [show (256 : Int) ^ 4 = 4294967296 by decide] at V1
  rw [show (256 : Int) ^ 1 = 256 by decide] at V2
  have HD := Lib.hid (hd_ok (b := b))
  have HDB := Lib.hid (hd_bad (b := b))
  have C2 := Lib.hid (fun W u (hu : Byts w u (tkR 4 b)) (k : Box W (w.heap.size + 1) #[u, .bool (tkS 4 b false)] 56) (n : New w W) => pnumber hu O1.out k n (Nat.le_succ _) 4 (.inr (.inr rfl)))
  have C3 := Lib.hid (fun W u (hu : Byts w u (tkR 4 (tkR 4 b))) (k : Box W (w.heap.size + 1) #[u, .bool (tkS 4 (tkR 4 b) (tkS 4 b false))] 56) (n : New w W) => pnumber hu O2.out k n (Nat.le_succ _) 1 (.inl rfl))
  unfold TakeC at C1
  unfold NumC at C2 C3
  generalize hsb : strOfNums (tkU 4 b) = sb at *
  have HSB := Lib.hid hsb
  generalize tkU 4 b = u4 at *
  generalize nmV 4 (tkR 4 b) = en at *
  generalize nmV 1 (tkR 4 (tkR 4 b)) = cn at *
  generalize tkS 1 (tkR 4 (tkR 4 b)) (tkS 4 (tkR 4 b) (tkS 4 b false)) = h3 at *
  generalize tkS 4 (tkR 4 b) (tkS 4 b false) = h2 at *
  generalize tkS 4 b false = h1 at *
  generalize tkR 1 (tkR 4 (tkR 4 b)) = r3 at *
  generalize tkR 4 (tkR 4 b) = r2 at *
  generalize tkR 4 b = r1 at *
  obtain ⟨c, rfl⟩ : ∃ c : Nat, cn = (c : Int) := ⟨cn.toNat, by omega⟩
  rw [Int.toNat_natCast] at DS
  clear h hb nD bZ bR hsb
  go_enter Tryd.func10, Tryd.ntmps10
  go_upto_region 2 with fail
  rw [← hD]
  clear hD
  go_wp2_with fail
  refine C1.mono ?_
  rintro ee x1 ⟨u1, v1, rfl, hu1, hv1, bx1, f1⟩
  have n1 : New w x1 := f1.new ND.out (Nat.le_succ _)
  have Z1 := Lib.hid (BZ.out.far f1 (by omega))
  have cv := str_of (hu1.new n1)
  rw [HSB.out] at cv
  have c2 := C2.out x1 v1 hv1 bx1 n1
  have N1 := Lib.hid n1
  clear C1 hu1 hv1 bx1 f1 n1
  go_wp2_with fail
  refine c2.mono ?_
  rintro ee x2 ⟨v2, rfl, hv2, bx2, f2⟩
  have Z2 := Lib.hid (Z1.out.far f2 (by omega))
  have n2 : New w x2 := f2.new N1.out (Nat.le_succ _)
  have a2 := (New.refl x2).alloc #[.int .u32 en, .slice none 0 0] 36
  obtain ⟨ib, hib⟩ : ∃ ib, ib = x2.heap.size := ⟨_, rfl⟩
  have IBL := Lib.hid (show w.heap.size + 2 ≤ ib by have := bx2.lt; omega)
  have B2 := Lib.hid (show Box (x2.alloc (.cells #[.int .u32 en, .slice none 0 0] 36)) ib #[.int .u32 en, .slice none 0 0] 36 from Box.here _ _ _ _ hib)
  have S2 := Lib.hid (show (x2.alloc (.cells #[.int .u32 en, .slice none 0 0] 36)).heap.size = ib + 1 by rw [World.size_alloc, hib])
  have c3 := C3.out _ v2 hv2 (bx2.new a2) (n2.trans a2)
  have Z2 := Lib.hid (Z2.out.new a2)
  have N2 := Lib.hid (n2.trans a2)
  clear c2 cv bx2 f2 n2 a2 hv2 C2 C3
  go_upto_region 4 with fail
  rw [← hib]
  generalize (x2.alloc (.cells #[.int .u32 en, .slice none 0 0] 36)) = y2 at *
  clear hib
  go_wp2_with fail
  refine c3.mono ?_
  rintro ee x3 ⟨v3, rfl, hv3, bx3, f3⟩
  have HR3 := Lib.hid bx3
  have HV3 := Lib.hid hv3
  have Z3 := Lib.hid (Z2.out.far f3 (by omega))
  have B3 := Lib.hid (B2.out.far f3 (by have := IBL.out; omega))
  have N3 := Lib.hid (f3.new N2.out (Nat.le_succ _))
  have S3 := Lib.hid (show ib + 1 ≤ x3.heap.size by have := f3.size; have := S2.out; omega)
  clear c3 bx3 f3 hv3
  go_wp2_with fail
  go_loopg [15] c (fun q kv wr => ∃ (j : Nat) (L : List Sg) (r : List Int) (sh : Bool) (rv sv : Value), j + q = c ∧ kv = .int .u32 (j : Int) ∧ L.length = j ∧ SgsB L ∧ (∀ x ∈ r, 0 ≤ x ∧ x ≤ 255) ∧ DecI b L r sh (c - j) ∧ Byts w rv r ∧ Box wr (w.heap.size + 1) #[rv, .bool sh] 56 ∧ Box wr w.heap.size #[.int .u32 0, .slice none 0 0] 36 ∧ Box wr ib #[.int .u32 en, sv] 36 ∧ OwDg (ib + 1) wr sv L ∧ New w wr ∧ ib + 1 ≤ wr.heap.size)
  case atStart => exact ⟨0, [], r3, h3, v3, _, by omega, rfl, rfl, (fun s hs => by cases hs), O3.out, by rw [Nat.sub_zero]; exact DS.out, HV3.out, HR3.out, Z3.out, B3.out, OwDg.nil, N3.out, S3.out⟩
  case round =>
    obtain ⟨j, L, r, sh, rv, sv, hj, rfl, hL, hsb, ho, hdi, hy, hbr, hbz, hbi, how, hn, hsz⟩ := hrel
    have J := Lib.hid (And.intro hj hL)
    have HSG := Lib.hid hsb
    have HOC := Lib.hid ho
    have HDI := Lib.hid hdi
    have HY := Lib.hid hy
    have HBR := Lib.hid hbr
    have HBZ := Lib.hid hbz
    have HBI := Lib.hid hbi
    have HOW := Lib.hid how
    have HN := Lib.hid hn
    have HSZ := Lib.hid hsz
    by_cases cj : j < c
    · obtain ⟨sp, sc, rfl⟩ := how.shape
      have HDN := Lib.hid (HDI.out |> fun (k : DecI b L r sh (c - j)) => (show c - j = (c - (j + 1)) + 1 by omega) ▸ k)
      have HDN2 := Lib.hid (HDN.out.step HOC.out)
      have HO2 := Lib.hid (sgRd_oct (sh := sh) HOC.out)
      have HB2 := Lib.hid (sgRd_bd (sh := sh) HOC.out)
      generalize hln : L.length = ln at *
      have HLN := Lib.hid hln
      have CJ := Lib.hid cj
      clear hj hL hsb ho hdi hy hbr hbz hbi how hn hsz hln HDN
      go_upto_region 6 with fail
      have nd : New wr wr.drew := (New.refl wr).drew
      have hS : (fun x : World => x.cell? ⟨ib, 1, none⟩ = some (.slice sp ln sc)) wr.drew := nd.keeps HBI.out.two.2
      refine wp_region_L (st := 6) (S := fun x : World => x.cell? ⟨ib, 1, none⟩ = some (.slice sp ln sc)) (by kernel_rfl) ?_
      refine wpAnyL_takeY (i := 0) (v := ?_) (by rfl) rfl (by kernel_rfl) (by kernel_rfl) (by kernel_rfl) (fun _ _ _ h => h) (Or.inl ⟨by rfl, ?_⟩) hS ?_
      rotate_left
      · intro w hSw
        go_simp
        with_reducible rfl
      try simp only [Act.put, List.setIfInBounds_toArray, List.set_cons_zero, List.set_cons_succ, List.getElem_toArray, List.getElem_cons_zero, List.getElem_cons_succ]
      refine wpAnyL_take (i := 1) (v := ?_) rfl (by kernel_rfl) (by kernel_rfl) (by kernel_rfl) (by kernel_rfl) (by kernel_rfl) (fun _ _ _ h => h) (Or.inl ⟨by rfl, ?_⟩) hS ?_
      rotate_left
      · intro w hSw
        try dsimp only at hSw
        go_simp
        with_reducible rfl
      try simp only [Act.put, List.setIfInBounds_toArray, List.set_cons_zero, List.set_cons_succ, List.getElem_toArray, List.getElem_cons_zero, List.getElem_cons_succ]
      refine wpAnyL_one (i := 2) (by kernel_rfl) rfl (fun K' hK => ?_)
      go_simp
      refine (pseg HY.out HOC.out (HBR.out.new nd) (HN.out.trans nd) (Nat.le_succ _)).mono ?_
      rintro ee x5 ⟨dv, v5, rfl, od5, hv5, br5, f5⟩
      have hne : ib ≠ w.heap.size + 1 := by have := IBL.out; omega
      have bi5 : Box x5 ib #[.int .u32 en, .slice sp ln sc] 36 := (HBI.out.new nd).far f5 hne
      have bz5 : Box x5 w.heap.size #[.int .u32 0, .slice none 0 0] 36 := (HBZ.out.new nd).far f5 (by omega)
      have n5 : New w x5 := f5.new (HN.out.trans nd) (Nat.le_succ _)
      have z5 : ib + 1 ≤ x5.heap.size := Nat.le_trans (Nat.le_trans HSZ.out nd.size) f5.size
      have ow5 : OwDg (ib + 1) x5 (.slice sp ln sc) L := (HOW.out.low (But.of_new (fun g => g = w.heap.size + 1) nd) (fun g hg => by have := IBL.out; omega)).low (But.of_far (S := fun g => g = w.heap.size + 1) f5 rfl) (fun g hg => by have := IBL.out; omega)
      have od5 : OwnB (ib + 1) x5 dv (sgRd r sh).1.d := od5.more (Nat.le_trans HSZ.out nd.size)
      have hv5 := Lib.hid hv5
      have S5 : x5.cell? ⟨ib, 1, none⟩ = some (.slice sp ln sc) := bi5.two.2
      refine hK.out _ _ (fun _ => S5) ?_
      clear hK K'
      generalize hsg : sgRd r sh = sg at *
      obtain ⟨s, r', sh'⟩ := sg
      have HSGD := Lib.hid hsg
      clear hsg
      obtain ⟨F0, T0, P0, dd⟩ := s
      dsimp only at *
      try simp only [Act.put, List.setIfInBounds_toArray, List.set_cons_zero, List.set_cons_succ, List.getElem_toArray, List.getElem_cons_zero, List.getElem_cons_succ]
      refine wpAnyL_one (i := 3) (by kernel_rfl) rfl (fun K' hK => ?_)
      obtain ⟨dp, dc, rfl⟩ := od5.shape
      generalize hdn : dd.length = dn at *
      go_simp
      obtain ⟨W6, hW6⟩ : ∃ W6, W6 = x5.alloc (.cells #[.int .i64 F0, .int .i64 T0, .int .u8 P0, .slice dp dn dc] 50) := ⟨_, rfl⟩
      have n6 : New x5 W6 := by rw [hW6]; exact (New.refl x5).alloc _ _
      have hs1 : Rws RSp W6 (.slice (some ⟨x5.heap.size, 0, none⟩) 1 1) [[.int .i64 F0, .int .i64 T0, .int .u8 P0, .slice dp dn dc]] := by
        rw [hW6]
        exact Rws.single (R := RSp) (r := [.int .i64 F0, .int .i64 T0, .int .u8 P0, .slice dp dn dc]) rfl (fun x hx => by
          simp only [List.mem_cons, List.not_mem_nil, or_false] at hx
          rcases hx with rfl | rfl | rfl | rfl <;> rfl) (heap_alloc_new x5 _)
      rw [← hW6]
      clear hW6
      refine hK.out _ _ (fun _ => n6.keeps S5) ?_
      clear hK K'
      try simp only [Act.put, List.setIfInBounds_toArray, List.set_cons_zero, List.set_cons_succ, List.getElem_toArray, List.getElem_cons_zero, List.getElem_cons_succ]
      refine wpAnyL_one (i := 4) (by kernel_rfl) rfl (fun K' hK => ?_)
      rw [if_pos (by rfl)]
      obtain ⟨rows, h1, h2, h3⟩ := ow5.low (But.of_new (fun g => g = ib) n6) (fun g hg => by omega)
      have od6 := od5.new n6
      have hjm : rows.length ≤ 255 := by have := J.out; have := CJ.out; have := HLN.out; omega
      have hbs : ib + 1 ≤ W6.heap.size := Nat.le_trans z5 n6.size
      refine opwp_app_w (R := RSp) (.tmp 18) (.tmp 20) rfl rfl (ib + 1) _ rows rfl h1 _ _ rfl hs1 (by rw [List.length_singleton]; omega) hbs ?_
      intro v9 w9 o9 k9 x9 n9
      have hge := fun g hg => h1.ge (g := g) hg
      have hul := fun u l (k : OwnB (ib + 1) W6 u l) => own_unlike h1 k
      have EW9 : OwDg (ib + 1) w9 v9 (L ++ [⟨F0, T0, P0, dd⟩]) := by
        refine ⟨_, o9, by simp [h2], fun i hi hi' => ?_⟩
        by_cases ci : i < rows.length
        · obtain ⟨du, e, o⟩ := h3 i ci (by omega)
          refine ⟨du, ?_, ?_⟩
          · rw [List.getElem_append_left ci, List.getElem_append_left (by omega)]; exact e
          · rw [List.getElem_append_left (by omega)]; exact o.but9 k9 (hul _ _ o)
        · have ei : i = rows.length := by simp at hi; omega
          subst ei
          refine ⟨.slice dp dn dc, ?_, ?_⟩
          · rw [List.getElem_append_right (Nat.le_refl _), List.getElem_append_right (by omega)]
            simp only [Nat.sub_self, h2, List.getElem_cons_zero]
          · rw [List.getElem_append_right (by omega)]
            simp only [h2, Nat.sub_self, List.getElem_cons_zero]
            exact od6.but9 k9 (hul _ _ od6)
      have bi9 : Box w9 ib #[.int .u32 en, .slice sp ln sc] 36 := (bi5.new n6).but k9 (fun c => by have := hge _ c; omega)
      have bz9 : Box w9 w.heap.size #[.int .u32 0, .slice none 0 0] 36 := (bz5.new n6).but k9 (fun c => by have := hge _ c; have := IBL.out; omega)
      have br9 : Box w9 (w.heap.size + 1) #[v5, .bool sh'] 56 := (br5.new n6).but k9 (fun c => by have := hge _ c; have := IBL.out; omega)
      have n9' : New w w9 := n9 w (by have := IBL.out; omega) (n5.trans n6)
      have z9 : ib + 1 ≤ w9.heap.size := Nat.le_trans hbs k9.size
      have hS : w9.cell? ⟨ib, 1, none⟩ = some (.slice sp ln sc) := bi9.two.2
      refine hK.out _ _ (fun _ => hS) ?_
      clear hK K'
      try simp only [Act.put, List.setIfInBounds_toArray, List.set_cons_zero, List.set_cons_succ, List.getElem_toArray, List.getElem_cons_zero, List.getElem_cons_succ]
      refine wpAnyL_takeY (i := 5) (v := ?_) (by rfl) rfl (by kernel_rfl) (by kernel_rfl) (by kernel_rfl) (fun _ _ _ h => h) (Or.inl ⟨by rfl, ?_⟩) hS ?_
      rotate_left
      · intro w hSw
        go_simp
        with_reducible rfl
      try simp only [Act.put, List.setIfInBounds_toArray, List.set_cons_zero, List.set_cons_succ, List.getElem_toArray, List.getElem_cons_zero, List.getElem_cons_succ]
      refine wpAnyL_one (i := 6) (by kernel_rfl) rfl (fun K' hK => ?_)
      have q1 : w9.frozen? ⟨ib, 1, none⟩ = false := bi9.unfrozen 1
      have q2 := hS
      obtain ⟨l9, hl9⟩ : ∃ l9, l9 = (L ++ [(⟨F0, T0, P0, dd⟩ : Sg)]).length := ⟨_, rfl⟩
      obtain ⟨p9, c9, e9⟩ := EW9.shape
      rw [← hl9] at e9
      subst e9
      clear hl9
      go_simp
      refine hK.out _ _ (fun h => by simp at h) ?_
      refine wpAnyL_done (by kernel_rfl) ?_ _
      have END : ∃ Wn : World, Wn = w9.setCell ⟨ib, 1, none⟩ (.slice p9 l9 c9) ∧ Box Wn (w.heap.size + 1) #[v5, .bool sh'] 56 ∧ Box Wn w.heap.size #[.int .u32 0, .slice none 0 0] 36 ∧ Box Wn ib #[.int .u32 en, .slice p9 l9 c9] 36 ∧ OwDg (ib + 1) Wn (.slice p9 l9 c9) (L ++ [⟨F0, T0, P0, dd⟩]) ∧ New w Wn ∧ ib + 1 ≤ Wn.heap.size := by
        have hib := IBL.out
        refine ⟨_, rfl, br9.other (by show ib ≠ _; omega) _, bz9.other (by show ib ≠ _; omega) _, by simpa using bi9.set 1 (.slice p9 l9 c9), EW9.low (But.set (S := fun g => g = ib) w9 (p := ⟨ib, 1, none⟩) rfl _) (fun g hg => by omega), n9'.setCell (p := ⟨ib, 1, none⟩) (by show _ ≤ ib; omega) _, by simp only [World.setCell, Array.size_modify]; exact z9⟩
      obtain ⟨Wn, hWn, er, ez, ei, ew, en', es⟩ := END
      rw [← hWn]
      have ER := Lib.hid er
      have EZ := Lib.hid ez
      have EI := Lib.hid ei
      have EW := Lib.hid ew
      have EN := Lib.hid en'
      have ES := Lib.hid es
      have cj := CJ.out
      clear hWn er ez ei ew en' es q1 q2 hS n9' z9 br9 bz9 bi9 EW9 hul hge n9 x9 k9 o9 hbs hjm od6 h3 h2 h1 hs1 n6 S5 od5 ow5 z5 n5 bz5 bi5 hne br5 f5 nd
      go_wp2
      go_roundg (c - (j + 1))
      case measure => have := J.out; omega
      case rel => exact ⟨j + 1, L ++ [⟨F0, T0, P0, dd⟩], r', sh', v5, _, by have := J.out; omega, by go_num, by rw [List.length_append, HLN.out, J.out.2]; rfl, (fun s hs => by
        rcases List.mem_append.1 hs with hs | hs
        · exact HSG.out s hs
        · rw [List.mem_singleton] at hs; subst hs; exact HB2.out), HO2.out, HDN2.out, hv5.out, ER.out, EZ.out, EI.out, EW.out, EN.out, ES.out⟩
    · obtain rfl : j = c := by omega
      rw [Nat.sub_self] at hdi
      have E := Lib.hid hdi.end_
      have LE9 := Lib.hid (fun (k : sh = false) => (hdi.2 k).1)
      obtain ⟨rp, rc, rfl, -, -⟩ := id hy
      obtain ⟨sp, sc, rfl⟩ := how.shape
      obtain ⟨q0, q1⟩ := hbr.two
      have hrl : r.length ≤ 9223372036854775807 := by obtain ⟨p', c', e', hc', -⟩ := hy; have := hc'.2; unfold maxLen at this; have := hc'.1; omega
      obtain ⟨z0, z1⟩ := hbz.two
      have zl := hbz.lt
      have zf0 := hbz.unfrozen 0
      have zf1 := hbz.unfrozen 1
      obtain ⟨b0, b1⟩ := hbi.two
      have MK := HMK.out
      clear hj hL hsb ho hdi hy hbr hbz hbi how hn hsz
      cases hmk : mkB b with
      | false =>
        have hne := MK.2 hmk
        have hnl : ¬ sb.toList = [104, 120, 48, 49] := fun k => hne (by
          rw [ByteArray.toList_eq] at k
          obtain ⟨⟨l⟩⟩ := sb
          exact congrArg (fun (z : List UInt8) => (ByteArray.mk (Array.mk z))) k)
        have FX := Lib.hid (dec_none (mkB_head hmk) HBZ.out HN.out)
        clear MK hmk hne
        go_wp2
        refine bodyPost_ret (v := .tuple #[.agg #[.int .u32 0, .slice none 0 0], .iface 60 (.int .i64 8)]) (by simp [results, Tryd.results10, asAddr, RBH.out _ _ _ FX.out.1]) rfl FX.out.2
      | true =>
        have hsm := MK.1 hmk
        subst hsm
        cases sh with
        | true =>
          have FX := Lib.hid (dec_none (E.out.1 rfl) HBZ.out HN.out)
          clear MK hmk
          go_wp2
          refine bodyPost_ret (v := .tuple #[.agg #[.int .u32 0, .slice none 0 0], .iface 60 (.int .i64 8)]) (by simp [results, Tryd.results10, asAddr, RBH.out _ _ _ FX.out.1]) rfl FX.out.2
        | false =>
          have EI := E.out.2 rfl hmk
          by_cases hr : r = []
          · subst hr
            have h9 := LE9.out rfl
            have hen : en = wh4 b := by
              cases hh : h3 with
              | true => have := HDB.out hh; omega
              | false => exact (HD.out hh).2.2.1
            have Q := pcheck_im (HOW.out.sgn (Nat.le_refl _)).sgs HSG.out en (by omega)
            rw [← hen] at EI
            cases hok : imOk en L with
            | true =>
              rw [if_pos ⟨rfl, hok⟩] at EI
              rw [show imE en L = 0 from if_pos hok, erN_zero] at Q
              have FX := Lib.hid (fun W (k : New wr W) => dec_some EI (HBZ.out.new k) (HN.out.trans k) (HOW.out.low (But.of_new (fun g => g = ib) k) (fun g hg => by omega)) (by have := IBL.out; omega))
              have KB := Lib.hid (fun W (k : New wr W) => And.intro (HBZ.out.new k) (HBI.out.new k))
              clear MK hmk EI hok hen h9
              generalize L.length = ln at *
              go_wp2_with fail
              refine Q.mono ?_
              rintro ee w8 ⟨rfl, n8⟩
              have FX := Lib.hid (FX.out w8 n8)
              obtain ⟨kz, ki⟩ := KB.out w8 n8
              obtain ⟨z0, z1⟩ := kz.two
              have zl := kz.lt
              have zf0 := kz.unfrozen 0
              have zf1 := kz.unfrozen 1
              obtain ⟨b0, b1⟩ := ki.two
              clear kz ki n8 Q
              go_wp2
              refine bodyPost_ret (v := .tuple #[.agg #[.int .u32 en, .slice sp ln sc], .nilIface]) (by simp [results, Tryd.results10, asAddr, RBH.out _ _ _ FX.out.1]) rfl FX.out.2
            | false =>
              rw [if_neg (by rw [hok]; simp)] at EI
              rw [show imE en L = 8 from if_neg (by rw [hok]; simp), erN_pos (show (8 : Int) ≠ 0 by decide)] at Q
              have FX := Lib.hid (fun W (k : New wr W) => dec_none EI (HBZ.out.new k) (HN.out.trans k))
              have KB := Lib.hid (fun W (k : New wr W) => And.intro (HBZ.out.new k) (HBI.out.new k))
              clear MK hmk EI hok hen h9
              generalize L.length = ln at *
              go_wp2_with fail
              refine Q.mono ?_
              rintro ee w8 ⟨rfl, n8⟩
              have FX := Lib.hid (FX.out w8 n8)
              obtain ⟨kz, ki⟩ := KB.out w8 n8
              obtain ⟨z0, z1⟩ := kz.two
              have zl := kz.lt
              have zf0 := kz.unfrozen 0
              have zf1 := kz.unfrozen 1
              clear kz ki n8 Q b0 b1
              go_wp2
              refine bodyPost_ret (v := .tuple #[.agg #[.int .u32 0, .slice none 0 0], .iface 60 (.int .i64 8)]) (by simp [results, Tryd.results10, asAddr, RBH.out _ _ _ FX.out.1]) rfl FX.out.2
          · rw [if_neg (fun k => hr k.1)] at EI
            have hr0 : 0 < r.length := Nat.pos_of_ne_zero (fun k => hr (List.eq_nil_of_length_eq_zero k))
            have hr0' : (0 : Int) < (r.length : Int) := by omega
            have FX := Lib.hid (dec_none EI HBZ.out HN.out)
            clear MK hmk EI hr
            generalize r.length = rl at *
            go_wp2
            refine bodyPost_ret (v := .tuple #[.agg #[.int .u32 0, .slice none 0 0], .iface 60 (.int .i64 8)]) (by simp [results, Tryd.results10, asAddr, RBH.out _ _ _ FX.out.1]) rfl FX.out.2
end Go.Proofs.YtealjgfijlencaaDoor
