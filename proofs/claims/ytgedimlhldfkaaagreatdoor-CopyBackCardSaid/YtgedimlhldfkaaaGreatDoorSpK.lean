/- Spaces of pages in memory: Map, Unmap, Protect. Contracts, for any spaces over one row of frames, in any world. -/
import Derived.Test.YtgedimlhldfkaaaGreatDoorSpI
namespace Go.Proofs.YtgedimlhldfkaaaGreatDoor
open Go.RowKit
set_option linter.unusedVariables false
set_option maxRecDepth 100000
section
variable {w w' : World} {k fb rb mb qb : Nat} {rs bs qs cs : List Int} {S T : List Sq} {a : Nat → Prop} {i : Nat} {d : Nat → Nat}
set_option maxHeartbeats 1000000 in
theorem Map_ok (h : GM w k fb rb mb qb rs bs S) (hi : i < S.length) (ho : S[i].on = true) (r : Rg) (hc : adE S[i].L r = 0) :
    Calls Tryz.prog 13 #[.pointer (some ⟨S[i].sb, 0, none⟩), .agg #[.int .i64 r.f, .int .i64 r.t, .int .u8 (r.p : Int)]] w (LayDid k fb rb mb qb rs bs (S.set i (S[i].lay (adL S[i].L r))) S[i].sb 0 w) := by
  obtain ⟨v, hb, hR⟩ := (h.has hi ho).box
  obtain ⟨sp, sc, rfl⟩ := hR.shape
  have n0 := (New.refl w).alloc #[.int .i64 r.f, .int .i64 r.t, .int .u8 (r.p : Int)] 37
  have BE := Box.here w _ #[.int .i64 r.f, .int .i64 r.t, .int .u8 (r.p : Int)] 37 rfl
  have hm := Box.new hb n0
  have X := sgone_no hm
  have HG := Lib.hid h
  have HB := Lib.hid hb
  have Y := radd_any _ _ _ r (hR.new n0.drew).rgs
  unfold MadeE at Y
  rw [hc] at Y
  unfold LayDid
  rw [erN_zero] at Y ⊢
  generalize adL S[i].L r = L at *
  clear h hb
  go_enter Tryz.func13, Tryz.ntmps13
  go_wp2_with fail
  refine X.mono ?_
  rintro e w1 ⟨rfl, rfl⟩
  go_wp2_with fail
  change Code.wp _ _ _ _ (w.alloc (.cells #[.int .i64 r.f, .int .i64 r.t, .int .u8 (r.p : Int)] 37))
  generalize (w.alloc (.cells #[.int .i64 r.f, .int .i64 r.t, .int .u8 (r.p : Int)] 37)) = W at *
  generalize w.heap.size = eb at *
  obtain ⟨c0, c1, c2, c3⟩ := Box.four hm
  obtain ⟨k0, k1, k2⟩ := BE.three
  have KEEP : ∀ W', New W.drew W' → W'.cell? ⟨S[i].sb, 3, none⟩ = some (.slice sp S[i].L.length sc) ∧ W'.cell? ⟨eb, 0, none⟩ = some (.int .i64 r.f) ∧ W'.cell? ⟨eb, 1, none⟩ = some (.int .i64 r.t) ∧ W'.cell? ⟨eb, 2, none⟩ = some (.int .u8 (r.p : Int)) := fun W' n =>
    ⟨(Box.four (Box.new hm ((drew_new W).trans n))).2.2.2, (BE.new ((drew_new W).trans n)).three⟩
  clear X hm BE hR
  go_region_held3 (fun w' => w'.cell? ⟨S[i].sb, 3, none⟩ = some (.slice sp S[i].L.length sc) ∧ w'.cell? ⟨eb, 0, none⟩ = some (.int .i64 r.f) ∧ w'.cell? ⟨eb, 1, none⟩ = some (.int .i64 r.t) ∧ w'.cell? ⟨eb, 2, none⟩ = some (.int .u8 (r.p : Int)))
    (first | go_keep | exact KEEP _ n2 | exact KEEP _ (New.refl _))
    (first | (go_at_call 51; (with_reducible refine Y.mono ?_); rintro e w2 ⟨v2, rfl, o2, n2⟩))
  have nn := n0.drew.trans n2
  have GL := Lib.hid ((HG.out.new nn).lay hi ho v2 L (o2.more (Nat.zero_le _)))
  have BL := Lib.hid ((But.of_new (fun g => g = S[i].sb) nn).trans (But.set (S := fun g => g = S[i].sb) w2 (p := ⟨S[i].sb, 3, none⟩) rfl v2))
  obtain ⟨f0, f1, f2, f3⟩ := Box.four (Box.new HB.out nn)
  have g3 := Box.unfrozen (Box.new HB.out nn) 3
  obtain ⟨p2, cc2, rfl⟩ := o2.shape
  clear Y KEEP o2 n2 nn n0 c0 c1 c2 c3 k0 k1 k2
  go_wp2
  go_ret
  exact ⟨rfl, GL.out, BL.out⟩
theorem Unmap_gone {v : Value} (h : GoneS w v) (x y : Int) : Calls Tryz.prog 14 #[v, .int .i64 x, .int .i64 y] w (Said (.iface 98 (.int .i64 22)) w) := by
  have X := sgone_yes h
  clear h
  go_enter Tryz.func14, Tryz.ntmps14
  go_wp2_with (go_at_call 41; (with_reducible refine (X).mono ?_); rintro e w' ⟨rfl, rfl⟩)
  go_ret
  exact ⟨rfl, New.refl _⟩
theorem Protect_gone {v : Value} (h : GoneS w v) (x y : Int) (u : Int) : Calls Tryz.prog 15 #[v, .int .i64 x, .int .i64 y, .int .u8 u] w (Said (.iface 98 (.int .i64 22)) w) := by
  have X := sgone_yes h
  clear h
  go_enter Tryz.func15, Tryz.ntmps15
  go_wp2_with (go_at_call 41; (with_reducible refine (X).mono ?_); rintro e w' ⟨rfl, rfl⟩)
  go_ret
  exact ⟨rfl, New.refl _⟩
set_option maxHeartbeats 1000000 in
theorem Unmap_no (h : GM w k fb rb mb qb rs bs S) (hi : i < S.length) (ho : S[i].on = true) (x y : Int) (hc : ctE S[i].L x y ≠ 0) :
    Calls Tryz.prog 14 #[.pointer (some ⟨S[i].sb, 0, none⟩), .int .i64 x, .int .i64 y] w (LayDid k fb rb mb qb rs bs S S[i].sb (ctE S[i].L x y) w) := by
  obtain ⟨v, hb, hR⟩ := (h.has hi ho).box
  obtain ⟨sp, sc, rfl⟩ := hR.shape
  have X := sgone_no hb
  have HG := Lib.hid h
  have Y := rcut_any _ _ _ x y hR.rgs
  unfold MadeE at Y
  generalize ctE S[i].L x y = c at *
  unfold LayDid
  rw [erN_pos hc] at Y ⊢
  obtain ⟨c0, c1, c2, c3⟩ := Box.four hb
  clear h hb hR
  go_enter Tryz.func14, Tryz.ntmps14
  go_wp2_with fail
  refine X.mono ?_
  rintro e w1 ⟨rfl, rfl⟩
  go_wp2_with fail
  refine Y.mono ?_
  rintro e w2 ⟨v2, rfl, o2, n2⟩
  go_wp2
  go_ret
  exact ⟨rfl, HG.out.new n2, But.of_new _ n2⟩
set_option maxHeartbeats 1000000 in
theorem Protect_no (h : GM w k fb rb mb qb rs bs S) (hi : i < S.length) (ho : S[i].on = true) (x y : Int) (P : Nat) (hc : prE S[i].L ⟨x, y, P⟩ ≠ 0) :
    Calls Tryz.prog 15 #[.pointer (some ⟨S[i].sb, 0, none⟩), .int .i64 x, .int .i64 y, .int .u8 (P : Int)] w (LayDid k fb rb mb qb rs bs S S[i].sb (prE S[i].L ⟨x, y, P⟩) w) := by
  obtain ⟨v, hb, hR⟩ := (h.has hi ho).box
  obtain ⟨sp, sc, rfl⟩ := hR.shape
  have X := sgone_no hb
  have HG := Lib.hid h
  have Y := rprot_any _ _ _ (⟨x, y, P⟩ : Rg) hR.rgs
  unfold MadeE at Y
  generalize prE S[i].L ⟨x, y, P⟩ = c at *
  unfold LayDid
  rw [erN_pos hc] at Y ⊢
  obtain ⟨c0, c1, c2, c3⟩ := Box.four hb
  clear h hb hR
  go_enter Tryz.func15, Tryz.ntmps15
  go_wp2_with fail
  refine X.mono ?_
  rintro e w1 ⟨rfl, rfl⟩
  go_wp2_with fail
  refine Y.mono ?_
  rintro e w2 ⟨v2, rfl, o2, n2⟩
  go_wp2
  go_ret
  exact ⟨rfl, HG.out.new n2, But.of_new _ n2⟩
set_option maxHeartbeats 2000000 in
theorem Unmap_ok (h : GM w k fb rb mb qb rs bs S) (hi : i < S.length) (ho : S[i].on = true) (p0 : PurD k rs bs S d) (x y : Int) (hc : ctE S[i].L x y = 0) :
    Calls Tryz.prog 14 #[.pointer (some ⟨S[i].sb, 0, none⟩), .int .i64 x, .int .i64 y] w (fun e w' => e = .returned .nilIface ∧ ∃ qs cs, GM w' k fb rb mb qb qs cs (S.set i (S[i].lay (ctL S[i].L x y))) ∧ But (fun g => (g = rb ∨ g = qb) ∨ g = S[i].sb) w w' ∧ DrpC S[i].t ((pgs (pgn bs S[i].t) 4096).filter fun p => !outR x y p) rs bs qs cs) := by
  obtain ⟨v, hb, hR⟩ := (h.has hi ho).box
  obtain ⟨sp, sc, rfl⟩ := hR.shape
  have X := sgone_no hb
  have HG := Lib.hid h
  have HB := Lib.hid hb
  have Y := rcut_any _ _ _ x y hR.rgs
  unfold MadeE at Y
  rw [hc, erN_zero] at Y
  generalize ctL S[i].L x y = L' at *
  have hi2 : i < (S.set i (S[i].lay L')).length := by simpa using hi
  have e2 : (S.set i (S[i].lay L'))[i] = S[i].lay L' := List.getElem_set_self _
  have PR := p0.relay hi L'
  have D := fun W (H : GM W k fb rb mb qb rs bs (S.set i (S[i].lay L'))) => drop_any H hi2 (by rw [e2]; exact ho) PR x y
  simp only [e2] at D
  have D2 : ∀ W (H : GM W k fb rb mb qb rs bs (S.set i (S[i].lay L'))), Calls Tryz.prog 48 #[.pointer (some ⟨S[i].sb, 0, none⟩), .int .i64 x, .int .i64 y] W fun e w' => e = .returned (.tuple #[]) ∧ ∃ qs cs, GM w' k fb rb mb qb qs cs (S.set i (S[i].lay L')) ∧ But (fun g => g = rb ∨ g = qb) W w' ∧ DrpC S[i].t ((pgs (pgn bs S[i].t) 4096).filter fun p => !outR x y p) rs bs qs cs := D
  generalize ((pgs (pgn bs S[i].t) 4096).filter fun p => !outR x y p) = PL at *
  obtain ⟨c0, c1, c2, c3⟩ := Box.four hb
  clear h hb D e2 hc PR p0 hR
  go_enter Tryz.func14, Tryz.ntmps14
  go_wp2_with fail
  refine X.mono ?_
  rintro e w1 ⟨rfl, rfl⟩
  go_wp2_with fail
  refine Y.mono ?_
  rintro e w2 ⟨v2, rfl, o2, n2⟩
  have GL := Lib.hid ((HG.out.new n2).lay hi ho v2 L' (o2.more (Nat.zero_le _)))
  have BL := Lib.hid ((But.of_new (fun g => g = S[i].sb) n2).trans (But.set (S := fun g => g = S[i].sb) w2 (p := ⟨S[i].sb, 3, none⟩) rfl v2))
  obtain ⟨f0, f1, f2, f3⟩ := Box.four (Box.new HB.out n2)
  have g3 := Box.unfrozen (Box.new HB.out n2) 3
  obtain ⟨p2, cc2, rfl⟩ := o2.shape
  clear X Y o2 n2 c0 c1 c2 c3
  go_wp2_with fail
  refine (D2 _ GL.out).mono ?_
  rintro e w3 ⟨rfl, qs, cs, h3, b3, hd⟩
  go_wp2
  go_ret
  exact ⟨rfl, qs, cs, h3, (BL.out.mono (fun _ _ x => .inr x)).trans (b3.mono (fun _ _ x => .inl x)), hd⟩
end
end Go.Proofs.YtgedimlhldfkaaaGreatDoor
namespace Go.Proofs.YtgedimlhldfkaaaGreatDoor
open Go.RowKit
set_option linter.unusedVariables false
set_option maxRecDepth 100000
/-- some pages used in another way, one by one -/
inductive PrtC (t : Nat) (P : Int) : List Int → List Int → List Int → Prop
  | nil (bs : List Int) : PrtC t P [] bs bs
  | snoc {l bs cs : List Int} (p f : Nat) : PrtC t P l bs cs → p < 4096 → pf cs t p = some f → PrtC t P (l ++ [(p : Int)]) bs (pt cs (lof cs t (p / 64)) (p % 64) (ennum f P (cwb (pgn cs t p))))
section
variable {w w' : World} {k fb rb mb qb : Nat} {rs bs qs cs : List Int} {S T : List Sq} {a : Nat → Prop} {i : Nat} {d : Nat → Nat}
theorem PrtC.keeps {l : List Int} {t : Nat} {P : Int} (h : PrtC t P l bs cs) (p0 : PurD k rs bs S d) (hk : k ≤ 1024) (q0 : 0 ≤ P) (q1 : P ≤ 7) (hi : i < S.length) (ho : S[i].on = true) (ht : t = S[i].t) : PurD k rs cs S d ∧ ∀ q : Nat, q < 4096 → (q : Int) ∉ l → pgn cs S[i].t q = pgn bs S[i].t q := by
  subst ht
  induction h with
  | nil => exact ⟨p0, fun _ _ _ => rfl⟩
  | snoc p f h1 hp hf ih =>
    obtain ⟨g1, g2⟩ := ih p0
    obtain ⟨r1, r2⟩ := g1.recode hk hi ho hp hf P (cwb _) q0 q1
    refine ⟨r1, fun q hq hn => ?_⟩
    rw [r2.pg i hi ho q hq, if_neg (fun e => hn (by rw [e.2]; simp))]
    exact g2 q hq fun x => hn (List.mem_append_left _ x)
set_option maxHeartbeats 2000000 in
theorem Protect_ok (h : GM w k fb rb mb qb rs bs S) (hi : i < S.length) (ho : S[i].on = true) (p0 : PurD k rs bs S d) (x y : Int) (P : Nat) (hc : prE S[i].L ⟨x, y, P⟩ = 0) :
    Calls Tryz.prog 15 #[.pointer (some ⟨S[i].sb, 0, none⟩), .int .i64 x, .int .i64 y, .int .u8 (P : Int)] w (fun e w' => e = .returned .nilIface ∧ ∃ qs cs, GM w' k fb rb mb qb qs cs (S.set i (S[i].lay (prL S[i].L ⟨x, y, P⟩))) ∧ But (fun g => (g = rb ∨ g = qb) ∨ g = S[i].sb) w w' ∧ qs = rs ∧ PrtC S[i].t P ((pgs (pgn bs S[i].t) 4096).filter fun p => !outR x y p) bs cs) := by
  obtain ⟨v, hb, hR⟩ := (h.has hi ho).box
  obtain ⟨sp, sc, rfl⟩ := hR.shape
  have X := sgone_no hb
  have HG := Lib.hid h
  have HB := Lib.hid hb
  have Y := rprot_any _ _ _ (⟨x, y, P⟩ : Rg) hR.rgs
  unfold MadeE at Y
  rw [hc, erN_zero] at Y
  generalize prL S[i].L ⟨x, y, P⟩ = L' at *
  have hi2 : i < (S.set i (S[i].lay L')).length := by simpa using hi
  have e2 : (S.set i (S[i].lay L'))[i] = S[i].lay L' := List.getElem_set_self _
  have PR := p0.relay hi L'
  have hP : P ≤ 7 := by
    unfold prE at hc
    split at hc
    · rename_i h; exact (okR_iff.1 h.2).2.2.2
    · omega
  have hk := h.bd
  have SB := (h.rbqb.2 i hi).1
  have HLT := Lib.hid (show rb < w.heap.size ∧ qb < w.heap.size from ⟨h.fr.lt.2, h.ph.lt.2⟩)
  have ho2 : (S.set i (S[i].lay L'))[i].on = true := by rw [e2]; exact ho
  have HO2 := Lib.hid ho2
  have GD := fun c1 (H : PurD k rs c1 (S.set i (S[i].lay L')) d) => H.good i hi2 ho2
  have F := fun W (H : GM W k fb rb mb qb rs bs (S.set i (S[i].lay L'))) => filled_any H hi2 ho2 (GD _ PR) x y
  have FI := fun W c1 (H : GM W k fb rb mb qb rs c1 (S.set i (S[i].lay L'))) (H2 : PurD k rs c1 (S.set i (S[i].lay L')) d) (m : Int) => sfind_any m H hi2 ho2 (GD _ H2)
  have SE := fun W c1 (H : GM W k fb rb mb qb rs c1 (S.set i (S[i].lay L'))) (H2 : PurD k rs c1 (S.set i (S[i].lay L')) d) p hp (f : Int) (c : Bool) f0 f1 => g_set H hi2 ho2 (GD _ H2) p hp f P c f0 f1 (by omega) (by omega) 0
  have KE := fun l c1 (H : PrtC S[i].t P l bs c1) => H.keeps PR hk.2 (by omega) (by omega) hi2 ho2 (by rw [e2]; rfl)
  have PG := fun c1 (H : PurD k rs c1 (S.set i (S[i].lay L')) d) p f (hp : p < 4096) => H.page_lt hi2 ho2 (p := p) (f := f) hp
  have HS := fun W c1 (H : GM W k fb rb mb qb rs c1 (S.set i (S[i].lay L'))) => (H.has hi2 ho2).box
  simp only [e2] at F FI SE GD KE PG HS
  have PL := Lib.hid ((Pgl.all (pgn bs S[i].t)).filter fun p => !outR x y p)
  have F2 : ∀ W, GM W k fb rb mb qb rs bs (S.set i (S[i].lay L')) → Calls Tryz.prog 54 #[.pointer (some ⟨S[i].sb, 0, none⟩), .int .i64 x, .int .i64 y] W (Lists ((pgs (pgn bs S[i].t) 4096).filter fun p => !outR x y p) W) := F
  have FI2 : ∀ W c1, GM W k fb rb mb qb rs c1 (S.set i (S[i].lay L')) → PurD k rs c1 (S.set i (S[i].lay L')) d → ∀ m : Int, Calls Tryz.prog 55 #[.pointer (some ⟨S[i].sb, 0, none⟩), .int .i64 m] W (Said (fndE (pgI c1 S[i].t m)) W) := FI
  have GD2 : ∀ c1, PurD k rs c1 (S.set i (S[i].lay L')) d → Good k (fun f => rs.getD f 0 = 1) c1 S[i].t := GD
  have KE2 : ∀ l c1, PrtC S[i].t P l bs c1 → PurD k rs c1 (S.set i (S[i].lay L')) d ∧ ∀ q : Nat, q < 4096 → (q : Int) ∉ l → pgn c1 S[i].t q = pgn bs S[i].t q := KE
  have PG2 : ∀ c1, PurD k rs c1 (S.set i (S[i].lay L')) d → ∀ p f, p < 4096 → pf c1 S[i].t p = some f → f < k ∧ 1 + d f ≤ rs.getD f 0 := PG
  have HS2 : ∀ W c1, GM W k fb rb mb qb rs c1 (S.set i (S[i].lay L')) → ∃ v, SpB W S[i].sb fb mb S[i].tb v ∧ OwnR 37 0 W v L' := HS
  have SE2 : ∀ W c1, GM W k fb rb mb qb rs c1 (S.set i (S[i].lay L')) → PurD k rs c1 (S.set i (S[i].lay L')) d → ∀ p, p < 4096 → ∀ (f : Nat) (c : Bool), f < 1024 → nm c1 S[i].t (p / 64) ≠ 0 →
      Calls Tryz.prog 56 #[.pointer (some ⟨S[i].tb, 0, none⟩), .int .i64 p, .agg #[.int .i64 f, .int .u8 (P : Int), .bool c]] W (GDid k fb rb mb qb rs (pt c1 (lof c1 S[i].t (p / 64)) (p % 64) (ennum f P c)) (S.set i (S[i].lay L')) .nilIface W) := fun W c1 H H2 p hp f c hf h0 => by
    have := SE W c1 H H2 p hp (f : Int) c (by omega) (by omega) (fun e => absurd e h0)
    have e3 : layB c1 S[i].t p (ennum f P c) 0 = pt c1 (lof c1 S[i].t (p / 64)) (p % 64) (ennum f P c) := if_neg h0
    have e4 : layR rs c1 S[i].t p 0 = rs := if_neg h0
    have := (show Calls Tryz.prog 56 #[.pointer (some ⟨S[i].tb, 0, none⟩), .int .i64 p, .agg #[.int .i64 f, .int .u8 (P : Int), .bool c]] W (GDid k fb rb mb qb (layR rs c1 S[i].t p 0) (layB c1 S[i].t p (ennum f P c) 0) (S.set i (S[i].lay L')) .nilIface W) from this)
    rwa [e3, e4] at this
  have LAYF : ∀ W v2, New w W → OwnR 37 0 W v2 L' → GM (W.setCell ⟨S[i].sb, 3, none⟩ v2) k fb rb mb qb rs bs (S.set i (S[i].lay L')) := fun W v2 n o => (HG.out.new n).lay hi ho v2 L' o
  clear F FI SE GD KE PG HS
  generalize ((pgs (pgn bs S[i].t) 4096).filter fun p => !outR x y p) = L at *
  generalize (S.set i (S[i].lay L')) = S2 at *
  obtain ⟨c0, c1, c2, c3⟩ := Box.four hb
  generalize S[i].sb = sb at *
  generalize S[i].tb = tb at *
  generalize S[i].t = t at *
  have hNM : ∀ c1 p f, pf c1 t p = some f → nm c1 t (p / 64) ≠ 0 := fun c1 p f h => nm_of_pf h
  have PR2 := Lib.hid PR
  have K10 := hk.2
  have HB3 := Lib.hid (show ¬ (sb = rb ∨ sb = qb) from SB)
  generalize S[i].L.length = sl at *
  clear h hb e2 hc PR p0 hR ho2 hi2 ho hi HG HO2 SB
  go_enter Tryz.func15, Tryz.ntmps15
  go_wp2_with fail
  refine X.mono ?_
  rintro e w1 ⟨rfl, rfl⟩
  go_wp2_with fail
  refine Y.mono ?_
  rintro e w2 ⟨v2, rfl, o2, n2⟩
  have GL := LAYF _ v2 n2 (o2.more (Nat.zero_le _))
  have BL := Lib.hid ((But.of_new (fun g => g = sb) n2).trans (But.set (S := fun g => g = sb) w2 (p := ⟨sb, 3, none⟩) rfl v2))
  obtain ⟨f0, f1, f2, f3⟩ := Box.four (Box.new HB.out n2)
  have g3 := Box.unfrozen (Box.new HB.out n2) 3
  obtain ⟨p2, cc2, rfl⟩ := o2.shape
  have X3 := F2 _ GL
  have RQ := Lib.hid (show rb < (w2.setCell ⟨sb, 3, none⟩ (.slice p2 L'.length cc2)).heap.size ∧ qb < (w2.setCell ⟨sb, 3, none⟩ (.slice p2 L'.length cc2)).heap.size from ⟨GL.fr.lt.2, GL.ph.lt.2⟩)
  have GLH := Lib.hid GL
  clear X Y o2 n2 c0 c1 c2 c3 F2 LAYF GL
  go_wp2_with fail
  generalize (w2.setCell ⟨sb, 3, none⟩ (.slice p2 L'.length cc2)) = W3 at *
  refine X3.mono ?_
  rintro e w4 ⟨v1, rfl, o1, n1⟩
  obtain ⟨pv, kv, cv, rfl⟩ := Own.form o1
  obtain rfl : kv = L.length := by obtain ⟨p', c', e⟩ := o1.ints.len; injection e
  have hBL : L.length ≤ 9223372036854775807 := by
    rcases o1.2 with ⟨_, hn⟩ | ⟨g, cap, cur, _, _, _, h1, h2, _⟩
    · omega
    · unfold maxLen at h2; omega
  have HO := Lib.hid o1
  have N1 := Lib.hid n1
  have HG1 := Lib.hid (GLH.out.new n1)
  clear X3 o1 n1 f0 f1 f2 f3 g3
  go_wp2_with fail
  go_loopg [41] L.length (fun kk ii wr => ∃ j : Nat, ∃ cs, j + kk = L.length ∧ ii = .int .i64 (j : Int) ∧ GM wr k fb rb mb qb rs cs S2 ∧ But (fun g => g = rb ∨ g = qb) w4 wr ∧ PrtC t P (L.take j) bs cs)
  case atStart => exact ⟨0, bs, by omega, rfl, HG1.out, But.refl _ _, PrtC.nil _⟩
  case round =>
    obtain ⟨j, cs, hj, rfl, hg, hb, hd⟩ := hrel
    by_cases c : j < L.length
    · obtain ⟨p, hp, hpl, hpg, hpn⟩ := PL.out.at_ c
      obtain ⟨PD, KP⟩ := KE2 _ _ hd
      have hcs : pgn cs t p ≠ 0 := by rw [KP p hp hpn]; exact hpg
      obtain ⟨f, hf⟩ : ∃ f, pf cs t p = some f := ⟨_, pv_pos hcs⟩
      have hfl := PG2 _ PD p f hp hf
      have hfk : f < 1024 := by omega
      obtain ⟨d1, d2, d3, d4, _, _⟩ := page_dc (GD2 _ PD) hp hf
      have Y := FI2 _ _ hg PD (p : Int)
      rw [pgI_in _ _ _ hp] at Y
      unfold fndE at Y
      rw [d1, d2, d4] at Y
      generalize dcp (pgn cs t p) = y1 at Y
      have V := fun W (H : GM W k fb rb mb qb rs cs S2) => SE2 W cs H PD p hp f (cwb (pgn cs t p)) hfk (hNM _ _ _ hf)
      have DN := Lib.hid (show PrtC t P (L.take (j + 1)) bs _ by rw [take_snoc_int L j c, hpl]; exact PrtC.snoc p f hd hp hf)
      generalize pt cs (lof cs t (p / 64)) (p % 64) (ennum f P (cwb (pgn cs t p))) = c2 at *
      generalize cwb (pgn cs t p) = y2 at *
      obtain ⟨b, cap, ev, hc⟩ := (HO.out.but hb (fun g hg => by have := RQ.out; omega)).ints.cell j c
      rw [hpl] at hc
      obtain ⟨rfl, rfl⟩ : pv = some ⟨b, 0, none⟩ ∧ cv = cap := by injection ev with a b c; exact ⟨a, c⟩
      have J := Lib.hid hj
      have HBB := Lib.hid hb
      have HGG := Lib.hid hg
      obtain ⟨v, hbx, _⟩ := HS2 _ _ hg
      have HBX := Lib.hid hbx
      have RW : rb < wr.heap.size ∧ qb < wr.heap.size := ⟨hg.fr.lt.2, hg.ph.lt.2⟩
      clear hj hg hb hd hf hfl hcs hpg hpn hpl KP PD d1 d2 d3 d4 ev hbx
      go_wp2_with fail
      refine Y.mono ?_
      rintro e w5 ⟨rfl, n5⟩
      have n6 := n5.alloc #[.int .i64 f, .int .u8 y1, .bool y2] 117
      have BE := Box.here w5 _ #[.int .i64 f, .int .u8 y1, .bool y2] 117 rfl
      have ES := Lib.hid (show ¬ (w5.heap.size = rb ∨ w5.heap.size = qb) by have := n5.size; omega)
      have EL := Lib.hid n5.size
      obtain ⟨hs, k0, k1, k2, q0, q1, q2⟩ := BE.three'
      have BE2 := Lib.hid (Box.here w5 _ #[.int .i64 f, .int .u8 (P : Int), .bool y2] 117 rfl)
      have n7 := Lib.hid (n5.alloc #[.int .i64 f, .int .u8 (P : Int), .bool y2] 117)
      clear Y BE
      go_wp2_with fail
      generalize (w5.alloc (.cells #[.int .i64 f, .int .u8 (P : Int), .bool y2] 117)) = W6 at *
      generalize w5.heap.size = eb at *
      have hm := Box.new HBX.out n7.out
      obtain ⟨m0, m1, m2, m3⟩ := Box.four hm
      obtain ⟨l0, l1, l2⟩ := Box.three (show Box W6 eb #[.int .i64 f, .int .u8 (P : Int), .bool y2] 117 from BE2.out)
      have V1 := V _ (HGG.out.new n7.out.drew)
      have KEEP : ∀ w', But (fun g => g = rb ∨ g = qb) W6.drew w' → w'.cell? ⟨sb, 2, none⟩ = some (.pointer (some ⟨tb, 0, none⟩)) ∧ w'.cell? ⟨eb, 0, none⟩ = some (.int .i64 f) ∧ w'.cell? ⟨eb, 1, none⟩ = some (.int .u8 (P : Int)) ∧ w'.cell? ⟨eb, 2, none⟩ = some (.bool y2) := fun w' b4 =>
        ⟨(Box.four (Box.but (Box.new hm (drew_new W6)) b4 HB3.out)).2.2.1, Box.three (show Box w' eb #[.int .i64 f, .int .u8 (P : Int), .bool y2] 117 from Box.but (Box.new BE2.out (drew_new W6)) b4 ES.out)⟩
      clear k0 k1 k2 q0 q1 q2 hs n5 n6
      go_region_held3 (fun w' => w'.cell? ⟨sb, 2, none⟩ = some (.pointer (some ⟨tb, 0, none⟩)) ∧ w'.cell? ⟨eb, 0, none⟩ = some (.int .i64 f) ∧ w'.cell? ⟨eb, 1, none⟩ = some (.int .u8 (P : Int)) ∧ w'.cell? ⟨eb, 2, none⟩ = some (.bool y2))
        (first | go_keep | exact KEEP _ b4)
        (first | (go_at_call 56; (with_reducible refine V1.mono ?_); rintro e w7 ⟨rfl, h4, b4⟩))
      have B4 := (But.of_new (fun g => g = rb ∨ g = qb) n7.out.drew).trans b4
      clear V V1 KEEP m0 m1 m2 m3 l0 l1 l2 hm b4
      go_wp2_with fail
      go_roundg (L.length - (j + 1))
      case measure => have := J.out; omega
      case rel => exact ⟨j + 1, c2, by have := J.out; omega, by go_num, h4, HBB.out.trans B4, DN.out⟩
    · obtain rfl : j = L.length := by omega
      rw [List.take_length] at hd
      go_wp2
      go_ret
      exact ⟨rfl, rs, cs, hg, ((BL.out.mono (fun _ _ x => .inr x)).trans (But.of_new _ N1.out)).trans (hb.mono (fun _ _ x => .inl x)), rfl, hd⟩
end
end Go.Proofs.YtgedimlhldfkaaaGreatDoor
