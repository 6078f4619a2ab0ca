/- Plain facts on several tables in one row of frames, of no program: an entry laid down wherever it goes; a page filled, parted, shared. -/
import Derived.Test.YtgedimlhldfkaaaGreatDoorSpI
import Derived.Test.YtgedimlhldfkaaaGreatDoorSpK
import Derived.Lib.AppendZeros
import Derived.Lib.SliceRun
namespace Go.Proofs.YtgedimlhldfkaaaGreatDoor
open Go.RowKit
set_option linter.unusedVariables false
set_option maxRecDepth 100000
/-- one page's number is another one; its upper part has a frame, if it had none the frame n -/
structure SetE (k : Nat) (bs cs : List Int) (S : List Sq) (i p : Nat) (v : Int) (n : Nat) : Prop where
  pg : ∀ j (hj : j < S.length), S[j].on = true → ∀ q, q < 4096 → pgn cs S[j].t q = if j = i ∧ q = p then v else pgn bs S[j].t q
  up : ∀ j (hj : j < S.length), S[j].on = true → ∀ u, u < 64 → nm cs S[j].t u = if j = i ∧ u = p / 64 ∧ nm bs S[j].t u = 0 then upn n else nm bs S[j].t u
  bt : ∀ f, f < k → ¬ Mn cs S f → fby cs f = fby bs f
  mn : ∀ f, Mn bs S f → Mn cs S f
section
variable {k : Nat} {rs bs qs cs : List Int} {S : List Sq} {d e : Nat → Nat} {i p f : Nat}
theorem Chg.setE {v : Int} (h : Chg k bs cs S i p v) (n : Nat) (hi : i < S.length) (h0 : nm bs S[i].t (p / 64) ≠ 0) : SetE k bs cs S i p v n :=
  ⟨h.pg, fun j hj hoj u hu => by rw [h.up j hj hoj u hu, if_neg]; rintro ⟨rfl, rfl, x⟩; exact h0 x, fun f hf hm => h.bt f hf fun x => hm ((h.mn f).2 x), fun f hm => (h.mn f).2 hm⟩
theorem PurD.set (h : PurD k rs bs S d) (hk : k ≤ 1024) (hi : i < S.length) (ho : S[i].on = true) (hp : p < 4096) {v : Int} (hv : Pn v) (v0 : 0 ≤ v) (v1 : v ≤ 4294967295) (hf : ∀ f, pv v = some f → f < k)
    (n : Nat) (hn : nm bs S[i].t (p / 64) = 0 → n < k ∧ rs.getD n 0 = 0) (he : ∀ f, f < k → e f + b2 (pv v = some f) = d f + b2 (pf bs S[i].t p = some f)) :
    PurD k (layR rs bs S[i].t p n) (layB bs S[i].t p v n) S e ∧ SetE k bs (layB bs S[i].t p v n) S i p v n := by
  by_cases h0 : nm bs S[i].t (p / 64) = 0
  · obtain ⟨n1, n2⟩ := hn h0
    obtain ⟨g1, g2⟩ := h.grow hi ho (show p / 64 < 64 by omega) h0 n1 hk n2
    have U := g2.up i hi ho (p / 64) (by omega)
    rw [if_pos ⟨rfl, rfl⟩] at U
    have L : lof (nw bs S[i].t (p / 64) n) S[i].t (p / 64) = n := by unfold lof; rw [U, fo_upn]
    obtain ⟨r1, r2⟩ := g1.lay (e := e) hi ho hp (by rw [U]; have := upn_pos n; omega) hv v0 v1 hf fun f hf => by
      have : pf (nw bs S[i].t (p / 64) n) S[i].t p = pf bs S[i].t p := by unfold pf; rw [g2.pg i hi ho p hp]
      rw [this]; exact he f hf
    rw [L] at r1 r2
    unfold layR layB
    rw [if_pos h0, if_pos h0]
    refine ⟨r1, ⟨fun j hj hoj q hq => by rw [r2.pg j hj hoj q hq, g2.pg j hj hoj q hq], fun j hj hoj u hu => ?_, fun f hf hm => ?_, fun f hm => (r2.mn f).2 ((g2.mn hi ho (by omega) h0 f).2 (.inl hm))⟩⟩
    · rw [r2.up j hj hoj u hu, g2.up j hj hoj u hu]
      by_cases c : j = i ∧ u = p / 64
      · rw [if_pos c, if_pos ⟨c.1, c.2, by obtain ⟨rfl, rfl⟩ := c; exact h0⟩]
      · rw [if_neg c, if_neg (fun x => c ⟨x.1, x.2.1⟩)]
    · have hm2 : ¬ Mn (nw bs S[i].t (p / 64) n) S f := fun x => hm ((r2.mn f).2 x)
      have hm3 := fun x => hm2 ((g2.mn hi ho (by omega) h0 f).2 x)
      rw [r2.bt f hf hm2, g2.bt f hf (fun x => hm3 (.inl x)) (fun x => hm3 (.inr x))]
  · obtain ⟨r1, r2⟩ := h.lay (e := e) hi ho hp h0 hv v0 v1 hf he
    unfold layR layB
    rw [if_neg h0, if_neg h0]
    exact ⟨r1, r2.setE n hi h0⟩
theorem ennum_pv (f : Nat) (P : Int) (c : Bool) (hf : f < 1024) (q0 : 0 ≤ P) (q1 : P ≤ 7) : Pn (ennum f P c) ∧ 0 ≤ ennum f P c ∧ ennum f P c ≤ 4294967295 ∧ ennum f P c ≠ 0 ∧ pv (ennum f P c) = some f ∧ ennum f P c % 8 = P ∧ cwb (ennum f P c) = c := by
  obtain ⟨v0, v1, v2⟩ := ennum_pn (f : Int) P c (by omega) (by omega) q0 q1
  have e := ennum_is (f : Int) P c (by omega) (by omega) q0 q1
  exact ⟨v0, by omega, v2, by omega, by rw [pv_pos (by omega)]; unfold fo; rw [e.2.2.2.1]; simp, e.2.2.2.2⟩
/-- a frame that is taken -/
theorem PurD.take (h : PurD k rs bs S d) {g : Nat} (hg : g < k) (hz : rs.getD g 0 = 0) : PurD k (rs.set g 1) bs S (fun f => d f + b2 (f = g)) ∧ ¬ Mn bs S g ∧ d g = 0 := by
  have hd : d g = 0 := by have := h.cnt g hg; omega
  have hno : ¬ Mn bs S g := fun hm => by have := (h.mn_lt hm).2.1; omega
  refine ⟨h.refs (by rw [List.length_set]; exact h.hr) (fun f hm => ?_) (fun f hf => ?_), hno, hd⟩
  · rw [getD_set _ _ _ _ (by rw [h.hr]; exact hg), if_neg (fun (e : f = g) => hno (e ▸ hm))]; exact (h.mn_lt hm).2.1
  · rw [getD_set _ _ _ _ (by rw [h.hr]; exact hg)]
    by_cases c : f = g
    · subst c; rw [if_pos rfl, b2_yes rfl]; omega
    · rw [if_neg c, b2_no c]; omega
theorem layR_get {t n : Nat} (hn : nm bs t (p / 64) = 0 → n < rs.length) (f : Nat) : (layR rs bs t p n).getD f 0 = if nm bs t (p / 64) = 0 ∧ f = n then 1 else rs.getD f 0 := by
  unfold layR
  by_cases c : nm bs t (p / 64) = 0
  · rw [if_pos c, getD_set _ _ _ _ (hn c)]
    by_cases e : f = n
    · rw [if_pos e, if_pos ⟨c, e⟩]
    · rw [if_neg e, if_neg (fun x => e x.2)]
  · rw [if_neg c, if_neg (fun x => c x.1)]
/-- a page that had no frame gets one of noughts -/
theorem PurD.fill (h : PurD k rs bs S d) (hk : k ≤ 1024) (hi : i < S.length) (ho : S[i].on = true) (hp : p < 4096) (hf : pf bs S[i].t p = none) (P : Int) (q0 : 0 ≤ P) (q1 : P ≤ 7) {g : Nat} (hg : g < k) (hz : rs.getD g 0 = 0)
    (n : Nat) (hn : nm bs S[i].t (p / 64) = 0 → n < k ∧ (rs.set g 1).getD n 0 = 0) :
    PurD k (layR (rs.set g 1) bs S[i].t p n) (zr (layB bs S[i].t p (ennum g P false) n) g) S d ∧ SetE k bs (layB bs S[i].t p (ennum g P false) n) S i p (ennum g P false) n ∧ Sam (layB bs S[i].t p (ennum g P false) n) (zr (layB bs S[i].t p (ennum g P false) n) g) S ∧ ¬ Mn (layB bs S[i].t p (ennum g P false) n) S g := by
  obtain ⟨t1, t2, t3⟩ := h.take hg hz
  obtain ⟨v0, v1, v2, v3, v4, _⟩ := ennum_pv g P false (by omega) q0 q1
  obtain ⟨r1, r2⟩ := t1.set (e := d) hk hi ho hp v0 v1 v2 (fun f hf => by rw [v4] at hf; cases hf; exact hg) n hn fun f hf' => by
    rw [v4, hf, b2_iff (show some g = some f ↔ f = g from ⟨fun x => (Option.some.inj x).symm, fun x => by rw [x]⟩), b2_no (P := none = some f) (by intro x; cases x)]; rfl
  have hno : ¬ Mn (layB bs S[i].t p (ennum g P false) n) S g := r1.page_not hi ho hp (by unfold pf; rw [r2.pg i hi ho p hp, if_pos ⟨rfl, rfl⟩]; exact v4)
  obtain ⟨s1, s2⟩ := r1.data (zr_len r1.hl hg) fun f hf hm => by
    rw [fby_zr r1.hl hg hf]; exact if_neg (fun (e : f = g) => hno (e ▸ hm))
  exact ⟨s1, r2, s2, hno⟩
/-- a page that shares its frame gets one of its own -/
theorem PurD.split (h : PurD k rs bs S d) (hk : k ≤ 1024) (hi : i < S.length) (ho : S[i].on = true) (hp : p < 4096) (hf : pf bs S[i].t p = some f) (P : Int) (q0 : 0 ≤ P) (q1 : P ≤ 7) (h1 : 1 < rs.getD f 0) {g : Nat} (hg : g < k) (hz : rs.getD g 0 = 0) :
    Good k (fun f => rs.getD f 0 = 1) (splice bs (g * 256 + 0) (fby bs f)) S[i].t ∧ nm (splice bs (g * 256 + 0) (fby bs f)) S[i].t (p / 64) ≠ 0 ∧
    PurD k ((rs.set g 1).set f (rs.getD f 0 - 1)) (pt (splice bs (g * 256 + 0) (fby bs f)) (lof (splice bs (g * 256 + 0) (fby bs f)) S[i].t (p / 64)) (p % 64) (ennum g P false)) S d ∧
    Sam bs (splice bs (g * 256 + 0) (fby bs f)) S ∧ Chg k (splice bs (g * 256 + 0) (fby bs f)) (pt (splice bs (g * 256 + 0) (fby bs f)) (lof (splice bs (g * 256 + 0) (fby bs f)) S[i].t (p / 64)) (p % 64) (ennum g P false)) S i p (ennum g P false) ∧ ¬ Mn bs S g := by
  obtain ⟨t1, t2, t3⟩ := h.take hg hz
  have hl := h.page_lt hi ho hp hf
  have hno := h.page_not hi ho hp hf
  have hfg : f ≠ g := fun e => by rw [e] at h1; omega
  have hfl := fby_len h.hl hl.1
  have hl2 : (splice bs (g * 256 + 0) (fby bs f)).length = k * 256 := by rw [splice_len _ _ _ (by rw [hfl, h.hl]; omega)]; exact h.hl
  have D0 : ∀ x, x < k → Mn bs S x → fby (splice bs (g * 256 + 0) (fby bs f)) x = fby bs x := fun x hx hm => by
    rw [fby_sp h.hl _ hg hx (by rw [hfl]; omega)]; exact if_neg (fun (e : x = g) => t2 (e ▸ hm))
  obtain ⟨a1, a2⟩ := h.data hl2 D0
  obtain ⟨s1, s2⟩ := t1.data hl2 D0
  have hn0 : nm (splice bs (g * 256 + 0) (fby bs f)) S[i].t (p / 64) ≠ 0 := by rw [s2.up i hi ho _ (by omega)]; exact nm_of_pf hf
  have hpf : pf (splice bs (g * 256 + 0) (fby bs f)) S[i].t p = some f := by unfold pf; rw [s2.pg i hi ho p hp]; exact hf
  obtain ⟨v0, v1, v2, v3, v4, _⟩ := ennum_pv g P false (by omega) q0 q1
  obtain ⟨r1, r2⟩ := s1.lay (e := fun x => d x + b2 (x = f)) hi ho hp hn0 v0 v1 v2 (fun x hx => by rw [v4] at hx; cases hx; exact hg) fun x hx => by
    rw [v4, hpf, b2_iff (show some g = some x ↔ x = g from ⟨fun y => (Option.some.inj y).symm, fun y => by rw [y]⟩), b2_iff (show some f = some x ↔ x = f from ⟨fun y => (Option.some.inj y).symm, fun y => by rw [y]⟩)]; omega
  refine ⟨a1.good i hi ho, hn0, ?_, s2, r2, t2⟩
  have hgr : g < rs.length := by rw [h.hr]; exact hg
  have hfr : f < (rs.set g 1).length := by rw [List.length_set, h.hr]; exact hl.1
  refine r1.refs (by rw [List.length_set, List.length_set]; exact h.hr) (fun x hm => ?_) (fun x hx => ?_)
  · rw [getD_set _ _ _ _ hfr]
    have hx := (r1.mn_lt hm)
    have hxf : x ≠ f := fun e => hno (by rw [← s2.mn, ← r2.mn]; exact e ▸ hm)
    rw [if_neg hxf]; exact hx.2.1
  · rw [getD_set _ _ _ _ hfr]
    by_cases c : x = f
    · subst c; rw [if_pos rfl, b2_yes rfl, getD_set _ _ _ _ hgr, if_neg hfg]; omega
    · rw [if_neg c, b2_no c]; omega
end
end Go.Proofs.YtgedimlhldfkaaaGreatDoor
namespace Go.Proofs.YtgedimlhldfkaaaGreatDoor
open Go.RowKit
set_option linter.unusedVariables false
set_option maxRecDepth 100000
section
variable {w w' : World} {k fb rb mb qb many : Nat} {rs bs qs cs : List Int} {S T : List Sq} {a : Nat → Prop} {i : Nat} {d : Nat → Nat}
set_option maxHeartbeats 1000000 in
theorem clone_any (v : Value) (l : List Rg) (h : Rgs w v l) (hl : l.length ≤ 1000000) : Calls Tryz.prog 58 #[v] w (MadeR 37 l w) := by
  obtain ⟨i0, hi, hz0, hz1, hz2⟩ := info_parts3 region_info
  obtain ⟨p, cap, rfl, hc, hm⟩ := h.shape
  cases p with
  | none =>
    have hl0 : l = [] := by
      cases l with
      | nil => rfl
      | cons a m => obtain ⟨_, x, e, _⟩ := h.at_ 0 (by simp); cases e
    subst hl0
    have hq := fun W => Lib.run_eql_slice_nil (P := Tryz.prog) W 41 37 none 0 cap 0 0 Tryz.underlying41
    clear h
    go_enter Tryz.func58, Tryz.ntmps58
    go_wp2
    go_ret
    exact ⟨_, rfl, OwnR.nil, New.refl _⟩
  | some x =>
    have HR := Lib.hid h
    have hq := fun W => Lib.run_eql_slice_nil (P := Tryz.prog) W 41 37 (some x) l.length cap 0 0 Tryz.underlying41
    clear h
    go_enter Tryz.func58, Tryz.ntmps58
    have n0 : New w (w.alloc (.cells #[] 37)) := (New.refl w).alloc _ _
    have O0 : OwnR 37 w.heap.size (w.alloc (.cells #[] 37)) (.slice (some ⟨w.heap.size, 0, none⟩) 0 0) [] :=
      ⟨by simp [rcells], .inr ⟨w.heap.size, 0, #[], rfl, Nat.le_refl _, heap_alloc_new w _, Nat.le_refl _, by unfold maxLen; omega, rfl, rfl⟩⟩
    obtain ⟨u, w1, hr, ow, nw⟩ := run_append_rgs n0 O0 (HR.out.new n0) (by simp; omega)
    have HN := Lib.hid nw
    have HO := Lib.hid ow
    obtain ⟨up, uc, rfl⟩ := OwnR.shape ow
    go_wp2_with (at_builtin; refine Lib.wpList_append_run _ rfl _ _ _ _ rfl _ _ rfl rfl _ _ hr ?_)
    go_ret
    exact ⟨_, rfl, by simpa using HO.out, HN.out⟩
set_option maxHeartbeats 1000000 in
theorem tnew_full (h1 : Fr w fb rb rs) (h2 : Ph w mb qb many bs) (hm : rs.length ≤ many) (hn : NoFree rs rs.length) :
    Calls Tryz.prog 90 #[.pointer (some ⟨fb, 0, none⟩), .pointer (some ⟨mb, 0, none⟩)] w (Said (.tuple #[.pointer none, .iface 98 (.int .i64 12)]) w) := by
  have X := many_any h2
  have Y := free_any w h1
  have Z := Lib.hid (fun w (h : Fr w fb rb rs) => taken_len w h)
  have HT := Lib.hid (fun w tb (h : Tb w tb fb mb 0) (h1 : Fr w fb rb rs) => take_no h h1 hn)
  have HF := Lib.hid h1
  have HP := Lib.hid h2
  have hk := tk_len rs rs.length
  have hb := h2.bd
  have hl := h1.1.2.1
  generalize hK : (tk rs rs.length).length = K at *
  have e1 : decide ((many : Int) < ((rs.length : Int) - K) + K) = false := by simp; omega
  have e2 : ((rs.length : Int) - K) + K ≤ many := by omega
  clear h1 h2 hm hn hK
  go_enter Tryz.func90, Tryz.ntmps90
  go_wp2_with fail
  refine X.mono ?_
  rintro e w1 ⟨rfl, rfl⟩
  go_wp2_with fail
  refine Y.mono ?_
  rintro e w1 ⟨rfl, n1⟩
  go_wp2_with fail
  refine (Z.out _ (HF.out.new n1)).mono ?_
  rintro e w2 ⟨p, cap, rfl, n2⟩
  have nn := n1.trans n2
  clear X Y n1 n2
  go_wp2_with fail
  have n3 := nn.alloc #[.pointer (some ⟨fb, 0, none⟩), .pointer (some ⟨mb, 0, none⟩), .int .i64 0] 171
  have t3 : Tb (w2.alloc (.cells #[.pointer (some ⟨fb, 0, none⟩), .pointer (some ⟨mb, 0, none⟩), .int .i64 0] 171)) w2.heap.size fb mb 0 := Box.here _ _ _ _ rfl
  refine (HT.out _ _ t3 (HF.out.new n3)).mono ?_
  rintro e w4 ⟨rfl, rfl⟩
  go_wp2
  go_ret2
  exact ⟨rfl, n3⟩
theorem snew_no (h1 : Fr w fb rb rs) (h2 : Ph w mb qb many bs) (hm : rs.length ≤ many) (hn : NoFree rs rs.length) :
    Calls Tryz.prog 46 #[.pointer (some ⟨fb, 0, none⟩), .pointer (some ⟨mb, 0, none⟩)] w (Said (.tuple #[.pointer none, .iface 98 (.int .i64 12)]) w) := by
  have X := tnew_full h1 h2 hm hn
  clear h1 h2 hn
  go_enter Tryz.func46, Tryz.ntmps46
  go_wp2_with fail
  refine X.mono ?_
  rintro e w1 ⟨rfl, n1⟩
  go_wp2
  go_ret2
  exact ⟨rfl, n1⟩
/-- one more in a row of frames, bytes and spaces -/
theorem GM.push {s : Sq} (h : GM w k fb rb mb qb rs bs S) (b : But (fun g => g = rb ∨ g = qb) w w') (f : Fr w' fb rb qs) (p : Ph w' mb qb k cs) (l : qs.length = k) (hs : Has w' fb mb s) (h1 : w.heap.size ≤ s.sb) (h2 : w.heap.size ≤ s.tb) : GM w' k fb rb mb qb qs cs (S ++ [s]) := by
  have t := h.turn b f p l
  have l1 : ∀ i (hi : i < S.length), S[i].sb < w.heap.size ∧ S[i].tb < w.heap.size := fun i hi => by
    obtain ⟨c1, b1⟩ := (h.mem i hi).sb
    obtain ⟨c2, b2⟩ := (h.mem i hi).tb
    exact ⟨Box.lt b1, Box.lt b2⟩
  refine ⟨f, p, l, fun i hi => ?_, ?_, ?_⟩
  · by_cases c : i < S.length
    · rw [List.getElem_append_left c]; exact t.mem i c
    · have e : i = S.length := by simp at hi; omega
      subst e
      rw [List.getElem_append_right (Nat.le_refl _)]
      simpa using hs
  · rw [List.map_append, List.nodup_append]
    refine ⟨h.nsb, by simp, fun x hx y hy => ?_⟩
    obtain ⟨z, hz, rfl⟩ := List.mem_map.1 hx
    obtain ⟨i, hi, rfl⟩ := List.mem_iff_getElem.1 hz
    simp at hy
    have := (l1 i hi).1
    omega
  · rw [List.map_append, List.nodup_append]
    refine ⟨h.ntb, by simp, fun x hx y hy => ?_⟩
    obtain ⟨z, hz, rfl⟩ := List.mem_map.1 hx
    obtain ⟨i, hi, rfl⟩ := List.mem_iff_getElem.1 hz
    simp at hy
    have := (l1 i hi).2
    omega
/-- a space that was made -/
def MadeS (k fb rb mb qb g : Nat) (rs bs : List Int) (S : List Sq) (w : World) (e : Ending) (w' : World) : Prop :=
  ∃ sb tb, e = .returned (.tuple #[.pointer (some ⟨sb, 0, none⟩), .nilIface]) ∧ w.heap.size ≤ sb ∧ w.heap.size ≤ tb ∧ GM w' k fb rb mb qb (rs.set g 1) (zr bs g) (S ++ [⟨sb, tb, g, [], true⟩]) ∧ But (fun x => x = rb ∨ x = qb) w w'
theorem snew_ok (h : GM w k fb rb mb qb rs bs S) (g : Nat) (hg : g < k) (hn : NoFree rs g) (hz : rs.getD g 0 = 0) :
    Calls Tryz.prog 46 #[.pointer (some ⟨fb, 0, none⟩), .pointer (some ⟨mb, 0, none⟩)] w (MadeS k fb rb mb qb g rs bs S w) := by
  have X := tnew_ok g h.fr h.ph (by rw [h.len]; exact Nat.le_refl _) (by rw [h.len]; exact hg) hn hz
  have HG := Lib.hid h
  clear h hn hz
  go_enter Tryz.func46, Tryz.ntmps46
  go_wp2_with fail
  refine X.mono ?_
  rintro e w1 ⟨tb, rfl, ht, t1, f1, p1, b1⟩
  go_wp2
  go_ret2
  have n1 := (New.refl w1).alloc #[.pointer (some ⟨fb, 0, none⟩), .pointer (some ⟨mb, 0, none⟩), .pointer (some ⟨tb, 0, none⟩), .slice none 0 0] 103
  have B := Box.here w1 _ #[.pointer (some ⟨fb, 0, none⟩), .pointer (some ⟨mb, 0, none⟩), .pointer (some ⟨tb, 0, none⟩), .slice none 0 0] 103 rfl
  have bb := b1.trans (But.of_new _ n1)
  exact ⟨_, tb, rfl, b1.size, ht, HG.out.push bb (f1.new n1) (p1.new n1) (by rw [List.length_set]; exact HG.out.len) (.inl ⟨rfl, ⟨_, B, OwnR.nil⟩, t1.new n1⟩) b1.size ht, bb⟩
theorem Regions_gone {v : Value} (h : GoneS w v) : Calls Tryz.prog 17 #[v] w (MadeR 37 [] w) := by
  have X := sgone_yes h
  clear h
  go_enter Tryz.func17, Tryz.ntmps17
  go_wp2_with (go_at_call 41; (with_reducible refine (X).mono ?_); rintro e w' ⟨rfl, rfl⟩)
  go_ret
  exact ⟨_, rfl, OwnR.nil, New.refl _⟩
theorem Regions_any (h : GM w k fb rb mb qb rs bs S) (hi : i < S.length) (ho : S[i].on = true) (hl : S[i].L.length ≤ 1000000) : Calls Tryz.prog 17 #[.pointer (some ⟨S[i].sb, 0, none⟩)] w (MadeR 37 S[i].L w) := by
  obtain ⟨v, hb, hR⟩ := (h.has hi ho).box
  obtain ⟨sp, sc, rfl⟩ := hR.shape
  obtain ⟨c0, c1, c2, c3⟩ := Box.four hb
  have X := sgone_no hb
  have Y := clone_any _ _ hR.rgs hl
  generalize S[i].L = L at *
  clear h hb hR
  go_enter Tryz.func17, Tryz.ntmps17
  go_wp2_with fail
  refine X.mono ?_
  rintro e w1 ⟨rfl, rfl⟩
  go_wp2_with fail
  refine Y.mono ?_
  rintro e w1 ⟨v1, rfl, o1, n1⟩
  go_wp2
  go_ret
  exact ⟨_, rfl, o1, n1⟩
/-- a space that is gone -/
def Sq.gone (s : Sq) : Sq := ⟨s.sb, s.tb, s.t, [], false⟩
/-- a space freed: its own block, its table's, frames -/
theorem GM.freed (h : GM w k fb rb mb qb rs bs S) (hi : i < S.length) (b : But (fun g => (g = rb ∨ g = S[i].tb) ∨ g = S[i].sb) w w') (f : Fr w' fb rb qs) (p : Ph w' mb qb k bs) (l : qs.length = k) (h1 : Sp0 w' S[i].sb) (h2 : Tb0 w' S[i].tb) : GM w' k fb rb mb qb qs bs (S.set i S[i].gone) := by
  obtain ⟨c0, b0⟩ := (h.mem i hi).sb
  obtain ⟨c1, b1⟩ := (h.mem i hi).tb
  refine ⟨f, p, l, fun j hj => ?_, ?_, ?_⟩
  · rw [set_at hi _ j hj]
    have hj' : j < S.length := by simpa using hj
    by_cases c : j = i
    · rw [if_pos c]; exact .inr ⟨rfl, h1, h2⟩
    · rw [if_neg c]
      obtain ⟨d0, e0⟩ := (h.mem j hj').sb
      obtain ⟨d1, e1⟩ := (h.mem j hj').tb
      have ne := h.sbne hj' hi c
      refine (h.mem j hj').but b ?_ ?_ ?_
      · rintro ((x | x) | x)
        · exact Box.ne e0 h.fr.boxes.2 (by decide) x
        · exact Box.ne e0 b1 (by decide) x
        · exact ne.1 x
      · rintro ((x | x) | x)
        · exact Box.ne e1 h.fr.boxes.2 (by decide) x
        · exact ne.2 x
        · exact Box.ne e1 b0 (by decide) x
      · rintro g ((rfl | rfl) | rfl)
        · exact Box.not_row h.fr.boxes.2 (by decide)
        · exact Box.not_row b1 (by decide)
        · exact Box.not_row b0 (by decide)
  · have : (S.set i S[i].gone).map Sq.sb = S.map Sq.sb := by
      rw [List.map_set]; apply List.ext_getElem (by simp); intro j h1 h2; rw [List.getElem_set]; split <;> simp_all [Sq.gone]
    rw [this]; exact h.nsb
  · have : (S.set i S[i].gone).map Sq.tb = S.map Sq.tb := by
      rw [List.map_set]; apply List.ext_getElem (by simp); intro j h1 h2; rw [List.getElem_set]; split <;> simp_all [Sq.gone]
    rw [this]; exact h.ntb
theorem Free_gone {v : Value} (h : GoneS w v) : Calls Tryz.prog 11 #[v] w (Said (.tuple #[]) w) := by
  have X := sgone_yes h
  clear h
  go_enter Tryz.func11, Tryz.ntmps11
  go_wp2_with (go_at_call 41; (with_reducible refine (X).mono ?_); rintro e w' ⟨rfl, rfl⟩)
  refine bodyPost_ret (results_none rfl _ _ _) rfl ?_
  exact ⟨rfl, New.refl _⟩
theorem all_in (g : Nat → Int) : (pgs g 4096).filter (fun p => !outR 0 4096 p) = pgs g 4096 := List.filter_eq_self.2 fun x hx => by
  obtain ⟨p, h1, h2, _⟩ := pgs_mem.1 hx
  unfold outR
  simp; omega
set_option maxHeartbeats 1000000 in
theorem Free_any (h : GM w k fb rb mb qb rs bs S) (hi : i < S.length) (ho : S[i].on = true) (p0 : PurD k rs bs S d) :
    Calls Tryz.prog 11 #[.pointer (some ⟨S[i].sb, 0, none⟩)] w (fun e w' => e = .returned (.tuple #[]) ∧ ∃ qs cs, GM w' k fb rb mb qb (giv qs (own cs S[i].t)) cs (S.set i S[i].gone) ∧ But (fun g => ((g = rb ∨ g = qb) ∨ g = S[i].tb) ∨ g = S[i].sb) w w' ∧ DrpC S[i].t (pgs (pgn bs S[i].t) 4096) rs bs qs cs) := by
  obtain ⟨v, hb, hR⟩ := (h.has hi ho).box
  have SB := (h.rbqb.2 i hi).1
  have X := sgone_no hb
  have D := drop_any h hi ho p0 0 4096
  rw [all_in] at D
  have KE := fun qs cs (H : DrpC S[i].t (pgs (pgn bs S[i].t) 4096) rs bs qs cs) => H.keeps p0 hi ho rfl
  generalize pgs (pgn bs S[i].t) 4096 = PL at *
  have HB := Lib.hid hb
  clear h hb hR
  go_enter Tryz.func11, Tryz.ntmps11
  go_wp2_with fail
  refine X.mono ?_
  rintro e w1 ⟨rfl, rfl⟩
  go_wp2_with fail
  refine D.mono ?_
  rintro e w1 ⟨rfl, qs, cs, h1, b1, hd⟩
  obtain ⟨PD, KP⟩ := KE _ _ hd
  have gd := PD.good i hi ho
  have ht := (h1.has hi ho).tab
  have TS : S[i].tb ≠ S[i].sb := Box.ne ht (Box.but HB.out b1 SB) (by decide)
  have QS : qb ≠ S[i].sb := fun e => SB (.inr e.symm)
  have QT : qb ≠ S[i].tb := fun e => Box.ne h1.ph.boxes.2 ht (by decide) e
  have Y := tfree_any (many := k) ht h1.fr h1.ph (by rw [h1.len]; exact Nat.le_refl _) (by rw [h1.len]; exact gd)
  have hb1 := Box.but HB.out b1 SB
  obtain ⟨c0, c1, c2, c3⟩ := Box.four hb1
  have HG1 := Lib.hid h1
  have HD := Lib.hid hd
  have HB1 := Lib.hid b1
  have RS : S[i].sb ≠ rb := fun e => SB (.inl e)
  have FS : fb ≠ S[i].sb ∧ mb ≠ S[i].sb := ⟨Box.ne h1.fr.boxes.1 hb1 (by decide), Box.ne h1.ph.boxes.1 hb1 (by decide)⟩
  clear X D h1 hd PD KP gd KE
  unfold Freed at Y
  go_wp2_with fail
  refine Y.mono ?_
  rintro e w2 ⟨rfl, t2, f2, p2, b2⟩
  have hb2 := Box.but hb1 b2 (by rintro (e | e); exact RS e; exact TS e.symm)
  obtain ⟨d0, d1, d2, d3⟩ := Box.four hb2
  have u0 := Box.unfrozen hb2 0
  have u1 := Box.unfrozen hb2 1
  have u2 := Box.unfrozen hb2 2
  have u3 := Box.unfrozen hb2 3
  have HB2 := Lib.hid hb2
  have T2 := Lib.hid t2
  have F2 := Lib.hid f2
  have P2 := Lib.hid p2
  have BB2 := Lib.hid b2
  clear Y hb1 hb2 t2 f2 p2 b2 c0 c1 c2 c3 b1
  go_wp2
  refine bodyPost_end (results_none rfl _ _ _) rfl ?_
  have b3 : But (fun g => g = S[i].sb) w2 ((((w2.setCell ⟨S[i].sb, 0, none⟩ (.pointer none)).setCell ⟨S[i].sb, 1, none⟩ (.pointer none)).setCell ⟨S[i].sb, 2, none⟩ (.pointer none)).setCell ⟨S[i].sb, 3, none⟩ (.slice none 0 0)) :=
    (((But.set (S := fun g => g = S[i].sb) w2 (p := ⟨S[i].sb, 0, none⟩) rfl _).trans (But.set (S := fun g => g = S[i].sb) _ (p := ⟨S[i].sb, 1, none⟩) rfl _)).trans (But.set (S := fun g => g = S[i].sb) _ (p := ⟨S[i].sb, 2, none⟩) rfl _)).trans (But.set (S := fun g => g = S[i].sb) _ (p := ⟨S[i].sb, 3, none⟩) rfl _)
  have B3 : Sp0 ((((w2.setCell ⟨S[i].sb, 0, none⟩ (.pointer none)).setCell ⟨S[i].sb, 1, none⟩ (.pointer none)).setCell ⟨S[i].sb, 2, none⟩ (.pointer none)).setCell ⟨S[i].sb, 3, none⟩ (.slice none 0 0)) S[i].sb := (((HB2.out.set 0 (.pointer none)).set 1 (.pointer none)).set 2 (.pointer none)).set 3 (.slice none 0 0)
  have b23 := (BB2.out.mono (T := fun g => (g = rb ∨ g = S[i].tb) ∨ g = S[i].sb) (fun _ _ x => .inl x)).trans (b3.mono (fun _ _ x => .inr x))
  have f3 := Fr.but F2.out b3 FS.1 (fun e => RS e.symm)
  have p3 := P2.out.but b3 FS.2 QS
  refine ⟨rfl, qs, cs, HG1.out.freed hi b23 f3 p3 (by rw [giv_len]; exact HG1.out.len) B3 (Box.but T2.out b3 TS), ?_, HD.out⟩
  refine (HB1.out.mono (fun _ _ x => .inl (.inl x))).trans (b23.mono fun _ _ x => ?_)
  rcases x with (x | x) | x
  · exact .inl (.inl (.inl x))
  · exact .inl (.inr x)
  · exact .inr x
end
end Go.Proofs.YtgedimlhldfkaaaGreatDoor
namespace Go.Proofs.YtgedimlhldfkaaaGreatDoor
open Go.RowKit
set_option linter.unusedVariables false
set_option maxRecDepth 100000
/-- what sharing a page makes of the bytes: in the child's table, and in the parent's -/
def shB (bs : List Int) (t c p : Nat) (v : Int) (n : Nat) : List Int := pt (layB bs c p v n) (lof (layB bs c p v n) t (p / 64)) (p % 64) v
section
variable {w w' : World} {k fb rb mb qb many : Nat} {rs bs qs cs : List Int} {S T : List Sq} {a : Nat → Prop} {i j p f n : Nat} {d : Nat → Nat}
/-- a page shared: both tables tell its frame, which is had once more -/
theorem PurD.share (h : PurD k rs bs S d) (hk : k ≤ 1024) (hi : i < S.length) (ho : S[i].on = true) (hj : j < S.length) (hoj : S[j].on = true) (hne : j ≠ i) (hp : p < 4096) (hf : pf bs S[i].t p = some f) (hf' : pf bs S[j].t p = none) (P : Int) (q0 : 0 ≤ P) (q1 : P ≤ 7)
    (hn : nm bs S[j].t (p / 64) = 0 → n < k ∧ rs.getD n 0 = 0) :
    PurD k (layR (rs.set f (rs.getD f 0 + 1)) bs S[j].t p n) (shB bs S[i].t S[j].t p (ennum f P true) n) S d ∧ PurD k (layR (rs.set f (rs.getD f 0 + 1)) bs S[j].t p n) (layB bs S[j].t p (ennum f P true) n) S d ∧
    SetE k bs (layB bs S[j].t p (ennum f P true) n) S j p (ennum f P true) n ∧ Chg k (layB bs S[j].t p (ennum f P true) n) (shB bs S[i].t S[j].t p (ennum f P true) n) S i p (ennum f P true) := by
  have hl := h.page_lt hi ho hp hf
  have hno := h.page_not hi ho hp hf
  have hfr : f < rs.length := by rw [h.hr]; exact hl.1
  have h1 : PurD k (rs.set f (rs.getD f 0 + 1)) bs S (fun x => d x + b2 (x = f)) := by
    refine h.refs (by rw [List.length_set]; exact h.hr) (fun x hm => ?_) (fun x hx => ?_)
    · rw [getD_set _ _ _ _ hfr, if_neg (fun (e : x = f) => hno (e ▸ hm))]; exact (h.mn_lt hm).2.1
    · rw [getD_set _ _ _ _ hfr]
      by_cases c : x = f
      · subst c; rw [if_pos rfl, b2_yes rfl]; omega
      · rw [if_neg c, b2_no c]; omega
  obtain ⟨v0, v1, v2, v3, v4, _⟩ := ennum_pv f P true (by omega) q0 q1
  obtain ⟨r1, r2⟩ := h1.set (e := d) hk hj hoj hp v0 v1 v2 (fun x hx => by rw [v4] at hx; cases hx; exact hl.1) n
    (fun e => by
      obtain ⟨n1, n2⟩ := hn e
      refine ⟨n1, ?_⟩
      rw [getD_set _ _ _ _ hfr, if_neg (fun (x : n = f) => by rw [x] at n2; omega)]; exact n2) fun x hx => by
    rw [v4, hf', b2_iff (show some f = some x ↔ x = f from ⟨fun y => (Option.some.inj y).symm, fun y => by rw [y]⟩), b2_no (P := none = some x) (by intro y; cases y)]; rfl
  have hpf : pf (layB bs S[j].t p (ennum f P true) n) S[i].t p = some f := by unfold pf; rw [r2.pg i hi ho p hp, if_neg (fun x => hne x.1.symm)]; exact hf
  obtain ⟨s1, s2⟩ := r1.recode hk hi ho hp hpf P true q0 q1
  exact ⟨s1, r1, r2, s2⟩
set_option maxHeartbeats 2000000 in
theorem share_any (h : GM w k fb rb mb qb rs bs S) (hi : i < S.length) (ho : S[i].on = true) (hj : j < S.length) (hoj : S[j].on = true) (hne : j ≠ i) (p0 : PurD k rs bs S d) (hp : p < 4096) (hf : pf bs S[i].t p = some f) (hf' : pf bs S[j].t p = none) (h2 : rs.getD f 0 < 1073741824)
    (hn : nm bs S[j].t (p / 64) = 0 → n < k ∧ NoFree rs n ∧ rs.getD n 0 = 0) :
    Calls Tryz.prog 47 #[.pointer (some ⟨S[i].sb, 0, none⟩), .int .i64 p, .pointer (some ⟨S[j].sb, 0, none⟩)] w
      (GDid k fb rb mb qb (layR (rs.set f (rs.getD f 0 + 1)) bs S[j].t p n) (shB bs S[i].t S[j].t p (ennum f (pgn bs S[i].t p % 8) true) n) S .nilIface w) := by
  have hk := h.bd
  have hl := p0.page_lt hi ho hp hf
  have gd := p0.good i hi ho
  obtain ⟨d1, d2, d3, d4, d5, d6⟩ := page_dc gd hp hf
  have P0 : 0 ≤ pgn bs S[i].t p % 8 ∧ pgn bs S[i].t p % 8 ≤ 7 := by omega
  have X := sfind_any (p : Int) h hi ho gd
  rw [pgI_in _ _ _ hp] at X
  unfold fndE at X
  rw [d1, d2, d3] at X
  generalize dcc (pgn bs S[i].t p) = z at X
  generalize pgn bs S[i].t p % 8 = P at *
  obtain ⟨s1, s2, s3, s4⟩ := p0.share hk.2 hi ho hj hoj hne hp hf hf' P P0.1 P0.2 (n := n) (fun e => ⟨(hn e).1, (hn e).2.2⟩)
  have hfr : f < rs.length := by rw [h.len]; exact hl.1
  have R := fun W (H : GM W k fb rb mb qb rs bs S) => g_ref H f hl.1 (by omega) h2
  have gj := p0.good j hj hoj
  have V := fun W (H : GM W k fb rb mb qb (rs.set f (rs.getD f 0 + 1)) bs S) => g_set H hj hoj gj p hp (f : Int) P true (by omega) (by omega) P0.1 P0.2 n (fun e => by
      obtain ⟨n1, n2, n3⟩ := hn e
      refine ⟨n1, fun x hx => ?_, ?_⟩
      · rw [getD_set _ _ _ _ hfr]; split
        · omega
        · exact n2 x hx
      · rw [getD_set _ _ _ _ hfr, if_neg (fun (x : n = f) => by rw [x] at n3; omega)]; exact n3)
  have hpf : nm (layB bs S[j].t p (ennum f P true) n) S[i].t (p / 64) ≠ 0 := by
    refine nm_of_pf (f := f) ?_
    unfold pf; rw [s3.pg i hi ho p hp, if_neg (fun x => hne x.1.symm)]; exact hf
  have U := fun W (H : GM W k fb rb mb qb (layR (rs.set f (rs.getD f 0 + 1)) bs S[j].t p n) (layB bs S[j].t p (ennum f P true) n) S) => g_set H hi ho (s2.good i hi ho) p hp (f : Int) P true (by omega) (by omega) P0.1 P0.2 0 (fun e => absurd e hpf)
  have e3 : layB (layB bs S[j].t p (ennum f P true) n) S[i].t p (ennum f P true) 0 = shB bs S[i].t S[j].t p (ennum f P true) n := if_neg hpf
  have e4 : layR (layR (rs.set f (rs.getD f 0 + 1)) bs S[j].t p n) (layB bs S[j].t p (ennum f P true) n) S[i].t p 0 = layR (rs.set f (rs.getD f 0 + 1)) bs S[j].t p n := if_neg hpf
  simp only [e3, e4] at U
  clear e3 e4 s1 s2 s3 s4 hpf gj
  generalize shB bs S[i].t S[j].t p (ennum f P true) n = b3 at *
  generalize layB bs S[j].t p (ennum f P true) n = b2' at *
  generalize layR (rs.set f (rs.getD f 0 + 1)) bs S[j].t p n = r2 at *
  generalize rs.set f (rs.getD f 0 + 1) = r1 at *
  have SB := (h.rbqb.2 i hi).1
  have SJ := (h.rbqb.2 j hj).1
  obtain ⟨vi, hbi, _⟩ := (h.has hi ho).box
  obtain ⟨vj, hbj, _⟩ := (h.has hj hoj).box
  have HW := Lib.hid h
  have HBI := Lib.hid hbi
  have HBJ := Lib.hid hbj
  have LT := Lib.hid (show rb < w.heap.size ∧ qb < w.heap.size from ⟨h.fr.lt.2, h.ph.lt.2⟩)
  clear h gd p0 hf hf' hn d1 d2 d3 d4 d5 d6 hl h2 hbi hbj
  generalize S[i].sb = si at *
  generalize S[j].sb = sj at *
  generalize S[i].tb = ti at *
  generalize S[j].tb = tj at *
  go_enter Tryz.func47, Tryz.ntmps47
  go_wp2_with fail
  refine X.mono ?_
  rintro e w1 ⟨rfl, n1⟩
  have n2 := n1.alloc #[.int .i64 f, .int .u8 P, .bool z] 117
  have BE := Box.here w1 _ #[.int .i64 f, .int .u8 P, .bool z] 117 rfl
  have ES := Lib.hid (show ¬ (w1.heap.size = rb ∨ w1.heap.size = qb) by have := n1.size; have := LT.out; omega)
  have EL := Lib.hid n1.size
  clear X
  go_wp2_with fail
  generalize (w1.alloc (.cells #[.int .i64 f, .int .u8 P, .bool z] 117)) = W1 at *
  generalize w1.heap.size = eb at *
  have hm := Box.new HBI.out n2
  obtain ⟨c0, c1, c2, c3⟩ := Box.four hm
  obtain ⟨k0, k1, k2⟩ := BE.three
  have R1 := R _ (HW.out.new n2.drew)
  have KEEP : ∀ W', But (fun g => g = rb ∨ g = qb) W1.drew W' → W'.cell? ⟨si, 0, none⟩ = some (.pointer (some ⟨fb, 0, none⟩)) ∧ W'.cell? ⟨eb, 0, none⟩ = some (.int .i64 f) := fun W' b =>
    ⟨(Box.four (Box.but (Box.new hm (drew_new W1)) b SB)).1, (Box.three (Box.but (BE.new (drew_new W1)) b ES.out)).1⟩
  go_region_held3 (fun w' => w'.cell? ⟨si, 0, none⟩ = some (.pointer (some ⟨fb, 0, none⟩)) ∧ w'.cell? ⟨eb, 0, none⟩ = some (.int .i64 f))
    (first | go_keep | exact KEEP _ b2)
    (first | (go_at_call 91; (with_reducible refine R1.mono ?_); rintro e w2 ⟨rfl, h2, b2⟩))
  clear R R1 c0 c1 c2 c3 k0 k1 k2 KEEP
  have B2 := (But.of_new (fun g => g = rb ∨ g = qb) n2.drew).trans b2
  have BE2 := Box.but (BE.new (drew_new W1)) b2 ES.out
  obtain ⟨hs, k0, k1, k2, f0, f1, f2⟩ := BE2.three'
  have HBE2 := Lib.hid BE2
  have HH2 := Lib.hid h2
  have HB2 := Lib.hid B2
  clear hm BE b2 n2 n1 BE2 h2 B2
  go_wp2_with fail
  have N3 : But (fun x => x = eb) w2 (w2.setCell ⟨eb, 2, none⟩ (.bool true)) := But.set (S := fun x => x = eb) w2 (p := ⟨eb, 2, none⟩) rfl _
  have H3 := HH2.out.aside HBE2.out (by decide) (by decide) (by decide) (by decide) (by decide) (by decide) (by decide) N3
  have BE3 : Box (w2.setCell ⟨eb, 2, none⟩ (.bool true)) eb #[.int .i64 f, .int .u8 P, .bool true] 117 := HBE2.out.set 2 (.bool true)
  have B3 : But (fun g => g = rb ∨ g = qb) w (w2.setCell ⟨eb, 2, none⟩ (.bool true)) := HB2.out.setNew (p := ⟨eb, 2, none⟩) EL.out _
  clear k0 k1 k2 f0 f1 f2 hs N3
  generalize (w2.setCell ⟨eb, 2, none⟩ (.bool true)) = W3 at *
  have hm := Box.but HBJ.out B3 SJ
  obtain ⟨c0, c1, c2, c3⟩ := Box.four hm
  obtain ⟨k0, k1, k2⟩ := BE3.three
  have V1 := V _ (H3.new (drew_new W3))
  have KEEP : ∀ W', But (fun g => g = rb ∨ g = qb) W3.drew W' → W'.cell? ⟨sj, 2, none⟩ = some (.pointer (some ⟨tj, 0, none⟩)) ∧ W'.cell? ⟨eb, 0, none⟩ = some (.int .i64 f) ∧ W'.cell? ⟨eb, 1, none⟩ = some (.int .u8 P) ∧ W'.cell? ⟨eb, 2, none⟩ = some (.bool true) := fun W' b =>
    ⟨(Box.four (Box.but (Box.new hm (drew_new W3)) b SJ)).2.2.1, Box.three (Box.but (BE3.new (drew_new W3)) b ES.out)⟩
  go_region_held3 (fun w' => w'.cell? ⟨sj, 2, none⟩ = some (.pointer (some ⟨tj, 0, none⟩)) ∧ w'.cell? ⟨eb, 0, none⟩ = some (.int .i64 f) ∧ w'.cell? ⟨eb, 1, none⟩ = some (.int .u8 P) ∧ w'.cell? ⟨eb, 2, none⟩ = some (.bool true))
    (first | go_keep | exact KEEP _ b4)
    (first | (go_at_call 56; (with_reducible refine V1.mono ?_); rintro e w4 ⟨rfl, h4, b4⟩))
  have B4 := (B3.trans (But.of_new _ (drew_new W3))).trans b4
  have BE4 := Box.but (BE3.new (drew_new W3)) b4 ES.out
  clear V V1 c0 c1 c2 c3 k0 k1 k2 KEEP hm BE3 B3 b4 H3
  go_wp2_with fail
  have hm := Box.but HBI.out B4 SB
  obtain ⟨c0, c1, c2, c3⟩ := Box.four hm
  obtain ⟨k0, k1, k2⟩ := BE4.three
  have U1 := U _ (h4.new (drew_new w4))
  have KEEP : ∀ W', But (fun g => g = rb ∨ g = qb) w4.drew W' → W'.cell? ⟨si, 2, none⟩ = some (.pointer (some ⟨ti, 0, none⟩)) ∧ W'.cell? ⟨eb, 0, none⟩ = some (.int .i64 f) ∧ W'.cell? ⟨eb, 1, none⟩ = some (.int .u8 P) ∧ W'.cell? ⟨eb, 2, none⟩ = some (.bool true) := fun W' b =>
    ⟨(Box.four (Box.but (Box.new hm (drew_new w4)) b SB)).2.2.1, Box.three (Box.but (BE4.new (drew_new w4)) b ES.out)⟩
  go_region_held3 (fun w' => w'.cell? ⟨si, 2, none⟩ = some (.pointer (some ⟨ti, 0, none⟩)) ∧ w'.cell? ⟨eb, 0, none⟩ = some (.int .i64 f) ∧ w'.cell? ⟨eb, 1, none⟩ = some (.int .u8 P) ∧ w'.cell? ⟨eb, 2, none⟩ = some (.bool true))
    (first | go_keep | exact KEEP _ b5)
    (first | (go_at_call 56; (with_reducible refine U1.mono ?_); rintro e w5 ⟨rfl, h5, b5⟩))
  go_wp2
  go_ret
  exact ⟨rfl, h5, (B4.trans (But.of_new _ (drew_new w4))).trans b5⟩
end
end Go.Proofs.YtgedimlhldfkaaaGreatDoor
namespace Go.Proofs.YtgedimlhldfkaaaGreatDoor
open Go.RowKit
set_option linter.unusedVariables false
set_option maxRecDepth 100000
/-- how many frames a table takes for pages that ascend: the upper part of the last one -/
theorem tbs_last : ∀ (m l : List Int), l = m.reverse → l.Pairwise (· < ·) → (∀ x ∈ l, 0 ≤ x ∧ x < 4096) → (∀ x ∈ l, x / 64 ≤ (tbs l).2) ∧ ((l = [] ∧ (tbs l).2 = -1) ∨ ∃ x ∈ l, x / 64 = (tbs l).2)
  | [], l, e, _, _ => by subst e; exact ⟨fun x h => absurd h (by simp), .inl ⟨rfl, rfl⟩⟩
  | p :: m, l, e, ha, hb => by
    rw [List.reverse_cons] at e
    subst e
    rw [List.pairwise_append] at ha
    have ih := tbs_last m m.reverse rfl ha.1 fun x hx => hb x (List.mem_append_left _ hx)
    have hp := hb p (by simp)
    have hlt : ∀ x ∈ m.reverse, x < p := fun x hx => ha.2.2 x hx p (by simp)
    rw [tbs_push]
    unfold tbs1
    split
    · rename_i c
      refine ⟨fun x hx => ?_, .inr ⟨p, by simp, c⟩⟩
      rcases List.mem_append.1 hx with hx | hx
      · exact ih.1 x hx
      · rw [List.mem_singleton] at hx; subst hx; omega
    · refine ⟨fun x hx => ?_, .inr ⟨p, by simp, rfl⟩⟩
      rcases List.mem_append.1 hx with hx | hx
      · have := hlt x hx; dsimp only; omega
      · rw [List.mem_singleton] at hx; subst hx; dsimp only; omega
theorem tbs_has {l : List Int} {p : Int} (ha : (l ++ [p]).Pairwise (· < ·)) (hb : ∀ x ∈ l ++ [p], 0 ≤ x ∧ x < 4096) : (∃ x ∈ l, x / 64 = p / 64) ↔ p / 64 = (tbs l).2 := by
  rw [List.pairwise_append] at ha
  obtain ⟨h1, h2⟩ := tbs_last l.reverse l (by simp) ha.1 fun x hx => hb x (List.mem_append_left _ hx)
  have hp := hb p (by simp)
  constructor
  · rintro ⟨x, hx, e⟩
    have := h1 x hx
    rcases h2 with ⟨rfl, _⟩ | ⟨y, hy, e2⟩
    · cases hx
    · have := ha.2.2 y hy p (by simp); omega
  · intro e
    rcases h2 with ⟨rfl, e2⟩ | ⟨y, hy, e2⟩
    · omega
    · exact ⟨y, hy, by omega⟩
/-- how many of some pages lie in a frame -/
def cf (bs : List Int) (t : Nat) (l : List Int) (f : Nat) : Nat := l.countP fun x => decide (pf bs t x.toNat = some f)
theorem cf_push (bs : List Int) (t : Nat) (l : List Int) (p f : Nat) : cf bs t (l ++ [(p : Int)]) f = cf bs t l f + b2 (pf bs t p = some f) := by
  unfold cf
  rw [List.countP_append]
  by_cases c : pf bs t p = some f
  · rw [b2_yes c]; simp [c]
  · rw [b2_no c]; simp [c]
/-- some pages of one table shared with another one -/
inductive ShrC (k t c : Nat) : List Int → List Int → List Int → List Int → List Int → Prop
  | nil (rs bs : List Int) : ShrC k t c [] rs bs rs bs
  | snoc {l rs bs qs cs : List Int} (p f n : Nat) : ShrC k t c l rs bs qs cs → p < 4096 → pf cs t p = some f → pf cs c p = none → (nm cs c (p / 64) = 0 → n < k ∧ qs.getD n 0 = 0) →
      ShrC k t c (l ++ [(p : Int)]) rs bs (layR (qs.set f (qs.getD f 0 + 1)) cs c p n) (shB cs t c p (ennum f (pgn cs t p % 8) true) n)
/-- what sharing some pages comes to -/
structure ShrP (k : Nat) (rs bs : List Int) (S : List Sq) (i j : Nat) (hi : i < S.length) (hj : j < S.length) (l qs cs : List Int) (d : Nat → Nat) : Prop where
  pur : PurD k qs cs S d
  pgo : ∀ m (hm : m < S.length), S[m].on = true → m ≠ i → m ≠ j → ∀ q, q < 4096 → pgn cs S[m].t q = pgn bs S[m].t q
  upo : ∀ m (hm : m < S.length), S[m].on = true → m ≠ j → ∀ u, u < 64 → nm cs S[m].t u = nm bs S[m].t u
  pgi : ∀ q : Nat, q < 4096 → if (q : Int) ∈ l then pgn cs S[i].t q = ennum (fo (pgn bs S[i].t q)) (pgn bs S[i].t q % 8) true ∧ pgn bs S[i].t q ≠ 0 ∧ pgn cs S[j].t q = pgn cs S[i].t q else pgn cs S[i].t q = pgn bs S[i].t q ∧ pgn cs S[j].t q = 0
  upc : ∀ u : Nat, u < 64 → (nm cs S[j].t u ≠ 0 ↔ ∃ x ∈ l, x / 64 = (u : Int))
  nuc : ((1 + nup cs S[j].t 64 : Nat) : Int) = (tbs l).1
  tkc : ((tk qs k).length : Int) = (tk rs k).length + (tbs l).1 - 1
  dat : ∀ f, f < k → ¬ Mn cs S f → fby cs f = fby bs f
  mon : ∀ f, Mn bs S f → Mn cs S f
  rfs : ∀ f, f < k → ¬ Mn cs S f → qs.getD f 0 = rs.getD f 0 + (cf bs S[i].t l f : Int)
section
variable {k : Nat} {rs bs qs cs l : List Int} {S : List Sq} {d : Nat → Nat} {i j : Nat} {hi : i < S.length} {hj : j < S.length}
theorem ShrP.pfi (h : ShrP k rs bs S i j hi hj l qs cs d) (p0 : PurD k rs bs S d) (hk : k ≤ 1024) (ho : S[i].on = true) {q : Nat} (hq : q < 4096) : pf cs S[i].t q = pf bs S[i].t q ∧ pgn cs S[i].t q % 8 = pgn bs S[i].t q % 8 := by
  have e := h.pgi q hq
  split at e
  · obtain ⟨e1, e2, e3⟩ := e
    have hf : pf bs S[i].t q = some (fo (pgn bs S[i].t q)) := pv_pos e2
    have hl := p0.page_lt hi ho hq hf
    obtain ⟨_, _, _, _, v4, v5, _⟩ := ennum_pv (fo (pgn bs S[i].t q)) (pgn bs S[i].t q % 8) true (by omega) (by omega) (by omega)
    exact ⟨by rw [hf]; unfold pf; rw [e1]; exact v4, by rw [e1]; exact v5⟩
  · unfold pf; rw [e.1]; exact ⟨rfl, rfl⟩
theorem ShrP.start (p0 : PurD k rs bs S d) (hoj : S[j].on = true) (hz : ∀ u, u < 64 → nm bs S[j].t u = 0) : ShrP k rs bs S i j hi hj [] rs bs d := by
  refine ⟨p0, fun _ _ _ _ _ _ _ => rfl, fun _ _ _ _ _ _ => rfl, fun q hq => ?_, fun u hu => ?_, ?_, ?_, fun _ _ _ => rfl, fun _ h => h, fun f _ _ => ?_⟩
  · rw [if_neg (by simp)]; exact ⟨rfl, pgn_none hz q hq⟩
  · rw [hz u hu]; simp
  · rw [nup_zero hz]; rfl
  · simp [tbs]
  · simp [cf]
set_option maxHeartbeats 1000000 in
theorem ShrP.push {p f n : Nat} (h : ShrP k rs bs S i j hi hj l qs cs d) (p0 : PurD k rs bs S d) (hk : k ≤ 1024) (ho : S[i].on = true) (hoj : S[j].on = true) (hne : j ≠ i) (hp : p < 4096) (hf : pf cs S[i].t p = some f) (hf' : pf cs S[j].t p = none)
    (hn : nm cs S[j].t (p / 64) = 0 → n < k ∧ qs.getD n 0 = 0) (ha : (l ++ [(p : Int)]).Pairwise (· < ·)) (hb : ∀ x ∈ l ++ [(p : Int)], 0 ≤ x ∧ x < 4096) :
    ShrP k rs bs S i j hi hj (l ++ [(p : Int)]) (layR (qs.set f (qs.getD f 0 + 1)) cs S[j].t p n) (shB cs S[i].t S[j].t p (ennum f (pgn cs S[i].t p % 8) true) n) d := by
  have hl := h.pur.page_lt hi ho hp hf
  have hno := h.pur.page_not hi ho hp hf
  have hnl : (p : Int) ∉ l := fun hm => by
    rw [List.pairwise_append] at ha
    have := ha.2.2 _ hm _ (List.mem_singleton_self _)
    omega
  have ep := h.pgi p hp
  rw [if_neg hnl] at ep
  obtain ⟨s1, s2, s3, s4⟩ := h.pur.share hk hi ho hj hoj hne hp hf hf' (pgn cs S[i].t p % 8) (by omega) (by omega) hn
  have hfo : fo (pgn bs S[i].t p) = f := by rw [← ep.1]; exact (pf_some.1 hf).2
  have hnz : pgn bs S[i].t p ≠ 0 := by rw [← ep.1]; exact (pf_some.1 hf).1
  have hfb : pf bs S[i].t p = some f := pf_some.2 ⟨hnz, hfo⟩
  have hqr : f < qs.length := by rw [h.pur.hr]; exact hl.1
  rw [ep.1] at s1 s2 s3 s4 ⊢
  obtain ⟨_, _, _, v3, v4, v5, _⟩ := ennum_pv f (pgn bs S[i].t p % 8) true (by omega) (by omega) (by omega)
  have hu : ∀ m (hm : m < S.length), S[m].on = true → ∀ u, u < 64 → nm (shB cs S[i].t S[j].t p (ennum f (pgn bs S[i].t p % 8) true) n) S[m].t u = if m = j ∧ u = p / 64 ∧ nm cs S[m].t u = 0 then upn n else nm cs S[m].t u := fun m hm ho u hu => by
    rw [s4.up m hm ho u hu, s3.up m hm ho u hu]
  have hg : ∀ m (hm : m < S.length), S[m].on = true → ∀ q, q < 4096 → pgn (shB cs S[i].t S[j].t p (ennum f (pgn bs S[i].t p % 8) true) n) S[m].t q = if (m = i ∨ m = j) ∧ q = p then ennum f (pgn bs S[i].t p % 8) true else pgn cs S[m].t q := fun m hm ho q hq => by
    rw [s4.pg m hm ho q hq, s3.pg m hm ho q hq]
    by_cases c1 : m = i ∧ q = p
    · rw [if_pos c1, if_pos ⟨.inl c1.1, c1.2⟩]
    · rw [if_neg c1]
      by_cases c2 : m = j ∧ q = p
      · rw [if_pos c2, if_pos ⟨.inr c2.1, c2.2⟩]
      · rw [if_neg c2, if_neg]; rintro ⟨x | x, y⟩; exact c1 ⟨x, y⟩; exact c2 ⟨x, y⟩
  have hmn : ∀ x, Mn cs S x → Mn (shB cs S[i].t S[j].t p (ennum f (pgn bs S[i].t p % 8) true) n) S x := fun x hx => (s4.mn x).2 (s3.mn x hx)
  have hd : ∀ x, x < k → ¬ Mn (shB cs S[i].t S[j].t p (ennum f (pgn bs S[i].t p % 8) true) n) S x → fby (shB cs S[i].t S[j].t p (ennum f (pgn bs S[i].t p % 8) true) n) x = fby cs x := fun x hx hm => by
    have h1 : ¬ Mn (layB cs S[j].t p (ennum f (pgn bs S[i].t p % 8) true) n) S x := fun y => hm ((s4.mn x).2 y)
    rw [s4.bt x hx h1, s3.bt x hx h1]
  have hlr : ∀ x, (layR (qs.set f (qs.getD f 0 + 1)) cs S[j].t p n).getD x 0 = if nm cs S[j].t (p / 64) = 0 ∧ x = n then 1 else if x = f then qs.getD f 0 + 1 else qs.getD x 0 := fun x => by
    rw [layR_get (fun e => by rw [List.length_set, h.pur.hr]; exact (hn e).1), getD_set _ _ _ _ hqr]
  have hnn : nm cs S[j].t (p / 64) = 0 → Mn (shB cs S[i].t S[j].t p (ennum f (pgn bs S[i].t p % 8) true) n) S n := fun e => by
    have e2 := hu j hj hoj (p / 64) (by omega)
    rw [if_pos ⟨rfl, rfl, e⟩] at e2
    exact ⟨j, hj, hoj, .inr ⟨p / 64, by omega, by rw [e2]; have := upn_pos n; omega, by unfold lof; rw [e2, fo_upn]⟩⟩
  have hup := h.upc (p / 64) (by omega)
  have hth := tbs_has ha hb
  rw [show ((p / 64 : Nat) : Int) = (p : Int) / 64 from by omega] at hup
  have htb : tbs (l ++ [(p : Int)]) = tbs1 (tbs l) p := tbs_push _ _
  generalize shB cs S[i].t S[j].t p (ennum f (pgn bs S[i].t p % 8) true) n = c2 at *
  refine ⟨s1, fun m hm hom h1 h2 q hq => ?_, fun m hm hom h1 u hu' => ?_, fun q hq => ?_, fun u hu' => ?_, ?_, ?_, fun x hx hm => ?_, fun x hx => hmn x (h.mon x hx), fun x hx hm => ?_⟩
  · rw [hg m hm hom q hq, if_neg (by rintro ⟨x | x, _⟩; exact h1 x; exact h2 x)]; exact h.pgo m hm hom h1 h2 q hq
  · rw [hu m hm hom u hu', if_neg (fun x => h1 x.1)]; exact h.upo m hm hom h1 u hu'
  · rw [hg i hi ho q hq, hg j hj hoj q hq]
    by_cases c : q = p
    · subst c
      rw [if_pos (by simp), if_pos ⟨.inl rfl, rfl⟩, if_pos ⟨.inr rfl, rfl⟩, hfo]
      exact ⟨rfl, hnz, rfl⟩
    · rw [if_neg (show ¬((i = i ∨ i = j) ∧ q = p) from fun x => c x.2), if_neg (show ¬((j = i ∨ j = j) ∧ q = p) from fun x => c x.2)]
      have e := h.pgi q hq
      have hq' : ((q : Int) ∈ l ++ [(p : Int)]) ↔ (q : Int) ∈ l := by
        rw [List.mem_append, List.mem_singleton]
        exact ⟨fun x => x.resolve_right (by omega), .inl⟩
      simp only [hq']
      exact e
  · rw [hu j hj hoj u hu']
    by_cases c : u = p / 64
    · subst c
      have : ∃ x ∈ l ++ [(p : Int)], x / 64 = ((p / 64 : Nat) : Int) := ⟨(p : Int), by simp, by omega⟩
      split
      · exact ⟨fun _ => this, fun _ => by have := upn_pos n; omega⟩
      · rename_i c2
        exact ⟨fun _ => this, fun _ => fun e => c2 ⟨rfl, rfl, e⟩⟩
    · rw [if_neg (fun x => c x.2.1), h.upc u hu']
      constructor
      · rintro ⟨x, hx, e⟩; exact ⟨x, List.mem_append_left _ hx, e⟩
      · rintro ⟨x, hx, e⟩
        rcases List.mem_append.1 hx with hx | hx
        · exact ⟨x, hx, e⟩
        · rw [List.mem_singleton] at hx; subst hx; exact absurd (by omega) c
  · rw [htb]
    have hN := h.nuc
    by_cases c : nm cs S[j].t (p / 64) = 0
    · have c1 : ¬ (p : Int) / 64 = (tbs l).2 := fun e => (hup.2 (hth.2 e)) c
      unfold tbs1
      rw [if_neg c1]
      have G := nup_grow (bs := cs) (cs := c2) (t := S[j].t) (u := p / 64) (i := n) 64 (fun s hs => by
        rw [hu j hj hoj s hs]
        by_cases x : s = p / 64
        · subst x; rw [if_pos ⟨rfl, rfl, c⟩, if_pos rfl]
        · rw [if_neg (fun y => x y.2.1), if_neg x]) c
      rw [if_pos (by omega)] at G
      rw [G]; dsimp only; omega
    · have c1 : (p : Int) / 64 = (tbs l).2 := hth.1 (hup.1 c)
      unfold tbs1
      rw [if_pos c1]
      have : nup c2 S[j].t 64 = nup cs S[j].t 64 := by
        unfold nup
        exact congrArg List.length (ups_congr (bs := cs) (cs := c2) (t := S[j].t) 64 fun s hs => by rw [hu j hj hoj s hs]; exact if_neg (by rintro ⟨_, rfl, x⟩; exact c x))
      rw [this]; exact hN
  · rw [htb]
    have hT := h.tkc
    have t1 := tk_len_set qs f (qs.getD f 0 + 1) k hqr
    rw [if_pos hl.1, if_pos (by omega), if_pos (by omega)] at t1
    unfold layR
    by_cases c : nm cs S[j].t (p / 64) = 0
    · have c1 : ¬ (p : Int) / 64 = (tbs l).2 := fun e => (hup.2 (hth.2 e)) c
      obtain ⟨n1, n2⟩ := hn c
      have hnf : n ≠ f := fun e => by rw [e] at n2; omega
      have t2 := tk_len_set (qs.set f (qs.getD f 0 + 1)) n 1 k (by rw [List.length_set, h.pur.hr]; exact n1)
      rw [if_pos n1, getD_set _ _ _ _ hqr, if_neg hnf, n2] at t2
      unfold tbs1
      rw [if_neg c1, if_pos c]
      rw [if_pos (by decide : (0 : Int) < 1), if_neg (by decide : ¬ (0 : Int) < 0)] at t2
      clear hnn hup hth hu hg hd hlr s1 s2 s3 s4 ep hn c hf hf'
      dsimp only; omega
    · have c1 : (p : Int) / 64 = (tbs l).2 := hth.1 (hup.1 c)
      unfold tbs1
      rw [if_pos c1, if_neg c]; omega
  · rw [hd x hx hm]; exact h.dat x hx fun y => hm (hmn x y)
  · have e := h.rfs x hx fun y => hm (hmn x y)
    rw [hlr, if_neg (fun (y : nm cs S[j].t (p / 64) = 0 ∧ x = n) => hm (y.2 ▸ hnn y.1)), cf_push]
    by_cases c : x = f
    · subst c; rw [if_pos rfl, b2_yes hfb]; omega
    · rw [if_neg c, b2_no (fun y => c (by rw [hfb] at y; exact (Option.some.inj y).symm))]; omega
end
end Go.Proofs.YtgedimlhldfkaaaGreatDoor
namespace Go.Proofs.YtgedimlhldfkaaaGreatDoor
open Go.RowKit
set_option linter.unusedVariables false
set_option maxRecDepth 100000
theorem tbs1_le (s : Int × Int) (p : Int) : s.1 ≤ (tbs1 s p).1 := by unfold tbs1; split <;> simp; omega
theorem tbs_take (l : List Int) (j : Nat) : (tbs (l.take j)).1 ≤ (tbs l).1 := by
  have key : ∀ (m : List Int) (s : Int × Int), s.1 ≤ (m.foldl tbs1 s).1 := by
    intro m
    induction m with
    | nil => intro s; exact Int.le_refl _
    | cons x m ih => intro s; exact Int.le_trans (tbs1_le s x) (ih _)
  have e : l = l.take j ++ l.drop j := (List.take_append_drop j l).symm
  conv => rhs; rw [e]
  unfold tbs
  rw [List.foldl_append]
  exact key _ _
section
variable {w w' : World} {k fb rb mb qb many : Nat} {rs bs qs cs : List Int} {S T : List Sq} {a : Nat → Prop} {i j p f n : Nat} {d : Nat → Nat}
theorem Own.butT {X : Nat → Prop} {base : Nat} {v : Value} {l : List Int} (h : Own base w v l) (b : But X w w') (hX : ∀ g, X g → ∀ cur, w.heap[g]? ≠ some (.cells cur 3 (0, 0))) : Own base w' v l := by
  refine ⟨h.1, ?_⟩
  rcases h.2 with hn | ⟨g, cap, cur, rfl, hb, hg, rest⟩
  · exact .inl hn
  · exact .inr ⟨g, cap, cur, rfl, hb, by rw [b.block (Array.getElem?_eq_some_iff.1 hg).1 (fun c => hX g c cur hg)]; exact hg, rest⟩
theorem Fork_gone {v : Value} (h : GoneS w v) : Calls Tryz.prog 10 #[v] w fun e w' => e = .returned (.tuple #[.pointer none, .iface 98 (.int .i64 22)]) ∧ w = w' := by
  have X := sgone_yes h
  clear h
  go_enter Tryz.func10, Tryz.ntmps10
  go_wp2_with (go_at_call 41; (with_reducible refine (X).mono ?_); rintro e w' ⟨rfl, rfl⟩)
  go_ret2
  exact ⟨rfl, rfl⟩
theorem g_free (h : GM w k fb rb mb qb rs bs S) : Calls Tryz.prog 25 #[.pointer (some ⟨fb, 0, none⟩)] w (IntN (k - (tk rs k).length) w) := by
  have := free_any w h.fr
  rwa [h.len] at this
set_option maxHeartbeats 1000000 in
theorem Fork_no (h : GM w k fb rb mb qb rs bs S) (hi : i < S.length) (ho : S[i].on = true) (gd : Good k a bs S[i].t) (hc : (k : Int) - (tk rs k).length < (tbs (pgs (pgn bs S[i].t) 4096)).1) :
    Calls Tryz.prog 10 #[.pointer (some ⟨S[i].sb, 0, none⟩)] w (Said (.tuple #[.pointer none, .iface 98 (.int .i64 12)]) w) := by
  obtain ⟨v, hb, _⟩ := (h.has hi ho).box
  obtain ⟨c0, c1, c2, c3⟩ := Box.four hb
  have X := sgone_no hb
  have Y := tpages_any (h.has hi ho).tab h.ph gd (Nat.le_refl _)
  have Z := fun W (n : New w W) => g_free (h.new n)
  have PL := Pgl.all (pgn bs S[i].t)
  have hL := pgs_len (pgn bs S[i].t) 4096
  generalize pgs (pgn bs S[i].t) 4096 = L at *
  have T := fun W v (o : Ints W v L) => tables_any W v L o (fun x hx => by obtain ⟨p, h1, h2, _⟩ := PL.mem x hx; omega) hL
  generalize (tk rs k).length = K at *
  generalize (tbs L).1 = B at *
  have HB := Lib.hid hb
  have d1 : decide ((k : Int) - K < B) = true := by simpa using hc
  clear h hb gd PL
  go_enter Tryz.func10, Tryz.ntmps10
  go_wp2_with fail
  refine X.mono ?_
  rintro e w1 ⟨rfl, rfl⟩
  go_wp2_with fail
  refine Y.mono ?_
  rintro e w1 ⟨v1, rfl, o1, n1⟩
  obtain ⟨f0, f1, f2, f3⟩ := Box.four (Box.new HB.out n1)
  have Z1 := Z _ n1
  clear X Y
  go_wp2_with fail
  refine Z1.mono ?_
  rintro e w2 ⟨rfl, n2⟩
  have T1 := T _ _ (o1.new n2).ints
  go_wp2_with fail
  refine T1.mono ?_
  rintro e w3 ⟨rfl, rfl⟩
  go_wp2
  go_ret2
  exact ⟨rfl, n1.trans n2⟩
/-- a space forked: the new one has the frame g for its table -/
def Forked (k fb rb mb qb : Nat) (rs bs : List Int) (S : List Sq) (i : Nat) (Li : List Rg) (L : List Int) (d : Nat → Nat) (w : World) (e : Ending) (w' : World) : Prop :=
  ∃ sb tb g qs cs, ∃ (hi : i < (S ++ [(⟨sb, tb, g, Li, true⟩ : Sq)]).length) (hj : S.length < (S ++ [(⟨sb, tb, g, Li, true⟩ : Sq)]).length), e = .returned (.tuple #[.pointer (some ⟨sb, 0, none⟩), .nilIface]) ∧ w.heap.size ≤ sb ∧ w.heap.size ≤ tb ∧ g < k ∧ rs.getD g 0 = 0 ∧
    GM w' k fb rb mb qb qs cs (S ++ [(⟨sb, tb, g, Li, true⟩ : Sq)]) ∧ But (fun x => x = rb ∨ x = qb) w w' ∧ ShrP k (rs.set g 1) (zr bs g) (S ++ [(⟨sb, tb, g, Li, true⟩ : Sq)]) i S.length hi hj L qs cs d
set_option maxHeartbeats 4000000 in
theorem Fork_ok (h : GM w k fb rb mb qb rs bs S) (hi : i < S.length) (ho : S[i].on = true) (p0 : PurD k rs bs S d) (hB : ∀ f, f < k → rs.getD f 0 ≤ 500000000) (hc : (tbs (pgs (pgn bs S[i].t) 4096)).1 ≤ (k : Int) - (tk rs k).length) :
    Calls Tryz.prog 10 #[.pointer (some ⟨S[i].sb, 0, none⟩)] w (Forked k fb rb mb qb rs bs S i S[i].L (pgs (pgn bs S[i].t) 4096) d w) := by
  obtain ⟨v, hb, hR⟩ := (h.has hi ho).box
  obtain ⟨sp, sc, rfl⟩ := hR.shape
  have SB := (h.rbqb.2 i hi).1
  have hk := h.bd
  obtain ⟨c0, c1, c2, c3⟩ := Box.four hb
  have X := sgone_no hb
  have Y := tpages_any (h.has hi ho).tab h.ph (p0.good i hi ho) (Nat.le_refl _)
  have Z := fun W (n : New w W) => g_free (h.new n)
  have PL := Pgl.all (pgn bs S[i].t)
  have hL := pgs_len (pgn bs S[i].t) 4096
  generalize pgs (pgn bs S[i].t) 4096 = L at *
  have T := fun W v (o : Ints W v L) => tables_any W v L o (fun x hx => by obtain ⟨p, h1, h2, _⟩ := PL.mem x hx; omega) hL
  have B1 := tbs_bd L fun x hx => by obtain ⟨p, h1, h2, _⟩ := PL.mem x hx; omega
  have hK := tk_len rs k
  obtain ⟨g, hg, hgn, hgz⟩ : ∃ g, g < k ∧ NoFree rs g ∧ rs.getD g 0 = 0 := by
    rcases h.free_or with ⟨e, _⟩ | ⟨_, x⟩
    · omega
    · exact x
  have N := fun W (n : New w W) => snew_ok (h.new n) g hg hgn hgz
  have hgl : g < rs.length := by rw [h.len]; exact hg
  have t1 := tk_len_set rs g 1 k hgl
  rw [if_pos hg, hgz, if_pos (by decide : (0 : Int) < 1), if_neg (by decide : ¬ (0 : Int) < 0)] at t1
  have HB := Lib.hid hb
  have HH := Lib.hid h
  have HP := Lib.hid p0
  have HPL := Lib.hid PL
  have HRR := Lib.hid hR
  have HBB := Lib.hid hB
  have HT1 := Lib.hid t1
  have HC := Lib.hid hc
  have d1 : decide ((k : Int) - (tk rs k).length < (tbs L).1) = false := by simpa using hc
  generalize (tk rs k).length = K at *
  have LT := Lib.hid (show rb < w.heap.size ∧ qb < w.heap.size from ⟨h.fr.lt.2, h.ph.lt.2⟩)
  generalize hSI : S[i].sb = si at *
  have HSI := Lib.hid hSI
  clear h hb p0 PL hgn hR hSI hB t1 hc
  go_enter Tryz.func10, Tryz.ntmps10
  go_wp2_with fail
  refine X.mono ?_
  rintro e w1 ⟨rfl, rfl⟩
  go_wp2_with fail
  refine Y.mono ?_
  rintro e w1 ⟨v1, rfl, o1, n1⟩
  obtain ⟨pv, kv, cv, rfl⟩ := Own.form o1
  obtain rfl : kv = L.length := by obtain ⟨p', c', e⟩ := o1.ints.len; injection e
  obtain ⟨f0, f1, f2, f3⟩ := Box.four (Box.new HB.out n1)
  have Z1 := Z _ n1
  clear X Y
  go_wp2_with fail
  refine Z1.mono ?_
  rintro e w2 ⟨rfl, n2⟩
  have T1 := T _ _ (o1.new n2).ints
  go_wp2_with fail
  refine T1.mono ?_
  rintro e w3 ⟨rfl, rfl⟩
  have n12 := n1.trans n2
  have hm := Box.new HB.out n12
  have HO := Lib.hid (o1.new n2)
  clear Z Z1 T T1 f0 f1 f2 f3 c0 c1 c2 c3 o1 n1 n2
  go_wp2_with fail
  obtain ⟨c0, c1, c2, c3⟩ := Box.four hm
  have N1 := N _ n12.drew
  unfold MadeS at N1
  have KEEP : ∀ W', But (fun x => x = rb ∨ x = qb) w2.drew W' → W'.cell? ⟨si, 0, none⟩ = some (.pointer (some ⟨fb, 0, none⟩)) ∧ W'.cell? ⟨si, 1, none⟩ = some (.pointer (some ⟨mb, 0, none⟩)) := fun W' b =>
    ⟨(Box.four (Box.but (Box.new hm (drew_new w2)) b SB)).1, (Box.four (Box.but (Box.new hm (drew_new w2)) b SB)).2.1⟩
  go_region_held3 (fun w' => w'.cell? ⟨si, 0, none⟩ = some (.pointer (some ⟨fb, 0, none⟩)) ∧ w'.cell? ⟨si, 1, none⟩ = some (.pointer (some ⟨mb, 0, none⟩)))
    (first | go_keep | exact KEEP _ b3)
    (first | (go_at_call 46; (with_reducible refine N1.mono ?_); rintro e w3 ⟨sb, tb, rfl, h31, h32, h3, b3⟩))
  clear N N1 KEEP c0 c1 c2 c3
  have b2 := (But.of_new (fun x => x = rb ∨ x = qb) (n12.drew)).trans b3
  have L1 : w.heap.size ≤ sb := Nat.le_trans n12.drew.size h31
  have L2 : w.heap.size ≤ tb := Nat.le_trans n12.drew.size h32
  have hm3 := Box.but (Box.new hm (drew_new w2)) b3 SB
  have OO := HO.out.but (w' := w3) ((But.of_new (fun x => x = rb ∨ x = qb) (drew_new w2)).trans b3) (fun x hx => by have := LT.out; omega)
  have hm2 : S.length < (S ++ [(⟨sb, tb, g, [], true⟩ : Sq)]).length := by simp
  have em2 : (S ++ [(⟨sb, tb, g, [], true⟩ : Sq)])[S.length] = ⟨sb, tb, g, [], true⟩ := by simp
  have hR3 := HRR.out.but b2 HH.out.rbqb.1
  have GL := h3.lay hm2 (by rw [em2]) (.slice sp S[i].L.length sc) S[i].L hR3
  rw [em2] at GL
  obtain ⟨vc, hbc, hrc⟩ := (h3.has hm2 (by rw [em2])).box
  rw [em2] at hbc
  have hbc' : SpB w3 sb fb mb tb vc := hbc
  have e3 : (S ++ [(⟨sb, tb, g, [], true⟩ : Sq)]).set S.length ((⟨sb, tb, g, [], true⟩ : Sq).lay S[i].L) = S ++ [(⟨sb, tb, g, S[i].L, true⟩ : Sq)] := by simp [Sq.lay]
  rw [e3] at GL
  have GL2 := Lib.hid (show GM (w3.setCell ⟨sb, 3, none⟩ (.slice sp S[i].L.length sc)) k fb rb mb qb (rs.set g 1) (zr bs g) (S ++ [(⟨sb, tb, g, S[i].L, true⟩ : Sq)]) from GL)
  have BL2 := Lib.hid (show But (fun x => x = rb ∨ x = qb) w (w3.setCell ⟨sb, 3, none⟩ (.slice sp S[i].L.length sc)) from b2.setNew (p := ⟨sb, 3, none⟩) L1 _)
  have ne1 : si ≠ sb := by have := Box.lt HB.out; omega
  have HL2 := Lib.hid (Box.other hm3 (p := ⟨sb, 3, none⟩) (fun e => ne1 e.symm) (.slice sp S[i].L.length sc))
  have OL2 := Lib.hid (OO.butT (w' := w3.setCell ⟨sb, 3, none⟩ (.slice sp S[i].L.length sc)) (X := fun x => x = sb) (But.set (S := fun x => x = sb) w3 (p := ⟨sb, 3, none⟩) rfl _) (fun g hg => hg ▸ Box.not_row hbc' (by decide)))
  obtain ⟨c0, c1, c2, c3⟩ := Box.four hm3
  obtain ⟨q0, q1, q2, q3⟩ := Box.four hbc'
  have u3 := Box.unfrozen hbc' 3
  clear GL hrc hbc hbc' e3 em2 hm2 hR3 OO hm3 hm h3 b3 b2
  go_wp2_with fail
  generalize (w3.setCell ⟨sb, 3, none⟩ (.slice sp S[i].L.length sc)) = W4 at *
  clear q0 q1 q2 q3 u3 c0 c1 c2 c3
  have hi3 : i < (S ++ [(⟨sb, tb, g, S[i].L, true⟩ : Sq)]).length := by simp; omega
  have hm3 : S.length < (S ++ [(⟨sb, tb, g, S[i].L, true⟩ : Sq)]).length := by simp
  have ei : (S ++ [(⟨sb, tb, g, S[i].L, true⟩ : Sq)])[i] = S[i] := List.getElem_append_left hi
  have em : (S ++ [(⟨sb, tb, g, S[i].L, true⟩ : Sq)])[S.length] = ⟨sb, tb, g, S[i].L, true⟩ := by simp
  obtain ⟨PU, SM, ZU, ZB⟩ := HP.out.push hg hgz (⟨sb, tb, g, S[i].L, true⟩ : Sq) rfl rfl
  have hor : ((S ++ [(⟨sb, tb, g, S[i].L, true⟩ : Sq)])[i]).on = true := by rw [ei]; exact ho
  have hom : ((S ++ [(⟨sb, tb, g, S[i].L, true⟩ : Sq)])[S.length]).on = true := by rw [em]
  have PG : ∀ q, q < 4096 → pgn (zr bs g) ((S ++ [(⟨sb, tb, g, S[i].L, true⟩ : Sq)])[i]).t q = pgn bs S[i].t q := fun q hq => by rw [ei]; exact SM.pg i hi ho q hq
  have ST := ShrP.start (hi := hi3) (hj := hm3) PU hom (by rw [em]; exact ZU)
  have SH := fun W qs cs (H : GM W k fb rb mb qb qs cs (S ++ [(⟨sb, tb, g, S[i].L, true⟩ : Sq)])) (H2 : PurD k qs cs (S ++ [(⟨sb, tb, g, S[i].L, true⟩ : Sq)]) d) p f n => share_any (p := p) (f := f) (n := n) H hi3 hor hm3 hom (by omega) H2
  have HPU := Lib.hid PU
  have HST := Lib.hid ST
  have HPG := Lib.hid PG
  simp only [ei, em] at SH
  generalize hS3 : (S ++ [(⟨sb, tb, g, S[i].L, true⟩ : Sq)]) = S3 at *
  have eit : S3[i].t = S[i].t := by rw [ei]
  have emt : S3[S.length].t = g := by rw [em]
  have hBL : L.length ≤ 9223372036854775807 := by omega
  have RQ := Lib.hid (show rb < w.heap.size ∧ qb < w.heap.size from LT.out)
  have HSH := Lib.hid SH
  clear PG ST SM ZU ZB SH HO HB n12 h31 h32 PU
  go_loopg [51] L.length (fun kk ii wr => ∃ j : Nat, ∃ qs cs, j + kk = L.length ∧ ii = .int .i64 (j : Int) ∧ GM wr k fb rb mb qb qs cs S3 ∧ But (fun x => x = rb ∨ x = qb) W4 wr ∧ ShrP k (rs.set g 1) (zr bs g) S3 i S.length hi3 hm3 (L.take j) qs cs d)
  case atStart => exact ⟨0, rs.set g 1, zr bs g, by omega, rfl, GL2.out, But.refl _ _, HST.out⟩
  case round =>
    obtain ⟨j, qs, cs, hj, rfl, hg4, hb4, hs⟩ := hrel
    by_cases c : j < L.length
    · obtain ⟨p, hp, hpl, hpg, hpn⟩ := HPL.out.at_ c
      have hpfi := hs.pfi HPU.out hk.2 hor hp
      have hnz : pgn (zr bs g) S3[i].t p ≠ 0 := by rw [HPG.out p hp]; exact hpg
      obtain ⟨f, hf⟩ : ∃ f, pf cs S3[i].t p = some f := by rw [hpfi.1]; exact ⟨_, pv_pos hnz⟩
      have hc0 := hs.pgi p hp
      rw [if_neg hpn] at hc0
      have hf' : pf cs S3[S.length].t p = none := pf_none.2 hc0.2
      have hfl := hs.pur.page_lt hi3 hor hp hf
      have hno := hs.pur.page_not hi3 hor hp hf
      have hrf := hs.rfs f hfl.1 hno
      have hcf : cf (zr bs g) S3[i].t (L.take j) f ≤ 4096 := by
        unfold cf
        exact Nat.le_trans List.countP_le_length (by rw [List.length_take]; omega)
      have hr : (rs.set g 1).getD f 0 ≤ 500000000 := by
        rw [getD_set _ _ _ _ hgl]
        split
        · omega
        · exact HBB.out f hfl.1
      have hbd : qs.getD f 0 < 1073741824 := by omega
      have hT := take_snoc_int L j c
      rw [hpl] at hT
      have hasc : (L.take j ++ [(p : Int)]).Pairwise (· < ·) := by rw [← hT]; exact HPL.out.asc.sublist (List.take_sublist _ _)
      have hbnd : ∀ x ∈ L.take j ++ [(p : Int)], 0 ≤ x ∧ x < 4096 := fun x hx => by
        rw [← hT] at hx
        obtain ⟨q, h1, h2, _⟩ := HPL.out.mem x (List.mem_of_mem_take hx)
        omega
      obtain ⟨n, hn⟩ : ∃ n, nm cs S3[S.length].t (p / 64) = 0 → n < k ∧ NoFree qs n ∧ qs.getD n 0 = 0 := by
        by_cases z : nm cs S3[S.length].t (p / 64) = 0
        · have h1 := hs.tkc
          have h2 : ¬ (p : Int) / 64 = (tbs (L.take j)).2 := fun e => by
            have := (hs.upc (p / 64) (by omega)).2
            rw [show ((p / 64 : Nat) : Int) = (p : Int) / 64 from by omega] at this
            exact this ((tbs_has hasc hbnd).2 e) z
          have h3 : (tbs (L.take (j + 1))).1 = (tbs (L.take j)).1 + 1 := by
            rw [hT, tbs_push]; unfold tbs1; rw [if_neg h2]
          have h4 := tbs_take L (j + 1)
          have h5 := HT1.out
          have h6 := HC.out
          rcases hg4.free_or with ⟨e, _⟩ | ⟨_, n, h⟩
          · omega
          · exact ⟨n, fun _ => h⟩
        · exact ⟨0, fun e => absurd e z⟩
      have PS := Lib.hid (hs.push (n := n) HPU.out hk.2 hor hom (by omega) hp hf hf' (fun e => ⟨(hn e).1, (hn e).2.2⟩) hasc hbnd)
      rw [← hT] at PS
      rw [eit] at hf
      rw [emt] at hf' hn
      have Xs := HSH.out wr qs cs hg4 hs.pur p f n hp hf hf' hbd hn
      rw [eit, emt] at PS
      rw [HSI.out] at Xs
      obtain ⟨b, cap, ev, hc⟩ := (OL2.out.but hb4 (fun x hx => by have := RQ.out; omega)).ints.cell j c
      rw [hpl] at hc
      obtain ⟨rfl, rfl⟩ : pv = some ⟨b, 0, none⟩ ∧ cv = cap := by injection ev with a b c; exact ⟨a, c⟩
      generalize layR (qs.set f (qs.getD f 0 + 1)) cs g p n = q5 at *
      generalize shB cs S[i].t g p (ennum f (pgn cs S[i].t p % 8) true) n = c5 at *
      have J := Lib.hid hj
      have HB4 := Lib.hid hb4
      clear hj hb4 hs hpfi hnz hf hc0 hf' hfl hno hrf hcf hr hbd hT hasc hbnd hn hpl hpg hpn ev hg4
      go_wp2_with fail
      refine Xs.mono ?_
      rintro e w5 ⟨rfl, h5, b5⟩
      go_wp2_with fail
      go_roundg (L.length - (j + 1))
      case measure => have := J.out; omega
      case rel => exact ⟨j + 1, q5, c5, by have := J.out; omega, by go_num, h5, HB4.out.trans b5, PS.out⟩
    · obtain rfl : j = L.length := by omega
      rw [List.take_length] at hs
      go_wp2
      go_ret2
      exact ⟨sb, tb, g, qs, cs, by rw [hS3]; exact hi3, by rw [hS3]; exact hm3, rfl, L1, L2, hg, hgz, by rw [hS3]; exact hg4, BL2.out.trans hb4, by subst hS3; exact hs⟩
end
end Go.Proofs.YtgedimlhldfkaaaGreatDoor
