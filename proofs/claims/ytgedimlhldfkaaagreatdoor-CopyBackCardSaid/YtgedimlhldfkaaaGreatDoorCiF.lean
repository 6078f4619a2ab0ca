/- Bytes read in over pages, all cases in one. Contracts, for any spaces that may be, in any world. -/
import Derived.Test.YtgedimlhldfkaaaGreatDoorCiB
import Derived.Laws.MakeOwn
import Derived.Test.YtgedimlhldfkaaaGreatDoorWordC
namespace Go.Proofs.YtgedimlhldfkaaaGreatDoor
open Go.RowKit
set_option linter.unusedVariables false
set_option maxRecDepth 100000
/-- what comes of bytes read in -/
def InR (k : Nat) (S : List Sq) (i : Nat) (hi : i < S.length) (a : Nat) (n : Int) (rs bs qs cs l : List Int) (c : Int) : Prop :=
  (¬ (0 ≤ n ∧ n ≤ 4096) ∧ c = 22 ∧ l = [] ∧ qs = rs ∧ cs = bs) ∨
  (0 ≤ n ∧ n ≤ 4096 ∧ c = 0 ∧ InP k S i hi a n.toNat rs bs n.toNat qs cs l) ∨
  (0 ≤ n ∧ n ≤ 4096 ∧ c ≠ 0 ∧ l = [] ∧ ∃ j L, InP k S i hi a n.toNat rs bs j qs cs L ∧ j < n.toNat ∧ rdE k qs cs S[i] (a + j) (pc (a + j) (n.toNat - j) : Nat) 1 = c)
def InC (k fb rb mb qb : Nat) (S : List Sq) (i : Nat) (hi : i < S.length) (a : Nat) (n : Int) (rs bs : List Int) (w : World) (e : Ending) (w' : World) : Prop :=
  ∃ (v : Value) (l qs cs : List Int) (c : Int), e = .returned (.tuple #[v, erN c]) ∧ OwnB w.heap.size w' v l ∧ GM w' k fb rb mb qb qs cs S ∧ But (fun g => g = rb ∨ g = qb) w w' ∧ Pst k qs cs S ∧ InR k S i hi a n rs bs qs cs l c
/-- append of bytes to a slice of bytes that the call made, and which block grows -/
theorem wpList_append_bytesB {w : World} {ops : Array Oper} {rest : List Oper} {o : Oper} {a : Act} {Q : Exit → Act → World → Prop} (hgd : o.guard = none) (s x : Operand)
    (ho : o.op = .call { callee := .builtin .append, args := #[s, x], argTypes := #[28, 28] }) (hty : o.type = 28)
    (base : Nat) (v : Value) (xs : List Int) (hs : a.eval s = v) (hown : OwnB base w v xs) (u : Value) (l : List Int) (hx : a.eval x = u) (hu : Byts w u l) (hlen : xs.length + l.length ≤ 1000000) (hbase : base ≤ w.heap.size)
    (h : ∀ v' w', OwnB base w' v' (xs ++ l) → w.grownBy w' v.ownBlock → wpList Tryz.prog ops Q rest (a.put o.dst v') w') : wpList Tryz.prog ops Q (o :: rest) a w := by
  obtain ⟨v', w', hr, h2, h3⟩ := run_append_bytes w base v xs hown u l hu hlen hbase
  refine wpList_plain hgd fun _ hK => ?_
  unfold Oper.wp execOp
  rw [← hty] at hr
  simp only [ho, resolve, invoke, builtin, Sem.run_bind, Sem.run_pure, Result.andThen_ok, List.map_toArray, List.map_cons, List.map_nil, hs, hx]
  rw [hty] at hr ⊢
  simp only [hr]
  exact hK _ _ (h v' w' h2 h3)
theorem grown_own {w w' : World} {base : Nat} {v : Value} {xs : List Int} (hown : OwnB base w v xs) (hg : w.grownBy w' v.ownBlock) : New w w' ∨ ∃ g cur, base ≤ g ∧ Box w g cur 5 ∧ But (fun x => x = g) w w' := by
  rcases hown.2 with ⟨rfl, _⟩ | ⟨g, cap, cur, rfl, hb, hx, _⟩
  · exact .inl ((New.refl w).grown hg fun k hk => by cases hk)
  · exact .inr ⟨g, cur, hb, hx, ⟨hg.os, hg.tape, hg.output, hg.size, fun k hk hn => hg.block k hk fun e => hn (Option.some.inj e)⟩⟩
theorem But.grown {X : Nat → Prop} {w0 w w' : World} {base : Nat} {v : Value} {xs : List Int} (h : But X w0 w) (h0 : w0.heap.size ≤ base) (hown : OwnB base w v xs) (hg : w.grownBy w' v.ownBlock) : But X w0 w' := by
  rcases grown_own hown hg with n | ⟨g, cur, hb, hx, b⟩
  · exact h.trans (But.of_new _ n)
  · exact ⟨b.1.trans h.1, b.2.1.trans h.2.1, b.2.2.1.trans h.2.2.1, Nat.le_trans h.size b.size, fun i hi hn => (b.block (Nat.lt_of_lt_of_le hi h.size) (by show ¬ i = g; omega)).trans (h.block hi hn)⟩
section
variable {w w' : World} {k fb rb mb qb : Nat} {rs bs qs cs : List Int} {S : List Sq} {i : Nat}
theorem make_room (n : Nat) (hn : n ≤ 4096) (w : World) : (Instr.makeSlice 28 (.int .i64 0) (.int .i64 (n : Int))).run Tryz.prog w = .ok (.slice (some ⟨w.heap.size, 0, none⟩) 0 n) (w.alloc (.cells (madeCells #[.int .u8 0] n) 5)) := by
  obtain ⟨i, hi, hzz⟩ := Option.map_eq_some_iff.1 byte_info
  simp only [Prod.mk.injEq] at hzz
  obtain ⟨hz, hs, hb⟩ := hzz
  have h := run_makeSlice (P := Tryz.prog) w 28 5 i (.int .u8 0) Tryz.underlying28 hi hz .i64 .i64 0 n (Int.le_refl _) (by omega) (by rw [hs]; simp; omega) (by rw [hb]; omega) (by omega)
  rw [hs] at h
  simpa [Value.cells] using h
theorem OwnB.made (w : World) (n : Nat) (hn : n ≤ 4096) (cs : Array Value) (hc : cs.size = n) : OwnB w.heap.size (w.alloc (.cells cs 5)) (.slice (some ⟨w.heap.size, 0, none⟩) 0 n) [] := by
  refine ⟨by simp [cells8], .inr ⟨_, n, _, rfl, Nat.le_refl _, Box.here w _ cs 5 rfl, Nat.zero_le _, by unfold maxLen; omega, by simpa using hc, by simp [cells8]⟩⟩
theorem GM.grown {base : Nat} {v : Value} {xs : List Int} (h : GM w k fb rb mb qb rs bs S) (hown : OwnB base w v xs) (hg : w.grownBy w' v.ownBlock) : GM w' k fb rb mb qb rs bs S := by
  rcases grown_own hown hg with n | ⟨g, cur, hb, hx, b⟩
  · exact h.new n
  · exact h.aside hx (by decide) (by decide) (by decide) (by decide) (by decide) (by decide) (by decide) b
set_option maxHeartbeats 2000000 in
theorem In_no (n : Int) (a : Nat) (v : Value) (hn : ¬ (0 ≤ n ∧ n ≤ 4096)) (hb : -9223372036854775808 ≤ n ∧ n ≤ 9223372036854775807) :
    Calls Tryz.prog 26 #[v, .int .u32 (a : Int), .int .i64 n] w fun e w' => e = .returned (.tuple #[.slice none 0 0, .iface 98 (.int .i64 22)]) ∧ w = w' := by
  by_cases c : n < 0
  · go_enter Tryz.func26, Tryz.ntmps26
    go_wp2
    go_ret2
    exact ⟨rfl, rfl⟩
  · have c2 : 4096 < n := by omega
    go_enter Tryz.func26, Tryz.ntmps26
    go_wp2
    go_ret2
    exact ⟨rfl, rfl⟩
set_option maxHeartbeats 4000000 in
theorem In_ok (h : GM w k fb rb mb qb rs bs S) (st : Pst k rs bs S) (hi : i < S.length) (ho : S[i].on = true) (a n : Nat) (ha : a < 4294967296) (hn : n ≤ 4096) :
    Calls Tryz.prog 26 #[.pointer (some ⟨S[i].sb, 0, none⟩), .int .u32 (a : Int), .int .i64 (n : Int)] w (InC k fb rb mb qb S i hi a n rs bs w) := by
  have X := fun W qs cs (H : GM W k fb rb mb qb qs cs S) (s : Pst k qs cs S) (p m : Nat) (hp : p < 4294967296) (hm : m ≤ 4096) => Read_st H s hi ho p m 1 hp (by omega)
  have HG := Lib.hid h
  have HS := Lib.hid st
  have HRQ := Lib.hid (show rb < w.heap.size ∧ qb < w.heap.size from ⟨h.fr.lt.2, h.ph.lt.2⟩)
  clear h st
  go_enter Tryz.func26, Tryz.ntmps26
  have hmk := make_room n hn
  have hon := OwnB.made w n hn (madeCells #[.int .u8 0] n) (by rw [size_madeCells])
  have hnw := (New.refl w).alloc (madeCells #[.int .u8 0] n) 5
  generalize madeCells #[.int .u8 0] n = Z at *
  have HO := Lib.hid hon
  have HN := Lib.hid hnw
  clear hon hnw
  go_wp2_with fail
  go_loopg [8] n (fun kk v wr => ∃ j qs cs L, n ≤ j + kk ∧ OwnB w.heap.size wr v L ∧ GM wr k fb rb mb qb qs cs S ∧ But (fun g => g = rb ∨ g = qb) w wr ∧ Pst k qs cs S ∧ InP k S i hi a n rs bs j qs cs L)
  case atStart => exact ⟨0, rs, bs, [], by omega, HO.out, HG.out.new HN.out, But.of_new _ HN.out, HS.out, .nil⟩
  case round =>
    obtain ⟨j, qs, cs, L, hj, ho1, hg, hb, hs, hp⟩ := hrel
    obtain ⟨l1, l2, l3⟩ := hp.le
    obtain ⟨pv, cv, rfl, _⟩ := ho1.byts
    by_cases c : j < n
    · have hp32 : a + j < 4294967296 := by omega
      have hpc := pc_in (a + j) (n - j)
      have Y := X wr qs cs hg hs (a + j) (pc (a + j) (n - j)) hp32 (by omega)
      have P := piece_any (a + j) (n - j) wr hp32 (by omega)
      rw [show ((n - j : Nat) : Int) = (n : Int) - (j : Int) by omega, Int.natCast_add] at P
      unfold ReadDone ReadC at Y
      rw [Int.natCast_add] at Y
      have HE : ∃ c, rdE k qs cs S[i] (a + j) (pc (a + j) (n - j) : Nat) 1 = c := ⟨_, rfl⟩
      obtain ⟨c1, HE⟩ := HE
      rw [HE] at Y
      have HE2 := Lib.hid HE
      have HPC := Lib.hid hpc
      have HM : ∃ m, pc (a + j) (n - j) = m := ⟨_, rfl⟩
      obtain ⟨m, HM⟩ := HM
      rw [HM] at Y P
      have HM2 := Lib.hid HM
      have HB := Lib.hid hb
      have HO1 := Lib.hid ho1
      have HP := Lib.hid hp
      have HJ := Lib.hid hj
      clear X hb ho1 hp hg hs hj HE HM hpc
      go_wp2_with fail
      refine P.mono ?_
      rintro e w1 ⟨rfl, rfl⟩
      clear P
      go_wp2_with fail
      refine Y.mono ?_
      rintro e w2 ⟨v2, l2', q2, c2, rfl, o2, g2, b2, s2, ⟨hc, rfl, rfl, rfl⟩ | ⟨rfl, hpl, f, hr, hf, rfl⟩⟩
      · rw [erN_pos hc]
        go_wp2
        go_ret2
        refine ⟨.slice none 0 0, [], q2, c2, c1, by rw [erN_pos hc]; rfl, OwnB.nil _ _, g2, HB.out.trans b2, s2, .inr (.inr ⟨by omega, by omega, hc, rfl, j, L, ?_, ?_, ?_⟩)⟩
        · simpa using HP.out
        · simpa using c
        · simpa using HE2.out
      · rw [erN_zero]
        have ho2 := HO1.out.but b2 (by have := HRQ.out; rintro g (rfl | rfl) <;> omega)
        obtain ⟨p2, k2, rfl⟩ := o2.shape
        obtain ⟨D, hD⟩ : ∃ D, D = cut (fby c2 f) ((a + j) % 256) (m : Int).toNat := ⟨_, rfl⟩
        rw [← hD] at o2 ⊢
        have hm : m = pc (a + j) (n - j) := HM2.out.symm
        have hlen : L.length + D.length ≤ 1000000 := by
          have e := o2.1
          have h1 := HPC.out
          rw [hD, cut_len _ _ _ (by rw [fby_len s2.pur.hl hf]; simp; omega)]
          simp; omega
        have HS2 := HB.out.trans b2
        have hsz : w.heap.size ≤ w2.heap.size := HS2.size
        have G2 := Lib.hid g2
        have NXT : InP k S i hi a n rs bs (j + m) q2 c2 (L ++ D) := by
          have z := InP.snoc HP.out c (by have := HE2.out; simpa [← hm] using this) (by simpa [← hm] using hr) s2 hf
          rw [← hm] at z
          rw [hD]; simpa using z
        have HX := Lib.hid NXT
        have HO2 := Lib.hid ho2
        have HSS := Lib.hid s2
        clear g2 hr hD NXT HM2 HE2
        subst l3
        go_wp2_with (refine wpList_append_bytesB rfl _ _ rfl rfl w.heap.size _ _ rfl HO2.out _ D rfl o2.byts hlen hsz ?_)
        intro v4 w4 o4 gr
        have BN := HS2.grown (Nat.le_refl _) HO2.out gr
        have GN := G2.out.grown HO2.out gr
        obtain ⟨p4, k4, rfl⟩ := o4.shape
        clear gr HO2 G2 HS2 o2
        go_wp2_with fail
        go_roundg (n - (L.length + m))
        case measure => have := HJ.out; have := HPC.out; omega
        case rel => exact ⟨L.length + m, q2, c2, L ++ D, by have := HJ.out; omega, o4, GN, BN, HSS.out, HX.out⟩
    · obtain rfl : j = n := by omega
      go_wp2
      go_ret2
      refine ⟨.slice pv L.length cv, L, qs, cs, 0, by rw [erN_zero]; rfl, ho1, hg, hb, hs, .inr (.inl ⟨by omega, by omega, rfl, by simpa using hp⟩)⟩
end
end Go.Proofs.YtgedimlhldfkaaaGreatDoor
namespace Go.Proofs.YtgedimlhldfkaaaGreatDoor
open Go.RowKit
set_option linter.unusedVariables false
set_option maxRecDepth 100000
/-- what comes of bytes laid down -/
def OutR (k : Nat) (S : List Sq) (i : Nat) (hi : i < S.length) (a : Nat) (l rs bs qs cs : List Int) (d : Nat) (c : Int) : Prop :=
  (¬ l.length ≤ 4096 ∧ c = 22 ∧ d = 0 ∧ qs = rs ∧ cs = bs) ∨
  (l.length ≤ 4096 ∧ OutP k S i hi a l rs bs d qs cs ∧ ((c = 0 ∧ d = l.length) ∨ (c ≠ 0 ∧ d < l.length ∧ wrE k qs cs S[i] (a + d) (pc (a + d) (l.length - d)) false = c)))
def OutC (k fb rb mb qb : Nat) (S : List Sq) (i : Nat) (hi : i < S.length) (a : Nat) (l rs bs : List Int) (w : World) (e : Ending) (w' : World) : Prop :=
  ∃ (d : Nat) (qs cs : List Int) (c : Int), e = .returned (.tuple #[.int .i64 (d : Int), erN c]) ∧ GM w' k fb rb mb qb qs cs S ∧ But (fun g => g = rb ∨ g = qb) w w' ∧ Pst k qs cs S ∧ OutR k S i hi a l rs bs qs cs d c
section
variable {w w' : World} {k fb rb mb qb : Nat} {rs bs qs cs : List Int} {S : List Sq} {i : Nat}
theorem Byts.sub {ad : Addr} {n cap : Nat} {l : List Int} (h : Byts w (.slice (some ad) n cap) l) (j m cap' : Nat) (hj : j + m ≤ l.length) : Byts w (.slice (some (ad.add j)) m cap') (cut l j m) := by
  obtain ⟨p, c, e, h2, h3⟩ := h
  cases e
  have e1 : (cut l j m).length = m := cut_len _ _ _ hj
  refine ⟨some (ad.add j), cap', by rw [e1], by omega, fun i hi => ⟨_, rfl, ?_⟩⟩
  rw [e1] at hi
  obtain ⟨a, ea, hc⟩ := h3 (j + i) (by omega)
  cases ea
  rw [cut_get _ _ _ _ hj hi, ← hc]
  congr 1
  by_cases c1 : j = 0
  · subst c1; simp [Addr.add]
  · by_cases c2 : i = 0
    · subst c2; simp [Addr.add]
    · simp only [Addr.add, if_neg c1, if_neg c2, if_neg (show ¬ j + i = 0 by omega), Nat.add_assoc]
theorem BytsK.sub {X : Nat → Prop} {ad : Addr} {n cap : Nat} {l : List Int} (h : BytsK X w (.slice (some ad) n cap) l) (j m cap' : Nat) (hj : j + m ≤ l.length) : BytsK X w (.slice (some (ad.add j)) m cap') (cut l j m) :=
  fun w' b => (h w' b).sub j m cap' hj
set_option maxHeartbeats 2000000 in
theorem Out_no (a : Nat) (v : Value) (p : Option Addr) (n cap : Nat) (hn : 4096 < n) (hb : n ≤ maxLen) :
    Calls Tryz.prog 27 #[v, .int .u32 (a : Int), .slice p n cap] w fun e w' => e = .returned (.tuple #[.int .i64 0, .iface 98 (.int .i64 22)]) ∧ w = w' := by
  unfold maxLen at hb
  go_enter Tryz.func27, Tryz.ntmps27
  go_wp2
  go_ret2
  exact ⟨rfl, rfl⟩
set_option maxHeartbeats 4000000 in
theorem Out_ok (h : GM w k fb rb mb qb rs bs S) (st : Pst k rs bs S) (hi : i < S.length) (ho : S[i].on = true) (a : Nat) (p : Option Addr) (cap : Nat) (l : List Int) (ha : a < 4294967296) (hn : l.length ≤ 4096) (hc : Oct l) (hv : BytsK (fun g => g = rb ∨ g = qb) w (.slice p l.length cap) l) (hcap : l.length ≤ cap) (hcm : cap ≤ maxLen) :
    Calls Tryz.prog 27 #[.pointer (some ⟨S[i].sb, 0, none⟩), .int .u32 (a : Int), .slice p l.length cap] w (OutC k fb rb mb qb S i hi a l rs bs w) := by
  have X := fun W qs cs (H : GM W k fb rb mb qb qs cs S) (s : Pst k qs cs S) (at_ : Nat) p cap l h1 h2 h3 h4 => Write_st H s hi ho at_ p cap l false h1 h2 h3 h4
  have HG := Lib.hid h
  have HS := Lib.hid st
  have HV := Lib.hid hv
  clear h st hv
  unfold maxLen at hcm
  go_enter Tryz.func27, Tryz.ntmps27
  go_wp2_with fail
  go_loopg [8] l.length (fun kk v wr => ∃ j qs cs, l.length ≤ j + kk ∧ v = .int .i64 (j : Int) ∧ GM wr k fb rb mb qb qs cs S ∧ But (fun g => g = rb ∨ g = qb) w wr ∧ Pst k qs cs S ∧ OutP k S i hi a l rs bs j qs cs)
  case atStart => exact ⟨0, rs, bs, by omega, rfl, HG.out, But.refl _ _, HS.out, .nil⟩
  case round =>
    obtain ⟨j, qs, cs, hj, rfl, hg, hb, hs, hp⟩ := hrel
    obtain ⟨l1, l2⟩ := hp.le
    by_cases c : j < l.length
    · have hp32 : a + j < 4294967296 := by omega
      have hpc := pc_in (a + j) (l.length - j)
      have P := piece_any (a + j) (l.length - j) wr hp32 (by omega)
      rw [show ((l.length - j : Nat) : Int) = (l.length : Int) - (j : Int) by omega, Int.natCast_add] at P
      have HPC := Lib.hid hpc
      obtain ⟨m, HM⟩ : ∃ m, pc (a + j) (l.length - j) = m := ⟨_, rfl⟩
      obtain ⟨ad, rfl⟩ : ∃ ad, p = some ad := by
        obtain ⟨_, _, e, _, h3⟩ := HV.out.now
        cases e
        obtain ⟨ad, e, _⟩ := h3 0 (by omega)
        exact ⟨ad, e⟩
      rw [HM] at P hpc
      have e0 : (cut l j m).length = m := cut_len _ _ _ (by omega)
      have Y := X wr qs cs hg hs (a + j) (some (ad.add j)) (cap - j) (cut l j m) hp32 (by rw [e0]; unfold maxLen; omega) (hc.cut _ _) (by rw [e0]; exact (HV.out.but hb).sub j m _ (by omega))
      unfold WrtDone WrtC at Y
      rw [e0, Int.natCast_add] at Y
      obtain ⟨c1, HE⟩ : ∃ c, wrE k qs cs S[i] (a + j) m false = c := ⟨_, rfl⟩
      rw [HE] at Y
      have HE2 := Lib.hid HE
      have HM2 := Lib.hid HM
      have HB := Lib.hid hb
      have HP := Lib.hid hp
      have HJ := Lib.hid hj
      clear X hb hp hg hs hj HE HM
      go_wp2_with fail
      refine P.mono ?_
      rintro e w1 ⟨rfl, rfl⟩
      clear P
      go_wp2_with fail
      refine Y.mono ?_
      rintro e w2 ⟨q2, c2, rfl, g2, b2, s2, ⟨hz, rfl, rfl⟩ | ⟨rfl, hpl, f, c3, hr, s3, hf, hpf, hD⟩⟩
      · rw [erN_pos hz]
        go_wp2
        go_ret2
        refine ⟨j, q2, c2, c1, by rw [erN_pos hz]; rfl, g2, HB.out.trans b2, s2, .inr ⟨hn, HP.out, .inr ⟨hz, c, ?_⟩⟩⟩
        rw [HM2.out]; exact HE2.out
      · rw [erN_zero]
        have hm := HM2.out
        have NXT : OutP k S i hi a l rs bs (j + m) q2 c2 := by
          have z := OutP.snoc HP.out c (by rw [hm]; exact HE2.out) hr s3 hf hpf (by rw [hm]; exact hD) s2
          rw [hm] at z; exact z
        have HX := Lib.hid NXT
        have HS2 := Lib.hid (HB.out.trans b2)
        have HG2 := Lib.hid g2
        have HSS := Lib.hid s2
        clear NXT hm hr hpf hD g2 b2 s2 s3 Y
        go_wp2_with fail
        go_roundg (l.length - (j + m))
        case measure => have := HJ.out; have := HPC.out; have := HM2.out; omega
        case rel => exact ⟨j + m, q2, c2, by have := HJ.out; omega, by go_num, HG2.out, HS2.out, HSS.out, HX.out⟩
    · obtain rfl : j = l.length := by omega
      go_wp2
      go_ret2
      refine ⟨l.length, qs, cs, 0, by rw [erN_zero]; rfl, hg, hb, hs, .inr ⟨hn, hp, .inl ⟨rfl, rfl⟩⟩⟩
end
end Go.Proofs.YtgedimlhldfkaaaGreatDoor
namespace Go.Proofs.YtgedimlhldfkaaaGreatDoor
open Go.RowKit
set_option linter.unusedVariables false
set_option maxRecDepth 100000
/-- what comes of a text read -/
def TxR (k : Nat) (S : List Sq) (i : Nat) (hi : i < S.length) (a : Nat) (n : Int) (rs bs qs cs L : List Int) (c : Int) : Prop :=
  (¬ (0 ≤ n ∧ n ≤ 4096) ∧ c = 22 ∧ L = [] ∧ qs = rs ∧ cs = bs) ∨
  (0 ≤ n ∧ n ≤ 4096 ∧ ∃ T, TxP k S i hi a rs bs T qs cs ∧ T.length ≤ n.toNat ∧ c ≠ 0 ∧ L = [] ∧ rdE k qs cs S[i] (a + T.length) 1 1 = c) ∨
  (0 ≤ n ∧ n ≤ 4096 ∧ c = 0 ∧ ∃ q1 c1 f, TxP k S i hi a rs bs L q1 c1 ∧ L.length ≤ n.toNat ∧ rdE k q1 c1 S[i] (a + L.length) 1 1 = 0 ∧ RchS k q1 c1 S i hi ((a + L.length) / 256) 1 qs cs f ∧ f < k ∧ (fby cs f).getD ((a + L.length) % 256) 0 = 0) ∨
  (0 ≤ n ∧ n ≤ 4096 ∧ c = 36 ∧ L = [] ∧ ∃ T, TxP k S i hi a rs bs T qs cs ∧ T.length = n.toNat + 1)
def TxC (k fb rb mb qb : Nat) (S : List Sq) (i : Nat) (hi : i < S.length) (a : Nat) (n : Int) (rs bs : List Int) (w : World) (e : Ending) (w' : World) : Prop :=
  ∃ (L qs cs : List Int) (c : Int), e = .returned (.tuple #[.string (strOfNums L), erN c]) ∧ GM w' k fb rb mb qb qs cs S ∧ But (fun g => g = rb ∨ g = qb) w w' ∧ Pst k qs cs S ∧ TxR k S i hi a n rs bs qs cs L c
theorem strOf_none : strOfNums [] = { data := #[] } := rfl
section
variable {w w' : World} {k fb rb mb qb : Nat} {rs bs qs cs : List Int} {S : List Sq} {i : Nat}
set_option maxHeartbeats 2000000 in
theorem Text_no (n : Int) (a : Nat) (v : Value) (hn : ¬ (0 ≤ n ∧ n ≤ 4096)) (hb : -9223372036854775808 ≤ n ∧ n ≤ 9223372036854775807) :
    Calls Tryz.prog 28 #[v, .int .u32 (a : Int), .int .i64 n] w fun e w' => e = .returned (.tuple #[.string (strOfNums []), .iface 98 (.int .i64 22)]) ∧ w = w' := by
  rw [strOf_none]
  by_cases c : n < 0
  · go_enter Tryz.func28, Tryz.ntmps28
    go_wp2
    go_ret2
    exact ⟨rfl, rfl⟩
  · have c2 : 4096 < n := by omega
    go_enter Tryz.func28, Tryz.ntmps28
    go_wp2
    go_ret2
    exact ⟨rfl, rfl⟩
set_option maxHeartbeats 4000000 in
theorem Text_ok (h : GM w k fb rb mb qb rs bs S) (st : Pst k rs bs S) (hi : i < S.length) (ho : S[i].on = true) (a n : Nat) (ha : a < 4294967296) (hn : n ≤ 4096) :
    Calls Tryz.prog 28 #[.pointer (some ⟨S[i].sb, 0, none⟩), .int .u32 (a : Int), .int .i64 (n : Int)] w (TxC k fb rb mb qb S i hi a n rs bs w) := by
  have X := fun W qs cs (H : GM W k fb rb mb qb qs cs S) (s : Pst k qs cs S) (p : Nat) (hp : p < 4294967296) => Read_st H s hi ho p 1 1 hp (by omega)
  have HG := Lib.hid h
  have HS := Lib.hid st
  have HRQ := Lib.hid (show rb < w.heap.size ∧ qb < w.heap.size from ⟨h.fr.lt.2, h.ph.lt.2⟩)
  clear h st
  go_enter Tryz.func28, Tryz.ntmps28
  go_wp2_with fail
  go_loopg [8, 21] (n + 1) (fun kk v ii wr => ∃ qs cs L, L.length + kk = n + 1 ∧ ii = .int .i64 (L.length : Int) ∧ OwnB w.heap.size wr v L ∧ GM wr k fb rb mb qb qs cs S ∧ But (fun g => g = rb ∨ g = qb) w wr ∧ Pst k qs cs S ∧ TxP k S i hi a rs bs L qs cs)
  case atStart => exact ⟨rs, bs, [], by simp, rfl, OwnB.nil _ _, HG.out, But.refl _ _, HS.out, .nil⟩
  case round =>
    obtain ⟨qs, cs, L, hj, rfl, ho1, hg, hb, hs, hp⟩ := hrel
    have l2 := hp.le
    have l3 : L = [] → L.length = 0 := fun e => by rw [e]; rfl
    obtain ⟨pv, cv, rfl⟩ := ho1.shape
    by_cases c : L.length < n + 1
    · have hp32 : a + L.length < 4294967296 := by rcases l2 with e | e; · have := l3 e; omega
                                                  · omega
      have Y := X wr qs cs hg hs (a + L.length) hp32
      unfold ReadDone ReadC at Y
      rw [Int.natCast_add] at Y
      obtain ⟨c1, HE⟩ : ∃ c, rdE k qs cs S[i] (a + L.length) 1 1 = c := ⟨_, rfl⟩
      rw [HE] at Y
      have HE2 := Lib.hid HE
      have HB := Lib.hid hb
      have HO1 := Lib.hid ho1
      have HP := Lib.hid hp
      have HJ := Lib.hid hj
      clear X hb ho1 hp hg hs hj HE l2 l3
      go_wp2_with fail
      refine Y.mono ?_
      rintro e w2 ⟨v2, l2', q2, c2, rfl, o2, g2, b2, s2, ⟨hc, rfl, rfl, rfl⟩ | ⟨rfl, hpl, f, hr, hf, rfl⟩⟩
      · rw [erN_pos hc]
        go_wp2
        go_ret2
        refine ⟨[], q2, c2, c1, by rw [erN_pos hc]; rfl, g2, HB.out.trans b2, s2, .inr (.inl ⟨by omega, by omega, L, HP.out, ?_, hc, rfl, HE2.out⟩)⟩
        simp; omega
      · rw [erN_zero]
        have hpq := plc_iff.1 hpl
        have e1 : cut (fby c2 f) ((a + L.length) % 256) (1 : Int).toNat = [(fby c2 f).getD ((a + L.length) % 256) 0] := by
          refine ext_getD (by rw [cut_len _ _ _ (by rw [fby_len s2.pur.hl hf]; simp; omega)]; rfl) fun x hx => ?_
          rw [cut_len _ _ _ (by rw [fby_len s2.pur.hl hf]; simp; omega)] at hx
          have : x = 0 := by simpa using hx
          subst this
          rw [cut_get _ _ _ _ (by rw [fby_len s2.pur.hl hf]; simp; omega) (by simp)]; rfl
        rw [e1] at o2
        have ho2 := HO1.out.but b2 (by have := HRQ.out; rintro g (rfl | rfl) <;> omega)
        obtain ⟨p2, k2, rfl⟩ := o2.shape
        have HX : (fby c2 f).getD ((a + L.length) % 256) 0 ≠ 0 → TxP k S i hi a rs bs (L ++ [(fby c2 f).getD ((a + L.length) % 256) 0]) q2 c2 := fun z => TxP.snoc HP.out HE2.out hr s2 hf z
        have HZ : (fby c2 f).getD ((a + L.length) % 256) 0 = 0 → TxR k S i hi a n rs bs q2 c2 L 0 := fun z => .inr (.inr (.inl ⟨by omega, by omega, rfl, qs, cs, f, HP.out, by simp; omega, HE2.out, hr, hf, z⟩))
        obtain ⟨x, hx⟩ : ∃ x, x = (fby c2 f).getD ((a + L.length) % 256) 0 := ⟨_, rfl⟩
        rw [← hx] at o2 HX HZ
        have HX2 := Lib.hid HX
        have HZ2 := Lib.hid HZ
        obtain ⟨_, _, e3, _, h3⟩ := o2.byts
        cases e3
        obtain ⟨ad, rfl, hc⟩ := h3 0 (by simp)
        have hc2 : w2.cell? ad = some (.int .u8 x) := by simpa [Addr.add] using hc
        have HBB := Lib.hid (HB.out.trans b2)
        have HG2 := Lib.hid g2
        have HSS := Lib.hid s2
        have HO2 := Lib.hid ho2
        clear hr e1 HX HZ hx h3 hc b2 g2 s2 o2 ho2 hpq hpl HE2
        by_cases z : x = 0
        · subst z
          have C := str_of HO2.out.byts
          go_wp2
          go_ret2
          exact ⟨L, q2, c2, 0, by rw [erN_zero]; rfl, HG2.out, HBB.out, HSS.out, HZ2.out (by trivial)⟩
        · have hx0 : (x == 0) = false := by simpa using z
          have BX := (HG2.out.byts x).now
          have N1 := (New.refl w2).alloc #[.int .u8 x] 5
          have O3 := HO2.out.new N1
          have G3 := HG2.out.new N1
          have B3 := HBB.out.trans (But.of_new _ N1)
          have hlen : L.length + [x].length ≤ 1000000 := by simp; omega
          have hsz : w.heap.size ≤ (w2.alloc (.cells #[.int .u8 x] 5)).heap.size := B3.size
          go_wp2_with (first | ((with_reducible refine at_slot 47 ?_); refine wpList_append_bytesB rfl _ _ rfl rfl w.heap.size _ _ rfl O3 _ [x] rfl BX hlen hsz ?_))
          intro v4 w4 o4 gr
          have BN := B3.grown (Nat.le_refl _) O3 gr
          have GN := G3.grown O3 gr
          obtain ⟨p4, k4, rfl⟩ := o4.shape
          clear gr O3 G3 B3 BX N1
          go_wp2_with fail
          go_roundg (n + 1 - (L.length + 1))
          case measure => have := HJ.out; omega
          case rel => exact ⟨q2, c2, L ++ [x], by have := HJ.out; simp; omega, by simp, o4, GN, BN, HSS.out, HX2.out z⟩
    · have c2 : L.length = n + 1 := by omega
      go_wp2
      go_ret2
      refine ⟨[], qs, cs, 36, by rw [erN_pos (by decide)]; rfl, hg, hb, hs, .inr (.inr (.inr ⟨by omega, by omega, rfl, rfl, L, hp, by simp; omega⟩))⟩
end
end Go.Proofs.YtgedimlhldfkaaaGreatDoor
namespace Go.Proofs.YtgedimlhldfkaaaGreatDoor
open Go.RowKit
set_option linter.unusedVariables false
set_option maxRecDepth 100000
/-- the number of four bytes -/
def le4 (l : List Int) : Int := l.getD 0 0 + 256 * l.getD 1 0 + 65536 * l.getD 2 0 + 16777216 * l.getD 3 0
/-- the four bytes of a number -/
def bf4 (v : Int) : List Int := [v % 256, v / 256 % 256, v / 65536 % 256, v / 16777216]
theorem le4_bf4 (v : Int) (h0 : 0 ≤ v) (h : v ≤ 4294967295) : le4 (bf4 v) = v := by
  show v % 256 + 256 * (v / 256 % 256) + 65536 * (v / 65536 % 256) + 16777216 * (v / 16777216) = v
  omega
theorem bf4_oct (v : Int) (h0 : 0 ≤ v) (h : v ≤ 4294967295) : Oct (bf4 v) := fun x hx => by
  simp [bf4] at hx
  omega
/-- an error as it is told by force -/
def fio (c : Int) : Int := if c = 14 then 5 else c
def PkX (c0 : Int) (k fb rb mb qb : Nat) (S : List Sq) (i : Nat) (hi : i < S.length) (a : Nat) (rs bs : List Int) (w : World) (e : Ending) (w' : World) : Prop :=
  ∃ (v c : Int) (qs cs : List Int), e = .returned (.tuple #[.int .u32 v, erN c]) ∧ GM w' k fb rb mb qb qs cs S ∧ But (fun g => g = rb ∨ g = qb) w w' ∧ Pst k qs cs S ∧
    ((a % 4 ≠ 0 ∧ c = 5 ∧ v = 0 ∧ qs = rs ∧ cs = bs) ∨ (a % 4 = 0 ∧ c0 ≠ 0 ∧ c = fio c0 ∧ v = 0 ∧ qs = rs ∧ cs = bs) ∨
      (a % 4 = 0 ∧ c0 = 0 ∧ c = 0 ∧ ∃ f, RchS k rs bs S i hi (a / 256) 0 qs cs f ∧ f < k ∧ v = le4 (cut (fby cs f) (a % 256) 4)))
/-- a number read by force -/
def PkC (k fb rb mb qb : Nat) (S : List Sq) (i : Nat) (hi : i < S.length) (a : Nat) (rs bs : List Int) (w : World) (e : Ending) (w' : World) : Prop := PkX (rdE k rs bs S[i] a 4 0) k fb rb mb qb S i hi a rs bs w e w'
def PoX (c0 : Int) (k fb rb mb qb : Nat) (S : List Sq) (i : Nat) (hi : i < S.length) (a : Nat) (v : Int) (rs bs : List Int) (w : World) (e : Ending) (w' : World) : Prop :=
  ∃ (c : Int) (qs cs : List Int), e = .returned (erN c) ∧ GM w' k fb rb mb qb qs cs S ∧ But (fun g => g = rb ∨ g = qb) w w' ∧ Pst k qs cs S ∧
    ((a % 4 ≠ 0 ∧ c = 5 ∧ qs = rs ∧ cs = bs) ∨ (a % 4 = 0 ∧ c0 ≠ 0 ∧ c = fio c0 ∧ qs = rs ∧ cs = bs) ∨
      (a % 4 = 0 ∧ c0 = 0 ∧ c = 0 ∧ ∃ f c1, RchS k rs bs S i hi (a / 256) 2 qs c1 f ∧ Pst k qs c1 S ∧ f < k ∧ pf c1 S[i].t (a / 256) = some f ∧ EffD k c1 cs S (fun x => if x = f then splice (fby c1 f) (a % 256) (bf4 v) else fby c1 x)))
/-- a number stored by force -/
def PoC (k fb rb mb qb : Nat) (S : List Sq) (i : Nat) (hi : i < S.length) (a : Nat) (v : Int) (rs bs : List Int) (w : World) (e : Ending) (w' : World) : Prop := PoX (wrE k rs bs S[i] a 4 true) k fb rb mb qb S i hi a v rs bs w e w'
section
variable {w w' : World} {k fb rb mb qb : Nat} {rs bs qs cs : List Int} {S : List Sq} {i : Nat}
theorem rdE_bd (k : Nat) (rs bs : List Int) (s : Sq) (m : Nat) (n u : Int) : rdE k rs bs s m n u = 0 ∨ rdE k rs bs s m n u = 12 ∨ rdE k rs bs s m n u = 14 := by
  unfold rdE
  split
  · exact rchE_bd _ _ _ _ _ _ _
  · exact .inr (.inr rfl)
theorem wrE_bd (k : Nat) (rs bs : List Int) (s : Sq) (m n : Nat) (b : Bool) : wrE k rs bs s m n b = 0 ∨ wrE k rs bs s m n b = 12 ∨ wrE k rs bs s m n b = 14 := by
  unfold wrE
  split
  · exact rchE_bd _ _ _ _ _ _ _
  · exact .inr (.inr rfl)
theorem load4c (b0 b1 b2 b3 : Int) (b cap : Nat) (w : World) (h0 : 0 ≤ b0) (h0' : b0 ≤ 255) (h1 : 0 ≤ b1) (h1' : b1 ≤ 255) (h2 : 0 ≤ b2) (h2' : b2 ≤ 255) (h3 : 0 ≤ b3) (h3' : b3 ≤ 255)
    (c0 : w.cell? ⟨b, 0, none⟩ = some (.int .u8 b0)) (c1 : w.cell? ⟨b, 1, none⟩ = some (.int .u8 b1)) (c2 : w.cell? ⟨b, 2, none⟩ = some (.int .u8 b2)) (c3 : w.cell? ⟨b, 3, none⟩ = some (.int .u8 b3)) :
    Calls Tryz.prog 75 #[.slice (some ⟨b, 0, none⟩) 4 cap] w fun e w' => e = .returned (.tuple #[.int .u32 (b0 + 256 * b1 + 65536 * b2 + 16777216 * b3), .nilIface]) ∧ w = w' := by
  go_enter Tryz.func75, Tryz.ntmps75
  go_wp2_with (go_at_call 127; (with_reducible refine (issize4 _).mono ?_); rintro e w' ⟨rfl, rfl⟩)
  go_rounds 5
  go_ret2
  exact ⟨by rw [← or4 b0 b1 b2 b3 h0 h0' h1 h1' h2 h2' h3 h3']; rfl, rfl⟩
theorem load_own {base : Nat} {v : Value} {l : List Int} (h : OwnB base w v l) (hl : l.length = 4) (ho : Oct l) : Calls Tryz.prog 75 #[v] w fun e w' => e = .returned (.tuple #[.int .u32 (le4 l), .nilIface]) ∧ w = w' := by
  have hb := h.byts
  rcases h.2 with ⟨rfl, hn⟩ | ⟨g, cap, cur, rfl, _⟩
  · omega
  · obtain ⟨_, _, e, _, hc⟩ := hb
    cases e
    have k : ∀ j, j < 4 → w.cell? ⟨g, j, none⟩ = some (.int .u8 (l.getD j 0)) := fun j hj => by
      obtain ⟨a, e, hc⟩ := hc j (by omega)
      cases e
      rw [Addr.add_mid, Nat.zero_add] at hc; exact hc
    have o := fun j => ho.get j
    have := load4c _ _ _ _ g cap w (o 0).1 (o 0).2 (o 1).1 (o 1).2 (o 2).1 (o 2).2 (o 3).1 (o 3).2 (k 0 (by omega)) (k 1 (by omega)) (k 2 (by omega)) (k 3 (by omega))
    rw [hl]; exact this
theorem fby_oct (h : Oct bs) (f : Nat) : Oct (fby bs f) := h.cut _ _
set_option maxHeartbeats 2000000 in
theorem Peek_no (a : Nat) (v : Value) (hn : a % 4 ≠ 0) : Calls Tryz.prog 29 #[v, .int .u32 (a : Int)] w fun e w' => e = .returned (.tuple #[.int .u32 0, .iface 98 (.int .i64 5)]) ∧ w = w' := by
  go_enter Tryz.func29, Tryz.ntmps29
  go_wp2
  go_ret2
  exact ⟨rfl, rfl⟩
set_option maxHeartbeats 4000000 in
theorem Peek_ok (h : GM w k fb rb mb qb rs bs S) (st : Pst k rs bs S) (hi : i < S.length) (ho : S[i].on = true) (a : Nat) (ha : a < 4294967296) :
    Calls Tryz.prog 29 #[.pointer (some ⟨S[i].sb, 0, none⟩), .int .u32 (a : Int)] w (PkC k fb rb mb qb S i hi a rs bs w) := by
  by_cases ca : a % 4 = 0
  · have X := Read_st h st hi ho a 4 0 ha (by omega)
    have B := rdE_bd k rs bs S[i] a 4 0
    unfold ReadDone ReadC at X
    show Calls _ _ _ _ (PkX (rdE k rs bs S[i] a 4 0) k fb rb mb qb S i hi a rs bs w)
    generalize rdE k rs bs S[i] a 4 0 = c1 at *
    clear h st
    go_enter Tryz.func29, Tryz.ntmps29
    go_wp2_with fail
    refine X.mono ?_
    rintro e w2 ⟨v2, l, qs, cs, rfl, o2, g2, b2, s2, ⟨hc, rfl, rfl, rfl⟩ | ⟨rfl, hpl, f, hr, hf, rfl⟩⟩
    · rcases B with rfl | rfl | rfl
      · exact absurd rfl hc
      · rw [erN_pos hc]
        go_wp2_with fail
        refine (nofault_12 _).mono ?_
        rintro e w3 ⟨rfl, rfl⟩
        go_wp2
        go_ret2
        exact ⟨0, 12, qs, cs, by rw [erN_pos hc]; rfl, g2, b2, s2, .inr (.inl ⟨ca, hc, rfl, rfl, rfl, rfl⟩)⟩
      · rw [erN_pos hc]
        go_wp2_with fail
        refine (nofault_14 _).mono ?_
        rintro e w3 ⟨rfl, rfl⟩
        go_wp2
        go_ret2
        exact ⟨0, 5, qs, cs, by rw [erN_pos (by decide)]; rfl, g2, b2, s2, .inr (.inl ⟨ca, hc, rfl, rfl, rfl, rfl⟩)⟩
    · rw [erN_zero]
      have hq := plc_iff.1 hpl
      rw [show (4 : Int).toNat = 4 from rfl] at o2
      have hl : (cut (fby cs f) (a % 256) 4).length = 4 := cut_len _ _ _ (by rw [fby_len s2.pur.hl hf]; omega)
      have Y := load_own o2 hl ((fby_oct g2.ph.oct f).cut _ _)
      obtain ⟨D, hD⟩ : ∃ D, D = cut (fby cs f) (a % 256) 4 := ⟨_, rfl⟩
      rw [← hD] at Y o2 hl
      obtain ⟨p2, k2, rfl⟩ := o2.shape
      have HD := Lib.hid hD
      rw [hl] at Y
      clear hD
      go_wp2_with fail
      refine Y.mono ?_
      rintro e w3 ⟨rfl, rfl⟩
      go_wp2
      go_ret2
      exact ⟨le4 D, 0, qs, cs, by rw [erN_zero]; rfl, g2, b2, s2, .inr (.inr ⟨ca, rfl, rfl, f, hr, hf, by rw [HD.out]⟩)⟩
  · refine (Peek_no a _ ca).mono ?_
    rintro e w' ⟨rfl, rfl⟩
    exact ⟨0, 5, rs, bs, by rw [erN_pos (by decide)], h, But.refl _ _, st, .inl ⟨ca, rfl, rfl, rfl, rfl⟩⟩
set_option maxHeartbeats 2000000 in
theorem Poke_no (a : Nat) (v : Value) (x : Int) (hn : a % 4 ≠ 0) : Calls Tryz.prog 31 #[v, .int .u32 (a : Int), .int .u32 x] w fun e w' => e = .returned (.iface 98 (.int .i64 5)) ∧ w = w' := by
  go_enter Tryz.func31, Tryz.ntmps31
  go_wp2
  go_ret
  exact ⟨rfl, rfl⟩
set_option maxHeartbeats 4000000 in
theorem Poke_ok (h : GM w k fb rb mb qb rs bs S) (st : Pst k rs bs S) (hi : i < S.length) (ho : S[i].on = true) (a : Nat) (ha : a < 4294967296) (v : Int) (v0 : 0 ≤ v) (v1 : v ≤ 4294967295) :
    Calls Tryz.prog 31 #[.pointer (some ⟨S[i].sb, 0, none⟩), .int .u32 (a : Int), .int .u32 v] w (PoC k fb rb mb qb S i hi a v rs bs w) := by
  by_cases ca : a % 4 = 0
  · have N1 := (New.refl w).alloc #[.int .u8 (v % 256), .int .u8 (v / 256 % 256), .int .u8 (v / 65536 % 256), .int .u8 (v / 16777216)] 5
    have B1 := Box.here w _ #[.int .u8 (v % 256), .int .u8 (v / 256 % 256), .int .u8 (v / 65536 % 256), .int .u8 (v / 16777216)] 5 rfl
    have Y := store4 v w v0 v1
    have O1 : OwnB w.heap.size (w.alloc (.cells #[.int .u8 (v % 256), .int .u8 (v / 256 % 256), .int .u8 (v / 65536 % 256), .int .u8 (v / 16777216)] 5)) (.slice (some ⟨w.heap.size, 0, none⟩) (bf4 v).length 4) (bf4 v) :=
      ⟨rfl, .inr ⟨_, 4, _, rfl, Nat.le_refl _, B1, Nat.le_refl 4, by unfold maxLen; omega, rfl, rfl⟩⟩
    have KB : BytsK (fun g => g = rb ∨ g = qb) (w.alloc (.cells #[.int .u8 (v % 256), .int .u8 (v / 256 % 256), .int .u8 (v / 65536 % 256), .int .u8 (v / 16777216)] 5)) (.slice (some ⟨w.heap.size, 0, none⟩) (bf4 v).length 4) (bf4 v) := fun w' b =>
      (O1.but b (by have := h.fr.lt.2; have := h.ph.lt.2; rintro g (rfl | rfl) <;> omega)).byts
    have X := Write_st (h.new N1) st hi ho a (some ⟨w.heap.size, 0, none⟩) 4 (bf4 v) true ha (by show 4 ≤ maxLen; unfold maxLen; omega) (bf4_oct v v0 v1) KB
    have B := wrE_bd k rs bs S[i] a 4 true
    unfold WrtDone WrtC at X
    show Calls _ _ _ _ (PoX (wrE k rs bs S[i] a 4 true) k fb rb mb qb S i hi a v rs bs w)
    have e4 : (bf4 v).length = 4 := rfl
    rw [e4] at X
    generalize wrE k rs bs S[i] a 4 true = c1 at *
    generalize hW : w.alloc (.cells #[.int .u8 (v % 256), .int .u8 (v / 256 % 256), .int .u8 (v / 65536 % 256), .int .u8 (v / 16777216)] 5) = W at *
    clear h st O1 KB B1 hW
    go_enter Tryz.func31, Tryz.ntmps31
    go_wp2_with fail
    refine Y.mono ?_
    rintro e w1 ⟨rfl, rfl⟩
    go_wp2_with fail
    refine X.mono ?_
    rintro e w2 ⟨qs, cs, rfl, g2, b2, s2, hx⟩
    have b3 := (But.of_new (fun g => g = rb ∨ g = qb) N1).trans b2
    rcases hx with ⟨hc, rfl, rfl⟩ | ⟨rfl, hx⟩
    · rcases B with rfl | rfl | rfl
      · exact absurd rfl hc
      · rw [erN_pos hc]
        go_wp2_with fail
        refine (nofault_12 _).mono ?_
        rintro e w3 ⟨rfl, rfl⟩
        go_wp2
        go_ret
        exact ⟨12, qs, cs, by rw [erN_pos hc]; rfl, g2, b3, s2, .inr (.inl ⟨ca, hc, rfl, rfl, rfl⟩)⟩
      · rw [erN_pos hc]
        go_wp2_with fail
        refine (nofault_14 _).mono ?_
        rintro e w3 ⟨rfl, rfl⟩
        go_wp2
        go_ret
        exact ⟨5, qs, cs, by rw [erN_pos (by decide)]; rfl, g2, b3, s2, .inr (.inl ⟨ca, hc, rfl, rfl, rfl⟩)⟩
    · rw [erN_zero]
      obtain ⟨hpl, f, c3, hr, s3, hf, hpf, hD⟩ := hx
      go_wp2_with fail
      refine (nofault_nil _).mono ?_
      rintro e w3 ⟨rfl, rfl⟩
      go_wp2
      go_ret
      exact ⟨0, qs, cs, by rw [erN_zero]; rfl, g2, b3, s2, .inr (.inr ⟨ca, rfl, rfl, f, c3, hr, s3, hf, hpf, hD⟩)⟩
  · refine (Poke_no a _ v ca).mono ?_
    rintro e w' ⟨rfl, rfl⟩
    exact ⟨5, rs, bs, by rw [erN_pos (by decide)], h, But.refl _ _, st, .inl ⟨ca, rfl, rfl, rfl⟩⟩
end
end Go.Proofs.YtgedimlhldfkaaaGreatDoor
