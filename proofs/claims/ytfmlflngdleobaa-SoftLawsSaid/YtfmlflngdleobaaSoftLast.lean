/- Plain facts on binary64 numbers given by their bits: what comes back of whole numbers, and what follows of sums, products, quotients and roots for any bits. No conditions but those that each lemma names. -/
import Derived.Test.YtfmlflngdleobaaSoftMore
namespace Go.Proofs.Ytfmlflngdleobaa
set_option linter.unusedVariables false
/-! ### what comes back -/
theorem rnd_parts (neg : Bool) (m : Nat) (p : Int) (h1 : 4503599627370496 ≤ m) (h2 : m < 9007199254740992) (hp : -1074 ≤ p) (hp' : p ≤ 971) :
    ex (rnd neg m p) = (p + 1075).toNat ∧ fr (rnd neg m p) = m - 4503599627370496 ∧ sgn (rnd neg m p) = neg := by
  have hl : m.log2 = 52 := log2_of (by omega) (by omega)
  have hL : lst m p = p := by unfold lst; omega
  have e : rung m p = (p + 1074).toNat * 4503599627370496 + m := by
    rw [rung_rq, hL, Int.sub_self, rq_nonneg _ _ (by omega)]
    simp; omega
  unfold rnd
  rw [if_neg (by omega), e]
  obtain ⟨a1, a2, a3⟩ := wd_cls neg ((p + 1074).toNat * 4503599627370496 + m) (by omega)
  rw [a1, a2, a3]
  refine ⟨by omega, by omega, rfl⟩
theorem rnd_mg (neg : Bool) (m : Nat) (p : Int) (h1 : 4503599627370496 ≤ m) (h2 : m < 9007199254740992) (hp : -1074 ≤ p) (hp' : p ≤ 971) :
    mg (rnd neg m p) = m ∧ pl (rnd neg m p) = p ∧ sgn (rnd neg m p) = neg ∧ fin (rnd neg m p) = true := by
  obtain ⟨a1, a2, a3⟩ := rnd_parts neg m p h1 h2 hp hp'
  unfold mg pl fin
  rw [a1, a2, a3]
  refine ⟨?_, ?_, rfl, ?_⟩
  · rw [if_neg (by omega)]; omega
  · rw [if_neg (by omega)]; omega
  · simp; omega
/-- the parts of a whole number's bits -/
theorem ofi_parts (n : Int) (h0 : n ≠ 0) (h : n.natAbs ≤ 8589934592) :
    mg (ofi n) = nm n.natAbs ∧ pl (ofi n) = -(nl n.natAbs : Int) ∧ sgn (ofi n) = decide (n < 0) ∧ fin (ofi n) = true := by
  obtain ⟨b1, b2⟩ := nm_bd n.natAbs (by omega) (by omega)
  have hn := nl_le n.natAbs
  have e : ofi n = rnd (decide (n < 0)) (nm n.natAbs) (-(nl n.natAbs : Int)) := by
    unfold ofi nm
    rw [show -((nl n.natAbs : Nat) : Int) = 0 - ((nl n.natAbs : Nat) : Int) from by omega, rnd_scale]
  rw [e]
  exact rnd_mg _ _ _ b1 b2 (by omega) (by omega)
theorem ofi_zero : ofi 0 = 0 := by decide +kernel
theorem ofi_u (n : Int) : U (ofi n) := (ofi_ok n).1
/-- a whole number as 32 bits, bounded -/
def bnd (n : Int) : Int := if 0 ≤ n then (if 2147483648 ≤ n then 2147483647 else n) else (if n ≤ -2147483648 then 2147483648 else n + 4294967296)
theorem toi_ofi (n : Int) (h : n.natAbs ≤ 8589934592) : (toi (ofi n) : Int) = bnd n := by
  by_cases h0 : n = 0
  · subst h0; rw [ofi_zero]; decide +kernel
  · obtain ⟨e1, e2, e3, e4⟩ := ofi_parts n h0 h
    have e5 : tq (nm n.natAbs) (-(nl n.natAbs : Int)) = n.natAbs := by
      unfold tq nm
      by_cases c : 0 ≤ -(nl n.natAbs : Int)
      · rw [if_pos c, show nl n.natAbs = 0 from by omega]; simp
      · rw [if_neg c, show (-(-(nl n.natAbs : Int))).toNat = nl n.natAbs from by omega, Nat.mul_div_cancel _ (Nat.two_pow_pos _)]
    unfold toi
    rw [if_neg ((fin_cls _).1 e4).2, if_neg ((fin_cls _).1 e4).1, e1, e2, e3, e5]
    by_cases c : n < 0
    · rw [show decide (n < 0) = true from by simpa using c]
      by_cases d : 2147483648 ≤ n.natAbs
      · rw [show clampw true n.natAbs = 2147483648 from by unfold clampw; rw [if_pos rfl, if_pos d], show bnd n = 2147483648 from by unfold bnd; rw [if_neg (show ¬ 0 ≤ n by omega), if_pos (show n ≤ -2147483648 by omega)]]; rfl
      · rw [show clampw true n.natAbs = (4294967296 - n.natAbs) % 4294967296 from by unfold clampw; rw [if_pos rfl, if_neg d], show bnd n = n + 4294967296 from by unfold bnd; rw [if_neg (show ¬ 0 ≤ n by omega), if_neg (show ¬ n ≤ -2147483648 by omega)]]
        omega
    · rw [show decide (n < 0) = false from by simpa using c]
      by_cases d : 2147483648 ≤ n.natAbs
      · rw [show clampw false n.natAbs = 2147483647 from by unfold clampw; rw [if_neg Bool.false_ne_true, if_pos d], show bnd n = 2147483647 from by unfold bnd; rw [if_pos (show 0 ≤ n by omega), if_pos (show 2147483648 ≤ n by omega)]]; rfl
      · rw [show clampw false n.natAbs = n.natAbs from by unfold clampw; rw [if_neg Bool.false_ne_true, if_neg d], show bnd n = n from by unfold bnd; rw [if_pos (show 0 ≤ n by omega), if_neg (show ¬ 2147483648 ≤ n by omega)]]
        omega
theorem sg32_bd (v : Nat) (h : v ≤ 4294967295) : -2147483648 ≤ sg32 v ∧ sg32 v ≤ 2147483647 := by unfold sg32; split <;> omega
theorem toi_back (v : Nat) (h : v ≤ 4294967295) : toi (ofi (sg32 v)) = v := by
  have hb := sg32_bd v h
  have e := toi_ofi (sg32 v) (by omega)
  by_cases c : v < 2147483648
  · have s : sg32 v = v := by unfold sg32; rw [if_pos c]
    rw [s] at e hb ⊢
    rw [show bnd (v : Int) = v from by unfold bnd; rw [if_pos (by omega), if_neg (by omega)]] at e
    omega
  · have s : sg32 v = (v : Int) - 4294967296 := by unfold sg32; rw [if_neg c]
    rw [s] at e hb ⊢
    have b : bnd ((v : Int) - 4294967296) = v := by
      unfold bnd; rw [if_neg (by omega)]
      split <;> omega
    omega
theorem mv_ofi (n : Int) (h : n.natAbs ≤ 8589934592) (N : Nat) (hN : N = 1074) : mv (ofi n) = n.natAbs * 2^N := by
  by_cases h0 : n = 0
  · subst h0; rw [ofi_zero, (mv_zero 0).2 (by decide)]; simp
  · obtain ⟨e1, e2, -, -⟩ := ofi_parts n h0 h
    have hn := nl_le n.natAbs
    unfold mv
    rw [e1, e2]; unfold nm
    rw [Nat.mul_assoc, ← Nat.pow_add]
    congr 2; omega
theorem sv_ofi (n : Int) (h : n.natAbs ≤ 8589934592) (N : Nat) (hN : N = 1074) : sv (ofi n) = n * ((2^N : Nat) : Int) := by
  unfold sv
  rw [mv_ofi n h N hN]
  by_cases h0 : n = 0
  · subst h0; rw [ofi_zero]; simp
  · obtain ⟨-, -, e3, -⟩ := ofi_parts n h0 h
    rw [e3, Int.natCast_mul]
    by_cases c : n < 0
    · rw [show decide (n < 0) = true from by simpa using c, if_pos rfl, show ((n.natAbs : Nat) : Int) = -n from by omega, Int.neg_mul, Int.neg_neg]
    · rw [show decide (n < 0) = false from by simpa using c, if_neg Bool.false_ne_true, show ((n.natAbs : Nat) : Int) = n from by omega]
theorem ofi_fin (n : Int) (h : n.natAbs ≤ 8589934592) : fin (ofi n) = true := by
  by_cases h0 : n = 0
  · subst h0; rw [ofi_zero]; decide
  · exact (ofi_parts n h0 h).2.2.2
/-- how whole numbers are held against each other -/
def icmp (x y : Int) : Int := if x < y then -1 else if y < x then 1 else 0
theorem cmp_ofi (x y : Int) (hx : x.natAbs ≤ 8589934592) (hy : y.natAbs ≤ 8589934592) : cmpv (ofi x) (ofi y) = icmp x y := by
  have fx := ofi_fin x hx; have fy' := ofi_fin y hy
  have nx := (fin_cls _).1 fx; have ny := (fin_cls _).1 fy'
  obtain ⟨N, hN⟩ : ∃ N, N = 1074 := ⟨_, rfl⟩
  have ho := order_fin (ofi x) (ofi y) (ofi_u x) (ofi_u y) fx fy'
  rw [sv_ofi x hx N hN, sv_ofi y hy N hN, ← compare_scaled _ _ _ (Nat.two_pow_pos N)] at ho
  have ht := order_three (ofi x) (ofi y) (ofi_u x) (ofi_u y) (by unfold nn; simp [nx.2, ny.2])
  unfold three at ht
  rw [ho] at ht
  unfold icmp
  rcases ht with ⟨h1, h2⟩ | ⟨h1, h2⟩ | ⟨h1, h2⟩
  · have := (cmp_lt x y).1 (Option.some.inj h2); rw [h1, if_pos this]
  · have := (cmp_gt x y).1 (Option.some.inj h2); rw [h1, if_neg (by omega), if_pos this]
  · have := (cmp_eq x y).1 (Option.some.inj h2); rw [h1, if_neg (by omega), if_neg (by omega)]
/-- the signed whole number behind the bits, at any lower place -/
theorem signed_ofi (n : Int) (h : n.natAbs ≤ 8589934592) (base : Int) (hb : base ≤ pl (ofi n)) (hb0 : base ≤ 0) :
    Ieee.signed (sgn (ofi n)) (mg (ofi n)) (pl (ofi n) - base).toNat = n * ((2 ^ (-base).toNat : Nat) : Int) := by
  by_cases h0 : n = 0
  · subst h0; rw [ofi_zero, show mg 0 = 0 from by decide]; unfold Ieee.signed; simp
  · obtain ⟨e1, e2, e3, -⟩ := ofi_parts n h0 h
    rw [signed_eq, e3, e1, e2]
    rw [e2] at hb
    have e : nm n.natAbs * 2 ^ (-(nl n.natAbs : Int) - base).toNat = n.natAbs * 2 ^ (-base).toNat := by
      unfold nm; rw [Nat.mul_assoc, ← Nat.pow_add]; congr 2; omega
    rw [e, Int.natCast_mul]
    by_cases c : n < 0
    · rw [show decide (n < 0) = true from by simpa using c, if_pos rfl, show ((n.natAbs : Nat) : Int) = -n from by omega, Int.neg_mul, Int.neg_neg]
    · rw [show decide (n < 0) = false from by simpa using c, if_neg Bool.false_ne_true, show ((n.natAbs : Nat) : Int) = n from by omega]
theorem pl_ofi (n : Int) (h : n.natAbs ≤ 8589934592) : pl (ofi n) ≤ 0 := by
  by_cases h0 : n = 0
  · subst h0; rw [ofi_zero]; decide
  · rw [(ofi_parts n h0 h).2.1]; omega
theorem sgn_ofi (n : Int) (h : n.natAbs ≤ 8589934592) : sgn (ofi n) = decide (n < 0) := by
  by_cases h0 : n = 0
  · subst h0; rw [ofi_zero]; decide
  · exact (ofi_parts n h0 h).2.2.1
theorem signed_not (s : Bool) (m k : Nat) : Ieee.signed (!s) m k = -Ieee.signed s m k := by unfold Ieee.signed; cases s <;> simp
theorem rnd_whole (z : Bool) (k : Int) (base : Int) (hb0 : base ≤ 0) (hz : k = 0 → z = false) :
    rnd (if k * ((2 ^ (-base).toNat : Nat) : Int) = 0 then z else decide (k * ((2 ^ (-base).toNat : Nat) : Int) < 0)) (k * ((2 ^ (-base).toNat : Nat) : Int)).natAbs base = ofi k := by
  have hp := Nat.two_pow_pos (-base).toNat
  have hp' : (0 : Int) < ((2 ^ (-base).toNat : Nat) : Int) := by exact_mod_cast hp
  have e1 : (k * ((2 ^ (-base).toNat : Nat) : Int)).natAbs = k.natAbs * 2 ^ (-base).toNat := by rw [Int.natAbs_mul, Int.natAbs_natCast]
  have e3 : rnd (decide (k < 0)) (k.natAbs * 2 ^ (-base).toNat) base = ofi k := by
    unfold ofi
    have := rnd_scale (decide (k < 0)) k.natAbs (-base).toNat 0
    rw [show (0 : Int) - (((-base).toNat : Nat) : Int) = base from by omega] at this
    exact this
  rw [e1]
  by_cases h0 : k = 0
  · rw [if_pos (by rw [h0, Int.zero_mul]), hz h0, ← e3]
    subst h0; simp
  · have hne : k * ((2 ^ (-base).toNat : Nat) : Int) ≠ 0 := by
      intro h; rcases Int.mul_eq_zero.1 h with h | h
      · exact h0 h
      · omega
    rw [if_neg hne, ← e3]
    congr 1
    rw [Bool.eq_iff_iff]; simp only [decide_eq_true_eq]
    constructor
    · intro h
      rcases Int.lt_or_le k 0 with c | c
      · exact c
      · have := Int.mul_nonneg c (Int.le_of_lt hp'); omega
    · intro h; exact Int.mul_neg_of_neg_of_pos h hp'
theorem add_ofi (x y : Int) (hx : x.natAbs ≤ 8589934592) (hy : y.natAbs ≤ 8589934592) : opv (Ieee.double.add (ofi x) (ofi y)) = ofi (x + y) := by
  have px := pl_ofi x hx; have py := pl_ofi y hy
  have sx := signed_ofi x hx (min (pl (ofi x)) (pl (ofi y))) (by omega) (by omega)
  have sy := signed_ofi y hy (min (pl (ofi x)) (pl (ofi y))) (by omega) (by omega)
  unfold Ieee.Format.add
  rw [read_fin _ (ofi_u x) (ofi_fin x hx), read_fin _ (ofi_u y) (ofi_fin y hy)]
  unfold Ieee.Datum.sum
  simp only [Option.map_some, opv, Option.getD_some]
  show Ieee.double.nearest _ _ _ = _
  rw [nearest_rnd, sx, sy, ← Int.add_mul]
  exact rnd_whole _ _ _ (by omega) (fun h => by rw [sgn_ofi x hx, sgn_ofi y hy]; simp; omega)
theorem sub_ofi (x y : Int) (hx : x.natAbs ≤ 8589934592) (hy : y.natAbs ≤ 8589934592) : opv (Ieee.double.sub (ofi x) (ofi y)) = ofi (x - y) := by
  have px := pl_ofi x hx; have py := pl_ofi y hy
  have sx := signed_ofi x hx (min (pl (ofi x)) (pl (ofi y))) (by omega) (by omega)
  have sy := signed_ofi y hy (min (pl (ofi x)) (pl (ofi y))) (by omega) (by omega)
  unfold Ieee.Format.sub
  rw [read_fin _ (ofi_u x) (ofi_fin x hx), read_fin _ (ofi_u y) (ofi_fin y hy)]
  simp only [Ieee.Datum.opposite]
  unfold Ieee.Datum.sum
  simp only [Option.map_some, opv, Option.getD_some]
  show Ieee.double.nearest _ _ _ = _
  rw [nearest_rnd, signed_not, sx, sy, show x * ((2 ^ (-min (pl (ofi x)) (pl (ofi y))).toNat : Nat) : Int) + -(y * ((2 ^ (-min (pl (ofi x)) (pl (ofi y))).toNat : Nat) : Int)) = (x - y) * ((2 ^ (-min (pl (ofi x)) (pl (ofi y))).toNat : Nat) : Int) from by rw [Int.sub_mul]; omega]
  exact rnd_whole _ _ _ (by omega) (fun h => by rw [sgn_ofi x hx, sgn_ofi y hy]; simp; omega)
/-! ### what follows for any bits -/
theorem ord_neg (a b : Nat) : ord a b = -ord b a := by
  rcases ord_cases a b with ⟨h1, h2⟩ | ⟨h1, h2⟩ | ⟨h1, h2⟩ <;> rcases ord_cases b a with ⟨h3, h4⟩ | ⟨h3, h4⟩ | ⟨h3, h4⟩ <;> omega
theorem sub_self (a : Nat) (ha : U a) (fa : fin a = true) : opv (Ieee.double.sub a a) = 0 := by
  unfold Ieee.Format.sub
  rw [read_fin a ha fa]
  simp only [Ieee.Datum.opposite]
  unfold Ieee.Datum.sum
  simp only [Option.map_some, opv, Option.getD_some]
  show Ieee.double.nearest _ _ _ = _
  rw [nearest_rnd, signed_not, show ∀ z : Int, z + -z = 0 from fun z => by omega]
  cases sgn a <;> rfl
theorem sub_inf (a : Nat) (ha : U a) (h : cls a = 3) : opv (Ieee.double.sub a a) = Emp := by
  unfold Ieee.Format.sub
  rw [read_inf a ha h]
  simp only [Ieee.Datum.opposite]
  cases sgn a <;> rfl
theorem bits_zero (a : Nat) (ha : U a) (h : mg a = 0) : a = wd (sgn a) 0 := by
  have hf : fin a = true := by
    have := (cls0_mg a).2 h
    exact (fin_cls a).2 ⟨by omega, by omega⟩
  have e := rnd_read a ha hf
  rw [h] at e; unfold rnd at e; simpa using e.symm
theorem cmp_self (a : Nat) (h : cls a ≠ 4) : cmpv a a = 0 := by
  have hn : nn a a = false := by unfold nn; simp [h]
  unfold cmpv; rw [hn, if_neg Bool.false_ne_true]
  split
  · rfl
  · unfold ord ncmp; rw [if_neg (by omega), if_neg (by omega)]
theorem add_zero_cmp (a : Nat) (ha : U a) (fa : fin a = true) : cmpv (opv (Ieee.double.add a 0)) a = 0 := by
  have c := (fin_cls a).1 fa
  by_cases z : mg a = 0
  · rw [add_zero_both a 0 ha (by unfold U; omega) fa (by decide) z (by decide), show sgn 0 = false from by decide, Bool.and_false]
    have h0 := (cls0_mg a).2 z
    have e : wd false 0 = 0 := rfl
    rw [e]
    unfold cmpv
    rw [show nn 0 a = false from by unfold nn; rw [show cls 0 = 0 from by decide, h0]; rfl, if_neg Bool.false_ne_true, show zz 0 a = true from by unfold zz; rw [show cls 0 = 0 from by decide, h0]; rfl, if_pos rfl]
  · rw [add_comm' a 0, add_zero_left 0 a (by unfold U; omega) ha (by decide) fa (by decide) z]
    exact cmp_self a c.2
theorem mul_one' (a : Nat) (ha : U a) (fa : fin a = true) : opv (Ieee.double.mul a 4607182418800017408) = a := by
  have u1 : U 4607182418800017408 := by unfold U; omega
  rw [mul_num a _ ha u1 fa (by decide), show mg 4607182418800017408 = 2^52 from by decide, show pl 4607182418800017408 = -52 from by decide]
  rw [show mneg a 4607182418800017408 = sgn a from by unfold mneg; rw [show sgn 4607182418800017408 = false from by decide]; cases sgn a <;> rfl]
  rw [show pl a + -52 = pl a - ((52 : Nat) : Int) from rfl, rnd_scale, rnd_read a ha fa]
theorem div_one' (a : Nat) (ha : U a) (fa : fin a = true) : opv (Ieee.double.div a 4607182418800017408) = a := by
  have u1 : U 4607182418800017408 := by unfold U; omega
  have la : (mg a).log2 < 53 := by
    by_cases z : mg a = 0
    · rw [z]; decide
    · exact (Nat.log2_lt z).2 (mg_lt a)
  rw [div_num a _ ha u1 fa (by decide) (by decide), show mg 4607182418800017408 = 2^52 from by decide, show pl 4607182418800017408 = -52 from by decide]
  rw [show mneg a 4607182418800017408 = sgn a from by unfold mneg; rw [show sgn 4607182418800017408 = false from by decide]; cases sgn a <;> rfl]
  have hl : (2^52 : Nat).log2 = 52 := by decide
  rw [hl]
  have e : mg a * 2 ^ (54 + 52 - (mg a).log2) = mg a * 2 ^ (54 - (mg a).log2) * 2^52 := by rw [Nat.mul_assoc, ← Nat.pow_add]; congr 2; omega
  have e2 : st (mg a * 2 ^ (54 + 52 - (mg a).log2)) (2^52) = mg a * 2 ^ (55 - (mg a).log2) := by
    unfold st
    rw [e, Nat.mul_div_cancel _ (by decide), Nat.mul_mod_left, show 55 - (mg a).log2 = (54 - (mg a).log2) + 1 from by omega, Nat.pow_succ]
    simp [bn]; ac_rfl
  rw [e2]
  conv => rhs; rw [← rnd_read a ha fa, ← rnd_scale _ _ (55 - (mg a).log2)]
  congr 1; omega
theorem min_nan (a b : Nat) (h : cls a = 4) : minv b a = Emp := by
  unfold minv; rw [show nn b a = true from by unfold nn; rw [h]; simp, if_pos rfl]
theorem sqrt_empty (a : Nat) (ha : U a) (fa : fin a = true) (h0 : 0 < mg a) : (opv (Ieee.double.sqrt a) = Emp) ↔ sgn a = true := by
  constructor
  · intro h
    cases hs : sgn a
    · exfalso
      obtain ⟨W, -, e⟩ := sqrt_ieee a ha fa h0 hs
      rw [e] at h
      have k : cls (rnd false (2 * W + bn (!(W * W == rm (mg a) (pl a) * 2^56))) ((pl a - ((rk (mg a) (pl a) + 56 : Nat) : Int)) / 2 - 1)) ≠ 4 := by
        unfold rnd; exact cls_wd _ _ (by split; omega; exact rung_le _ _)
      rw [h] at k
      exact k (by decide)
    · rfl
  · exact sqrt_neg a ha fa h0
theorem mm_cases (a b : Nat) (h : nn a b = false) :
    (minv a b = a ∨ minv a b = b) ∧ (maxv a b = a ∨ maxv a b = b) ∧ ord (minv a b) (maxv a b) ≤ 0 := by
  unfold minv maxv
  rw [h, if_neg Bool.false_ne_true, if_neg Bool.false_ne_true]
  have k1 := ord_neg a b
  have k2 : ord a a = 0 := by unfold ord ncmp; rw [if_neg (by omega), if_neg (by omega)]
  rcases ord_cases a b with ⟨h1, -⟩ | ⟨h1, -⟩ | ⟨h1, -⟩
  · rw [if_pos (by omega), if_neg (by omega)]; exact ⟨Or.inl rfl, Or.inr rfl, by omega⟩
  · rw [if_neg (by omega), if_pos (by omega)]; exact ⟨Or.inr rfl, Or.inl rfl, by omega⟩
  · rw [if_pos (by omega), if_pos (by omega)]; exact ⟨Or.inl rfl, Or.inl rfl, by omega⟩
end Go.Proofs.Ytfmlflngdleobaa
