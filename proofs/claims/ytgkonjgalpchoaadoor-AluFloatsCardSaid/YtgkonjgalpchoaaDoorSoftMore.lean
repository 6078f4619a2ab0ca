/- More plain facts on binary64 numbers given by their bits, of no program: sums, products, quotients, roots, as the document reckons them and as they are. No conditions but those that each lemma names. -/
import Derived.Test.YtgkonjgalpchoaaDoorSoftMath
namespace Go.Proofs.YtgkonjgalpchoaaDoor
set_option linter.unusedVariables false
/-! ### sums -/
theorem rd_trunc (neg : Bool) (T D : Nat) (p : Int) (h : 9007199254740992 ≤ T / 2^D ∨ T % 2^D = 0) : so_rd neg (T / 2^D) (p + D) (!(T % 2^D == 0)) = rnd neg T p := by
  rcases h with h | h
  · rw [rd_more neg _ _ _ h, rnd_sticky neg T D p h]
    unfold sticky bn
    congr 1
    · congr 1
      by_cases c : T % 2^D = 0
      · simp [c]
      · simp [c]
  · rw [h, show (!((0 : Nat) == 0)) = false from rfl, rd_whole, ← rnd_scale neg _ D, show p + (D : Int) - (D : Int) = p from by omega]
    congr 1
    have := Nat.div_add_mod T (2^D)
    rw [h, Nat.add_zero, Nat.mul_comm] at this
    exact this
theorem signed_eq (s : Bool) (m k : Nat) : Ieee.signed s m k = if s then -((m * 2^k : Nat) : Int) else ((m * 2^k : Nat) : Int) := by
  unfold Ieee.signed; rw [Nat.shiftLeft_eq]
/-- a sum of two numbers, by the greater place first -/
theorem sum_at (s t : Bool) (m n : Nat) (p q : Int) (h : q ≤ p) (hle : s ≠ t → n ≤ m * 2 ^ (p - q).toNat) (hnz : 0 < n) :
    (Ieee.Datum.sum (.number s m p) (.number t n q)).map Ieee.double.write =
      some (let T := if s = t then m * 2 ^ (p - q).toNat + n else m * 2 ^ (p - q).toNat - n
            if T = 0 then 0 else rnd s T q) := by
  have hb : min p q = q := by omega
  unfold Ieee.Datum.sum
  simp only [hb, Option.map_some, Int.sub_self, Int.toNat_zero]
  rw [signed_eq, signed_eq]
  simp only [Nat.pow_zero, Nat.mul_one]
  generalize m * 2 ^ (p - q).toNat = M at *
  congr 1
  show Ieee.double.nearest _ _ _ = _
  rw [nearest_rnd]
  cases s <;> cases t <;> simp only [if_true, if_false, Bool.false_eq_true, Bool.true_eq_false] at hle ⊢
  · rw [if_neg (by omega), if_neg (by omega)]
    rw [show decide ((M : Int) + n < 0) = false from by simp; omega, show ((M : Int) + n).natAbs = M + n from by omega]
  · have := hle (by simp)
    by_cases c : M - n = 0
    · rw [if_pos (by omega), if_pos c, show ((M : Int) + -n).natAbs = 0 from by omega]; unfold rnd so_wd; simp
    · rw [if_neg (by omega), if_neg c]
      rw [show decide ((M : Int) + -n < 0) = false from by simp; omega, show ((M : Int) + -n).natAbs = M - n from by omega]
  · have := hle (by simp)
    by_cases c : M - n = 0
    · rw [if_pos (by omega), if_pos c, show (-(M : Int) + n).natAbs = 0 from by omega]; unfold rnd so_wd; simp
    · rw [if_neg (by omega), if_neg c]
      rw [show decide (-(M : Int) + n < 0) = true from by simp; omega, show (-(M : Int) + n).natAbs = M - n from by omega]
  · rw [if_neg (by omega), if_neg (by omega)]
    rw [show decide (-(M : Int) + -n < 0) = true from by simp; omega, show (-(M : Int) + -n).natAbs = M + n from by omega]
theorem sum_comm (c d : Ieee.Datum) : c.sum d = d.sum c := by
  cases c <;> cases d <;> simp only [Ieee.Datum.sum]
  · rename_i s m i t n j
    rw [Int.min_comm j i, Int.add_comm, Bool.and_comm]
  · rename_i s t
    by_cases h : s = t
    · subst h; rfl
    · rw [if_neg h, if_neg (fun e => h e.symm)]
theorem add_comm' (a b : Nat) : Ieee.double.add a b = Ieee.double.add b a := by
  unfold Ieee.Format.add; rw [sum_comm]
/-- the document's sum of two numbers, of which the first so_one is the greater so_one: what it is at the end of its loop -/
def dd (a b : Nat) : Nat := (pl a - pl b).toNat
def ax (a b : Nat) : Nat := if dd a b = 0 then 256 * mg a else 512 * mg a
def ae (a b : Nat) : Int := if dd a b = 0 then pl a - 8 else pl a - 9
def fy (N j : Nat) : Nat := N / 2^j
def ry (N j : Nat) : Bool := !(N % 2^j == 0)
def ay (a b : Nat) : Nat := fy (256 * mg b) (dd a b - 1)
def ar (a b : Nat) : Bool := ry (256 * mg b) (dd a b - 1)
theorem fy_zero (N : Nat) : fy N 0 = N := by unfold fy; simp
theorem ry_zero (N : Nat) : ry N 0 = false := by unfold ry; simp [Nat.mod_one]
theorem fy_succ (N j : Nat) : fy N j / 2 = fy N (j+1) := by unfold fy; rw [Nat.div_div_eq_div_mul]; rfl
theorem ry_succ (N j : Nat) : (ry N j || fy N j % 2 == 1) = ry N (j+1) := by
  unfold ry fy
  rw [Nat.pow_succ, Nat.mod_mul]
  have h := Nat.mod_lt (N / 2^j) (show 0 < 2 by omega)
  have hp := Nat.two_pow_pos j
  generalize N / 2^j % 2 = b at *
  generalize N % 2^j = c at *
  generalize 2^j = P at *
  rcases (show b = 0 ∨ b = 1 by omega) with rfl | rfl
  · simp
  · simp; omega
/-- so many rounds of halving -/
def aK (a b : Nat) : Nat := min (dd a b - 1) ((256 * mg b).log2 + 1)
theorem fy_pos (N j : Nat) (hN : 0 < N) : 0 < fy N j ↔ j ≤ N.log2 := by
  unfold fy
  rw [Nat.div_pos_iff, Nat.le_log2 (by omega)]
  have := Nat.two_pow_pos j
  omega
theorem fy_le (N j : Nat) : fy N j ≤ N := Nat.div_le_self _ _
theorem ay_end (a b : Nat) (_h : 0 < mg b) : ay a b = fy (256 * mg b) (aK a b) ∧ ar a b = ry (256 * mg b) (aK a b) := by
  unfold ay ar aK
  rcases Nat.le_total (dd a b - 1) ((256 * mg b).log2 + 1) with c | c
  · rw [Nat.min_eq_left c]; exact ⟨rfl, rfl⟩
  · rw [Nat.min_eq_right c]
    have hl : 256 * mg b < 2 ^ ((256 * mg b).log2 + 1) := Nat.lt_log2_self
    have h2 : 2 ^ ((256 * mg b).log2 + 1) ≤ 2 ^ (dd a b - 1) := Nat.pow_le_pow_right (by decide) c
    unfold fy ry
    rw [Nat.div_eq_of_lt hl, Nat.div_eq_of_lt (by omega), Nat.mod_eq_of_lt hl, Nat.mod_eq_of_lt (by omega)]
    exact ⟨rfl, rfl⟩
/-- sorted -/
def srt (a b : Nat) : Prop := pl b < pl a ∨ (pl a = pl b ∧ mg b ≤ mg a)
theorem pl_norm (a : Nat) (h : -1074 < pl a) : 4503599627370496 ≤ mg a := by
  unfold pl at h; unfold mg
  split at h
  · omega
  · rename_i c; rw [if_neg c]; omega
theorem srt_norm (a b : Nat) (hb : fin b = true) (h : 0 < dd a b) : 4503599627370496 ≤ mg a := by
  have := pl_bd b hb
  unfold dd at h
  exact pl_norm a (by omega)
theorem ax_bd (a b : Nat) : ax a b ≤ 4611686018427387904 := by
  have := mg_lt a
  unfold ax; split <;> omega
theorem ax_big (a b : Nat) (hb : fin b = true) (h : 0 < dd a b) : 2305843009213693952 ≤ ax a b := by
  have := srt_norm a b hb h
  unfold ax; rw [if_neg (by omega)]; omega
theorem ay_bd (a b : Nat) : ay a b ≤ 2305843009213693696 := by
  have := mg_lt b
  have := fy_le (256 * mg b) (dd a b - 1)
  unfold ay; omega
theorem ar_no (a b : Nat) (h : dd a b = 0) : ay a b = 256 * mg b ∧ ar a b = false := by
  unfold ay ar; rw [h]; exact ⟨fy_zero _, ry_zero _⟩
theorem ax_ge (a b : Nat) (hb : fin b = true) (h : srt a b) : ay a b ≤ ax a b := by
  by_cases c : dd a b = 0
  · rw [(ar_no a b c).1]; unfold ax; rw [if_pos c]
    unfold srt at h; unfold dd at c; omega
  · have := ax_big a b hb (by omega); have := ay_bd a b; omega
theorem bn_not (N j : Nat) : ry N j = !(N % 2^j == 0) := rfl
/-- all in the least unit -/
theorem sum_tot (a b : Nat) (h : 0 < dd a b) : 256 * (mg a * 2 ^ dd a b) = 512 * mg a * 2 ^ (dd a b - 1) := by
  obtain ⟨D, hD⟩ : ∃ D, dd a b = D + 1 := ⟨dd a b - 1, by omega⟩
  rw [hD, Nat.add_sub_cancel, Nat.pow_succ, Nat.mul_assoc 512]
  rw [show mg a * (2^D * 2) = 2 * (mg a * 2^D) from by ac_rfl]; omega
theorem div_add' (X N D : Nat) : (X * 2^D + N) / 2^D = X + fy N D ∧ (!((X * 2^D + N) % 2^D == 0)) = ry N D := by
  have h := Nat.two_pow_pos D
  unfold fy ry
  constructor
  · rw [Nat.add_comm, Nat.add_mul_div_right _ _ h, Nat.add_comm]
  · rw [Nat.add_comm, Nat.add_mul_mod_self_right]
theorem div_sub' (X N D : Nat) (hX : fy N D < X) : (X * 2^D - N) / 2^D = X - fy N D - bn (ry N D) ∧ (!((X * 2^D - N) % 2^D == 0)) = ry N D := by
  have h := Nat.two_pow_pos D
  have e := Nat.div_add_mod N (2^D)
  have l := Nat.mod_lt N h
  unfold ry fy bn at *
  generalize N / 2^D = q at *
  generalize N % 2^D = r at *
  generalize 2^D = P at *
  obtain ⟨u, rfl⟩ : ∃ u, X = q + u + 1 := ⟨X - q - 1, by omega⟩
  have e2 : (q + u + 1) * P = P * q + u * P + P := by rw [Nat.add_mul, Nat.add_mul, Nat.one_mul, Nat.mul_comm q]
  by_cases c : r = 0
  · subst c
    rw [show (q + u + 1) * P - N = (u + 1) * P from by rw [e2, ← e, Nat.add_mul]; omega]
    rw [Nat.mul_div_cancel _ h, Nat.mul_mod_left]
    simp; omega
  · rw [show (q + u + 1) * P - N = (P - r) + u * P from by rw [e2, ← e]; omega]
    rw [Nat.add_mul_div_right _ _ h, Nat.add_mul_mod_self_right, Nat.div_eq_of_lt (by omega), Nat.mod_eq_of_lt (by omega)]
    have c2 : (P - r == 0) = false := by simp; omega
    have c3 : (r == 0) = false := by simpa using c
    rw [c2, c3]; simp; omega
theorem add_same (a b : Nat) (ha : U a) (hb : U b) (fa : fin a = true) (fb : fin b = true) (_h0 : 0 < mg a) (h1 : 0 < mg b) (h : srt a b) (hs : sgn a = sgn b) :
    opv (Ieee.double.add a b) = so_rd (sgn a) (ax a b + ay a b) (ae a b) (ar a b) := by
  unfold Ieee.Format.add
  rw [read_fin a ha fa, read_fin b hb fb, sum_at _ _ _ _ _ _ (by unfold srt at h; omega) (fun k => absurd hs k) h1]
  simp only [hs, if_true, opv, Option.getD_some]
  rw [if_neg (by omega)]
  change rnd (sgn b) (mg a * 2 ^ dd a b + mg b) (pl b) = _
  by_cases c : dd a b = 0
  · have e : pl a = pl b := by unfold srt at h; unfold dd at c; omega
    rw [(ar_no a b c).1, (ar_no a b c).2, rd_whole]; unfold ax ae
    rw [if_pos c, if_pos c, c, e, show 256 * mg a + 256 * mg b = (mg a * 2^0 + mg b) * 2^8 from by omega, show pl b - 8 = pl b - ((8 : Nat) : Int) from rfl, rnd_scale]
  · have hbig := ax_big a b fb (by omega)
    obtain ⟨e1, e2⟩ := div_add' (512 * mg a) (256 * mg b) (dd a b - 1)
    have k := rd_trunc (sgn b) (512 * mg a * 2 ^ (dd a b - 1) + 256 * mg b) (dd a b - 1) (pl b - 8) (Or.inl (by rw [e1]; unfold ax at hbig; rw [if_neg c] at hbig; omega))
    rw [e1, e2] at k
    rw [← rnd_scale (sgn b) _ 8, show (mg a * 2 ^ dd a b + mg b) * 2^8 = 512 * mg a * 2 ^ (dd a b - 1) + 256 * mg b from by rw [← sum_tot a b (by omega)]; omega]
    rw [show pl b - ((8 : Nat) : Int) = pl b - 8 from rfl, ← k]
    unfold ax ay ae ar
    rw [if_neg c, if_neg c]
    congr 1
    unfold srt at h; unfold dd at *; omega
theorem add_diff (a b : Nat) (ha : U a) (hb : U b) (fa : fin a = true) (fb : fin b = true) (_h0 : 0 < mg a) (h1 : 0 < mg b) (h : srt a b) (hs : sgn a ≠ sgn b) :
    opv (Ieee.double.add a b) = if ax a b - ay a b - bn (ar a b) = 0 ∧ ar a b = false then 0 else so_rd (sgn a) (ax a b - ay a b - bn (ar a b)) (ae a b) (ar a b) := by
  unfold Ieee.Format.add
  have hle : mg b ≤ mg a * 2 ^ (pl a - pl b).toNat := by
    by_cases c : dd a b = 0
    · have e : pl a = pl b := by unfold srt at h; unfold dd at c; omega
      unfold srt at h; rw [e]; simp; omega
    · have k := srt_norm a b fb (by omega)
      have k2 := mg_lt b
      have k3 : 2 ^ 1 ≤ 2 ^ (pl a - pl b).toNat := Nat.pow_le_pow_right (by decide) (by unfold dd at c; omega)
      have k4 : 4503599627370496 * 2^1 ≤ mg a * 2 ^ (pl a - pl b).toNat := Nat.mul_le_mul k k3
      omega
  rw [read_fin a ha fa, read_fin b hb fb, sum_at _ _ _ _ _ _ (by unfold srt at h; omega) (fun _ => hle) h1]
  simp only [hs, if_false, opv, Option.getD_some]
  change (if mg a * 2 ^ dd a b - mg b = 0 then 0 else rnd (sgn a) (mg a * 2 ^ dd a b - mg b) (pl b)) = _
  by_cases c : dd a b = 0
  · have e : pl a = pl b := by unfold srt at h; unfold dd at c; omega
    rw [(ar_no a b c).1, (ar_no a b c).2, rd_whole]; unfold ax ae
    rw [if_pos c, if_pos c, c, e, show bn false = 0 from rfl]
    by_cases z : mg a = mg b
    · rw [if_pos (by omega), if_pos ⟨by omega, rfl⟩]
    · have : mg b < mg a := by unfold srt at h; omega
      rw [if_neg (by omega), if_neg (by omega), show 256 * mg a - 256 * mg b - 0 = (mg a * 2^0 - mg b) * 2^8 from by omega, show pl b - 8 = pl b - ((8 : Nat) : Int) from rfl, rnd_scale]
  · have hbig := ax_big a b fb (by omega)
    have hay := ay_bd a b
    have hl : fy (256 * mg b) (dd a b - 1) < 512 * mg a := by unfold ax at hbig; rw [if_neg c] at hbig; unfold ay at hay; omega
    obtain ⟨e1, e2⟩ := div_sub' (512 * mg a) (256 * mg b) (dd a b - 1) hl
    have hbn := bn_le (ry (256 * mg b) (dd a b - 1))
    have k := rd_trunc (sgn a) (512 * mg a * 2 ^ (dd a b - 1) - 256 * mg b) (dd a b - 1) (pl b - 8) (by
      by_cases hD : dd a b - 1 = 0
      · right; rw [hD]; exact Nat.mod_one _
      · left; rw [e1]; unfold ax at hbig; rw [if_neg c] at hbig
        have h9 : fy (256 * mg b) (dd a b - 1) ≤ 256 * mg b / 2 := by
          unfold fy
          exact Nat.div_le_div_left (Nat.pow_le_pow_right (n := 2) (i := 1) (by decide) (by omega)) (by decide)
        have := mg_lt b
        omega)
    have hT : 512 * mg a * 2 ^ (dd a b - 1) - 256 * mg b ≠ 0 := by
      intro z
      rw [z] at e1; simp at e1
      unfold ax at hbig; rw [if_neg c] at hbig; unfold ay at hay; omega
    rw [e1, e2] at k
    have hs2 := sum_tot a b (by omega)
    rw [if_neg (by omega)]
    rw [← rnd_scale (sgn a) _ 8, show (mg a * 2 ^ dd a b - mg b) * 2^8 = 512 * mg a * 2 ^ (dd a b - 1) - 256 * mg b from by rw [← hs2]; omega]
    rw [show pl b - ((8 : Nat) : Int) = pl b - 8 from rfl, ← k]
    rw [if_neg (fun hh => by have h9 := hh.1; unfold ax ay ar at h9; rw [if_neg c] at h9; unfold ax at hbig; rw [if_neg c] at hbig; unfold ay at hay; omega)]
    unfold ax ay ae ar
    rw [if_neg c, if_neg c]
    congr 1
    unfold srt at h; unfold dd at *; omega
theorem add_zero_left (a b : Nat) (ha : U a) (hb : U b) (fa : fin a = true) (fb : fin b = true) (h0 : mg a = 0) (h1 : mg b ≠ 0) : opv (Ieee.double.add a b) = b := by
  unfold Ieee.Format.add
  rw [read_fin a ha fa, read_fin b hb fb, h0]
  unfold Ieee.Datum.sum
  simp only [Option.map_some, opv, Option.getD_some]
  show Ieee.double.nearest _ _ _ = _
  rw [signed_eq, signed_eq, nearest_rnd]
  have hp := Nat.mul_pos (show 0 < mg b by omega) (Nat.two_pow_pos (pl b - min (pl a) (pl b)).toNat)
  have hr := rnd_read b hb fb
  rw [← rnd_scale _ _ (pl b - min (pl a) (pl b)).toNat, show pl b - (((pl b - min (pl a) (pl b)).toNat : Nat) : Int) = min (pl a) (pl b) from by omega] at hr
  generalize mg b * 2 ^ (pl b - min (pl a) (pl b)).toNat = T at *
  rw [Nat.zero_mul]
  conv => rhs; rw [← hr]
  cases sgn a <;> cases sgn b <;> simp only [if_true, if_false, Bool.false_eq_true]
  · rw [if_neg (by omega), show decide (((0 : Nat) : Int) + (T : Int) < 0) = false from by first | (simp; done) | (simp; omega), show (((0 : Nat) : Int) + (T : Int)).natAbs = T from by omega]
  · rw [if_neg (by omega), show decide (((0 : Nat) : Int) + -(T : Int) < 0) = true from by first | (simp; done) | (simp; omega), show (((0 : Nat) : Int) + -(T : Int)).natAbs = T from by omega]
  · rw [if_neg (by omega), show decide (-((0 : Nat) : Int) + (T : Int) < 0) = false from by first | (simp; done) | (simp; omega), show (-((0 : Nat) : Int) + (T : Int)).natAbs = T from by omega]
  · rw [if_neg (by omega), show decide (-((0 : Nat) : Int) + -(T : Int) < 0) = true from by first | (simp; done) | (simp; omega), show (-((0 : Nat) : Int) + -(T : Int)).natAbs = T from by omega]
theorem add_zero_both (a b : Nat) (ha : U a) (hb : U b) (fa : fin a = true) (fb : fin b = true) (h0 : mg a = 0) (h1 : mg b = 0) : opv (Ieee.double.add a b) = so_wd (sgn a && sgn b) 0 := by
  unfold Ieee.Format.add
  rw [read_fin a ha fa, read_fin b hb fb, h0, h1]
  unfold Ieee.Datum.sum
  simp only [Option.map_some, opv, Option.getD_some]
  show Ieee.double.nearest _ _ _ = _
  rw [signed_eq, signed_eq, nearest_rnd, Nat.zero_mul, Nat.zero_mul]
  cases sgn a <;> cases sgn b <;> rfl
theorem add_nan (a b : Nat) (ha : U a) (hb : U b) (h : nn a b = true) : opv (Ieee.double.add a b) = Emp := by
  unfold nn at h
  unfold Ieee.Format.add
  by_cases c : cls a = 4
  · rw [read_nan a ha c]; rfl
  · have d : cls b = 4 := by simpa [c] using h
    rw [read_nan b hb d]; cases Ieee.double.read a <;> rfl
theorem wd_inf (a : Nat) (ha : U a) (h : cls a = 3) : so_wd (sgn a) 9218868437227405312 = a := by
  have e := split_u a ha
  rw [cls3] at h
  unfold so_wd
  conv => rhs; rw [e]
  rw [h.1, h.2]
  cases sgn a <;> rfl
theorem write_inf (s : Bool) : Ieee.double.write (.infinity s) = so_wd s 9218868437227405312 := by
  show Ieee.double.word s Ieee.double.infRung = _
  rw [infr]; unfold Ieee.Format.word so_wd; rw [sw]
theorem add_inf (a b : Nat) (ha : U a) (hb : U b) (h : nn a b = false) (h3 : cls a = 3) : opv (Ieee.double.add a b) = if cls b = 3 ∧ sgn a ≠ sgn b then Emp else a := by
  have n2 : cls b ≠ 4 := by intro c; unfold nn at h; simp [c] at h
  unfold Ieee.Format.add
  rw [read_inf a ha h3]
  by_cases hb3 : cls b = 3
  · rw [read_inf b hb hb3, show Ieee.Datum.sum (.infinity (sgn a)) (.infinity (sgn b)) = if sgn a = sgn b then some (.infinity (sgn a)) else none from rfl]
    by_cases hs : sgn a = sgn b
    · rw [if_pos hs, if_neg (by simp [hs])]
      simp only [Option.map_some, opv, Option.getD_some]
      rw [write_inf, wd_inf a ha h3]
    · rw [if_neg hs, if_pos ⟨hb3, hs⟩]; rfl
  · rw [read_fin b hb ((fin_cls b).2 ⟨hb3, n2⟩), if_neg (by simp [hb3])]
    rw [show Ieee.Datum.sum (.infinity (sgn a)) (.number (sgn b) (mg b) (pl b)) = some (.infinity (sgn a)) from rfl]
    simp only [Option.map_some, opv, Option.getD_some]
    rw [write_inf, wd_inf a ha h3]
theorem ar_big (a b : Nat) (fb : fin b = true) (h : ar a b = true) : 4503599627370496 ≤ ax a b - ay a b - bn (ar a b) ∧ 4503599627370496 ≤ ax a b + ay a b := by
  have hD : dd a b - 1 ≠ 0 := by
    intro z
    unfold ar at h; rw [z, ry_zero] at h; cases h
  have hbig := ax_big a b fb (by omega)
  have h9 : ay a b ≤ 256 * mg b / 2 := by
    unfold ay fy
    exact Nat.div_le_div_left (Nat.pow_le_pow_right (n := 2) (i := 1) (by decide) (by omega)) (by decide)
  have := mg_lt b
  have := bn_le (ar a b)
  omega
theorem ae_bd (a b : Nat) (fa : fin a = true) : -1083 ≤ ae a b ∧ ae a b ≤ 971 := by
  have := pl_bd a fa
  unfold ae; split <;> omega
theorem dd_bd (a b : Nat) (fa : fin a = true) (fb : fin b = true) : dd a b ≤ 2045 := by
  have := pl_bd a fa; have := pl_bd b fb
  unfold dd; omega
/-! ### products -/
def so_nl (m : Nat) : Nat := 52 - m.log2
def so_nm (m : Nat) : Nat := m * 2 ^ so_nl m
theorem nl_iff (m i : Nat) (h0 : 0 < m) (h : m < 9007199254740992) : m * 2^i < 4503599627370496 ↔ i < so_nl m := by
  have hl : m.log2 < 53 := (Nat.log2_lt (by omega)).2 (by omega)
  have hp := Nat.two_pow_pos i
  have e : m * 2^i < 4503599627370496 ↔ m.log2 + i < 52 := by
    rw [show (4503599627370496 : Nat) = 2^52 from by decide, ← log2_scale m i h0, Nat.log2_lt]
    rw [Ne, Nat.mul_eq_zero]; omega
  rw [e]; unfold so_nl; omega
theorem nl_le (m : Nat) : so_nl m ≤ 52 := by unfold so_nl; omega
theorem so_nm_bd (m : Nat) (h0 : 0 < m) (h : m < 9007199254740992) : 4503599627370496 ≤ so_nm m ∧ so_nm m < 9007199254740992 := by
  have h1 := nl_iff m (so_nl m) h0 h
  have h2 : ¬ (m * 2 ^ so_nl m < 4503599627370496) := fun k => Nat.lt_irrefl _ (h1.1 k)
  unfold so_nm
  refine ⟨by omega, ?_⟩
  cases hn : so_nl m with
  | zero => simp; omega
  | succ k =>
    have h3 := (nl_iff m k h0 h).2 (by omega)
    rw [Nat.pow_succ, ← Nat.mul_assoc]; omega
theorem mul_parts (x y : Nat) (_hx : x < 9007199254740992) (_hy : y < 9007199254740992) :
    (x / 134217728) * (y / 134217728) + ((x / 134217728) * (y % 134217728) + (x % 134217728) * (y / 134217728) + (x % 134217728) * (y % 134217728) / 134217728) / 134217728 = x * y / 18014398509481984 ∧
    ((x / 134217728) * (y % 134217728) + (x % 134217728) * (y / 134217728) + (x % 134217728) * (y % 134217728) / 134217728) % 134217728 * 134217728 + (x % 134217728) * (y % 134217728) % 134217728 = x * y % 18014398509481984 := by
  have ex := Nat.div_add_mod x 134217728
  have ey := Nat.div_add_mod y 134217728
  generalize x / 134217728 = a at *
  generalize x % 134217728 = b at *
  generalize y / 134217728 = c at *
  generalize y % 134217728 = d at *
  have e : x * y = 18014398509481984 * (a * c) + 134217728 * (a * d + b * c) + b * d := by
    rw [← ex, ← ey, Nat.add_mul, Nat.mul_add, Nat.mul_add, Nat.mul_add]
    rw [show 134217728 * a * (134217728 * c) = 18014398509481984 * (a * c) from by
      rw [show (18014398509481984 : Nat) = 134217728 * 134217728 from by decide]; ac_rfl]
    rw [show 134217728 * a * d = 134217728 * (a * d) from Nat.mul_assoc _ _ _, show b * (134217728 * c) = 134217728 * (b * c) from by ac_rfl]
    omega
  rw [e]
  generalize a * c = p
  generalize a * d = q
  generalize b * c = r
  generalize b * d = s
  omega
theorem mul_bds (x y : Nat) (hx : x < 9007199254740992) (hy : y < 9007199254740992) :
    (x % 134217728) * (y % 134217728) ≤ 18014398509481984 ∧ (x / 134217728) * (y % 134217728) ≤ 18014398509481984 ∧ (x % 134217728) * (y / 134217728) ≤ 18014398509481984 ∧ (x / 134217728) * (y / 134217728) ≤ 18014398509481984 := by
  have a1 : x / 134217728 ≤ 134217728 := by omega
  have a2 : x % 134217728 ≤ 134217728 := by omega
  have a3 : y / 134217728 ≤ 134217728 := by omega
  have a4 : y % 134217728 ≤ 134217728 := by omega
  have e : (18014398509481984 : Nat) = 134217728 * 134217728 := by decide
  rw [e]
  exact ⟨Nat.mul_le_mul a2 a4, Nat.mul_le_mul a1 a4, Nat.mul_le_mul a2 a3, Nat.mul_le_mul a1 a3⟩
def mneg (a b : Nat) : Bool := sgn a != sgn b
theorem mneg_xor (a b : Nat) : (sgn a ^^ sgn b) = mneg a b := by unfold mneg; cases sgn a <;> cases sgn b <;> rfl
theorem mul_nan (a b : Nat) (ha : U a) (hb : U b) (h : nn a b = true) : opv (Ieee.double.mul a b) = Emp := by
  unfold nn at h
  unfold Ieee.Format.mul
  by_cases c : cls a = 4
  · rw [read_nan a ha c]; rfl
  · have d : cls b = 4 := by simpa [c] using h
    rw [read_nan b hb d]; cases Ieee.double.read a <;> rfl
theorem mul_num (a b : Nat) (ha : U a) (hb : U b) (fa : fin a = true) (fb : fin b = true) : opv (Ieee.double.mul a b) = rnd (mneg a b) (mg a * mg b) (pl a + pl b) := by
  unfold Ieee.Format.mul
  rw [read_fin a ha fa, read_fin b hb fb, show Ieee.Datum.product (.number (sgn a) (mg a) (pl a)) (.number (sgn b) (mg b) (pl b)) = some (.number (sgn a ^^ sgn b) (mg a * mg b) (pl a + pl b)) from rfl]
  simp only [Option.map_some, opv, Option.getD_some]
  show Ieee.double.nearest _ _ _ = _
  rw [nearest_rnd, mneg_xor]
theorem mul_comm' (a b : Nat) : Ieee.double.mul a b = Ieee.double.mul b a := by
  unfold Ieee.Format.mul
  congr 1
  cases Ieee.double.read a <;> cases Ieee.double.read b <;> simp only [Ieee.Datum.product, Bool.xor_comm, Nat.mul_comm, Int.add_comm]
theorem mneg_comm (a b : Nat) : mneg a b = mneg b a := by unfold mneg; cases sgn a <;> cases sgn b <;> rfl
theorem mul_inf (a b : Nat) (ha : U a) (hb : U b) (h : nn a b = false) (h3 : cls a = 3) : opv (Ieee.double.mul a b) = if cls b = 0 then Emp else so_wd (mneg a b) 9218868437227405312 := by
  have n2 : cls b ≠ 4 := by intro c; unfold nn at h; simp [c] at h
  unfold Ieee.Format.mul
  rw [read_inf a ha h3]
  by_cases b3 : cls b = 3
  · rw [read_inf b hb b3, if_neg (by omega), show Ieee.Datum.product (.infinity (sgn a)) (.infinity (sgn b)) = some (.infinity (sgn a ^^ sgn b)) from rfl]
    simp only [Option.map_some, opv, Option.getD_some]
    rw [write_inf, mneg_xor]
  · have fb := (fin_cls b).2 ⟨b3, n2⟩
    rw [read_fin b hb fb, show Ieee.Datum.product (.infinity (sgn a)) (.number (sgn b) (mg b) (pl b)) = if mg b = 0 then none else some (.infinity (sgn a ^^ sgn b)) from rfl]
    by_cases z : cls b = 0
    · rw [if_pos z, if_pos ((cls0_mg b).1 z)]; rfl
    · rw [if_neg z, if_neg (fun k => z ((cls0_mg b).2 k))]
      simp only [Option.map_some, opv, Option.getD_some]
      rw [write_inf, mneg_xor]
theorem mul_rd (a b : Nat) (ha : U a) (hb : U b) (fa : fin a = true) (fb : fin b = true) (h0 : 0 < mg a) (h1 : 0 < mg b) :
    opv (Ieee.double.mul a b) = so_rd (mneg a b) (256 * (so_nm (mg a) * so_nm (mg b) / 18014398509481984) + so_nm (mg a) * so_nm (mg b) % 18014398509481984 / 70368744177664) ((pl a - so_nl (mg a)) + (pl b - so_nl (mg b)) + 46) (decide (0 < so_nm (mg a) * so_nm (mg b) % 18014398509481984 % 70368744177664)) := by
  rw [mul_num a b ha hb fa fb]
  obtain ⟨a1, a2⟩ := so_nm_bd _ h0 (mg_lt a)
  obtain ⟨b1, b2⟩ := so_nm_bd _ h1 (mg_lt b)
  have hT : 4503599627370496 * 4503599627370496 ≤ so_nm (mg a) * so_nm (mg b) := Nat.mul_le_mul a1 b1
  have e : mg a * mg b * 2 ^ (so_nl (mg a) + so_nl (mg b)) = so_nm (mg a) * so_nm (mg b) := by unfold so_nm; rw [Nat.pow_add]; ac_rfl
  rw [← rnd_scale _ _ (so_nl (mg a) + so_nl (mg b)), e]
  generalize so_nm (mg a) * so_nm (mg b) = T at *
  have k := rd_trunc (mneg a b) T 46 (pl a + pl b - ((so_nl (mg a) + so_nl (mg b) : Nat) : Int)) (Or.inl (by omega))
  rw [← k]
  rw [show 256 * (T / 18014398509481984) + T % 18014398509481984 / 70368744177664 = T / 2^46 from by omega]
  rw [show decide (0 < T % 18014398509481984 % 70368744177664) = !(T % 2^46 == 0) from by
    rw [Bool.eq_iff_iff]; simp; omega]
  rw [show pl a + pl b - ((so_nl (mg a) + so_nl (mg b) : Nat) : Int) + ((46 : Nat) : Int) = (pl a - so_nl (mg a)) + (pl b - so_nl (mg b)) + 46 from by omega]
theorem mul_zero (a b : Nat) (ha : U a) (hb : U b) (fa : fin a = true) (fb : fin b = true) (h : mg a = 0 ∨ mg b = 0) : opv (Ieee.double.mul a b) = so_wd (mneg a b) 0 := by
  rw [mul_num a b ha hb fa fb, show mg a * mg b = 0 from by rcases h with h | h <;> simp [h]]
  unfold rnd; simp
/-! ### quotients -/
def st (A n : Nat) : Nat := 2 * (A / n) + bn (!(A % n == 0))
theorem st_scale (A n e : Nat) : st (A * 2^e) (n * 2^e) = st A n := by
  have h := Nat.two_pow_pos e
  unfold st
  rw [Nat.mul_div_mul_right _ _ h, Nat.mul_mod_mul_right]
  rcases Nat.eq_zero_or_pos (A % n) with z | z
  · rw [z, Nat.zero_mul]
  · have := Nat.mul_pos z h
    rw [show (A % n * 2^e == 0) = false from by simp only [beq_eq_false_iff_ne]; omega, show (A % n == 0) = false from by simp only [beq_eq_false_iff_ne]; omega]
theorem rnd_st (neg : Bool) (A n c : Nat) (p : Int) (hn : 0 < n) (h : 9007199254740992 ≤ A / n) : rnd neg (st (A * 2^c) n) (p - c) = rnd neg (st A n) p := by
  have hc := Nat.two_pow_pos c
  have e := Nat.div_add_mod A n
  have l := Nat.mod_lt A hn
  -- what is left over, c places on
  have q1 : A * 2^c / n = A / n * 2^c + (A % n) * 2^c / n := by
    conv => lhs; rw [← e, Nat.add_mul, Nat.mul_assoc, Nat.mul_add_div hn]
  have q2 : A * 2^c % n = (A % n) * 2^c % n := by
    conv => lhs; rw [← e, Nat.add_mul, Nat.mul_assoc, Nat.mul_add_mod]
  have l2 : (A % n) * 2^c / n < 2^c := by
    rw [Nat.div_lt_iff_lt_mul hn, Nat.mul_comm (2^c)]
    exact Nat.mul_lt_mul_of_pos_right l hc
  have hb := bn_le (!(A * 2^c % n == 0))
  have hd : st (A * 2^c) n / 2^(c+1) = A / n := by
    unfold st
    rw [Nat.pow_succ, Nat.mul_comm (2^c), ← Nat.div_div_eq_div_mul, show (2 * (A * 2^c / n) + bn (!(A * 2^c % n == 0))) / 2 = A * 2^c / n from by omega, q1]
    rw [Nat.mul_comm, Nat.mul_add_div hc, Nat.div_eq_of_lt l2, Nat.add_zero]
  have hm : st (A * 2^c) n % 2^(c+1) = 0 ↔ A % n = 0 := by
    unfold st
    rw [Nat.pow_succ, Nat.mul_comm (2^c), Nat.mod_mul, show (2 * (A * 2^c / n) + bn (!(A * 2^c % n == 0))) / 2 = A * 2^c / n from by omega, q1]
    rw [Nat.mul_add_mod, Nat.mul_comm (A/n), Nat.mul_add_mod, Nat.mod_eq_of_lt l2, q2]
    have e2 := Nat.div_add_mod ((A % n) * 2^c) n
    constructor
    · intro k
      have k1 : (A % n) * 2^c / n = 0 := by omega
      have k3 : bn (!((A % n) * 2^c % n == 0)) = 0 := by have := bn_le (!((A % n) * 2^c % n == 0)); omega
      have k4 : (A % n) * 2^c % n = 0 := by
        rcases Nat.eq_zero_or_pos ((A % n) * 2^c % n) with z | z
        · exact z
        · exfalso
          rw [show ((A % n) * 2^c % n == 0) = false from by simp; omega] at k3
          simp [bn] at k3
      rw [k1, k4] at e2
      rcases Nat.eq_zero_or_pos (A % n) with z | z
      · exact z
      · have := Nat.mul_pos z hc; omega
    · intro k
      rw [k]; simp [bn]
  rw [rnd_sticky neg _ (c+1) _ (by rw [hd]; exact h)]
  have hh : (if st (A * 2^c) n % 2^(c+1) = 0 then 0 else 1) = bn (!(A % n == 0)) := by
    by_cases z : A % n = 0
    · rw [if_pos (hm.2 z), z]; rfl
    · rw [if_neg (fun k => z (hm.1 k))]; simp [z, bn]
  unfold sticky
  rw [hd, hh]
  change rnd neg (st A n) _ = _
  congr 1; omega
theorem div_nan (a b : Nat) (ha : U a) (hb : U b) (h : nn a b = true) : opv (Ieee.double.div a b) = Emp := by
  unfold nn at h
  unfold Ieee.Format.div
  by_cases c : cls a = 4
  · rw [read_nan a ha c]; rfl
  · have d : cls b = 4 := by simpa [c] using h
    rw [read_nan b hb d]; cases Ieee.double.read a <;> rfl
theorem div_special (a b : Nat) (ha : U a) (hb : U b) (h : nn a b = false) (hs : cls a = 3 ∨ cls b = 3 ∨ cls b = 0) :
    opv (Ieee.double.div a b) = if (cls a = 3 ∧ cls b = 3) ∨ (cls a = 0 ∧ cls b = 0) then Emp else if cls a = 3 ∨ cls b = 0 then so_wd (mneg a b) 9218868437227405312 else so_wd (mneg a b) 0 := by
  have n1 : cls a ≠ 4 := by intro c; unfold nn at h; simp [c] at h
  have n2 : cls b ≠ 4 := by intro c; unfold nn at h; simp [c] at h
  unfold Ieee.Format.div
  by_cases a3 : cls a = 3
  · rw [read_inf a ha a3]
    by_cases b3 : cls b = 3
    · rw [read_inf b hb b3, if_pos (Or.inl ⟨a3, b3⟩)]; rfl
    · rw [read_fin b hb ((fin_cls b).2 ⟨b3, n2⟩), if_neg (by omega), if_pos (Or.inl a3)]
      show opv (some (Ieee.double.write (.infinity (sgn a ^^ sgn b)))) = _
      simp only [opv, Option.getD_some]
      rw [write_inf, mneg_xor]
  · have fa := (fin_cls a).2 ⟨a3, n1⟩
    rw [read_fin a ha fa]
    by_cases b3 : cls b = 3
    · rw [read_inf b hb b3, if_neg (by omega), if_neg (by omega)]
      show opv (some (Ieee.double.write (.number (sgn a ^^ sgn b) 0 0))) = _
      simp only [opv, Option.getD_some]
      rw [mneg_xor]; rfl
    · have b0 : cls b = 0 := by omega
      rw [read_fin b hb ((fin_cls b).2 ⟨b3, n2⟩)]
      have z := (cls0_mg b).1 b0
      by_cases a0 : cls a = 0
      · rw [if_pos (Or.inr ⟨a0, b0⟩)]
        have z2 := (cls0_mg a).1 a0
        simp only [Ieee.Datum.quotient, z, z2, if_true]; rfl
      · rw [if_neg (by omega), if_pos (Or.inr b0)]
        have z2 : mg a ≠ 0 := fun k => a0 ((cls0_mg a).2 k)
        simp only [Ieee.Datum.quotient, z, z2, if_true, if_false, Option.map_some, opv, Option.getD_some]
        rw [write_inf, mneg_xor]
theorem toNat_bn (x : Nat) : (x != 0).toNat = bn (!(x == 0)) := by by_cases h : x = 0 <;> simp [h, bn]
theorem div_num (a b : Nat) (ha : U a) (hb : U b) (fa : fin a = true) (fb : fin b = true) (h1 : 0 < mg b) :
    opv (Ieee.double.div a b) = rnd (mneg a b) (st (mg a * 2 ^ (54 + (mg b).log2 - (mg a).log2)) (mg b)) (pl a - pl b - ((54 + (mg b).log2 - (mg a).log2 : Nat) : Int) - 1) := by
  unfold Ieee.Format.div
  rw [read_fin a ha fa, read_fin b hb fb]
  simp only [Ieee.Datum.quotient]
  rw [if_neg (by omega)]
  simp only [Option.map_some, opv, Option.getD_some, Nat.shiftLeft_eq]
  show Ieee.double.nearest _ _ _ = _
  rw [nearest_rnd, mneg_xor, toNat_bn]
  rfl
theorem div_rd (a b : Nat) (ha : U a) (hb : U b) (fa : fin a = true) (fb : fin b = true) (h0 : 0 < mg a) (h1 : 0 < mg b) :
    opv (Ieee.double.div a b) = so_rd (mneg a b) (so_nm (mg a) * 2^60 / so_nm (mg b)) ((pl a - so_nl (mg a)) - (pl b - so_nl (mg b)) - 60) (!(so_nm (mg a) * 2^60 % so_nm (mg b) == 0)) := by
  rw [div_num a b ha hb fa fb h1]
  obtain ⟨a1, a2⟩ := so_nm_bd _ h0 (mg_lt a)
  obtain ⟨b1, b2⟩ := so_nm_bd _ h1 (mg_lt b)
  have la : (mg a).log2 < 53 := (Nat.log2_lt (by omega)).2 (mg_lt a)
  have lb : (mg b).log2 < 53 := (Nat.log2_lt (by omega)).2 (mg_lt b)
  have hq : 9007199254740992 ≤ so_nm (mg a) * 2^60 / so_nm (mg b) := by
    rw [Nat.le_div_iff_mul_le (by omega)]; omega
  rw [rd_more _ _ _ _ hq]
  change _ = rnd (mneg a b) (st (so_nm (mg a) * 2^60) (so_nm (mg b))) _
  have hA : 9007199254740992 ≤ mg a * 2 ^ (54 + (mg b).log2 - (mg a).log2) / mg b := by
    rw [Nat.le_div_iff_mul_le h1]
    have k1 : mg b < 2 ^ ((mg b).log2 + 1) := Nat.lt_log2_self
    have k2 := Nat.log2_self_le (n := mg a) (by omega)
    have k3 : 2 ^ (mg a).log2 * 2 ^ (54 + (mg b).log2 - (mg a).log2) ≤ mg a * 2 ^ (54 + (mg b).log2 - (mg a).log2) := Nat.mul_le_mul_right _ k2
    rw [← Nat.pow_add, show (mg a).log2 + (54 + (mg b).log2 - (mg a).log2) = 53 + ((mg b).log2 + 1) from by omega, Nat.pow_add] at k3
    have k4 : 2^53 * mg b ≤ 2^53 * 2 ^ ((mg b).log2 + 1) := Nat.mul_le_mul_left _ (by omega)
    omega
  have e : so_nm (mg a) * 2^60 = mg a * 2 ^ (54 + (mg b).log2 - (mg a).log2) * 2^6 * 2^(so_nl (mg b)) := by
    unfold so_nm so_nl
    rw [Nat.mul_assoc, Nat.mul_assoc, Nat.mul_assoc, ← Nat.pow_add, ← Nat.pow_add, ← Nat.pow_add]
    congr 2; omega
  rw [e, show so_nm (mg b) = mg b * 2 ^ so_nl (mg b) from rfl, st_scale, ← rnd_st _ _ _ 6 _ h1 hA]
  congr 1
  unfold so_nl; omega
theorem div_zero (a b : Nat) (ha : U a) (hb : U b) (fa : fin a = true) (fb : fin b = true) (h0 : mg a = 0) (h1 : 0 < mg b) : opv (Ieee.double.div a b) = so_wd (mneg a b) 0 := by
  rw [div_num a b ha hb fa fb h1, h0]
  unfold st rnd bn; simp
/-- the quotient's loop -/
theorem div_step (X Y i : Nat) (_hY : 0 < Y) : 2 * (X * 2^i / Y) + 2 * (X * 2^i % Y) / Y = X * 2^(i+1) / Y ∧ 2 * (X * 2^i % Y) % Y = X * 2^(i+1) % Y := by
  have e := Nat.div_add_mod (X * 2^i) Y
  have e2 : X * 2^(i+1) = Y * (2 * (X * 2^i / Y)) + 2 * (X * 2^i % Y) := by
    rw [Nat.pow_succ, ← Nat.mul_assoc, show X * 2^i * 2 = 2 * (X * 2^i) from Nat.mul_comm _ _]
    conv => lhs; rw [← e, Nat.mul_add]
    congr 1; ac_rfl
  rw [e2, Nat.mul_add_div _hY, Nat.mul_add_mod]
  exact ⟨rfl, rfl⟩
/-! ### roots -/
theorem toNat_sq (x y : Nat) : (x != y).toNat = bn (!(x == y)) := by by_cases h : x = y <;> simp [h, bn]
/-- the whole root -/
def isRoot (n r : Nat) : Prop := r * r ≤ n ∧ n < (r + 1) * (r + 1)
theorem root_from (n : Nat) : ∀ (todo root : Nat), root * root ≤ n → n < (root + 2^todo) * (root + 2^todo) → isRoot n (Ieee.Datum.rootFrom n todo root)
  | 0, root, h1, h2 => ⟨h1, by simpa [Ieee.Datum.rootFrom] using h2⟩
  | todo + 1, root, h1, h2 => by
    unfold Ieee.Datum.rootFrom
    simp only [Nat.shiftLeft_eq, Nat.one_mul]
    by_cases c : (root + 2^todo) * (root + 2^todo) ≤ n
    · rw [if_pos c]
      exact root_from n todo _ c (by rw [Nat.pow_succ] at h2; rw [show root + 2^todo + 2^todo = root + 2^todo * 2 from by omega]; exact h2)
    · rw [if_neg c]
      exact root_from n todo _ h1 (by omega)
theorem sq_lt {a b : Nat} (h : a * a < b * b) : a < b := by
  rcases Nat.lt_or_ge a b with c | c
  · exact c
  · have := Nat.mul_le_mul c c; omega
theorem root_unique {n r s : Nat} (h : isRoot n r) (k : isRoot n s) : r = s := by
  have a : r < s + 1 := sq_lt (Nat.lt_of_le_of_lt h.1 k.2)
  have b : s < r + 1 := sq_lt (Nat.lt_of_le_of_lt k.1 h.2)
  omega
theorem root_start (n : Nat) : isRoot n (Ieee.Datum.rootFrom n (n.log2 / 2 + 1) 0) := by
  refine root_from n _ 0 (Nat.zero_le _) ?_
  rw [Nat.zero_add, ← Nat.pow_add]
  have h1 : n < 2 ^ (n.log2 + 1) := Nat.lt_log2_self
  have h2 : 2 ^ (n.log2 + 1) ≤ 2 ^ (n.log2 / 2 + 1 + (n.log2 / 2 + 1)) := Nat.pow_le_pow_right (by decide) (by omega)
  omega
/-- so many doublings ahead of the root -/
def rk (m : Nat) (p : Int) : Nat := if (p - so_nl m) % 2 = 0 then so_nl m else so_nl m + 1
theorem rk_iff (m : Nat) (p : Int) (i : Nat) (h0 : 0 < m) (h : m < 9007199254740992) (hi : i ≤ rk m p) : (m * 2^i < 4503599627370496 ∨ (p - i) % 2 ≠ 0) ↔ i < rk m p := by
  rw [nl_iff m i h0 h]
  unfold rk at *
  split at hi
  · rename_i c; rw [if_pos c]
    rcases Nat.lt_or_ge i (so_nl m) with d | d
    · simp [d]
    · have : i = so_nl m := by omega
      subst this; simp; omega
  · rename_i c; rw [if_neg c]
    rcases Nat.lt_or_ge i (so_nl m) with d | d
    · simp [d]; omega
    · rcases Nat.eq_or_lt_of_le d with e | e
      · subst e; simp; omega
      · have : i = so_nl m + 1 := by omega
        subst this; simp; omega
def rm (m : Nat) (p : Int) : Nat := m * 2 ^ rk m p
theorem rk_le (m : Nat) (p : Int) : rk m p ≤ 53 := by have := nl_le m; unfold rk; split <;> omega
theorem rm_bd (m : Nat) (p : Int) (h0 : 0 < m) (h : m < 9007199254740992) : 4503599627370496 ≤ rm m p ∧ rm m p < 18014398509481984 := by
  obtain ⟨h1, h2⟩ := so_nm_bd m h0 h
  unfold rm rk; unfold so_nm at h1 h2
  split
  · omega
  · rw [Nat.pow_succ, ← Nat.mul_assoc]; omega
theorem rk_even (m : Nat) (p : Int) : (p - rk m p) % 2 = 0 := by unfold rk; split <;> omega
/-- what is under the root, i steps on -/
def rN (T i : Nat) : Nat := T / 4^(57 - i)
def rX (M i : Nat) : Nat := M * 4^i % 18014398509481984
def two (M i : Nat) : Nat := rN (M * 2^60) (i+1) % 4
theorem rN_zero (M : Nat) (h : M < 18014398509481984) : rN (M * 2^60) 0 = 0 := by
  unfold rN
  apply Nat.div_eq_of_lt
  rw [show (4 : Nat)^(57 - 0) = 2^54 * 2^60 from by decide]
  exact Nat.mul_lt_mul_of_pos_right (by omega) (by decide)
theorem rN_end (T : Nat) : rN T 57 = T := by unfold rN; simp
theorem rN_succ (T i : Nat) (h : i < 57) : rN T (i+1) = 4 * rN T i + rN T (i+1) % 4 := by
  unfold rN
  rw [show 57 - i = (57 - (i+1)) + 1 from by omega, Nat.pow_succ, ← Nat.div_div_eq_div_mul]
  omega
theorem rX_zero (M : Nat) (h : M < 18014398509481984) : rX M 0 = M := by unfold rX; rw [Nat.pow_zero, Nat.mul_one, Nat.mod_eq_of_lt h]
theorem rX_succ (M i : Nat) : rX M (i+1) = 4 * (rX M i % 4503599627370496) := by
  unfold rX
  rw [Nat.pow_succ, ← Nat.mul_assoc]
  omega
theorem rX_lt (M i : Nat) : rX M i < 18014398509481984 := by unfold rX; omega
theorem four_two (k : Nat) : 4^k = 2^(2*k) := by rw [show (4 : Nat) = 2^2 from rfl, ← Nat.pow_mul]
theorem two_low (M i : Nat) (h : i < 27) : rX M i / 4503599627370496 % 4 = two M i := by
  unfold rX two rN
  rw [four_two, four_two]
  have e1 : M * 2^60 / 2^(2 * (57 - (i+1))) = M / 2^(52 - 2*i) := by
    rw [show 2 * (57 - (i+1)) = (52 - 2*i) + 60 from by omega, Nat.pow_add, Nat.mul_div_mul_right _ _ (Nat.two_pow_pos 60)]
  have e2 : M * 2^(2*i) / 4503599627370496 = M / 2^(52 - 2*i) := by
    rw [show (4503599627370496 : Nat) = 2^(52 - 2*i) * 2^(2*i) from by rw [← Nat.pow_add, show 52 - 2*i + 2*i = 52 from by omega], Nat.mul_div_mul_right _ _ (Nat.two_pow_pos _)]
  rw [e1, ← e2]; omega
theorem two_high (M i : Nat) (h : 27 ≤ i) (h' : i < 57) : two M i = 0 := by
  unfold two rN
  rw [four_two, show (60 : Nat) = (2*i - 54 + 2) + 2 * (57 - (i+1)) from by omega, Nat.pow_add, ← Nat.mul_assoc, Nat.mul_div_cancel _ (Nat.two_pow_pos _), Nat.pow_add, ← Nat.mul_assoc]
  omega
theorem two_lt (M i : Nat) : two M i < 4 := by unfold two; omega
/-- what the root's loop keeps -/
def Rt (M i root rest : Nat) : Prop := root * root + rest = rN (M * 2^60) i ∧ rest ≤ 2 * root
theorem rt_bd (M i root rest : Nat) (hM : M < 18014398509481984) (h : Rt M i root rest) : root < 144115188075855872 ∧ rest ≤ 288230376151711744 := by
  have h1 : rN (M * 2^60) i ≤ M * 2^60 := Nat.div_le_self _ _
  have h2 : root < 144115188075855872 := by
    apply sq_lt
    have := h.1
    omega
  have := h.2
  omega
theorem rt_up (M i root rest : Nat) (h' : i < 57) (h : Rt M i root rest) (c : 2 * (2 * root) + 1 ≤ 4 * rest + two M i) : Rt M (i+1) (2 * root + 1) (4 * rest + two M i - 2 * (2 * root) - 1) := by
  have e := rN_succ (M * 2^60) i h'
  have t := two_lt M i
  obtain ⟨h1, h2⟩ := h
  unfold Rt
  rw [e]
  change _ = 4 * rN (M * 2^60) i + two M i ∧ _
  rw [← h1]
  have e2 : (2 * root + 1) * (2 * root + 1) = 4 * (root * root) + 4 * root + 1 := by
    rw [Nat.add_mul, Nat.mul_add, show 2 * root * (2 * root) = 4 * (root * root) from by rw [show (4 : Nat) = 2 * 2 from rfl]; ac_rfl]; omega
  rw [e2]; omega
theorem rt_stay (M i root rest : Nat) (h' : i < 57) (h : Rt M i root rest) (c : ¬ (2 * (2 * root) + 1 ≤ 4 * rest + two M i)) : Rt M (i+1) (2 * root) (4 * rest + two M i) := by
  have e := rN_succ (M * 2^60) i h'
  obtain ⟨h1, h2⟩ := h
  unfold Rt
  rw [e]
  change _ = 4 * rN (M * 2^60) i + two M i ∧ _
  rw [← h1, show 2 * root * (2 * root) = 4 * (root * root) from by rw [show (4 : Nat) = 2 * 2 from rfl]; ac_rfl]
  omega
theorem rt_zero (M : Nat) (h : M < 18014398509481984) : Rt M 0 0 0 := by
  unfold Rt; rw [rN_zero M h]; omega
theorem rt_root {M root rest : Nat} (h : Rt M 57 root rest) : isRoot (M * 2^60) root ∧ root * root + rest = M * 2^60 := by
  obtain ⟨h1, h2⟩ := h
  rw [rN_end] at h1
  refine ⟨⟨by omega, ?_⟩, h1⟩
  rw [Nat.add_mul, Nat.mul_add]; omega
theorem root_low (M root : Nat) (hM : 4503599627370496 ≤ M) (hr : isRoot (M * 2^60) root) : 36028797018963968 ≤ root := by
  rcases Nat.lt_or_ge root 36028797018963968 with c | c
  · exfalso
    have c1 : root + 1 ≤ 36028797018963968 := by omega
    have k1 : (root + 1) * (root + 1) ≤ 36028797018963968 * 36028797018963968 := Nat.mul_le_mul c1 c1
    have k3 := hr.2
    generalize (root + 1) * (root + 1) = R at *
    omega
  · exact c
theorem root_parts' (Z root rest W : Nat) (hr : isRoot (16 * Z) root) (he : root * root + rest = 16 * Z) (hw : isRoot Z W) :
    W = root / 4 ∧ ((root % 4 = 0 ∧ rest = 0) ↔ W * W = Z) := by
  have hW : W = root / 4 := by
    refine root_unique hw ⟨?_, ?_⟩
    · have k := Nat.mul_le_mul (show 4 * (root / 4) ≤ root by omega) (show 4 * (root / 4) ≤ root by omega)
      rw [show 4 * (root/4) * (4 * (root/4)) = 16 * (root/4 * (root/4)) from by rw [show (16 : Nat) = 4 * 4 from rfl]; ac_rfl] at k
      have := hr.1; omega
    · have k := Nat.mul_le_mul (show root + 1 ≤ 4 * (root / 4 + 1) by omega) (show root + 1 ≤ 4 * (root / 4 + 1) by omega)
      rw [show 4 * (root/4 + 1) * (4 * (root/4 + 1)) = 16 * ((root/4 + 1) * (root/4 + 1)) from by rw [show (16 : Nat) = 4 * 4 from rfl]; ac_rfl] at k
      have k2 := hr.2
      generalize (root + 1) * (root + 1) = R at *
      generalize (root/4 + 1) * (root/4 + 1) = S at *
      omega
  refine ⟨hW, ?_⟩
  have e16 : 4 * W * (4 * W) = 16 * (W * W) := by rw [show (16 : Nat) = 4 * 4 from rfl]; ac_rfl
  constructor
  · rintro ⟨k1, k2⟩
    have k3 : root = 4 * W := by omega
    rw [k2, k3, e16] at he; omega
  · intro k
    have k0 : isRoot (16 * Z) (4 * W) := ⟨by rw [e16]; omega, by rw [Nat.add_mul, Nat.mul_add, e16]; omega⟩
    have k1 := root_unique hr k0
    have k2 : rest = 0 := by rw [k1, e16] at he; omega
    omega
theorem pow60 (M : Nat) : M * 2^60 = 16 * (M * 2^56) := by rw [show 2^60 = 16 * 2^56 from by decide]; ac_rfl
theorem root_parts (M root rest W : Nat) (hr : isRoot (M * 2^60) root) (he : root * root + rest = M * 2^60) (hw : isRoot (M * 2^56) W) :
    W = root / 4 ∧ ((root % 4 = 0 ∧ rest = 0) ↔ W * W = M * 2^56) := by
  rw [pow60] at hr he
  exact root_parts' (M * 2^56) root rest W hr he hw
theorem rnd_root (M root rest W : Nat) (p : Int) (hM : 4503599627370496 ≤ M) (hr : isRoot (M * 2^60) root) (he : root * root + rest = M * 2^60) (hw : isRoot (M * 2^56) W) :
    so_rd false root p (decide (0 < rest)) = rnd false (2 * W + bn (!(W * W == M * 2^56))) (p + 1) := by
  have hroot := root_low M root hM hr
  obtain ⟨hW, hz⟩ := root_parts M root rest W hr he hw
  have hb := bn_le (decide (0 < rest))
  rw [rd_more _ _ _ _ (by omega), rnd_sticky false (2 * root + bn (decide (0 < rest))) 3 _ (by omega)]
  have h8 : (2 * root + bn (decide (0 < rest))) / 2^3 = W := by rw [hW]; omega
  have hbn : bn (decide (0 < rest)) = 0 ↔ rest = 0 := by
    rcases Nat.eq_zero_or_pos rest with z | z
    · rw [z]; simp [bn]
    · rw [show decide (0 < rest) = true from by simpa using z]; simp [bn]; omega
  have h9 : (2 * root + bn (decide (0 < rest))) % 2^3 = 0 ↔ W * W = M * 2^56 := by rw [← hz, ← hbn]; omega
  have hh : (if (2 * root + bn (decide (0 < rest))) % 2^3 = 0 then 0 else 1) = bn (!(W * W == M * 2^56)) := by
    by_cases z : W * W = M * 2^56
    · rw [if_pos (h9.2 z), z]; simp [bn]
    · rw [if_neg (fun k => z (h9.1 k)), show (W * W == M * 2^56) = false from by simpa using z]; rfl
  unfold sticky
  rw [h8, hh]
  congr 1
  omega
theorem sqrt_ieee (a : Nat) (ha : U a) (fa : fin a = true) (h0 : 0 < mg a) (hs : sgn a = false) :
    ∃ W, isRoot (rm (mg a) (pl a) * 2^56) W ∧ opv (Ieee.double.sqrt a) = rnd false (2 * W + bn (!(W * W == rm (mg a) (pl a) * 2^56))) ((pl a - ((rk (mg a) (pl a) + 56 : Nat) : Int)) / 2 - 1) := by
  have la : (mg a).log2 < 53 := (Nat.log2_lt (by omega)).2 (mg_lt a)
  have hx : 2 * (Ieee.double.fractionBits + 2) - (mg a).log2 = 108 - (mg a).log2 := rfl
  have hmore : 108 - (mg a).log2 + ((pl a - ((108 - (mg a).log2 : Nat) : Int)) % 2).toNat = rk (mg a) (pl a) + 56 := by
    unfold rk so_nl; split <;> omega
  have hA : mg a * 2 ^ (rk (mg a) (pl a) + 56) = rm (mg a) (pl a) * 2^56 := by unfold rm; rw [Nat.pow_add, Nat.mul_assoc]
  refine ⟨_, root_start _, ?_⟩
  unfold Ieee.Format.sqrt
  rw [read_fin a ha fa]
  simp only [Ieee.Datum.root]
  rw [if_neg (by omega), hs, hx, hmore]
  simp only [Bool.false_eq_true, if_false, Option.map_some, opv, Option.getD_some, Nat.shiftLeft_eq]
  rw [hA, toNat_sq]
  exact nearest_rnd _ _ _
theorem sqrt_num (a : Nat) (ha : U a) (fa : fin a = true) (h0 : 0 < mg a) (hs : sgn a = false) (root rest : Nat) (h : Rt (rm (mg a) (pl a)) 57 root rest) :
    opv (Ieee.double.sqrt a) = so_rd false root ((pl a - rk (mg a) (pl a)) / 2 - 30) (decide (0 < rest)) := by
  obtain ⟨hr, he⟩ := rt_root h
  have hm := rm_bd (mg a) (pl a) h0 (mg_lt a)
  obtain ⟨W, hw, e⟩ := sqrt_ieee a ha fa h0 hs
  rw [e, rnd_root _ root rest W _ hm.1 hr he hw]
  have hev := rk_even (mg a) (pl a)
  congr 1
  omega
theorem sqrt_nan (a : Nat) (ha : U a) (h : cls a = 4) : opv (Ieee.double.sqrt a) = Emp := by
  unfold Ieee.Format.sqrt; rw [read_nan a ha h]; rfl
theorem sqrt_inf (a : Nat) (ha : U a) (h : cls a = 3) : opv (Ieee.double.sqrt a) = if sgn a then Emp else a := by
  unfold Ieee.Format.sqrt; rw [read_inf a ha h]
  cases hs : sgn a
  · show opv (some (Ieee.double.write (.infinity false))) = _
    simp only [opv, Option.getD_some]
    rw [write_inf, ← hs, wd_inf a ha h, hs]; rfl
  · rfl
theorem sqrt_zero (a : Nat) (ha : U a) (h : cls a = 0) : opv (Ieee.double.sqrt a) = a := by
  have fa := (fin_cls a).2 ⟨by omega, by omega⟩
  unfold Ieee.Format.sqrt; rw [read_fin a ha fa]
  simp only [Ieee.Datum.root]
  rw [if_pos ((cls0_mg a).1 h)]
  simp only [Option.map_some, opv, Option.getD_some]
  show Ieee.double.nearest _ _ _ = _
  rw [nearest_rnd, rnd_read a ha fa]
theorem sqrt_neg (a : Nat) (ha : U a) (fa : fin a = true) (h0 : 0 < mg a) (hs : sgn a = true) : opv (Ieee.double.sqrt a) = Emp := by
  unfold Ieee.Format.sqrt; rw [read_fin a ha fa]
  simp only [Ieee.Datum.root]
  rw [if_neg (by omega), hs]; rfl
end Go.Proofs.YtgkonjgalpchoaaDoor
