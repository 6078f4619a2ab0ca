/- How many pages there are, counted one by one; what Add and Protect ask. No program. -/
import Derived.Test.YtfkjgbenjdmedaaDoorReH
namespace Go.Proofs.YtfkjgbenjdmedaaDoor
set_option linter.unusedVariables false
theorem rpg_find (l : List Rg) (q : Int) : rpg l q = (l.find? fun r => inR r q).map (·.p) := by
  induction l with
  | nil => rfl
  | cons r l ih =>
    simp only [rpg, List.find?_cons]
    cases h : inR r q with
    | true => rfl
    | false => simpa using ih
theorem atO_pg {l : List Rg} (h : ROk l) (q : Int) : (atO l q).map (·.p) = rpg l q := by
  unfold atO; rw [rokb_iff.2 h, if_pos rfl, rpg_find]
theorem atO_some {l : List Rg} (h : ROk l) (q : Int) : (atO l q).isSome = (rpg l q).isSome := by rw [← atO_pg h]; simp
/-- how many of the n pages from one on there are -/
def cnt (g : Int → Option Nat) (a : Int) : Nat → Nat
  | 0 => 0
  | n + 1 => cnt g a n + if (g (a + n)).isSome then 1 else 0
theorem cnt_le (g : Int → Option Nat) (a : Int) (n : Nat) : cnt g a n ≤ n := by
  induction n with
  | zero => exact Nat.le_refl _
  | succ n ih => simp only [cnt]; split <;> omega
theorem cnt_ext {g h : Int → Option Nat} {a : Int} {n : Nat} (k : ∀ q, a ≤ q → q < a + n → (g q).isSome = (h q).isSome) : cnt g a n = cnt h a n := by
  induction n with
  | zero => rfl
  | succ n ih =>
    simp only [cnt]
    rw [ih fun q h1 h2 => k q h1 (by omega), k (a + n) (by omega) (by omega)]
theorem cnt_add (g : Int → Option Nat) (a : Int) (m n : Nat) : cnt g a (m + n) = cnt g a m + cnt g (a + m) n := by
  induction n with
  | zero => rfl
  | succ n ih =>
    rw [← Nat.add_assoc]
    simp only [cnt]
    rw [ih, show a + ((m + n : Nat) : Int) = a + m + n by omega]; omega
theorem cnt_none {g : Int → Option Nat} {a : Int} {n : Nat} (k : ∀ q, a ≤ q → q < a + n → g q = none) : cnt g a n = 0 := by
  induction n with
  | zero => rfl
  | succ n ih => simp only [cnt]; rw [ih fun q h1 h2 => k q h1 (by omega), k (a + n) (by omega) (by omega)]; rfl
theorem cnt_all {g : Int → Option Nat} {a : Int} {n : Nat} (k : ∀ q, a ≤ q → q < a + n → (g q).isSome = true) : cnt g a n = n := by
  induction n with
  | zero => rfl
  | succ n ih => simp only [cnt]; rw [ih fun q h1 h2 => k q h1 (by omega), k (a + n) (by omega) (by omega)]; rfl
theorem cnt_full {g : Int → Option Nat} {a : Int} {n : Nat} (k : cnt g a n = n) : ∀ q, a ≤ q → q < a + n → (g q).isSome = true := by
  induction n with
  | zero => intro q h1 h2; omega
  | succ n ih =>
    simp only [cnt] at k
    have := cnt_le g a n
    intro q h1 h2
    by_cases c : (g (a + n)).isSome = true
    · rw [if_pos c] at k
      by_cases d : q < a + n
      · exact ih (by omega) q h1 d
      · obtain rfl : q = a + n := by omega
        exact c
    · rw [if_neg c] at k; omega
theorem rsz_cnt_from : ∀ (l : List Rg) (b : Int), 0 ≤ b → b ≤ 4096 → RAsc l → (∀ s ∈ l, b ≤ s.f) → rsz l = (cnt (rpg l) b (4096 - b).toNat : Int)
  | [], b, _, _, _, _ => by rw [cnt_none (g := rpg []) fun q _ _ => rfl]; rfl
  | r :: l, b, h0, h1, h, hs => by
    have hr := okR_iff.1 h.1
    have hb := hs r List.mem_cons_self
    have ih := rsz_cnt_from l r.t (by omega) (by omega) h.2.2 (RAsc.above h)
    have e : (4096 - b).toNat = (r.f - b).toNat + ((r.t - r.f).toNat + (4096 - r.t).toNat) := by omega
    rw [e, cnt_add, cnt_add]
    rw [cnt_none (g := rpg (r :: l)) (a := b) fun q h1 h2 => rpg_none.2 fun s hs' => by
      have := hs s hs'
      rw [inR_not]
      rcases List.mem_cons.1 hs' with rfl | hs'
      · omega
      · have := RAsc.above h s hs'; omega]
    rw [cnt_all (g := rpg (r :: l)) fun q h1 h2 => by rw [RAsc.pg_at h List.mem_cons_self (inR_iff.2 (by omega))]; rfl]
    rw [show b + ((r.f - b).toNat : Int) + ((r.t - r.f).toNat : Int) = r.t by omega]
    rw [cnt_ext (g := rpg (r :: l)) (h := rpg l) fun q h1 h2 => by simp only [rpg]; rw [if_neg (by rw [inR_iff]; omega)]]
    simp only [rsz]; omega
theorem rsz_cnt {l : List Rg} (h : RAsc l) : rsz l = (cnt (rpg l) 0 4096 : Int) :=
  rsz_cnt_from l 0 (by omega) (by omega) h fun s hs => (okR_iff.1 (RCh.mem h s hs)).1
/-- the pages of a part -/
theorem rsz_part {l : List Rg} (h : ROk l) {a b : Int} (hab : okP a b = true) : rsz (rpart l a b) = (cnt (rpg l) a (b - a).toNat : Int) := by
  have hp := okP_iff.1 hab
  rw [rsz_cnt (h.part a b).asc]
  have e : 4096 = a.toNat + ((b - a).toNat + (4096 - b).toNat) := by omega
  rw [e, cnt_add, cnt_add]
  have key := rpg_part l a b
  rw [cnt_none (a := 0) fun q h1 h2 => by rw [key, if_neg (by omega)]]
  rw [cnt_none (a := 0 + (a.toNat : Int) + ((b - a).toNat : Int)) fun q h1 h2 => by rw [key, if_neg (by omega)]]
  rw [cnt_ext (h := rpg l) fun q h1 h2 => by rw [key, if_pos (by omega)]]
  rw [show (0 : Int) + (a.toNat : Int) = a by omega]
  omega
theorem part_all {l : List Rg} (h : ROk l) {a b : Int} (hab : okP a b = true) : ¬ szv (rpart l a b) < b - a ↔ ∀ q, a ≤ q → q < b → (rpg l q).isSome = true := by
  have hp := okP_iff.1 hab
  rw [szv_ok (h.part a b), rsz_part h hab]
  have hle := cnt_le (rpg l) a (b - a).toNat
  constructor
  · intro k q h1 h2
    exact cnt_full (n := (b - a).toNat) (by omega) q h1 (by omega)
  · intro k
    rw [cnt_all fun q h1 h2 => k q h1 (by omega)]; omega
theorem over_none {l : List Rg} (h : ROk l) {a b : Int} (hab : okP a b = true) : fiN (ovR a b) l < 0 ↔ ∀ q, a ≤ q → q < b → rpg l q = none := by
  have hp := okP_iff.1 hab
  constructor
  · intro k q h1 h2
    rcases fiN_cases (ovR a b) l with ⟨_, hn⟩ | ⟨j, _, e, _⟩
    · exact rpg_none.2 fun r hr => by
        have := hn r hr
        rw [← Bool.not_eq_true, ovR_iff] at this
        rw [inR_not]; omega
    · omega
  · intro k
    rw [fiN_none]; omega
    intro r hr
    rw [← Bool.not_eq_true, ovR_iff]
    rintro ⟨h1, h2⟩
    have ho := okR_iff.1 (RCh.mem h r hr)
    by_cases c : r.f ≤ a
    · have := k a (by omega) (by omega)
      rw [h.asc.pg_at hr (inR_iff.2 ⟨c, h2⟩)] at this; cases this
    · have := k r.f (by omega) h1
      rw [h.asc.pg_at hr (inR_iff.2 ⟨by omega, ho.2.1⟩)] at this; cases this
/-- pages ahead of some, those, and behind them -/
theorem cnt_three (g : Int → Option Nat) {a b : Int} (hab : okP a b = true) : cnt g 0 4096 = cnt g 0 a.toNat + cnt g a (b - a).toNat + cnt g b (4096 - b).toNat := by
  have hp := okP_iff.1 hab
  have e : 4096 = a.toNat + ((b - a).toNat + (4096 - b).toNat) := by omega
  conv => lhs; rw [e, cnt_add, cnt_add]
  rw [show (0 : Int) + (a.toNat : Int) = a by omega, show a + ((b - a).toNat : Int) = b by omega]; omega
theorem rsz_cutL {l : List Rg} (h : ROk l) {a b : Int} (hab : okP a b = true) : rsz (cutL l a b) = rsz l - (cnt (rpg l) a (b - a).toNat : Int) := by
  have hp := okP_iff.1 hab
  have key := rpg_cutL h hp.2.1
  rw [rsz_cnt (h.cutL hp.2.1).asc, rsz_cnt h.asc, cnt_three _ hab, cnt_three (rpg l) hab]
  rw [cnt_none (g := rpg (cutL l a b)) (a := a) fun q h1 h2 => by rw [key, if_pos (by omega)]]
  rw [cnt_ext (g := rpg (cutL l a b)) (h := rpg l) (a := 0) fun q h1 h2 => by rw [key, if_neg (by omega)]]
  rw [cnt_ext (g := rpg (cutL l a b)) (h := rpg l) (a := b) fun q h1 h2 => by rw [key, if_neg (by omega)]]
  omega
theorem rsz_layL {l : List Rg} (h : ROk l) {r : Rg} (hr : okR r = true) : rsz (layL l r) = rsz l - (cnt (rpg l) r.f (r.t - r.f).toNat : Int) + (r.t - r.f) := by
  have hp := okR_iff.1 hr
  have hab : okP r.f r.t = true := okP_iff.2 ⟨hp.1, hp.2.1, hp.2.2.1⟩
  have key := rpg_layL h hr
  rw [rsz_cnt (h.layL hr).asc, rsz_cnt h.asc, cnt_three _ hab, cnt_three (rpg l) hab]
  rw [cnt_all (g := rpg (layL l r)) (a := r.f) fun q h1 h2 => by rw [key, if_pos (inR_iff.2 (by omega))]; rfl]
  rw [cnt_ext (g := rpg (layL l r)) (h := rpg l) (a := 0) fun q h1 h2 => by rw [key, if_neg (by rw [inR_iff]; omega)]]
  rw [cnt_ext (g := rpg (layL l r)) (h := rpg l) (a := r.t) fun q h1 h2 => by rw [key, if_neg (by rw [inR_iff]; omega)]]
  omega
section
variable {l : List Rg} {r : Rg}
theorem adE_cases (h : ROk l) (hr : okR r = true) : (adE l r = 0 ∧ adL l r = layL l r ∧ ∀ q, r.f ≤ q → q < r.t → rpg l q = none) ∨ (adE l r = 17 ∧ adL l r = [] ∧ ¬ ∀ q, r.f ≤ q → q < r.t → rpg l q = none) := by
  have hp : okP r.f r.t = true := by unfold okR at hr; rw [Bool.and_eq_true] at hr; exact hr.1
  have k := over_none h hp
  have e : adE l r = if fiN (ovR r.f r.t) l < 0 then 0 else 17 := by unfold adE; rw [if_pos ⟨rokb_iff.2 h, hr⟩]
  by_cases c : fiN (ovR r.f r.t) l < 0
  · rw [if_pos c] at e
    exact .inl ⟨e, by unfold adL; rw [if_pos e], k.1 c⟩
  · rw [if_neg c] at e
    exact .inr ⟨e, by unfold adL; rw [e, if_neg (by decide)], fun x => c (k.2 x)⟩
theorem prE_cases (h : ROk l) (hr : okR r = true) : (prE l r = 0 ∧ prL l r = layL l r ∧ ∀ q, r.f ≤ q → q < r.t → (rpg l q).isSome = true) ∨ (prE l r = 12 ∧ prL l r = [] ∧ ¬ ∀ q, r.f ≤ q → q < r.t → (rpg l q).isSome = true) := by
  have hp : okP r.f r.t = true := by unfold okR at hr; rw [Bool.and_eq_true] at hr; exact hr.1
  have k := part_all h hp
  have e : prE l r = if szv (rpart l r.f r.t) < r.t - r.f then 12 else 0 := by unfold prE; rw [if_pos ⟨rokb_iff.2 h, hr⟩]
  by_cases c : szv (rpart l r.f r.t) < r.t - r.f
  · rw [if_pos c] at e
    exact .inr ⟨e, by unfold prL; rw [e, if_neg (by decide)], fun x => (k.2 x) c⟩
  · rw [if_neg c] at e
    exact .inl ⟨e, by unfold prL; rw [if_pos e], k.1 c⟩
theorem ct_ok (h : ROk l) {a b : Int} (hp : okP a b = true) : ctE l a b = 0 ∧ ctL l a b = cutL l a b := by
  have e : ctE l a b = 0 := by unfold ctE; rw [if_pos ⟨rokb_iff.2 h, hp⟩]
  exact ⟨e, by unfold ctL; rw [if_pos e]⟩
end
end Go.Proofs.YtfkjgbenjdmedaaDoor
