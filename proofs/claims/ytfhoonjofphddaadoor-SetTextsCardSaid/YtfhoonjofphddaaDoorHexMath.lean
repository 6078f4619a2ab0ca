/- Plain facts on numbers as texts of eight hexadecimal digits, of no program. -/
import Derived.Test.YtfhoonjofphddaaDoorPlain
import Derived.Test.YtfhoonjofphddaaDoorSetMath
import Derived.Lib.Bytealg
import Derived.Laws.BytesArg
namespace Go.Proofs.YtfhoonjofphddaaDoor
open Go.RowKit
set_option linter.unusedVariables false
def hexs : ByteArray := ⟨#[48, 49, 50, 51, 52, 53, 54, 55, 56, 57, 97, 98, 99, 100, 101, 102]⟩
/-- the digit of a number below 16 -/
def hx (d : Nat) : UInt8 := hexs.data.toList.getD d 0
/-- the number of a digit; -1: it is none -/
def hexv (c : UInt8) : Int := Lib.indexByte hexs.data.toList c
theorem byte_all {p : UInt8 → Prop} (h : ∀ n : Fin 256, p (UInt8.ofNat n.val)) (c : UInt8) : p c := by
  have := h ⟨c.toNat, c.toNat_lt⟩
  simpa using this
theorem hexv_bd (c : UInt8) : -1 ≤ hexv c ∧ hexv c ≤ 15 := byte_all (p := fun c => -1 ≤ hexv c ∧ hexv c ≤ 15) (by decide +kernel) c
theorem hexv_at (c : UInt8) (k : Fin 16) : (hx k.val == c) = decide (hexv c = (k.val : Int)) := byte_all (p := fun c => ∀ k : Fin 16, (hx k.val == c) = decide (hexv c = (k.val : Int))) (by decide +kernel) c k
theorem hexv_hx : ∀ k : Fin 16, hexv (hx k.val) = (k.val : Int) := by decide +kernel
theorem hexv_hx' (d : Nat) (h : d < 16) : hexv (hx d) = (d : Int) := hexv_hx ⟨d, h⟩
/-- the last j digits -/
def tx (y : Int) : Nat → List UInt8
  | 0 => []
  | j + 1 => hx (shr y (4 * j) % 16).toNat :: tx y j
theorem tx_len (y : Int) : ∀ j, (tx y j).length = j
  | 0 => rfl
  | j + 1 => by simp [tx, tx_len y j]
def txt (y : Int) : ByteArray := ⟨(tx y 8).toArray⟩
theorem shr4 (y : Int) (j : Nat) : shr y (4 * (j + 1)) = shr y (4 * j) / 16 := by
  rw [show 4 * (j + 1) = 4 * j + 1 + 1 + 1 + 1 from by omega, shr_succ, shr_succ, shr_succ, shr_succ]; omega
/-- digits read -/
def accL (l : List UInt8) : Int := l.foldl (fun s c => 16 * s + hexv c) 0
def okL (l : List UInt8) : Bool := l.all fun c => decide (0 ≤ hexv c)
theorem accL_snoc (l : List UInt8) (c : UInt8) : accL (l ++ [c]) = 16 * accL l + hexv c := by unfold accL; rw [List.foldl_append]; rfl
theorem okL_snoc (l : List UInt8) (c : UInt8) : okL (l ++ [c]) = (okL l && decide (0 ≤ hexv c)) := by unfold okL; rw [List.all_append]; simp
theorem acc_from (l : List UInt8) (s : Int) : l.foldl (fun s c => 16 * s + hexv c) s = s * 16 ^ l.length + accL l := by
  induction l generalizing s with
  | nil => simp [accL]
  | cons c t ih =>
    show t.foldl _ (16 * s + hexv c) = _
    rw [ih]
    have e : accL (c :: t) = (16 * 0 + hexv c) * 16 ^ t.length + accL t := by rw [← ih]; rfl
    rw [e, List.length_cons, Int.pow_succ, Int.add_mul, Int.add_mul]
    rw [show (16 * s) * 16 ^ t.length = s * (16 ^ t.length * 16) from by rw [Int.mul_comm 16 s, Int.mul_assoc, Int.mul_comm 16]]
    omega
theorem accL_bd : ∀ (l : List UInt8), okL l = true → 0 ≤ accL l ∧ accL l < 16 ^ l.length := by
  intro l
  induction l with
  | nil => intro _; simp [accL]
  | cons c t ih =>
    intro h
    have h2 : 0 ≤ hexv c ∧ okL t = true := by
      unfold okL at h ⊢; rw [List.all_cons, Bool.and_eq_true, decide_eq_true_eq] at h; exact h
    have b := ih h2.2
    have d := hexv_bd c
    have e : accL (c :: t) = hexv c * 16 ^ t.length + accL t := by
      show t.foldl _ (16 * 0 + hexv c) = _
      rw [acc_from]; simp
    rw [e, List.length_cons, Int.pow_succ]
    have m : 0 ≤ hexv c * 16 ^ t.length := Int.mul_nonneg h2.1 (by omega)
    have m2 : hexv c * 16 ^ t.length ≤ 15 * 16 ^ t.length := Int.mul_le_mul_of_nonneg_right d.2 (by omega)
    generalize hexv c * 16 ^ t.length = q at *
    omega
theorem accL_bd8 (l : List UInt8) (h : okL l = true) (k : Nat) (hk : l.length ≤ k) : 0 ≤ accL l ∧ accL l < 16 ^ k := by
  have b := accL_bd l h
  have p : (16 ^ l.length : Nat) ≤ 16 ^ k := Nat.pow_le_pow_right (by decide) hk
  have q := Int.ofNat_le.2 p
  rw [Int.natCast_pow, Int.natCast_pow] at q
  exact ⟨b.1, Int.lt_of_lt_of_le b.2 q⟩
theorem or16 (s d : Int) (h : 0 ≤ s) (h' : s ≤ 268435455) (k : 0 ≤ d) (k' : d ≤ 15) : bits .or .u32 (s * 16) d = 16 * s + d := by
  rw [u32_or _ _ (by omega) (by omega) (by omega) (by omega), nat_join 4 _ _ (by omega) (by omega)]; omega
/-- is it the text of a set; which -/
def pok (l : List UInt8) : Bool := decide (l.length = 8) && okL l && decide (accL l < 2147483648)
def pv (l : List UInt8) : Int := if pok l = true then accL l else 0
theorem pv_no {l : List UInt8} (h : pok l = false) : pv l = 0 := by unfold pv; rw [if_neg (by simp [h])]
theorem pv_yes {l : List UInt8} (h : pok l = true) : pv l = accL l := by unfold pv; rw [if_pos h]
theorem pok_len {l : List UInt8} (h : l.length ≠ 8) : pok l = false := by unfold pok; simp [h]
theorem pok_dig {l : List UInt8} (c : UInt8) (hc : c ∈ l) (h : hexv c < 0) : pok l = false := by
  have : okL l = false := by
    unfold okL
    rcases Bool.eq_false_or_eq_true (l.all fun c => decide (0 ≤ hexv c)) with k | k
    · have := List.all_eq_true.1 k c hc
      simp at this; omega
    · exact k
  unfold pok; simp [this]
theorem pok_big {l : List UInt8} (h : ¬ accL l < 2147483648) : pok l = false := by unfold pok; simp [h]
theorem pok_yes {l : List UInt8} (h1 : l.length = 8) (h2 : okL l = true) (h3 : accL l < 2147483648) : pok l = true := by unfold pok; simp [h1, h2, h3]
theorem pv_bd (l : List UInt8) : 0 ≤ pv l ∧ pv l ≤ 2147483647 := by
  rcases Bool.eq_false_or_eq_true (pok l) with h | h
  · rw [pv_yes h]
    unfold pok at h; simp only [Bool.and_eq_true, decide_eq_true_eq] at h
    have := accL_bd l h.1.2
    omega
  · rw [pv_no h]; omega
/-- what is told is read as it was -/
theorem tx_ok (y : Int) (h : 0 ≤ y) : ∀ j, okL (tx y j) = true
  | 0 => rfl
  | j + 1 => by
    have b : (shr y (4 * j) % 16).toNat < 16 := by omega
    show okL (hx (shr y (4 * j) % 16).toNat :: tx y j) = true
    unfold okL; rw [List.all_cons, hexv_hx' _ b]
    have := tx_ok y h j; unfold okL at this; rw [this]; simp; omega
theorem tx_acc (y : Int) (h : 0 ≤ y) : ∀ j, accL (tx y j) + shr y (4 * j) * 16 ^ j = y
  | 0 => by rw [show accL (tx y 0) = 0 from rfl, Nat.mul_zero, shr_zero y h]; simp
  | j + 1 => by
    have ih := tx_acc y h j
    have b : (shr y (4 * j) % 16).toNat < 16 := by omega
    have e : accL (tx y (j + 1)) = (shr y (4 * j) % 16) * 16 ^ j + accL (tx y j) := by
      show (tx y j).foldl _ (16 * 0 + hexv (hx (shr y (4 * j) % 16).toNat)) = _
      rw [acc_from, hexv_hx' _ b, tx_len]
      have : (((shr y (4 * j) % 16).toNat : Nat) : Int) = shr y (4 * j) % 16 := by omega
      rw [this]; simp
    rw [e, shr4, Int.pow_succ]
    have m : shr y (4 * j) / 16 * (16 ^ j * 16) = (shr y (4 * j) / 16 * 16) * 16 ^ j := by
      rw [Int.mul_assoc, Int.mul_comm 16 (16 ^ j)]
    have n : shr y (4 * j) * 16 ^ j = (shr y (4 * j) / 16 * 16) * 16 ^ j + (shr y (4 * j) % 16) * 16 ^ j := by
      rw [← Int.add_mul]; congr 1; omega
    rw [m]; rw [n] at ih; omega
theorem tx_read (y : Int) (h : 0 ≤ y) (h' : y ≤ 2147483647) : pok (tx y 8) = true ∧ pv (tx y 8) = y := by
  have a := tx_acc y h 8
  have z : shr y (4 * 8) = 0 := by
    unfold shr
    rw [Nat.div_eq_of_lt (by have e : (2 ^ (4 * 8) : Nat) = 4294967296 := by decide
                             omega)]; rfl
  rw [z, Int.zero_mul, Int.add_zero] at a
  have p := pok_yes (tx_len y 8) (tx_ok y h 8) (by omega)
  exact ⟨p, by rw [pv_yes p, a]⟩
theorem tx8 (y : Int) : tx y 8 = [hx (shr y 28 % 16).toNat, hx (shr y 24 % 16).toNat, hx (shr y 20 % 16).toNat, hx (shr y 16 % 16).toNat, hx (shr y 12 % 16).toNat, hx (shr y 8 % 16).toNat, hx (shr y 4 % 16).toNat, hx (shr y 0 % 16).toNat] := rfl
/-- the byte at place m when the last j digits stand -/
def dg (y : Int) (j m : Nat) : Int := if 8 ≤ m + j then ((hx (shr y (4 * (7 - m)) % 16).toNat).toNat : Int) else 0
theorem dg_next (y : Int) (j : Nat) (h : j < 8) : dg y (j + 1) (7 - j) = ((hx (shr y (4 * j) % 16).toNat).toNat : Int) := by
  unfold dg; rw [if_pos (by omega), show 7 - (7 - j) = j from by omega]
theorem dg_other (y : Int) (j m : Nat) (hm : m < 8) (h : m ≠ 7 - j) : dg y (j + 1) m = dg y j m := by
  unfold dg
  by_cases c : 8 ≤ m + j
  · rw [if_pos c, if_pos (by omega)]
  · rw [if_neg c, if_neg (by omega)]
theorem dg_zero (y : Int) (m : Nat) (hm : m < 8) : dg y 0 m = 0 := by unfold dg; rw [if_neg (by omega)]
theorem txt_nums (y : Int) : strOfNums [dg y 8 0, dg y 8 1, dg y 8 2, dg y 8 3, dg y 8 4, dg y 8 5, dg y 8 6, dg y 8 7] = txt y := by
  have e : ∀ b : UInt8, UInt8.ofNat ((b.toNat : Int)).toNat = b := fun b => by simp
  unfold strOfNums txt
  rw [tx8]
  simp only [List.map_cons, List.map_nil, dg, Nat.reduceLeDiff, Nat.reduceAdd, if_true, Nat.reduceSub, Nat.reduceMul, e]
theorem txt_cons (y : Int) (j : Nat) (b : ByteArray) (hb : b.data.toList = tx y j) : (⟨#[hx (shr y (4 * j) % 16).toNat]⟩ ++ b : ByteArray).data.toList = tx y (j + 1) := by
  rw [ByteArray.data_append, Array.toList_append, hb]; rfl
theorem bytes_eq {a : ByteArray} {l : List UInt8} (h : a.data.toList = l) : a = ⟨l.toArray⟩ := by
  obtain ⟨⟨x⟩⟩ := a
  simp at h; rw [h]
/-- one digit cut out -/
theorem hex_cut (d : Nat) (h : d < 16) : hexs.extract d (d + 1) = ⟨#[hx d]⟩ := by
  have : ∀ k : Fin 16, hexs.extract k.val (k.val + 1) = ⟨#[hx k.val]⟩ := by decide +kernel
  exact this ⟨d, h⟩
theorem hex_idx (d : Nat) (h : d < hexs.size) : hexs[d]'h = hx d := by
  have : ∀ k : Fin 16, hexs[k.val]'k.isLt = hx k.val := by decide +kernel
  exact this ⟨d, h⟩
theorem hex_get (d : Nat) (h : d < 16) : hexs.data[d]? = some (hx d) := by
  have : ∀ k : Fin 16, hexs.data[k.val]? = some (hx k.val) := by decide +kernel
  exact this ⟨d, h⟩
theorem hex_same (c : UInt8) (k : Nat) (h : k < 16) (d : hexv c = (k : Int)) : (((hx k).toNat : Int) == (c.toNat : Int)) = true := by
  have e := hexv_at c ⟨k, h⟩
  simp only [d, decide_true, beq_iff_eq] at e
  simp [e]
theorem hex_other (c : UInt8) (k : Nat) (h : k < 16) (d : hexv c ≠ (k : Int)) : (((hx k).toNat : Int) == (c.toNat : Int)) = false := by
  have e := hexv_at c ⟨k, h⟩
  rw [decide_eq_false d] at e
  rw [beq_eq_false_iff_ne] at e ⊢
  intro f; apply e; exact UInt8.toNat_inj.1 (Int.ofNat_inj.1 f)
/-- the number of the error -/
def pec (l : List UInt8) : Int := if pok l = true then 0 else 22
theorem pec_no {l : List UInt8} (h : pok l = false) : pec l = 22 := by unfold pec; rw [if_neg (by simp [h])]
theorem pec_yes {l : List UInt8} (h : pok l = true) : pec l = 0 := by unfold pec; rw [if_pos h]
theorem take_snoc_u8 (l : List UInt8) (k : Nat) (h : k < l.length) : l.take (k + 1) = l.take k ++ [l[k]] := by
  rw [List.take_add_one, List.getElem?_eq_getElem h]; rfl
theorem acc_step (l : List UInt8) (j : Nat) (h : j < l.length) : accL (l.take (j + 1)) = 16 * accL (l.take j) + hexv l[j] := by
  rw [take_snoc_u8 l j h, accL_snoc]
theorem ok_step (l : List UInt8) (j : Nat) (h : j < l.length) (k : okL (l.take j) = true) (d : 0 ≤ hexv l[j]) : okL (l.take (j + 1)) = true := by
  rw [take_snoc_u8 l j h, okL_snoc, k]; simpa using d
theorem acc_take (l : List UInt8) (j : Nat) (hj : j < 8) (k : okL (l.take j) = true) : 0 ≤ accL (l.take j) ∧ accL (l.take j) ≤ 268435455 := by
  have b := accL_bd8 (l.take j) k 7 (by rw [List.length_take]; omega)
  have e : (16 ^ 7 : Int) = 268435456 := by decide +kernel
  omega
theorem acc_full (l : List UInt8) (k : okL l = true) (hl : l.length = 8) : 0 ≤ accL l ∧ accL l ≤ 4294967295 := by
  have b := accL_bd8 l k 8 (by omega)
  have e : (16 ^ 8 : Int) = 4294967296 := by decide +kernel
  omega
theorem u8_back (c : UInt8) : ((c.toNat : Int)).toNat.toUInt8 = c := by simp
theorem top_bit (x : Int) (h : 0 ≤ x) (h' : x ≤ 4294967295) : bits .andNot .u32 x 2147483647 = if x < 2147483648 then 0 else 2147483648 := by
  rw [u32_andNot x 2147483647 h (by omega) (by omega) (by omega)]
  have e : (4294967295 - (2147483647 : Int).toNat : Nat) = 2 ^ 31 := by decide
  rw [e, nat_bit]
  have p : (2 ^ 31 : Nat) = 2147483648 := by decide
  rw [p]
  split <;> omega
end Go.Proofs.YtfhoonjofphddaaDoor
