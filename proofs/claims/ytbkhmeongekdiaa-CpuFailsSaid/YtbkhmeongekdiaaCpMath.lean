/- What one instruction makes of registers and of bytes, as a function: the registers and bytes then, how often something was stored, the kind of the event, its signal, its address. No program stands in this text. -/
import Derived.Test.YtbkhmeongekdiaaAlB
import Derived.Test.YtbkhmeongekdiaaRgL
import Derived.Test.YtbkhmeongekdiaaByts
import Derived.Test.YtbkhmeongekdiaaIsC
import Derived.Test.YtbkhmeongekdiaaWordJ
import Derived.Test.YtbkhmeongekdiaaSoftO
namespace Go.Proofs.Ytbkhmeongekdiaa
open Go.RowKit
set_option linter.unusedVariables false
set_option maxRecDepth 100000
/-- what came of an instruction -/
structure Ans where
  x : Nat → Int
  f : Nat → Int
  L : List Int
  n : Nat
  k : Int
  s : Int
  a : Int
def okA (x f : Nat → Int) (L : List Int) : Ans := ⟨x, f, L, 0, 0, 0, 0⟩
def noA (x f : Nat → Int) (L : List Int) (s a : Int) : Ans := ⟨x, f, L, 0, 4, s, a⟩
/-- are there n bytes at a place? -/
def hsn (L : List Int) (p : Int) (n : Nat) : Prop := p + n ≤ L.length
instance (L : List Int) (p : Int) (n : Nat) : Decidable (hsn L p n) := by unfold hsn; infer_instance
/-- the number of n bytes at a place -/
def gtn (L : List Int) (p : Int) (n : Nat) : Int := ldv n (cut L p.toNat n)
/-- the bytes of a number -/
def bsn (v : Int) (n : Nat) : List Int := if n = 1 then [v % 256] else [v % 256, v / 256 % 256, v / 65536 % 256, v / 16777216]
def ptn (L : List Int) (p : Int) (n : Nat) (v : Int) : List Int := splice L p.toNat (bsn v n)
def nx (x : Nat → Int) : Nat → Int := upd x 16 (m32 (x 16 + 4))
def adr (x : Nat → Int) (b : Nat) (m : Int) : Int := m32 (x b + m)
def frw (x : Nat → Int) (m : Int) : Int := m32 (m32 (x 16 + 4) + 4 * m)
def sz (op : Int) : Nat := if op = 17 ∨ op = 19 then 1 else 4
/-- loads and stores -/
def mvA (op : Int) (a : Nat) (x f : Nat → Int) (L : List Int) (p : Int) : Ans :=
  if p % (sz op : Int) ≠ 0 then noA x f L 7 p
  else if ¬ hsn L p (sz op) then noA x f L 11 p
  else if op ≤ 18 then okA (upd (nx x) a (gtn L p (sz op))) f L
  else ⟨nx x, f, ptn L p (sz op) (x a), 1, 0, 0, 0⟩
/-- what has to do with floats, where there are the floats -/
def flA (op : Int) (a b : Nat) (x f : Nat → Int) (L : List Int) (p : Int) : Ans :=
  if op = 31 then
    if p % 8 ≠ 0 then noA x f L 7 p
    else if ¬ hsn L p 4 then noA x f L 11 p
    else if ¬ hsn L (p + 4) 4 then noA x f L 11 (p + 4)
    else okA (nx x) (upd f a (gtn L p 4 + gtn L (p + 4) 4 * 4294967296)) L
  else if op = 32 then
    if p % 8 ≠ 0 then noA x f L 7 p
    else if ¬ hsn L p 4 then noA x f L 11 p
    else if ¬ hsn L (p + 4) 4 then ⟨x, f, ptn L p 4 (f a % 4294967296), 1, 4, 11, p + 4⟩
    else ⟨nx x, f, ptn (ptn L p 4 (f a % 4294967296)) (p + 4) 4 (f a / 4294967296), 2, 0, 0, 0⟩
  else if op = 38 then okA (upd (nx x) 17 (fcv (cmpv (f a).toNat (f b).toNat) (x 17))) f L
  else if op = 39 then okA (upd (nx x) a (toi (f b).toNat)) f L
  else if op = 40 then okA (nx x) (upd f a (ofi (sg32 (x b).toNat))) L
  else okA (nx x) (upd f a (flv op (f a).toNat (f b).toNat)) L
/-- is a float missing that an instruction names? -/
def nofl (op : Int) (a b : Nat) : Prop := (op ≠ 39 ∧ 3 < a) ∨ (op ≠ 31 ∧ op ≠ 32 ∧ op ≠ 40 ∧ 3 < b)
instance (op : Int) (a b : Nat) : Decidable (nofl op a b) := by unfold nofl; infer_instance
/-- an instruction -/
def dsA (op : Int) (a b : Nat) (m : Int) (x f : Nat → Int) (L : List Int) : Ans :=
  if op = 1 then okA (upd (nx x) a (m32 m)) f L
  else if op = 2 then okA (upd (nx x) a (m32 (65536 * m))) f L
  else if op = 3 then okA (upd (nx x) a (x b)) f L
  else if (4 ≤ op ∧ op ≤ 14) ∨ op = 16 then
    if doe op (x b) = 0 then okA (upd (upd (nx x) a (dov op (x a) (x b))) 17 (dof op (x a) (x b) (x 17))) f L else noA x f L 8 (x 16)
  else if op = 15 then okA (upd (nx x) a (adr x b m)) f L
  else if 17 ≤ op ∧ op ≤ 20 then mvA op a x f L (adr x b m)
  else if 21 ≤ op ∧ op ≤ 26 then (if tkv op (x 17) then okA (upd (nx x) 16 (frw x m)) f L else okA (nx x) f L)
  else if op = 27 then okA (upd (upd (nx x) 14 (m32 (x 16 + 4))) 16 (frw x m)) f L
  else if op = 28 then okA (upd (nx x) 16 (x a)) f L
  else if op = 29 then ⟨nx x, f, L, 0, 1, 0, 0⟩
  else if op = 30 then ⟨nx x, f, L, 0, 2, 0, 0⟩
  else if 31 ≤ op ∧ op ≤ 40 then (if nofl op a b then noA x f L 4 (x 16) else flA op a b x f L (adr x b m))
  else if op = 41 then okA (upd (nx x) a (x 17 % 16)) f L
  else okA (nx x) f L
/-- the instruction of a number, executed -/
def inA (v : Int) (x f : Nat → Int) (L : List Int) : Ans :=
  if v / 16777216 ≤ 41 then dsA (v / 16777216) (v / 1048576 % 16).toNat (v / 65536 % 16).toNat (imv v) x f L else noA x f L 4 (x 16)
/-- the instruction at PC, executed; PC is right and the registers, too -/
def exA (x f : Nat → Int) (L : List Int) : Ans :=
  if x 16 % 4 ≠ 0 then noA x f L 7 (x 16)
  else if ¬ hsn L (x 16) 4 then noA x f L 11 (x 16)
  else inA (gtn L (x 16) 4) x f L
/-- the event's kind, of an instruction of registers with these flags -/
def kdA (A : Ans) (fl : Int) : Int := if A.k = 0 ∧ 16 ≤ fl then 3 else A.k
/-- a step -/
def stA (x f : Nat → Int) (L : List Int) : Ans := if 32 ≤ x 17 then noA x f L 7 (x 16) else { exA x f L with k := kdA (exA x f L) (x 17) }
def Bx (x : Nat → Int) : Prop := ∀ k, k < 18 → 0 ≤ x k ∧ x k ≤ 4294967295
def Bf (f : Nat → Int) : Prop := ∀ k, k < 4 → 0 ≤ f k ∧ f k ≤ 18446744073709551615
theorem bx_upd {x : Nat → Int} (h : Bx x) (i : Nat) {v : Int} (hv : 0 ≤ v ∧ v ≤ 4294967295) : Bx (upd x i v) := by
  intro k hk; unfold upd; split
  · exact hv
  · exact h k hk
theorem bf_upd {f : Nat → Int} (h : Bf f) (i : Nat) {v : Int} (hv : 0 ≤ v ∧ v ≤ 18446744073709551615) : Bf (upd f i v) := by
  intro k hk; unfold upd; split
  · exact hv
  · exact h k hk
theorem bx_nx {x : Nat → Int} (h : Bx x) : Bx (nx x) := bx_upd h _ (m32_bd _)
theorem opv_u (o : Option Nat) (h : ∀ r, o = some r → U r) : U (opv o) := by
  cases o with
  | none => show U Emp; unfold U Emp; omega
  | some r => exact h r rfl
theorem flv_u (op : Int) (x y : Nat) : U (flv op x y) := by
  unfold flv
  split
  · exact opv_u _ fun r h => u_of_lt (Ieee.Format.add_lt _ h)
  split
  · exact opv_u _ fun r h => u_of_lt (Ieee.Format.sub_lt _ h)
  split
  · exact opv_u _ fun r h => u_of_lt (Ieee.Format.mul_lt _ h)
  split
  · exact opv_u _ fun r h => u_of_lt (Ieee.Format.div_lt _ h)
  split
  · exact opv_u _ fun r h => u_of_lt (Ieee.Format.sqrt_lt _ h)
  · unfold U; omega
theorem cp_fcv_bd (c old : Int) : 0 ≤ fcv c old ∧ fcv c old ≤ 31 := by
  have h1 := flg_bd (c == 0) 1 (by omega)
  have h2 := flg_bd (c == -1) 2 (by omega)
  have h3 := flg_bd (c == 2) 4 (by omega)
  unfold fcv; omega
theorem cp_dof_bd (op a b old : Int) : 0 ≤ dof op a b old ∧ dof op a b old ≤ 31 := by
  unfold dof; split
  · exact fl_bd _ _ _ _
  · omega
theorem oct_get {L : List Int} (h : Oct L) (i : Nat) : 0 ≤ L.getD i 0 ∧ L.getD i 0 ≤ 255 := by
  by_cases c : i < L.length
  · rw [getD_eq L i c]; exact h _ (List.getElem_mem c)
  · rw [getD_out L i (by omega)]; omega
theorem gtn_bd {L : List Int} (h : Oct L) (p : Int) (n : Nat) : 0 ≤ gtn L p n ∧ gtn L p n ≤ 4294967295 := by
  have hc : Oct (cut L p.toNat n) := fun x hx => h x (cut_mem hx)
  have h0 := oct_get hc 0
  have h1 := oct_get hc 1
  have h2 := oct_get hc 2
  have h3 := oct_get hc 3
  unfold gtn ldv
  split
  · omega
  split
  · omega
  split
  · omega
  · omega
theorem bsn_len (v : Int) (n : Nat) (hn : n = 1 ∨ n = 4) : (bsn v n).length = n := by rcases hn with rfl | rfl <;> rfl
theorem bsn_oct (v : Int) (n : Nat) (h0 : 0 ≤ v) (h1 : v ≤ 4294967295) : Oct (bsn v n) := by
  intro x hx
  unfold bsn at hx
  split at hx
  · simp only [List.mem_cons, List.not_mem_nil, or_false] at hx
    subst hx; omega
  · simp only [List.mem_cons, List.not_mem_nil, or_false] at hx
    omega
theorem ptn_len {L : List Int} {p : Int} {n : Nat} (v : Int) (hn : n = 1 ∨ n = 4) (hp : 0 ≤ p) (h : hsn L p n) : (ptn L p n v).length = L.length := by
  unfold hsn at h
  unfold ptn
  exact splice_len _ _ _ (by rw [bsn_len v n hn]; omega)
theorem ptn_oct {L : List Int} (h : Oct L) (p : Int) (n : Nat) {v : Int} (h0 : 0 ≤ v) (h1 : v ≤ 4294967295) : Oct (ptn L p n v) := h.splice (bsn_oct v n h0 h1) _
theorem sz_two (op : Int) : sz op = 1 ∨ sz op = 4 := by unfold sz; split <;> simp
/-- registers, floats and bytes as they may be -/
def GoodA (A : Ans) (n : Nat) : Prop := Bx A.x ∧ Bf A.f ∧ Oct A.L ∧ A.L.length = n
section
variable {x f : Nat → Int} {L : List Int} {a b : Nat}
theorem good_noA (s q : Int) (hx : Bx x) (hf : Bf f) (hL : Oct L) : GoodA (noA x f L s q) L.length := ⟨hx, hf, hL, rfl⟩
theorem good_okA (hx : Bx x) (hf : Bf f) (hL : Oct L) : GoodA (okA x f L) L.length := ⟨hx, hf, hL, rfl⟩
theorem adr_bd (x : Nat → Int) (b : Nat) (m : Int) : 0 ≤ adr x b m ∧ adr x b m ≤ 4294967295 := m32_bd _
theorem good_mvA (op : Int) (ha : a < 16) (p : Int) (hp : 0 ≤ p) (hx : Bx x) (hf : Bf f) (hL : Oct L) : GoodA (mvA op a x f L p) L.length := by
  unfold mvA
  split
  · exact good_noA _ _ hx hf hL
  split
  · exact good_noA _ _ hx hf hL
  rename_i h
  split
  · exact good_okA (bx_upd (bx_nx hx) _ (gtn_bd hL _ _)) hf hL
  · exact ⟨bx_nx hx, hf, ptn_oct hL _ _ (hx a (by omega)).1 (hx a (by omega)).2, ptn_len _ (sz_two op) hp (Decidable.not_not.1 h)⟩
theorem good_flA (op : Int) (ha : a < 4 ∨ op = 39) (ha2 : a < 16) (hb : b < 16) (hb4 : b < 4 ∨ op = 31 ∨ op = 32 ∨ op = 40) (p : Int) (hp : 0 ≤ p) (hx : Bx x) (hf : Bf f) (hL : Oct L) : GoodA (flA op a b x f L p) L.length := by
  unfold flA
  split
  · split
    · exact good_noA _ _ hx hf hL
    split
    · exact good_noA _ _ hx hf hL
    split
    · exact good_noA _ _ hx hf hL
    · have h1 := gtn_bd hL p 4
      have h2 := gtn_bd hL (p + 4) 4
      exact good_okA (bx_nx hx) (bf_upd hf _ (by omega)) hL
  split
  · have h1 := hf a (by omega)
    split
    · exact good_noA _ _ hx hf hL
    split
    · exact good_noA _ _ hx hf hL
    rename_i h
    have hl := ptn_len (v := f a % 4294967296) (.inr rfl) hp (Decidable.not_not.1 h)
    have ho := ptn_oct hL p 4 (v := f a % 4294967296) (by omega) (by omega)
    split
    · exact ⟨hx, hf, ho, hl⟩
    · rename_i h2
      refine ⟨bx_nx hx, hf, ptn_oct ho _ _ (by omega) (by omega), ?_⟩
      show (ptn (ptn L p 4 (f a % 4294967296)) (p + 4) 4 (f a / 4294967296)).length = L.length
      rw [ptn_len _ (.inr rfl) (by omega) (by unfold hsn; rw [hl]; exact Decidable.not_not.1 h2), hl]
  split
  · exact good_okA (bx_upd (bx_nx hx) _ (by have := cp_fcv_bd (cmpv (f a).toNat (f b).toNat) (x 17); omega)) hf hL
  split
  · exact good_okA (bx_upd (bx_nx hx) _ (by have := toi_lt (f b).toNat; omega)) hf hL
  split
  · exact good_okA (bx_nx hx) (bf_upd hf _ (by have := (ofi_ok (sg32 (x b).toNat)).1; unfold U at this; omega)) hL
  · exact good_okA (bx_nx hx) (bf_upd hf _ (by have := flv_u op (f a).toNat (f b).toNat; unfold U at this; omega)) hL
theorem good_ite {c : Prop} [Decidable c] {A B : Ans} {n : Nat} (h1 : c → GoodA A n) (h2 : ¬ c → GoodA B n) : GoodA (if c then A else B) n := by
  by_cases h : c
  · rw [if_pos h]; exact h1 h
  · rw [if_neg h]; exact h2 h
theorem good_dsA (op m : Int) (ha : a < 16) (hb : b < 16) (hx : Bx x) (hf : Bf f) (hL : Oct L) : GoodA (dsA op a b m x f L) L.length := by
  have hA := hx a (by omega)
  have hB := hx b (by omega)
  have nxb := bx_nx hx
  unfold dsA
  refine good_ite (fun _ => good_okA (bx_upd nxb _ (m32_bd _)) hf hL) fun _ => ?_
  refine good_ite (fun _ => good_okA (bx_upd nxb _ (m32_bd _)) hf hL) fun _ => ?_
  refine good_ite (fun _ => good_okA (bx_upd nxb _ hB) hf hL) fun _ => ?_
  refine good_ite (fun _ => good_ite (fun _ => good_okA (bx_upd (bx_upd nxb _ (dov_bd _ _ _ hA.1 hA.2 hB.1 hB.2)) _ (by have := cp_dof_bd op (x a) (x b) (x 17); omega)) hf hL) fun _ => good_noA _ _ hx hf hL) fun _ => ?_
  refine good_ite (fun _ => good_okA (bx_upd nxb _ (m32_bd _)) hf hL) fun _ => ?_
  refine good_ite (fun _ => good_mvA op ha _ (adr_bd _ _ _).1 hx hf hL) fun _ => ?_
  refine good_ite (fun _ => good_ite (fun _ => good_okA (bx_upd nxb _ (m32_bd _)) hf hL) fun _ => good_okA nxb hf hL) fun _ => ?_
  refine good_ite (fun _ => good_okA (bx_upd (bx_upd nxb _ (m32_bd _)) _ (m32_bd _)) hf hL) fun _ => ?_
  refine good_ite (fun _ => good_okA (bx_upd nxb _ hA) hf hL) fun _ => ?_
  refine good_ite (fun _ => ⟨nxb, hf, hL, rfl⟩) fun _ => ?_
  refine good_ite (fun _ => ⟨nxb, hf, hL, rfl⟩) fun _ => ?_
  refine good_ite (fun h0 => good_ite (fun _ => good_noA _ _ hx hf hL) fun h => ?_) fun _ => ?_
  · unfold nofl at h
    exact good_flA op (by omega) ha hb (by omega) _ (adr_bd _ _ _).1 hx hf hL
  refine good_ite (fun _ => good_okA (bx_upd nxb _ (by have := hx 17 (by omega); omega)) hf hL) fun _ => good_okA nxb hf hL
theorem good_inA (v : Int) (h0 : 0 ≤ v) (hx : Bx x) (hf : Bf f) (hL : Oct L) : GoodA (inA v x f L) L.length := by
  unfold inA
  split
  · exact good_dsA _ _ (by omega) (by omega) hx hf hL
  · exact good_noA _ _ hx hf hL
theorem good_exA (hx : Bx x) (hf : Bf f) (hL : Oct L) : GoodA (exA x f L) L.length := by
  unfold exA
  split
  · exact good_noA _ _ hx hf hL
  split
  · exact good_noA _ _ hx hf hL
  · exact good_inA _ (gtn_bd hL _ _).1 hx hf hL
theorem good_stA (hx : Bx x) (hf : Bf f) (hL : Oct L) : GoodA (stA x f L) L.length := by
  unfold stA
  split
  · exact good_noA _ _ hx hf hL
  · exact good_exA hx hf hL
end
end Go.Proofs.Ytbkhmeongekdiaa
