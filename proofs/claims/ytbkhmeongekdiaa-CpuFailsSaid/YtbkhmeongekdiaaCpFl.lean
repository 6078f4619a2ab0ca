/- What the two instructions that load and store a float make of eight words. No program stands in this text. -/
import Derived.Test.YtbkhmeongekdiaaCpRg
import Derived.Test.YtbkhmeongekdiaaCpSu
import Derived.Still
namespace Go.Proofs.Ytbkhmeongekdiaa
open Go.RowKit
set_option linter.unusedVariables false
set_option maxRecDepth 100000
theorem cu64_bd {a : Int} (h : (Lit.int .u64 a).wf = true) : 0 ≤ a ∧ a ≤ 18446744073709551615 := by
  simp only [Lit.wf, Bool.and_eq_true, decide_eq_true_eq] at h
  have h1 : IntKind.u64.min = 0 := rfl
  have h2 : IntKind.u64.max = 18446744073709551615 := rfl
  omega
theorem rmod4 (n : Int) : (IntKind.u64.wrap n).tmod 4 = n % 4 := by
  have : IntKind.u64.wrap n = n % 18446744073709551616 := rfl
  rw [this, Int.tmod_eq_emod_of_nonneg (by omega)]; omega
abbrev l8 (a b c d : Int) : List Int := [a, b, 0, 0, c, d, 7, 9]
theorem l8_len (a b c d : Int) : (wds (l8 a b c d)).length = 32 := rfl
section
variable {a b c d : Int} {x f : Nat → Int} {K : Nat}
theorem l8_0 (h0 : 0 ≤ a) (h1 : a ≤ 4294967295) : gtn (wds (l8 a b c d)) 0 4 = a := by
  show a % 256 + 256 * (a / 256 % 256) + 65536 * (a / 65536 % 256) + 16777216 * (a / 16777216) = a
  omega
theorem l8_4 (h0 : 0 ≤ b) (h1 : b ≤ 4294967295) : gtn (wds (l8 a b c d)) 4 4 = b := by
  show b % 256 + 256 * (b / 256 % 256) + 65536 * (b / 65536 % 256) + 16777216 * (b / 16777216) = b
  omega
theorem l8_16 (h0 : 0 ≤ c) (h1 : c ≤ 4294967295) : gtn (wds (l8 a b c d)) 16 4 = c := by
  show c % 256 + 256 * (c / 256 % 256) + 65536 * (c / 65536 % 256) + 16777216 * (c / 16777216) = c
  omega
theorem l8_20 (h0 : 0 ≤ d) (h1 : d ≤ 4294967295) : gtn (wds (l8 a b c d)) 20 4 = d := by
  show d % 256 + 256 * (d / 256 % 256) + 65536 * (d / 65536 % 256) + 16777216 * (d / 16777216) = d
  omega
theorem fl_one (ha0 : 0 ≤ a) (ha1 : a ≤ 4294967295) (e1 : a / 16777216 = 31) (e2 : a / 1048576 % 16 = K) (e3 : a / 65536 % 16 = 5) (e4 : imv a = 0) (hK : K < 4)
    (hc : 0 ≤ c ∧ c ≤ 4294967295) (hd : 0 ≤ d ∧ d ≤ 4294967295) (h17 : x 17 < 16) (h16 : x 16 = 0) (h5 : x 5 = 16) :
    stA x f (wds (l8 a b c d)) = okA (nx x) (upd f K (c + d * 4294967296)) (wds (l8 a b c d)) := by
  have hp : adr x 5 0 = 16 := by unfold adr; rw [h5]; rfl
  have e : exA x f (wds (l8 a b c d)) = okA (nx x) (upd f K (c + d * 4294967296)) (wds (l8 a b c d)) := by
    unfold exA
    rw [if_neg (by omega), if_neg (by unfold hsn; rw [l8_len, h16]; decide), h16, l8_0 ha0 ha1, in_op (o := 31) x f _ e1 (by omega) e2 e3 e4]
    show (if nofl 31 (K : Int).toNat 5 then noA x f (wds (l8 a b c d)) 4 (x 16) else flA 31 (K : Int).toNat 5 x f (wds (l8 a b c d)) (adr x 5 0)) = _
    rw [Int.toNat_natCast, if_neg (by unfold nofl; omega), hp]
    show (if (16 : Int) % 8 ≠ 0 then noA x f (wds (l8 a b c d)) 7 16 else if ¬ hsn (wds (l8 a b c d)) 16 4 then noA x f (wds (l8 a b c d)) 11 16 else if ¬ hsn (wds (l8 a b c d)) (16 + 4) 4 then noA x f (wds (l8 a b c d)) 11 (16 + 4) else okA (nx x) (upd f K (gtn (wds (l8 a b c d)) 16 4 + gtn (wds (l8 a b c d)) (16 + 4) 4 * 4294967296)) (wds (l8 a b c d))) = _
    rw [if_neg (by decide), if_neg (by unfold hsn; rw [l8_len]; decide), if_neg (by unfold hsn; rw [l8_len]; decide), l8_16 hc.1 hc.2, show (16 : Int) + 4 = 20 from rfl, l8_20 hd.1 hd.2]
  unfold stA
  rw [if_neg (by omega), e]
  unfold kdA
  rw [if_neg (by omega)]
/-- the bytes then -/
abbrev r8 (a b c d : Int) : List Int := ptn (ptn (wds (l8 a b c d)) 24 4 c) 28 4 d
theorem r8_len (a b c d : Int) : (r8 a b c d).length = 32 := rfl
theorem r8_parts (a b c d : Int) : cut (r8 a b c d) 24 8 = cut (r8 a b c d) 16 8 := rfl
theorem fl_two (hb0 : 0 ≤ b) (hb1 : b ≤ 4294967295) (e1 : b / 16777216 = 32) (e2 : b / 1048576 % 16 = K) (e3 : b / 65536 % 16 = 5) (e4 : imv b = 8) (hK : K < 4)
    (hc : 0 ≤ c ∧ c ≤ 4294967295) (hd : 0 ≤ d ∧ d ≤ 4294967295) (h17 : x 17 < 16) (h16 : x 16 = 4) (h5 : x 5 = 16) (hf : f K = c + d * 4294967296) :
    stA x f (wds (l8 a b c d)) = ⟨nx x, f, r8 a b c d, 2, 0, 0, 0⟩ := by
  have hp : adr x 5 8 = 24 := by unfold adr; rw [h5]; rfl
  have e : exA x f (wds (l8 a b c d)) = ⟨nx x, f, r8 a b c d, 2, 0, 0, 0⟩ := by
    unfold exA
    rw [if_neg (by omega), if_neg (by unfold hsn; rw [l8_len, h16]; decide), h16, l8_4 hb0 hb1, in_op (o := 32) x f _ e1 (by omega) e2 e3 e4]
    show (if nofl 32 (K : Int).toNat 5 then noA x f (wds (l8 a b c d)) 4 (x 16) else flA 32 (K : Int).toNat 5 x f (wds (l8 a b c d)) (adr x 5 8)) = _
    rw [Int.toNat_natCast, if_neg (by unfold nofl; omega), hp]
    show (if (24 : Int) % 8 ≠ 0 then noA x f (wds (l8 a b c d)) 7 24 else if ¬ hsn (wds (l8 a b c d)) 24 4 then noA x f (wds (l8 a b c d)) 11 24 else if ¬ hsn (wds (l8 a b c d)) (24 + 4) 4 then Ans.mk x f (ptn (wds (l8 a b c d)) 24 4 (f K % 4294967296)) 1 4 11 (24 + 4) else Ans.mk (nx x) f (ptn (ptn (wds (l8 a b c d)) 24 4 (f K % 4294967296)) (24 + 4) 4 (f K / 4294967296)) 2 0 0 0) = _
    rw [if_neg (by decide), if_neg (by unfold hsn; rw [l8_len]; decide), if_neg (by unfold hsn; rw [l8_len]; decide), hf, show (c + d * 4294967296) % 4294967296 = c by omega, show (c + d * 4294967296) / 4294967296 = d by omega]
    rfl
  unfold stA
  rw [if_neg (by omega), e]
  unfold kdA
  rw [if_neg (by omega)]
end
theorem w32_list (w : World) (l : List Int) (h : ∀ v ∈ l, 0 ≤ v ∧ v ≤ 4294967295) (hl : l.length ≤ maxLen) : W32 (w.alloc (.cells (l.map (Value.int .u32)).toArray 23)) (some ⟨w.heap.size, 0, none⟩) l := by
  refine ⟨fun j hj => ⟨_, rfl, ?_⟩, h, hl⟩
  rw [Addr.add_mid, Nat.zero_add, (Box.here w w.heap.size (l.map (Value.int .u32)).toArray 23 rfl).cell j, List.getElem?_toArray, List.getElem?_map, List.getElem?_eq_getElem hj, getD_eq l j hj]; rfl
theorem laid_8 (a b c d : Int) (h : ∀ v ∈ l8 a b c d, 0 ≤ v ∧ v ≤ 4294967295) (w : World) :
    Calls Try.prog 6 #[.slice (some ⟨w.heap.size, 0, none⟩) 8 8] (w.alloc (.cells #[.int .u32 a, .int .u32 b, .int .u32 0, .int .u32 0, .int .u32 c, .int .u32 d, .int .u32 7, .int .u32 9] 23)) fun e w' => e = .returned (ptr (w.heap.size + 1)) ∧
      New w w' ∧ ∃ v, Bd w' (w.heap.size + 1) v (wds (l8 a b c d)) 0 0 := by
  have hs : (w.alloc (.cells #[.int .u32 a, .int .u32 b, .int .u32 0, .int .u32 0, .int .u32 c, .int .u32 d, .int .u32 7, .int .u32 9] 23)).heap.size = w.heap.size + 1 := by simp
  have q := laid_any (l8 a b c d) (some ⟨w.heap.size, 0, none⟩) 8 _ (w32_list w (l8 a b c d) h (by show 8 ≤ maxLen; unfold maxLen; omega))
  rw [show (List.map (Value.int .u32) (l8 a b c d)).toArray = #[.int .u32 a, .int .u32 b, .int .u32 0, .int .u32 0, .int .u32 c, .int .u32 d, .int .u32 7, .int .u32 9] from rfl, hs] at q
  exact q.mono fun e w' h => ⟨h.1, New.trans ((New.refl w).alloc _ _) h.2.1, h.2.2⟩
theorem RowB.part {w : World} {g cap : Nat} {cur : List Value} {L : List Int} (h : RowB w g cap cur L) (p n c : Nat) (hp : p + n ≤ L.length) : Byts w (.slice (some ⟨g, p, none⟩) n c) (cut L p n) := by
  have hl : (cut L p n).length = n := by unfold cut; rw [List.length_take, List.length_drop]; omega
  have hm := h.2.2.1
  have hm2 := h.2.1
  refine ⟨_, c, by rw [hl], by omega, fun i hi => ⟨_, rfl, ?_⟩⟩
  rw [hl] at hi
  rw [Addr.add_mid, h.cell (p + i) (by omega)]
  refine congrArg (fun z => some (Value.int .u8 z)) ?_
  unfold cut
  rw [List.getD_eq_getElem?_getD, List.getD_eq_getElem?_getD, List.getElem?_take_of_lt hi, List.getElem?_drop]
theorem wpStill_load_box {P : Program} {w : World} {ops : Array Oper} {rest : List Oper} {op : Oper} {a : Act} {Q : Act → Prop} (hw : Region.wanted op (yielded ops a.tmps) = true) (ty : TypeId) (x : Operand) (ho : op.op = .load ty x)
    (b : Nat) (hx : a.eval x = .pointer (some ⟨b, 0, none⟩)) (cs : List Value) (t : TypeId) (d : TypeDesc) (hB : Box w b cs.toArray t)
    (hu : P.underlying ty = some d) (hd : d.isRow = true) (hi : (P.info? ty).map (·.size) = some cs.length)
    (h : wpStill P ops w Q rest (a.put op.dst (.agg cs.toArray))) : wpStill P ops w Q (op :: rest) a := by
  refine wpStill_step fun K hK => ?_
  rw [if_pos hw]
  unfold Oper.still execOp
  simp only [ho, hx, Instr.loadAt, Instr.sureAddr, Sem.run_bind, Sem.run_pure, Result.andThen_ok, run_loadVar_mid w b 0 ty cs d hB.range hu hd hi, Oper.stillUpon_value]
  exact hK _ h
theorem at_sload (ty' : TypeId) {P : Program} {w : World} {ops : Array Oper} {rest : List Oper} {a : Act} {Q : Act → Prop} {d x ty pos af gd} (h : wpStill P ops w Q (⟨d, .load ty' x, ty, pos, af, gd⟩ :: rest) a) :
    wpStill P ops w Q (⟨d, .load ty' x, ty, pos, af, gd⟩ :: rest) a := h
end Go.Proofs.Ytbkhmeongekdiaa
