/- Encode and Decode of both sides in one form each, right or wrong: bytes as the string that they make, registers, and the errors' numbers. -/
import Derived.Test.YtbjpflomibcenaaDoorRgH
import Derived.Test.YtbjpflomibcenaaDoorRgR
import Derived.Test.YtbjpflomibcenaaDoorRgX
import Derived.Laws.BytesArg
namespace Go.Proofs.YtbjpflomibcenaaDoor
open Go.RowKit Go.Joins
set_option linter.unusedVariables false
/-- a slice that makes this string from now on -/
def Strs (w : World) (c : Value) (s : ByteArray) : Prop := ∀ W, New w W → (convert 28 9 c).run Tryd.prog W = .ok (.string s) W
theorem Strs.new {w w' : World} {c : Value} {s : ByteArray} (h : Strs w c s) (n : New w w') : Strs w' c s := fun W k => h W (n.trans k)
theorem strs_nil (w : World) : Strs w (.slice none 0 0) (strOfNums []) := fun W _ => run_convert_bytes_nil W 28 5 Tryd.underlying28 Tryd.underlying5 0 0 9 Tryd.underlying9
theorem strs_at {w : World} {b n cap : Nat} {xs : List Int} (hn : xs.length = n) (h : ∀ i, i < n → w.cell? ⟨b, i, none⟩ = some (.int .u8 (xs.getD i 0))) : Strs w (.slice (some ⟨b, 0, none⟩) n cap) (strOfNums xs) := by
  intro W hW
  refine run_convert_bytes_arg W 28 5 Tryd.underlying28 Tryd.underlying5 _ 0 n cap xs hn ?_ 9 Tryd.underlying9
  intro i hi
  rw [Nat.zero_add]
  exact hW.keeps (h i (by omega))
/-- the bytes that Encode answers -/
def enb (x f : Nat → Int) : List Int := if x 17 < 32 then btl (wd x f) 104 else []
theorem btl_get (g : Nat → Int) (n i : Nat) (h : i < n) : (btl g n).getD i 0 = bt g i := by
  unfold btl; rw [List.getD_eq_getElem?_getD, List.getElem?_map, List.getElem?_range h]; rfl
section
variable {x f : Nat → Int}
theorem encode_str (hx : ∀ k, k < 18 → 0 ≤ x k ∧ x k ≤ 4294967295) (hf : ∀ k, k < 4 → 0 ≤ f k ∧ f k ≤ 18446744073709551615) (w : World) : Calls Tryd.prog 5 #[.agg (rc x f).toArray] w fun e w' => ∃ v, e = .returned (.tuple #[v, erN (cke (x 17))]) ∧ Strs w' v (strOfNums (enb x f)) ∧ New w w' := by
  unfold enb cke
  by_cases h : x 17 < 32
  · rw [if_pos h, if_pos h]
    refine (encode_ok x f hx hf h w).mono ?_
    rintro e w' ⟨b, rfl, hB, _, n⟩
    exact ⟨_, rfl, strs_at (btl_len _ _) fun i hi => by rw [btl_get _ _ _ hi]; exact hB.at (nl_at _ hi), n⟩
  · rw [if_neg h, if_neg h]
    refine (encode_no x f hx h w).mono ?_
    rintro e w' ⟨rfl, n⟩
    exact ⟨_, rfl, strs_nil w', n⟩
theorem rencode_str (hx : ∀ k, k < 18 → 0 ≤ x k ∧ x k ≤ 4294967295) (hf : ∀ k, k < 4 → 0 ≤ f k ∧ f k ≤ 18446744073709551615) (w : World) : Calls Tryd.prog 6 #[.agg (rc x f).toArray] w fun e w' => ∃ v, e = .returned (.tuple #[v, .int .i64 (cke (x 17))]) ∧ Strs w' v (strOfNums (enb x f)) ∧ New w w' := by
  unfold enb cke
  by_cases h : x 17 < 32
  · rw [if_pos h, if_pos h]
    refine (rencode_ok x f hx hf h w).mono ?_
    rintro e w' ⟨v, rfl, hO, n⟩
    obtain ⟨p, cap, rfl, hc⟩ := hO.read
    have hl := btl_len (wd x f) 104
    obtain ⟨g, rfl, _⟩ := hc 0 (bt (wd x f) 0) (by unfold btl; rw [List.getElem?_map, List.getElem?_range (by omega)]; rfl)
    refine ⟨_, rfl, ?_, n⟩
    refine strs_at rfl fun i hi => ?_
    rw [hl] at hi
    obtain ⟨g', e, _, _, hcell⟩ := hc i (bt (wd x f) i) (by unfold btl; rw [List.getElem?_map, List.getElem?_range hi]; rfl)
    cases e
    rw [btl_get _ _ _ hi]; exact hcell
  · rw [if_neg h, if_neg h]
    refine (rencode_no x f h w).mono ?_
    rintro e w' ⟨rfl, n⟩
    exact ⟨_, rfl, strs_nil w', n⟩
end
/-- a slice of bytes that came in -/
def BRow (w : World) (a : Option Addr) (len cap : Nat) (zs : List Int) : Prop :=
  (a = none ∧ len = 0 ∧ cap = 0 ∧ zs = []) ∨
  ∃ x, a = some x ∧ len ≤ cap ∧ cap ≤ maxLen ∧ zs.length = cap ∧ (∀ i, i < zs.length → w.cell? (x.add i) = some (.int .u8 (zs.getD i 0))) ∧ ∀ n ∈ zs, (Lit.int .u8 n).wf = true
/-- what Decode answers, of both sides -/
theorem decode_both (a : Option Addr) (n cap : Nat) (z : List Int) (w : World) (h : BRow w a n cap z) : ∃ Y F E, ∀ W, New w W →
    (Calls Tryd.prog 7 #[.slice a n cap] W fun e w' => e = .returned (.tuple #[.agg (rc Y F).toArray, erN E]) ∧ New W w') ∧
    (Calls Tryd.prog 8 #[.slice a n cap] W fun e w' => e = .returned (.tuple #[.agg (rc Y F).toArray, .int .i64 E]) ∧ New W w') := by
  have hm : n ≤ maxLen := by
    rcases h with ⟨_, h, _⟩ | ⟨x, _, h1, h2, _⟩
    · unfold maxLen; omega
    · omega
  by_cases c : n = 104
  · subst c
    rcases h with ⟨_, h, _⟩ | ⟨x, rfl, h1, h2, h3, h4, h5⟩
    · cases h
    · have hz : ∀ i, 0 ≤ z.getD i 0 ∧ z.getD i 0 ≤ 255 := fun i => by
        by_cases c : i < z.length
        · rw [List.getD_eq_getElem?_getD, List.getElem?_eq_getElem c]; exact u8_bd (h5 _ (List.getElem_mem c))
        · rw [List.getD_eq_getElem?_getD, List.getElem?_eq_none (by omega)]; simp
      have hs : x.spot = none := by
        have := h4 0 (by omega)
        unfold World.cell? at this
        rw [show x.add 0 = x from rfl] at this
        cases hsp : x.spot with
        | none => rfl
        | some k => rw [hsp] at this; split at this <;> simp at this
      obtain ⟨b, o, s⟩ := x
      cases hs
      obtain ⟨Y, F, e⟩ : ∃ Y F, gv (n4 fun i => z.getD i 0) = rc Y F := by unfold gv; split <;> exact ⟨_, _, rfl⟩
      refine ⟨Y, F, cke (n4 (fun i => z.getD i 0) 17), fun W hW => ?_⟩
      rw [← e]
      have hcell : ∀ i, i < 104 → W.cell? ⟨b, o + i, none⟩ = some (.int .u8 (z.getD i 0)) := fun i hi => by
        have := h4 i (by omega)
        rw [Addr.add_mid] at this
        exact hW.keeps this
      exact ⟨decode_ok b cap o _ (fun i _ => hz i) W hcell h1, rdecode_ok b cap o _ (fun i _ => hz i) W hcell h1⟩
  · exact ⟨_, _, 22, fun W _ => ⟨decode_no a n cap c hm W, rdecode_no a n cap c hm W⟩⟩
end Go.Proofs.YtbjpflomibcenaaDoor
