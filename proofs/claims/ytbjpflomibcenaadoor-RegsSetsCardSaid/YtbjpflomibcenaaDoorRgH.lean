/- Set and Get of a float's halves, and of any word where the registers are valid, in the laws' spelling. -/
import Derived.Test.YtbjpflomibcenaaDoorRgU
import Derived.Test.YtbjpflomibcenaaDoorRgQ
namespace Go.Proofs.YtbjpflomibcenaaDoor
open Go.RowKit Go.Joins
set_option linter.unusedVariables false
theorem rmod_by (a : Int) (n : Nat) (h1 : 0 < n) (h2 : n ≤ 4096) : ∃ x : Nat, wrap64 ((IntKind.u64.wrap a).tmod (n : Int)) = (x : Int) ∧ x < n := by
  rw [IntKind.wrap_u64, Int.tmod_eq_emod_of_nonneg (by omega)]
  have h := Int.emod_lt_of_pos (a % 18446744073709551616) (show (0 : Int) < n by omega)
  have h' := Int.emod_nonneg (a % 18446744073709551616) (show (n : Int) ≠ 0 by omega)
  refine ⟨(a % 18446744073709551616 % n).toNat, ?_, by omega⟩
  unfold wrap64; omega
theorem u64_bd {a : Int} (h : (Lit.int .u64 a).wf = true) : 0 ≤ a ∧ a ≤ 18446744073709551615 := by
  simp only [Lit.wf, Bool.and_eq_true, decide_eq_true_eq] at h
  have h1 : IntKind.u64.min = 0 := rfl
  have h2 : IntKind.u64.max = 18446744073709551615 := rfl
  omega
theorem x17_bd {x : Nat → Int} (hx : ∀ k, k < 18 → 0 ≤ x k ∧ x k ≤ 4294967295) : (∀ k, k < 18 → 0 ≤ upd x 17 (x 17 % 32) k ∧ upd x 17 (x 17 % 32) k ≤ 4294967295) ∧ upd x 17 (x 17 % 32) 17 < 32 := by
  constructor
  · intro k hk
    have := hx k hk
    have := hx 17 (by omega)
    unfold upd; split <;> omega
  · unfold upd; rw [if_pos rfl]; omega
theorem updf_bd {f : Nat → Int} (hf : ∀ k, k < 4 → 0 ≤ f k ∧ f k ≤ 18446744073709551615) (n : Nat) (v : Int) (hv : 0 ≤ v ∧ v ≤ 18446744073709551615) : ∀ k, k < 4 → 0 ≤ upd f n v k ∧ upd f n v k ≤ 18446744073709551615 := fun k hk => by
  unfold upd; split
  · exact hv
  · exact hf k hk
theorem upd_upd (f : Nat → Int) (n : Nat) (u v : Int) : upd (upd f n u) n v = upd f n v := by
  funext i; unfold upd; split <;> rfl
theorem upd_here (f : Nat → Int) (n : Nat) (v : Int) : upd f n v n = v := by unfold upd; rw [if_pos rfl]
section
variable {x f : Nat → Int}
theorem set_fl (hx : ∀ k, k < 18 → 0 ≤ x k ∧ x k ≤ 4294967295) (hf : ∀ k, k < 4 → 0 ≤ f k ∧ f k ≤ 18446744073709551615) (h17 : x 17 < 32) (k : Nat) (hk : k < 4) (v : Int) (hv : 0 ≤ v ∧ v ≤ 4294967295) (w : World) :
    Calls Tryd.prog 14 #[.agg (rc x f).toArray, .int .i64 (18 + 2 * (k : Int)), .int .u32 v] w fun e w' => e = .returned (.tuple #[.agg (rc x (upd f k (f k / 4294967296 * 4294967296 + v))).toArray, .nilIface]) ∧ New w w' := by
  have h := set_any x f hx hf (18 + 2 * (k : Int)) v hv w
  have e : (18 + 2 * (k : Int)).toNat = 18 + 2 * k := by omega
  have hok : sok x (18 + 2 * (k : Int)) v := ⟨⟨by omega, by omega⟩, by rw [e]; unfold wx; rw [if_neg (by omega)]; exact h17⟩
  have e1 : sv x f (18 + 2 * (k : Int)) v = rc x (upd f k (f k / 4294967296 * 4294967296 + v)) := by
    unfold sv; rw [if_pos hok, e]; unfold wx wf
    rw [if_neg (by omega), if_neg (by omega), if_neg (by omega), show (18 + 2 * k - 18) / 2 = k by omega]
  have e2 : se x (18 + 2 * (k : Int)) v = 0 := by unfold se; rw [if_pos hok]
  rw [e1, e2] at h; exact h
theorem set_fh (hx : ∀ k, k < 18 → 0 ≤ x k ∧ x k ≤ 4294967295) (hf : ∀ k, k < 4 → 0 ≤ f k ∧ f k ≤ 18446744073709551615) (h17 : x 17 < 32) (k : Nat) (hk : k < 4) (v : Int) (hv : 0 ≤ v ∧ v ≤ 4294967295) (w : World) :
    Calls Tryd.prog 14 #[.agg (rc x f).toArray, .int .i64 (19 + 2 * (k : Int)), .int .u32 v] w fun e w' => e = .returned (.tuple #[.agg (rc x (upd f k (f k % 4294967296 + v * 4294967296))).toArray, .nilIface]) ∧ New w w' := by
  have h := set_any x f hx hf (19 + 2 * (k : Int)) v hv w
  have e : (19 + 2 * (k : Int)).toNat = 19 + 2 * k := by omega
  have hok : sok x (19 + 2 * (k : Int)) v := ⟨⟨by omega, by omega⟩, by rw [e]; unfold wx; rw [if_neg (by omega)]; exact h17⟩
  have e1 : sv x f (19 + 2 * (k : Int)) v = rc x (upd f k (f k % 4294967296 + v * 4294967296)) := by
    unfold sv; rw [if_pos hok, e]; unfold wx wf
    rw [if_neg (by omega), if_neg (by omega), if_pos (by omega), show (19 + 2 * k - 18) / 2 = k by omega]
  have e2 : se x (19 + 2 * (k : Int)) v = 0 := by unfold se; rw [if_pos hok]
  rw [e1, e2] at h; exact h
theorem get_fl (hf : ∀ k, k < 4 → 0 ≤ f k ∧ f k ≤ 18446744073709551615) (k : Nat) (hk : k < 4) (w : World) :
    Calls Tryd.prog 9 #[.agg (rc x f).toArray, .int .i64 (18 + 2 * (k : Int))] w fun e w' => e = .returned (.tuple #[.int .u32 (f k % 4294967296), .nilIface]) ∧ New w w' := by
  have h := get_any x f hf (18 + 2 * (k : Int)) w
  have hok : okw (18 + 2 * (k : Int)) := ⟨by omega, by omega⟩
  have e1 : gtv x f (18 + 2 * (k : Int)) = f k % 4294967296 := by
    unfold gtv; rw [if_pos hok, show (18 + 2 * (k : Int)).toNat = 18 + 2 * k by omega]; unfold wd
    rw [if_neg (by omega), if_neg (by omega), show (18 + 2 * k - 18) / 2 = k by omega]
  have e2 : gte (18 + 2 * (k : Int)) = 0 := by unfold gte; rw [if_pos hok]
  rw [e1, e2] at h; exact h
theorem get_fh (hf : ∀ k, k < 4 → 0 ≤ f k ∧ f k ≤ 18446744073709551615) (k : Nat) (hk : k < 4) (w : World) :
    Calls Tryd.prog 9 #[.agg (rc x f).toArray, .int .i64 (19 + 2 * (k : Int))] w fun e w' => e = .returned (.tuple #[.int .u32 (f k / 4294967296), .nilIface]) ∧ New w w' := by
  have h := get_any x f hf (19 + 2 * (k : Int)) w
  have hok : okw (19 + 2 * (k : Int)) := ⟨by omega, by omega⟩
  have e1 : gtv x f (19 + 2 * (k : Int)) = f k / 4294967296 := by
    unfold gtv; rw [if_pos hok, show (19 + 2 * (k : Int)).toNat = 19 + 2 * k by omega]; unfold wd
    rw [if_neg (by omega), if_pos (by omega), show (19 + 2 * k - 18) / 2 = k by omega]
  have e2 : gte (19 + 2 * (k : Int)) = 0 := by unfold gte; rw [if_pos hok]
  rw [e1, e2] at h; exact h
/-- any word of valid registers -/
theorem set_w (hx : ∀ k, k < 18 → 0 ≤ x k ∧ x k ≤ 4294967295) (hf : ∀ k, k < 4 → 0 ≤ f k ∧ f k ≤ 18446744073709551615) (h17 : x 17 < 32) (k : Nat) (hk : k < 26) (v : Int) (hv : 0 ≤ v ∧ v ≤ 4294967295) (hv17 : k = 17 → v < 32) (w : World) :
    Calls Tryd.prog 14 #[.agg (rc x f).toArray, .int .i64 (k : Int), .int .u32 v] w fun e w' => e = .returned (.tuple #[.agg (rc (wx x k v) (wf f k v)).toArray, .nilIface]) ∧ New w w' := by
  have h := set_any x f hx hf (k : Int) v hv w
  have hok : sok x (k : Int) v := ⟨⟨by omega, by omega⟩, by
    show wx x k v 17 < 32
    unfold wx; split
    · unfold upd; split
      · exact hv17 (by omega)
      · exact h17
    · exact h17⟩
  have e1 : sv x f (k : Int) v = rc (wx x k v) (wf f k v) := by unfold sv; rw [if_pos hok]; rfl
  have e2 : se x (k : Int) v = 0 := by unfold se; rw [if_pos hok]
  rw [e1, e2] at h; exact h
theorem get_w (hf : ∀ k, k < 4 → 0 ≤ f k ∧ f k ≤ 18446744073709551615) (k : Nat) (hk : k < 26) (w : World) :
    Calls Tryd.prog 9 #[.agg (rc x f).toArray, .int .i64 (k : Int)] w fun e w' => e = .returned (.tuple #[.int .u32 (wd x f k), .nilIface]) ∧ New w w' := by
  have h := get_any x f hf (k : Int) w
  have hok : okw (k : Int) := ⟨by omega, by omega⟩
  have e1 : gtv x f (k : Int) = wd x f k := by unfold gtv; rw [if_pos hok]; rfl
  have e2 : gte (k : Int) = 0 := by unfold gte; rw [if_pos hok]
  rw [e1, e2] at h; exact h
/-- registers come back from their bytes -/
theorem dec_back (hx : ∀ k, k < 18 → 0 ≤ x k ∧ x k ≤ 4294967295) (hf : ∀ k, k < 4 → 0 ≤ f k ∧ f k ≤ 18446744073709551615) (h17 : x 17 < 32) (b : Nat) (w : World) (hB : Box w b (nl .u8 104 (bt (wd x f))).toArray 5) :
    Calls Tryd.prog 7 #[.slice (some ⟨b, 0, none⟩) 104 104] w fun e w' => e = .returned (.tuple #[.agg (rc x f).toArray, .nilIface]) ∧ New w w' := by
  have hb := fun i (hi : i < 26) => wd_bd x f i hi hx hf
  have hn : ∀ i, i < 26 → n4 (bt (wd x f)) i = wd x f i := fun i hi => by
    have := hb i hi
    unfold n4 bt by4
    rw [show 4 * i / 4 = i by omega, show (4 * i + 1) / 4 = i by omega, show (4 * i + 2) / 4 = i by omega, show (4 * i + 3) / 4 = i by omega,
      if_pos (by omega), if_neg (by omega), if_pos (by omega), if_neg (by omega), if_neg (by omega), if_pos (by omega), if_neg (by omega), if_neg (by omega), if_neg (by omega)]
    omega
  have h := decode_ok b 104 0 (bt (wd x f)) (fun i hi => by unfold bt; exact by4_bd (hb (i / 4) (by omega)) _) w (fun i hi => by rw [Nat.zero_add]; exact hB.at (nl_at _ hi)) (Nat.le_refl _)
  have e17 : n4 (bt (wd x f)) 17 = x 17 := by rw [hn 17 (by omega)]; rfl
  have e1 : gv (n4 (bt (wd x f))) = rc x f := by rw [gv_wd _ x f hn hf, if_pos h17]
  have e2 : cke (n4 (bt (wd x f)) 17) = 0 := by rw [e17]; unfold cke; rw [if_pos h17]
  rw [e1, e2] at h; exact h
end
end Go.Proofs.YtbjpflomibcenaaDoor
