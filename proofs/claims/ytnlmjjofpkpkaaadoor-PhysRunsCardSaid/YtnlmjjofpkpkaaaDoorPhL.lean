/- The package of frames of bytes beside the document's notes: whatever is asked, both answer with one number of an error, and tell the same then. -/
import Derived.Test.YtnlmjjofpkpkaaaDoorPhK
namespace Go.Proofs.YtnlmjjofpkpkaaaDoor
open Go.RowKit
set_option linter.unusedVariables false
set_option maxRecDepth 100000
/-- the row of all bytes and the list tell the same; each note lies within a frame -/
def Both (many : Nat) (bs : List Int) (L : List Nt) : Prop := Same many bs L ∧ Small L
theorem Both.zeros (many : Nat) : Both many (List.replicate (many * 256) 0) [] := ⟨Same.zeros many, fun n h => (List.not_mem_nil h).elim⟩
theorem Both.write {many : Nat} {bs : List Int} {L : List Nt} (h : Both many bs L) (hm : many ≤ 1024) (f o : Nat) (l : List Int) (hf : f < many) (ho : o + l.length ≤ 256) : Both many (splice bs (f * 256 + o) l) (L ++ [nt f o l]) := by
  refine ⟨h.1.write (nt f o l) hf ho, fun n hn => ?_⟩
  rcases List.mem_append.1 hn with hn | hn
  · exact h.2 n hn
  · rw [List.mem_singleton] at hn; subst hn; exact ⟨Nat.lt_of_lt_of_le hf hm, ho⟩
/-- bytes that the package answers, or an error -/
def PRead (l : List Int) (c : Int) (w : World) (e : Ending) (w' : World) : Prop := ∃ v, e = .returned (.tuple #[v, erN c]) ∧ Byts w' v l ∧ New w w'
/-- bytes that the document answers, or an error -/
def DRead (l : List Int) (c : Int) (w : World) (e : Ending) (w' : World) : Prop := ∃ v, e = .returned (.tuple #[v, .int .i64 c]) ∧ Byts w' v l ∧ New w w'
section
variable {S : Nat → Prop} {mb rb many : Nat} {bs : List Int} {L : List Nt}
theorem frame_or (m : Int) (many : Nat) : (∃ j : Nat, m = (j : Int) ∧ j < many) ∨ ¬ (0 ≤ m ∧ m < many) := by
  by_cases c : 0 ≤ m ∧ m < many
  · obtain ⟨j, rfl⟩ := Int.eq_ofNat_of_zero_le c.1
    exact .inl ⟨j, rfl, by omega⟩
  · exact .inr c
theorem step_write (m o : Int) (pu : Option Addr) (l : List Int) (cu : Nat) (hB : Both many bs L) (hm : many ≤ 1024) (hl : L.length ≤ 1000000) (hc : Oct l) (hlm : l.length ≤ maxLen) (bo : o ≤ 9223372036854775807) :
    ∃ (c : Int) (bs' : List Int) (L' : List Nt), Both many bs' L' ∧ L'.length ≤ L.length + 1 ∧
      (∀ W, Ph W mb rb many bs → Byts W (.slice pu l.length cu) l → Calls Tryd.prog 8 #[.pointer (some ⟨mb, 0, none⟩), .int .i64 m, .int .i64 o, .slice pu l.length cu] W (DidP mb rb many bs' (erN c) W)) ∧
      (∀ W v, Notes S W v L → (∀ k, W.heap.size ≤ k → S k) → BytsO S W (.slice pu l.length cu) l → Calls Tryd.prog 14 #[.agg #[.int .i64 many, v], .int .i64 m, .int .i64 o, .slice pu l.length cu] W (FrmN S many L' [.int .i64 c] W)) := by
  rcases frame_or m many with ⟨j, rfl, hj⟩ | hn
  · by_cases hf : o < 0 ∨ 256 < o + (l.length : Int)
    · refine ⟨14, bs, L, hB, by omega, fun W hP _ => ?_, fun W v hN _ _ => rwrite_fault many j v L o pu l.length cu hN hj hlm hf bo⟩
      refine (write_fault j o pu l.length cu hlm hP hj hf bo).mono ?_
      rintro e w' ⟨rfl, rfl⟩
      exact ⟨by rw [erN_pos (by decide)], hP, Far.refl _ _⟩
    · obtain ⟨k, rfl⟩ := Int.eq_ofNat_of_zero_le (show 0 ≤ o by omega)
      have hk : k + l.length ≤ 256 := by omega
      exact ⟨0, _, _, hB.write hm j k l hj hk, by simp, fun W hP hb => write_any j k _ l hP hb hc hj hk, fun W v hN hS hU => rwrite_ok many j k v _ L l hN hS hU hj hm hk hl⟩
  · refine ⟨22, bs, L, hB, by omega, fun W hP _ => ?_, fun W v hN _ _ => rwrite_arg many v _ L m o hN hn⟩
    refine (write_arg m o pu l.length cu hlm hP hn).mono ?_
    rintro e w' ⟨rfl, rfl⟩
    exact ⟨by rw [erN_pos (by decide)], hP, Far.refl _ _⟩
theorem step_zero (m : Int) (hB : Both many bs L) (hm : many ≤ 1024) (hl : L.length ≤ 1000000) :
    ∃ (c : Int) (bs' : List Int) (L' : List Nt), Both many bs' L' ∧ L'.length ≤ L.length + 1 ∧
      (∀ W, Ph W mb rb many bs → Calls Tryd.prog 9 #[.pointer (some ⟨mb, 0, none⟩), .int .i64 m] W (DidP mb rb many bs' (erN c) W)) ∧
      (∀ W v, Notes S W v L → (∀ k, W.heap.size ≤ k → S k) → Calls Tryd.prog 15 #[.agg #[.int .i64 many, v], .int .i64 m] W (FrmN S many L' [.int .i64 c] W)) := by
  rcases frame_or m many with ⟨j, rfl, hj⟩ | hn
  · exact ⟨0, _, _, hB.write hm j 0 (List.replicate 256 0) hj (by simp), by simp, fun W hP => zero_any j hP hj, fun W v hN hS => rzero_ok many j v L hN hS hj hm hl⟩
  · refine ⟨22, bs, L, hB, by omega, fun W hP => ?_, fun W v hN _ => rzero_arg many v L m hN hn⟩
    refine (zero_arg m hP hn).mono ?_
    rintro e w' ⟨rfl, rfl⟩
    exact ⟨by rw [erN_pos (by decide)], hP, Far.refl _ _⟩
theorem step_copy (m n : Int) (hB : Both many bs L) (hm : many ≤ 1024) (hl : L.length ≤ 1000000) :
    ∃ (c : Int) (bs' : List Int) (L' : List Nt), Both many bs' L' ∧ L'.length ≤ L.length + 1 ∧
      (∀ W, Ph W mb rb many bs → Calls Tryd.prog 10 #[.pointer (some ⟨mb, 0, none⟩), .int .i64 m, .int .i64 n] W (DidP mb rb many bs' (erN c) W)) ∧
      (∀ W v, Notes S W v L → (∀ k, W.heap.size ≤ k → S k) → Calls Tryd.prog 16 #[.agg #[.int .i64 many, v], .int .i64 m, .int .i64 n] W (FrmN S many L' [.int .i64 c] W)) := by
  have bad : (¬ (0 ≤ m ∧ m < many) ∨ ¬ (0 ≤ n ∧ n < many)) → ∃ (c : Int) (bs' : List Int) (L' : List Nt), Both many bs' L' ∧ L'.length ≤ L.length + 1 ∧
      (∀ W, Ph W mb rb many bs → Calls Tryd.prog 10 #[.pointer (some ⟨mb, 0, none⟩), .int .i64 m, .int .i64 n] W (DidP mb rb many bs' (erN c) W)) ∧
      (∀ W v, Notes S W v L → (∀ k, W.heap.size ≤ k → S k) → Calls Tryd.prog 16 #[.agg #[.int .i64 many, v], .int .i64 m, .int .i64 n] W (FrmN S many L' [.int .i64 c] W)) := by
    intro hn
    refine ⟨22, bs, L, hB, by omega, fun W hP => ?_, fun W v hN _ => rcopy_arg many v L m n hN hn⟩
    refine (copy_arg m n hP hn).mono ?_
    rintro e w' ⟨rfl, rfl⟩
    exact ⟨by rw [erN_pos (by decide)], hP, Far.refl _ _⟩
  rcases frame_or m many with ⟨i, rfl, hi⟩ | hn
  · rcases frame_or n many with ⟨k, rfl, hk⟩ | hn
    · have e := hB.1.read k 0 256 hk (by omega)
      have hw := hB.write hm i 0 (rd L k 0 256) hi (by rw [rd_len]; omega)
      refine ⟨0, _, _, hw, by simp, fun W hP => ?_, fun W v hN hS => rcopy_ok many i k v L hN hS hi hk hm hl hB.2⟩
      rw [e]
      exact copy_any i k hP hi hk
    · exact bad (.inr hn)
  · exact bad (.inl hn)
theorem step_read (m o n : Int) (hB : Both many bs L) (hm : many ≤ 1024) (hl : L.length ≤ 1000000) (bo : o ≤ 9223372036854775807) (bn : n ≤ 9223372036854775807) :
    ∃ (c : Int) (l : List Int),
      (∀ W, Ph W mb rb many bs → Calls Tryd.prog 6 #[.pointer (some ⟨mb, 0, none⟩), .int .i64 m, .int .i64 o, .int .i64 n] W (PRead l c W)) ∧
      (∀ W v, Notes S W v L → Calls Tryd.prog 17 #[.agg #[.int .i64 many, v], .int .i64 m, .int .i64 o, .int .i64 n] W (DRead l c W)) := by
  rcases frame_or m many with ⟨j, rfl, hj⟩ | hn
  · by_cases hf : o < 0 ∨ n < 0 ∨ 256 < o + n
    · refine ⟨14, [], fun W hP => ?_, fun W v hN => ?_⟩
      · refine (read_fault j o n hP hj hf bo).mono ?_
        rintro e w' ⟨rfl, rfl⟩
        exact ⟨_, by rw [erN_pos (by decide)], Byts.nil _, New.refl _⟩
      · refine (rread_fault many j v o n W hj hf bo bn).mono ?_
        rintro e w' ⟨rfl, h⟩
        exact ⟨_, rfl, Byts.nil _, h⟩
    · obtain ⟨a, rfl⟩ := Int.eq_ofNat_of_zero_le (show 0 ≤ o by omega)
      obtain ⟨b, rfl⟩ := Int.eq_ofNat_of_zero_le (show 0 ≤ n by omega)
      have hk : a + b ≤ 256 := by omega
      have e := hB.1.read j a b hj hk
      refine ⟨0, rd L j a b, fun W hP => ?_, fun W v hN => ?_⟩
      · rw [e]
        refine (read_any j a b hP hj hk).mono ?_
        rintro e w' ⟨rfl, h1, h2⟩
        exact ⟨_, rfl, byts_of_block h1 (by rw [← e, rd_len]; unfold maxLen; omega), h2⟩
      · refine (rread_any many j v L a b hN hl hB.2 hj hm hk).mono ?_
        rintro e w' ⟨u, rfl, h1, h2⟩
        exact ⟨u, rfl, h1.byts, h2⟩
  · refine ⟨22, [], fun W hP => ?_, fun W v hN => ?_⟩
    · refine (read_arg m o n hP hn).mono ?_
      rintro e w' ⟨rfl, rfl⟩
      exact ⟨_, by rw [erN_pos (by decide)], Byts.nil _, New.refl _⟩
    · refine (rread_arg many v m o n W hn).mono ?_
      rintro e w' ⟨rfl, h⟩
      exact ⟨_, rfl, Byts.nil _, h⟩
end
end Go.Proofs.YtnlmjjofpkpkaaaDoor
