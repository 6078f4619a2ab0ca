/- What an instruction's answer looks like, whatever it is: where it fails, no register is changed; what is stored. No program stands in this text. -/
import Derived.Test.YtbkhmeongekdiaaCpMath
namespace Go.Proofs.Ytbkhmeongekdiaa
open Go.RowKit
set_option linter.unusedVariables false
set_option maxRecDepth 100000
def ShA (x f : Nat → Int) (L : List Int) (A : Ans) : Prop :=
  ((A.k = 4 ∧ A.x = x ∧ A.f = f ∧ ((A.s = 4 ∧ A.a = x 16) ∨ (A.s = 8 ∧ A.a = x 16) ∨ A.s = 7 ∨ A.s = 11)) ∨ ((A.k = 0 ∨ A.k = 1 ∨ A.k = 2) ∧ A.s = 0 ∧ A.a = 0)) ∧ A.n ≤ 2 ∧ (A.n = 0 → A.L = L)
section
variable {x f : Nat → Int} {L : List Int} {a b : Nat}
theorem sh_okA (x' f' : Nat → Int) : ShA x f L (okA x' f' L) := ⟨.inr ⟨.inl rfl, rfl, rfl⟩, Nat.zero_le _, fun _ => rfl⟩
theorem sh_noA (s q : Int) (h : (s = 4 ∧ q = x 16) ∨ (s = 8 ∧ q = x 16) ∨ s = 7 ∨ s = 11) : ShA x f L (noA x f L s q) := ⟨.inl ⟨rfl, rfl, rfl, h⟩, Nat.zero_le _, fun _ => rfl⟩
theorem sh_ite {c : Prop} [Decidable c] {A B : Ans} (h1 : c → ShA x f L A) (h2 : ¬ c → ShA x f L B) : ShA x f L (if c then A else B) := by
  by_cases h : c
  · rw [if_pos h]; exact h1 h
  · rw [if_neg h]; exact h2 h
theorem sh_mvA (op p : Int) : ShA x f L (mvA op a x f L p) := by
  unfold mvA
  refine sh_ite (fun _ => sh_noA _ _ (.inr (.inr (.inl rfl)))) fun _ => ?_
  refine sh_ite (fun _ => sh_noA _ _ (.inr (.inr (.inr rfl)))) fun _ => ?_
  refine sh_ite (fun _ => sh_okA _ _) fun _ => ?_
  exact ⟨.inr ⟨.inl rfl, rfl, rfl⟩, by show (1 : Nat) ≤ 2; omega, fun e => by cases e⟩
theorem sh_flA (op p : Int) : ShA x f L (flA op a b x f L p) := by
  unfold flA
  refine sh_ite (fun _ => ?_) fun _ => ?_
  · refine sh_ite (fun _ => sh_noA _ _ (.inr (.inr (.inl rfl)))) fun _ => ?_
    refine sh_ite (fun _ => sh_noA _ _ (.inr (.inr (.inr rfl)))) fun _ => ?_
    refine sh_ite (fun _ => sh_noA _ _ (.inr (.inr (.inr rfl)))) fun _ => ?_
    exact sh_okA _ _
  refine sh_ite (fun _ => ?_) fun _ => ?_
  · refine sh_ite (fun _ => sh_noA _ _ (.inr (.inr (.inl rfl)))) fun _ => ?_
    refine sh_ite (fun _ => sh_noA _ _ (.inr (.inr (.inr rfl)))) fun _ => ?_
    refine sh_ite (fun _ => ?_) fun _ => ?_
    · exact ⟨.inl ⟨rfl, rfl, rfl, .inr (.inr (.inr rfl))⟩, by show (1 : Nat) ≤ 2; omega, fun e => by cases e⟩
    · exact ⟨.inr ⟨.inl rfl, rfl, rfl⟩, by show (2 : Nat) ≤ 2; omega, fun e => by cases e⟩
  refine sh_ite (fun _ => sh_okA _ _) fun _ => ?_
  refine sh_ite (fun _ => sh_okA _ _) fun _ => ?_
  refine sh_ite (fun _ => sh_okA _ _) fun _ => ?_
  exact sh_okA _ _
theorem sh_dsA (op m : Int) : ShA x f L (dsA op a b m x f L) := by
  unfold dsA
  refine sh_ite (fun _ => sh_okA _ _) fun _ => ?_
  refine sh_ite (fun _ => sh_okA _ _) fun _ => ?_
  refine sh_ite (fun _ => sh_okA _ _) fun _ => ?_
  refine sh_ite (fun _ => sh_ite (fun _ => sh_okA _ _) fun _ => sh_noA _ _ (.inr (.inl ⟨rfl, rfl⟩))) fun _ => ?_
  refine sh_ite (fun _ => sh_okA _ _) fun _ => ?_
  refine sh_ite (fun _ => sh_mvA _ _) fun _ => ?_
  refine sh_ite (fun _ => sh_ite (fun _ => sh_okA _ _) fun _ => sh_okA _ _) fun _ => ?_
  refine sh_ite (fun _ => sh_okA _ _) fun _ => ?_
  refine sh_ite (fun _ => sh_okA _ _) fun _ => ?_
  refine sh_ite (fun _ => ⟨.inr ⟨.inr (.inl rfl), rfl, rfl⟩, Nat.zero_le _, fun _ => rfl⟩) fun _ => ?_
  refine sh_ite (fun _ => ⟨.inr ⟨.inr (.inr rfl), rfl, rfl⟩, Nat.zero_le _, fun _ => rfl⟩) fun _ => ?_
  refine sh_ite (fun _ => sh_ite (fun _ => sh_noA _ _ (.inl ⟨rfl, rfl⟩)) fun _ => sh_flA _ _) fun _ => ?_
  refine sh_ite (fun _ => sh_okA _ _) fun _ => ?_
  exact sh_okA _ _
theorem sh_exA (x f : Nat → Int) (L : List Int) : ShA x f L (exA x f L) := by
  unfold exA
  refine sh_ite (fun _ => sh_noA _ _ (.inr (.inr (.inl rfl)))) fun _ => ?_
  refine sh_ite (fun _ => sh_noA _ _ (.inr (.inr (.inr rfl)))) fun _ => ?_
  unfold inA
  exact sh_ite (fun _ => sh_dsA _ _) fun _ => sh_noA _ _ (.inl ⟨rfl, rfl⟩)
theorem n_ite {c : Prop} [Decidable c] {A B : Ans} (h1 : c → A.n = 0) (h2 : ¬ c → B.n = 0) : (if c then A else B).n = 0 := by
  by_cases h : c
  · rw [if_pos h]; exact h1 h
  · rw [if_neg h]; exact h2 h
/-- nothing is stored but by instructions that store -/
theorem n_dsA (op m : Int) (h1 : op ≠ 19) (h2 : op ≠ 20) (h3 : op ≠ 32) : (dsA op a b m x f L).n = 0 := by
  unfold dsA
  refine n_ite (fun _ => rfl) fun _ => ?_
  refine n_ite (fun _ => rfl) fun _ => ?_
  refine n_ite (fun _ => rfl) fun _ => ?_
  refine n_ite (fun _ => n_ite (fun _ => rfl) fun _ => rfl) fun _ => ?_
  refine n_ite (fun _ => rfl) fun _ => ?_
  refine n_ite (fun h => ?_) fun _ => ?_
  · unfold mvA
    refine n_ite (fun _ => rfl) fun _ => ?_
    refine n_ite (fun _ => rfl) fun _ => ?_
    exact n_ite (fun _ => rfl) fun _ => by omega
  refine n_ite (fun _ => n_ite (fun _ => rfl) fun _ => rfl) fun _ => ?_
  refine n_ite (fun _ => rfl) fun _ => ?_
  refine n_ite (fun _ => rfl) fun _ => ?_
  refine n_ite (fun _ => rfl) fun _ => ?_
  refine n_ite (fun _ => rfl) fun _ => ?_
  refine n_ite (fun _ => n_ite (fun _ => rfl) fun _ => ?_) fun _ => ?_
  · unfold flA
    refine n_ite (fun _ => n_ite (fun _ => rfl) fun _ => n_ite (fun _ => rfl) fun _ => n_ite (fun _ => rfl) fun _ => rfl) fun _ => ?_
    refine n_ite (fun e => absurd e h3) fun _ => ?_
    refine n_ite (fun _ => rfl) fun _ => ?_
    refine n_ite (fun _ => rfl) fun _ => ?_
    exact n_ite (fun _ => rfl) fun _ => rfl
  exact n_ite (fun _ => rfl) fun _ => rfl
theorem n_inA (v : Int) (h1 : v / 16777216 ≠ 19) (h2 : v / 16777216 ≠ 20) (h3 : v / 16777216 ≠ 32) : (inA v x f L).n = 0 := by
  unfold inA
  exact n_ite (fun _ => n_dsA _ _ h1 h2 h3) fun _ => rfl
/-- how often the bus was asked for an instruction, by a step -/
def fes (x : Nat → Int) (a : Int) : Int := if 32 ≤ x 17 then a else if x 16 % 4 ≠ 0 then a else wrap64 (a + 1)
theorem sh_stA (x f : Nat → Int) (L : List Int) : ((stA x f L).k = 4 → (stA x f L).x = x ∧ (stA x f L).f = f) ∧ (stA x f L).n ≤ 2 ∧ ((stA x f L).n = 0 → (stA x f L).L = L) := by
  unfold stA
  split
  · exact ⟨fun _ => ⟨rfl, rfl⟩, Nat.zero_le _, fun _ => rfl⟩
  · obtain ⟨h1, h2, h3⟩ := sh_exA x f L
    refine ⟨?_, h2, h3⟩
    show kdA (exA x f L) (x 17) = 4 → (exA x f L).x = x ∧ (exA x f L).f = f
    unfold kdA
    intro hk
    split at hk
    · cases hk
    · rcases h1 with h1 | h1
      · exact ⟨h1.2.1, h1.2.2.1⟩
      · omega
/-- where there is no instruction nothing is stored, and it fails -/
theorem stA_out (x f : Nat → Int) (L : List Int) (h : ¬ (x 17 ≤ 31 ∧ x 16 % 4 = 0 ∧ hsn L (x 16) 4)) : (stA x f L).k = 4 ∧ (stA x f L).n = 0 := by
  unfold stA
  by_cases c1 : 32 ≤ x 17
  · rw [if_pos c1]; exact ⟨rfl, rfl⟩
  rw [if_neg c1]
  unfold exA
  by_cases c2 : x 16 % 4 ≠ 0
  · rw [if_pos c2]; exact ⟨rfl, rfl⟩
  rw [if_neg c2]
  by_cases c3 : hsn L (x 16) 4
  · exact absurd ⟨by omega, by omega, c3⟩ h
  · rw [if_pos c3]; exact ⟨rfl, rfl⟩
theorem stA_in (x f : Nat → Int) (L : List Int) (h : x 17 ≤ 31 ∧ x 16 % 4 = 0 ∧ hsn L (x 16) 4) : (stA x f L).n = (inA (gtn L (x 16) 4) x f L).n := by
  unfold stA
  rw [if_neg (by omega)]
  show (exA x f L).n = _
  unfold exA
  rw [if_neg (by omega), if_neg (not_not_intro h.2.2)]
end
end Go.Proofs.Ytbkhmeongekdiaa
