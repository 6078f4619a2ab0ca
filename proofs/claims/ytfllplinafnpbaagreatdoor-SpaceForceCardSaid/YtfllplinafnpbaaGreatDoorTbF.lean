/- What the package of tables of two levels does with all its upper parts: the iterator's contract. -/
import Derived.Test.YtfllplinafnpbaaGreatDoorTbE
import Derived.Test.YtfllplinafnpbaaGreatDoorRange
namespace Go.Proofs.YtfllplinafnpbaaGreatDoor
open Go.RowKit Go.Shelf
set_option linter.unusedVariables false
set_option maxRecDepth 100000
attribute [local go_sem] Oper.semAt_some
section
variable {w : World} {tb fb rb mb qb t many n : Nat} {rs bs : List Int} {a : Nat → Prop} {v : Value}
theorem Ph.but {w' : World} {S : Nat → Prop} (h : Ph w mb qb many bs) (k : But S w w') (h1 : ¬ S mb) (h2 : ¬ S qb) : Ph w' mb qb many bs :=
  ⟨h.1, h.2.1, h.2.2.1, h.2.2.2.1, h.2.2.2.2.1, by rw [k.block h.lt.1 h1]; exact h.2.2.2.2.2.1, by rw [k.block h.lt.2 h2]; exact h.2.2.2.2.2.2⟩
theorem Fr.but {w' : World} {S : Nat → Prop} (h : Fr w fb rb rs) (k : But S w w') (h1 : ¬ S fb) (h2 : ¬ S rb) : Fr w' fb rb rs :=
  ⟨h.1, h.2.1, by rw [k.block h.lt.1 h1]; exact h.2.2.1, by rw [k.block h.lt.2 h2]; exact h.2.2.2⟩
set_option maxHeartbeats 2000000 in
theorem uppers_iter (h : Tb w tb fb mb t) (h2 : Ph w mb qb many bs) (hg : Good n a bs t) (hn : n ≤ many) (ch n0 : Nat) (hz : n0 ≤ w.heap.size) (k1 : tb < n0) (k2 : mb < n0) (k3 : qb < n0) (r1 : tb ≠ ch) (r2 : mb ≠ ch) (r3 : qb ≠ ch) :
    Iter Tryz.prog 63 #[.pointer (some ⟨tb, 0, none⟩)] (fun x : Nat × Nat => #[.int .i64 x.1, .int .i64 x.2]) ch n0 (ups bs t 64) w := fun l J W nW hJ hY h0 => by
  have hlt := hg.lt
  have hbd := h2.bd
  have G := isgone_no (h.new nW)
  have HL := Lib.hid (fun W' (k : Kept ch n0 W W') (u : Nat) (hu : u < 64) (hz : nm bs t u = 0) => lower_no u (Box.but (h.new nW) k (by omega) : Tb W' tb fb mb t) ((h2.new nW).but k (by omega) (by omega)) (by omega) hu hz)
  have HM := Lib.hid (fun W' (k : Kept ch n0 W W') (u : Nat) (hu : u < 64) (hz : nm bs t u ≠ 0) => lower_yes u (lof bs t u) (Box.but (h.new nW) k (by omega) : Tb W' tb fb mb t) ((h2.new nW).but k (by omega) (by omega)) (by omega) hu (by have := (hg.frame hu hz).1; omega) (hg.frame hu hz).2.2.2)
  have HY := Lib.hid hY
  have HJ := Lib.hid hJ
  clear hY hJ h h2 hg hz k1 k2 k3 r1 r2 r3
  refine callsIn_of_wp Tryz.func63 rfl trivial ?_ rfl
  simp only [Tryz.ntmps63, List.size_toArray, List.length_cons, List.length_nil, Nat.reduceAdd, Nat.reduceSub, Array.replicate_succ, Array.replicate_zero, List.push_toArray, List.append_toArray, List.nil_append, List.cons_append]
  gi_wp2_with (refine ⟨trivial, ?_⟩; gi_at_call 69; refine (callsIn_wide.2 G).mono ?_; rintro e w' ⟨rfl, rfl⟩)
  gi_loopw [9] (fun i wr => ∃ k : Nat, k ≤ 64 ∧ i = .int .i64 k ∧ J (ups bs t k) wr ∧ Kept ch n0 W wr) (fun i _ => 64 - (intOf i).toNat)
  case atStart => exact ⟨0, by omega, rfl, h0, But.refl _ _⟩
  case round =>
    obtain ⟨k, hk, rfl, hj, hb⟩ := hrel
    by_cases c : k < 64
    · have P := Lib.hid (ups_prefix bs t (k + 1) (64 - (k + 1)))
      by_cases d : nm bs t k = 0
      · have X := HL.out _ hb k c d
        have E := Lib.hid (ups_skip d)
        clear d
        gi_wp2_with (refine ⟨trivial, ?_⟩; gi_at_call 109; refine (callsIn_wide.2 X).mono ?_; rintro e w1 ⟨rfl, n1⟩)
        refine ⟨fun _ h => (by cases h), ?_⟩
        gi_wp2
        go_roundw
        case rel => exact ⟨k + 1, by omega, by go_num, by rw [E.out]; exact HJ.out _ _ _ hj n1, But.trans hb (But.of_new _ n1)⟩
        case measure => simp [intOf]; omega
      · have X := HM.out _ hb k c d
        have E := Lib.hid (ups_push d)
        clear d
        gi_wp2_with (refine ⟨trivial, ?_⟩; gi_at_call 109; refine (callsIn_wide.2 X).mono ?_; rintro e w1 ⟨rfl, n1⟩; obtain ⟨fn, tmps, assign, body, hy, hR⟩ := HY.out (ups bs t k) (k, lof bs t k) w1 (HJ.out _ _ _ hj n1) (by rw [← E.out]; have := P.out; rwa [show k + 1 + (64 - (k + 1)) = 64 from by omega] at this); dsimp only at hy)
        refine hR.mono ?_
        rintro e w2 ⟨rfl, j2, b2⟩
        gi_wp2
        go_roundw
        case rel => exact ⟨k + 1, by omega, by go_num, by rw [E.out]; exact j2, But.trans hb (But.trans (But.of_new _ n1) b2)⟩
        case measure => simp [intOf]; omega
    · obtain rfl : k = 64 := by omega
      gi_wp2
      go_end0
      exact ⟨⟨_, rfl⟩, hj⟩
end
end Go.Proofs.YtfllplinafnpbaaGreatDoor
