/- Numbers of files: what must come whatever the input is. -/
import Derived.Test.YthkdgihjgllpeaaDoorFdD
namespace Go.Proofs.YthkdgihjgllpeaaDoor
open Go.RowKit
set_option linter.unusedVariables false
set_option maxRecDepth 100000
def s1 : List Int := [6, 0, 0, 0, 0, 0, 0, 0]
def s2 : List Int := [6, 6, 0, 0, 0, 0, 0, 0]
def s3 : List Int := [0, 6, 0, 0, 0, 0, 0, 0]
theorem su1 : fpN z8 5 = 0 ∧ fpE z8 5 = 0 ∧ fpL z8 5 = s1 := by decide
theorem su2 : fuN s1 0 = 1 ∧ fuE s1 0 = 0 ∧ fuL s1 0 = s2 := by decide
theorem su3 : faN s2 1 = 5 ∧ faE s2 1 = 0 := by decide
theorem su4 : faN s2 0 = 5 ∧ faE s2 0 = 0 ∧ fdL s2 0 = s3 := by decide
theorem su5 : faN s3 0 = 0 ∧ faE s3 0 = 9 := by decide
theorem su6 : frN s3 = 7 := by decide
theorem su7 : fiO s2 = [5, 5] := by decide
theorem nums_two {w : World} {b : Nat} {x y : Int} (h : Box w b #[.int .i64 x, .int .i64 y] 3) : Nums w (.slice (some ⟨b, 0, none⟩) 2 2) [x, y] :=
  ⟨_, _, rfl, ⟨Nat.le_refl _, by unfold maxLen; decide⟩, fun i hi => ⟨_, rfl, by
    rw [Addr.add_mid, Nat.zero_add, h.cell]
    match i, hi with
    | 0, _ => rfl
    | 1, _ => rfl⟩⟩
set_option maxHeartbeats 4000000 in
theorem fdsure_any (w : World) (hl : Laid w) : Calls Tryd.prog 21 #[] w fun e w' => e = .returned (.bool true) ∧ New w w' := by
  have c1 := fun W => pput8 z8 rfl 5 W
  rw [su1.1, su1.2.1, su1.2.2, fe0] at c1
  have c2 := fun W => pdup8 s1 rfl 0 W
  rw [su2.1, su2.2.1, su2.2.2, fe0] at c2
  have c3 := fun W => pat8 s2 rfl 1 W
  rw [su3.1, su3.2, fe0] at c3
  have c4 := fun W => pdrop8 s2 rfl 0 W
  rw [su4.1, su4.2.1, su4.2.2, fe0] at c4
  have c5 := fun W => pat8 s3 rfl 0 W
  rw [su5.1, su5.2, erN_pos (by omega)] at c5
  have c6 := fun W => pfree8 s3 rfl W
  rw [su6] at c6
  have c7 := fun W => pfiles8 s2 rfl W
  rw [su7] at c7
  have c8 := fun W (k : New w W) => num_er 9 W (hl.new k)
  simp only [erN_pos (show (9 : Int) ≠ 0 by omega)] at c8
  unfold z8 s1 i8 at c1
  unfold s1 s2 i8 at c2
  unfold s2 i8 at c3
  unfold s2 s3 i8 at c4
  unfold s3 i8 at c5 c6
  unfold s2 i8 at c7
  dsimp only [List.map] at c1 c2 c3 c4 c5 c6
  simp only [List.map_cons (f := Value.int .i64), List.map_nil] at c7
  have C2 := Lib.hid c2
  have C3 := Lib.hid c3
  have C4 := Lib.hid c4
  have C5 := Lib.hid c5
  have C6 := Lib.hid c6
  have C7 := Lib.hid c7
  have C8 := Lib.hid c8
  clear c2 c3 c4 c5 c6 c7 c8 hl
  go_enter Tryd.func21, Tryd.ntmps21
  go_wp2_with fail
  refine (c1 _).mono ?_
  rintro e w1 ⟨rfl, n1⟩
  clear c1
  go_wp2_with fail
  refine (C2.out _).mono ?_
  rintro e w2 ⟨rfl, n2⟩
  have m2 := (n1.alloc #[.int .i64 6, .int .i64 0, .int .i64 0, .int .i64 0, .int .i64 0, .int .i64 0, .int .i64 0, .int .i64 0] 24).trans n2
  clear n1 n2 C2
  go_wp2_with fail
  refine (C3.out _).mono ?_
  rintro e w3 ⟨rfl, n3⟩
  have bU := (Box.here w2 w2.heap.size #[.int .i64 6, .int .i64 6, .int .i64 0, .int .i64 0, .int .i64 0, .int .i64 0, .int .i64 0, .int .i64 0] 24 rfl).new n3
  have m3 := (m2.alloc #[.int .i64 6, .int .i64 6, .int .i64 0, .int .i64 0, .int .i64 0, .int .i64 0, .int .i64 0, .int .i64 0] 24).trans n3
  obtain ⟨lu, ⟨u0, u1, u2, u3, u4, u5, u6, u7⟩, -⟩ := bU.eight
  have BU := Lib.hid bU
  clear m2 n3 C3 bU
  go_wp2_with fail
  refine (C4.out _).mono ?_
  rintro e w4 ⟨rfl, n4⟩
  have m4 := m3.trans n4
  have BU4 := Lib.hid (BU.out.new n4)
  clear m3 n4 C4 u0 u1 u2 u3 u4 u5 u6 u7 BU lu
  go_wp2_with fail
  refine (C5.out _).mono ?_
  rintro e w5 ⟨rfl, n5⟩
  have bV := (Box.here w4 w4.heap.size #[.int .i64 0, .int .i64 6, .int .i64 0, .int .i64 0, .int .i64 0, .int .i64 0, .int .i64 0, .int .i64 0] 24 rfl).new n5
  have BU5 := Lib.hid ((BU4.out.alloc (.cells #[.int .i64 0, .int .i64 6, .int .i64 0, .int .i64 0, .int .i64 0, .int .i64 0, .int .i64 0, .int .i64 0] 24)).new n5)
  have m5 := (m4.alloc #[.int .i64 0, .int .i64 6, .int .i64 0, .int .i64 0, .int .i64 0, .int .i64 0, .int .i64 0, .int .i64 0] 24).trans n5
  have BV := Lib.hid bV
  clear m4 n5 C5 bV BU4
  go_wp2_with fail
  refine (C8.out _ m5).mono ?_
  rintro e w6 ⟨rfl, n6⟩
  obtain ⟨lv, ⟨v0, v1, v2, v3, v4, v5, v6, v7⟩, -⟩ := (BV.out.new n6).eight
  have BU6 := Lib.hid (BU5.out.new n6)
  have m6 := m5.trans n6
  clear m5 n6 C8 BV BU5
  go_wp2_with fail
  refine (C6.out _).mono ?_
  rintro e w7 ⟨rfl, n7⟩
  obtain ⟨lu, ⟨u0, u1, u2, u3, u4, u5, u6, u7⟩, -⟩ := (BU6.out.new n7).eight
  have m7 := m6.trans n7
  clear m6 n7 C6 BU6 v0 v1 v2 v3 v4 v5 v6 v7 lv
  go_wp2_with fail
  refine (C7.out _).mono ?_
  rintro e w8 ⟨v, rfl, o8, n8⟩
  have m8 := m7.trans n8
  have al : New w8 (w8.alloc (.cells #[.int .i64 5, .int .i64 5] 3)) := (New.refl w8).alloc _ _
  have c9 := ints_any _ v _ [5, 5] (o8.nums.new al) (nums_two (Box.here w8 w8.heap.size _ _ rfl)) (by decide)
  obtain ⟨pv, kv, rfl, -, -⟩ := o8.shape
  have m9 := m8.trans al
  clear m7 n8 C7 u0 u1 u2 u3 u4 u5 u6 u7 lu o8 m8 al
  go_wp2_with fail
  refine c9.mono ?_
  rintro e w9 ⟨rfl, n9⟩
  go_wp2
  go_ret
  exact ⟨rfl, m9.trans n9⟩
end Go.Proofs.YthkdgihjgllpeaaDoor
