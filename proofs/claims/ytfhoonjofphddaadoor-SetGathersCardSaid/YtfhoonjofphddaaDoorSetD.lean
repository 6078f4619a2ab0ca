/- A statement's own comparison of two lists of numbers; sets as texts of eight digits, told and read, by the package and by the document's own answers. Contracts, in any world. -/
import Derived.Test.YtfhoonjofphddaaDoorSetC
import Derived.Test.YtfhoonjofphddaaDoorHexMath
import Derived.RegionTactic
namespace Go.Proofs.YtfhoonjofphddaaDoor
open Go.RowKit
set_option linter.unusedVariables false
theorem ints_empty (p q : Option Addr) (c d : Nat) (w : World) : Calls Tryd.prog 16 #[.slice p 0 c, .slice q 0 d] w (BoolN true w) := by
  go_enter Tryd.func16, Tryd.ntmps16
  go_wp2
  refine wp_loop_rounds 1 ?_
  rw [rounds_succ]
  go_wp2
  go_ret
  exact ⟨rfl, New.refl _⟩
set_option maxHeartbeats 1000000 in
theorem ints_some (b o c b' o' c' : Nat) (l : List Int) (w : World) (hl : l.length ≤ c) (hm : c ≤ maxLen)
    (hc : ∀ i, i < l.length → w.cell? ⟨b, o + i, none⟩ = some (.int .i64 (l.getD i 0))) (hc' : ∀ i, i < l.length → w.cell? ⟨b', o' + i, none⟩ = some (.int .i64 (l.getD i 0))) :
    Calls Tryd.prog 16 #[.slice (some ⟨b, o, none⟩) l.length c, .slice (some ⟨b', o', none⟩) l.length c'] w (BoolN true w) := by
  unfold maxLen at hm
  have HC := Lib.hid hc
  have HC' := Lib.hid hc'
  clear hc hc'
  go_enter Tryd.func16, Tryd.ntmps16
  go_wp2
  go_loopg [5] l.length (fun k i wr => ∃ j : Nat, j + k = l.length ∧ i = .int .i64 (j : Int) ∧ ∃ n, wr = w.drewN n)
  case atStart => exact ⟨0, by simp, rfl, 0, rfl⟩
  case round =>
    obtain ⟨j, hj, rfl, n, rfl⟩ := hrel
    by_cases hlt : j < l.length
    · have h1 := HC.out j hlt
      have h2 := HC'.out j hlt
      generalize l.getD j 0 = y at h1 h2
      have J := Lib.hid hj
      clear hj
      go_wp2
      go_quiet (fail)
      go_wp2
      go_roundg (l.length - (j + 1))
      case measure => have := J.out; omega
      case rel => exact ⟨j + 1, by have := J.out; omega, by go_num, _, rfl⟩
    · have hjl : j = l.length := by omega
      subst hjl
      clear hj hlt
      go_wp2
      go_ret
      exact ⟨rfl, (New.refl _).drewN _⟩
theorem Ints.empty {w : World} {v : Value} (h : Ints w v []) : ∃ p c, v = .slice p 0 c := by
  rcases h with ⟨rfl, _⟩ | ⟨b, o, cap, rfl, _⟩
  · exact ⟨_, _, rfl⟩
  · exact ⟨_, _, rfl⟩
theorem ints_any (va vb : Value) (l : List Int) (w : World) (ha : Ints w va l) (hb : Ints w vb l) : Calls Tryd.prog 16 #[va, vb] w (BoolN true w) := by
  by_cases c : l = []
  · subst c
    obtain ⟨p, d, rfl⟩ := ha.empty
    obtain ⟨q, f, rfl⟩ := hb.empty
    exact ints_empty _ _ _ _ _
  · rcases ha with ⟨rfl, h⟩ | ⟨b, o, cap, rfl, h1, h2, h3, h4⟩
    · exact absurd h c
    · rcases hb with ⟨rfl, h⟩ | ⟨b', o', cap', rfl, g1, g2, g3, g4⟩
      · exact absurd h c
      · exact ints_some _ _ _ _ _ _ _ _ h1 h2 h4 g4
/-- a text, and only new blocks -/
def StrN (s : ByteArray) (w : World) (e : Ending) (w' : World) : Prop := e = .returned (.string s) ∧ New w w'
/-- the eight bytes that the call lays down, j of them told -/
def Told (b : Nat) (y : Int) (j : Nat) (w : World) : Prop := ∀ m, m < 8 → w.cell? ⟨b, m, none⟩ = some (.int .u8 (dg y j m)) ∧ w.frozen? ⟨b, m, none⟩ = false
theorem Told.next {b : Nat} {y : Int} {j : Nat} {w : World} (h : Told b y j w) (hj : j < 8) (v : Int) (hv : v = dg y (j + 1) (7 - j)) : Told b y (j + 1) (w.setCell ⟨b, 7 - j, none⟩ (.int .u8 v)) := by
  subst hv
  intro m hm
  refine ⟨?_, (World.frozen?_setCell _ _ _ _).trans (h m hm).2⟩
  by_cases c : m = 7 - j
  · subst c; exact World.cell?_setCell_same _ _ _ (h _ hm).1
  · rw [World.cell?_setCell_other _ _ _ _ (by simp), (h m hm).1, dg_other y j m hm c]
set_option maxHeartbeats 1000000 in
theorem text_any (x : Int) (w : World) (h : 0 ≤ x) (h' : x ≤ 4294967295) :
    Calls Tryd.prog 23 #[.int .u32 x] w (StrN (txt (low x)) w) := by
  have mk8 : ∀ w : World, (Instr.makeSlice 54 (.int .i64 8) (.int .i64 8)).run Tryd.prog w = .ok (.slice (some ⟨w.heap.size, 0, none⟩) 8 8) (w.alloc (.cells #[.int .u8 0, .int .u8 0, .int .u8 0, .int .u8 0, .int .u8 0, .int .u8 0, .int .u8 0, .int .u8 0] 5)) := fun _ => by kernel_rfl
  have hlow := low_and x h h'
  have hb := low_bd x
  have t0 : Told w.heap.size (low x) 0 (w.alloc (.cells #[.int .u8 0, .int .u8 0, .int .u8 0, .int .u8 0, .int .u8 0, .int .u8 0, .int .u8 0, .int .u8 0] 5)) := by
    intro m hm
    rw [dg_zero _ m hm, World.cell?_alloc_at _ _ _ _ rfl, World.frozen?_alloc_at _ _ _ _ rfl]
    refine ⟨?_, rfl⟩
    rcases m with _ | _ | _ | _ | _ | _ | _ | _ | m
    all_goals first | rfl | omega
  have T0 := Lib.hid t0
  clear t0
  go_enter Tryd.func23, Tryd.ntmps23
  go_wp2
  have K : ∀ W : World, Told w.heap.size (low x) 8 W → (convert 54 9 (.slice (some ⟨w.heap.size, 0, none⟩) 8 8)).run Tryd.prog W = .ok (.string (txt (low x))) W := by
    intro W hW
    rw [run_convert_bytes_arg W 54 5 Tryd.underlying54 Tryd.underlying5 _ 0 8 8 [dg (low x) 8 0, dg (low x) 8 1, dg (low x) 8 2, dg (low x) 8 3, dg (low x) 8 4, dg (low x) 8 5, dg (low x) 8 6, dg (low x) 8 7] rfl ?_ _ Tryd.underlying9]
    · rw [txt_nums]
    · intro i hi
      rw [Nat.zero_add, (hW i hi).1]
      rcases i with _ | _ | _ | _ | _ | _ | _ | _ | i
      all_goals first | rfl | omega
  have KH := Lib.hid K
  clear K
  generalize low x = y at *
  have z := Lib.hid (shr_zero y hb.1)
  go_loopg [0, 4] 8 (fun k s i wr => ∃ j : Nat, j + k = 8 ∧ i = .int .i64 (7 - (j : Int)) ∧ s = .int .u32 (shr y (4 * j)) ∧ Told w.heap.size y j wr ∧ New w wr)
  case atStart => exact ⟨0, rfl, rfl, by rw [Nat.mul_zero, z.out], T0.out, (New.refl _).alloc _ _⟩
  case round =>
    obtain ⟨j, hj, rfl, rfl, hT, hnx⟩ := hrel
    by_cases hlt : j < 8
    · have hbd := shr_bd y (4 * j) hb.1
      have hs := Lib.hid (shr4 y j)
      have hn := Lib.hid (dg_next y j hlt)
      have hc := (hT (7 - j) (by omega)).1
      have hf := (hT (7 - j) (by omega)).2
      have HT := Lib.hid hT
      clear hT
      generalize shr y (4 * j) = s at *
      have hv := Lib.hid (show ∀ h, ((hexs[(s % 16).toNat]'h).toNat : Int) = dg y (j + 1) (7 - j) from fun h => by rw [hex_idx, hn.out])
      go_wp2
      go_roundg (7 - j)
      case measure => omega
      case rel =>
        refine ⟨j + 1, by omega, by go_num, by rw [hs.out], ?_, hnx.setCell (Nat.le_refl _) _⟩
        exact HT.out.next hlt _ (hv.out _)
    · obtain rfl : j = 8 := by omega
      have k := KH.out wr hT
      have HT := Lib.hid hT
      clear hT
      go_wp2
      go_ret
      exact ⟨rfl, hnx⟩
set_option maxHeartbeats 1000000 in
theorem rtext_any (x : Int) (w : World) (h : 0 ≤ x) (h' : x ≤ 4294967295) :
    Calls Tryd.prog 24 #[.int .u32 x] w (StrN (txt (low x)) w) := by
  have E := Lib.hid (ofL_lst x h)
  have hb := low_bd x
  go_enter Tryd.func24, Tryd.ntmps24
  go_wp2_with fail
  refine (rlist_any x _ h h').mono ?_
  rintro e w1 ⟨v, rfl, hown, hnx⟩
  go_wp2_with ((with_reducible refine (of_any _ _ _ hown.ints).mono ?_); rintro e w3 ⟨he, rfl⟩; rw [E.out] at he; subst he; generalize low x = y at *)
  have z := Lib.hid (shr_zero y hb.1)
  go_loopg [0, 3, 4] 8 (fun k s t i wr => ∃ j : Nat, ∃ b : ByteArray, j + k = 8 ∧ i = .int .i64 (j : Int) ∧ s = .int .u32 (shr y (4 * j)) ∧ t = .string b ∧ b.data.toList = tx y j ∧ w1 = wr)
  case atStart => exact ⟨0, ⟨#[]⟩, rfl, rfl, by rw [Nat.mul_zero, z.out], rfl, rfl, rfl⟩
  case round =>
    obtain ⟨j, b, hj, rfl, rfl, rfl, hbs, rfl⟩ := hrel
    by_cases hlt : j < 8
    · have hbd := shr_bd y (4 * j) hb.1
      have hs := Lib.hid (shr4 y j)
      have hn := Lib.hid (txt_cons y j b hbs)
      have hcut := Lib.hid (show hexs.extract (shr y (4 * j) % 16).toNat (shr y (4 * j) % 16 + 1).toNat = ⟨#[hx (shr y (4 * j) % 16).toNat]⟩ from by
        rw [show (shr y (4 * j) % 16 + 1).toNat = (shr y (4 * j) % 16).toNat + 1 from by omega]; exact hex_cut _ (by omega))
      have hsz : b.size ≤ 8 := by
        have e := congrArg List.length hbs
        rw [tx_len] at e
        show b.data.size ≤ 8
        simpa using (by omega : b.data.toList.length ≤ 8)
      have HB := Lib.hid hbs
      clear hbs
      generalize shr y (4 * j) = s at *
      have e := hcut.out
      unfold hexs at e
      generalize hx (s % 16).toNat = d at *
      go_wp2
      go_roundg (7 - j)
      case measure => omega
      case rel => exact ⟨j + 1, _, by omega, by go_num, by rw [hs.out], rfl, hn.out, rfl⟩
    · obtain rfl : j = 8 := by omega
      have e := bytes_eq hbs
      clear hbs
      subst e
      go_wp2
      go_ret
      exact ⟨rfl, hnx⟩
end Go.Proofs.YtfhoonjofphddaaDoor
