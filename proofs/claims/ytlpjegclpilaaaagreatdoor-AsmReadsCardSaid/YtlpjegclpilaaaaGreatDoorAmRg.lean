/- The document's Program. -/
import Derived.Test.YtlpjegclpilaaaaGreatDoorAmRp
import Derived.Test.YtlpjegclpilaaaaGreatDoorAmE
import Derived.Deep.LoopGhost
namespace Go.Proofs.YtlpjegclpilaaaaGreatDoor
open Go.RowKit
set_option linter.unusedVariables false
theorem part_slice (l : List UInt8) (p j : Nat) (hp : p ≤ j) (hj : j ≤ l.length) (W : World) : (Instr.slice 9 (.string (ba l)) (some (.int .i64 (p : Int))) (some (.int .i64 (j : Int))) none).run Tryz.prog W = .ok (.string (ba ((l.drop p).take (j - p)))) W := by
  have e := run_slice_string (P := Tryz.prog) W 9 (ba l) .i64 .i64 (p : Int) (j : Int) Tryz.underlying9 (by omega) (by omega) (by rw [ba_size]; omega)
  rw [e]
  have h : ((ba l).extract ((p : Int)).toNat ((j : Int)).toNat).data.toList = (l.drop p).take (j - p) := by
    rw [Lib.extract_data, ba_data, Int.toNat_natCast, Int.toNat_natCast]
  have key : (ba l).extract ((p : Int)).toNat ((j : Int)).toNat = ba ((l.drop p).take (j - p)) := (ba_of _).symm.trans (congrArg ba h)
  rw [key]
theorem to_slice (l : List UInt8) (j : Nat) (hj : j ≤ l.length) (W : World) : (Instr.slice 9 (.string (ba l)) none (some (.int .i64 (j : Int))) none).run Tryz.prog W = .ok (.string (ba (l.take j))) W := by
  rw [run_slice_string_h (P := Tryz.prog) W 9 (ba l) Tryz.underlying9 .i64 (j : Int) (by omega) (by rw [ba_size]; omega)]
  have h : ((ba l).extract 0 ((j : Int)).toNat).data.toList = l.take j := by
    rw [Lib.extract_data, ba_data, Int.toNat_natCast]; simp
  have key : (ba l).extract 0 ((j : Int)).toNat = ba (l.take j) := (ba_of _).symm.trans (congrArg ba h)
  rw [key]
theorem prg_len : ∀ (L : List (List UInt8)) (k : Nat) (acc : List Int), (prg k L acc).1.length ≤ acc.length + L.length
  | [], k, acc => by rw [prg]; simp
  | x :: r, k, acc => by
    by_cases h : wrds (ctl x) = []
    · rw [prg_skip h]; have := prg_len r (k + 1) acc; simp; omega
    · cases hp : prs (ctl x) with
      | none => rw [prg_bad h hp]; simp
      | some y =>
        rw [prg_some hp]
        have := prg_len r (k + 1) (acc ++ [innum (y.1 : Int) y.2.1 y.2.2.1 y.2.2.2])
        simp at this ⊢; omega
/-- what Program answers -/
def RPgm (r : List Int × Nat × Int) (w : World) (e : Ending) (w' : World) : Prop := ∃ v, e = .returned (.tuple #[v, .int .i64 (r.2.1 : Int), .int .i64 r.2.2]) ∧ OwnU w.heap.size w' v r.1 ∧ New w w'
theorem rprogram_long (l : List UInt8) (w : World) (hl : 65536 < l.length) (hm : l.length ≤ maxLen) : Calls Tryz.prog 16 #[.string (ba l)] w (RPgm ([], 0, 90) w) := by
  have sL := ba_size l
  unfold maxLen at hm
  have g : (65536 : Int) < (l.length : Int) := by omega
  go_enter Tryz.func16, Tryz.ntmps16
  go_wp2
  exact bodyPost_ret (v := .tuple #[.slice none 0 0, .int .i64 0, .int .i64 90]) (by simp [results, Tryz.results16, go_sem]) rfl ⟨_, rfl, OwnU.nil _ _, New.refl _⟩
/-- what is still to do: the line that is begun, the lines behind it -/
def LnAt (l : List UInt8) (G : List Int × Nat × Int) (j p ln : Nat) (vs : List Int) : Prop :=
  (j ≤ l.length ∧ prg (ln + 1) (lnsGo ((l.drop p).take (j - p)) (l.drop j)) vs = G) ∨ (j = l.length + 1 ∧ (vs, 0, 0) = G)
set_option maxHeartbeats 8000000 in
set_option maxRecDepth 100000 in
theorem rprogram_any (l : List UInt8) (w : World) (hl : l.length ≤ 65536) : Calls Tryz.prog 16 #[.string (ba l)] w (RPgm (prg 1 (lns l) []) w) := by
  obtain ⟨i0, hi, hz0, hz1, hz2⟩ := info_parts u32_info
  obtain ⟨G, hG⟩ : ∃ G, G = prg 1 (lns l) [] := ⟨_, rfl⟩
  rw [← hG]
  have hst : LnAt l G 0 0 0 [] := .inl ⟨Nat.zero_le _, by rw [hG]; rfl⟩
  clear hG
  have sL := ba_size l
  have g : ¬ (65536 : Int) < (l.length : Int) := by omega
  go_enter Tryz.func16, Tryz.ntmps16
  go_wp2_with fail
  go_loopg [5, 6, 7, 8] (l.length + 1) (fun k s5 s6 s7 s8 wr => ∃ (j p ln : Nat) (vs : List Int), j + k = l.length + 1 ∧ s8 = .int .i64 (j : Int) ∧ s7 = .int .i64 (p : Int) ∧ s6 = .int .i64 (ln : Int) ∧ OwnU w.heap.size wr s5 vs ∧ p ≤ j ∧ ln ≤ j ∧ vs.length ≤ j ∧ LnAt l G j p ln vs ∧ New w wr)
  case atStart => exact ⟨0, 0, 0, [], by omega, rfl, rfl, rfl, OwnU.nil _ _, Nat.le_refl _, Nat.le_refl _, by simp, hst, New.refl _⟩
  case round =>
    clear hst
    obtain ⟨j, p, ln, vs, hj, rfl, rfl, rfl, hown, hpj, hlj, hvl, hL, hnx⟩ := hrel
    have HJ := Lib.hid hj
    by_cases hlt : j < l.length
    · obtain ⟨b, hb⟩ : ∃ b, l[j]? = some b := ⟨_, List.getElem?_eq_getElem hlt⟩
      have hdr : l.drop j = b :: l.drop (j + 1) := by
        rw [List.drop_eq_getElem_cons hlt]; congr 1; exact (List.getElem?_eq_some_iff.1 hb).2
      have hp : prg (ln + 1) (lnsGo ((l.drop p).take (j - p)) (b :: l.drop (j + 1))) vs = G := by
        rcases hL with ⟨_, h⟩ | ⟨h, _⟩
        · rw [hdr] at h; exact h
        · omega
      have hix := fun W => idx_ba (P := Tryz.prog) Tryz.underlying9 l j b hb W
      have hlt' : (j : Int) < (l.length : Int) := by omega
      have hle' : (j : Int) ≤ (l.length : Int) := by omega
      by_cases h10 : b.toNat = 10
      · rw [lnsGo, if_pos h10] at hp
        have hsl := fun W => part_slice l p j hpj (by omega) W
        have hInv : ∀ vs', prg (ln + 1 + 1) (lnsGo [] (l.drop (j + 1))) vs' = G → LnAt l G (j + 1) (j + 1) (ln + 1) vs' := fun vs' h => .inl ⟨by omega, by rw [Nat.sub_self, List.take_zero]; exact h⟩
        have hcl : ((l.drop p).take (j - p)).length ≤ 65536 := by rw [List.length_take, List.length_drop]; omega
        rw [h10] at hix
        rw [show (((10 : Nat)) : Int) = 10 from rfl] at hix
        generalize lnsGo [] (l.drop (j + 1)) = rest at *
        generalize (l.drop p).take (j - p) = cur at *
        clear hL hdr hb h10 hj
        go_wp2_with fail
        go_loopg [9, 10] (cur.length + 1) (fun k s9 s10 wx => ∃ (q : Nat) (C : List UInt8), q + k = cur.length + 1 ∧ s10 = .int .i64 (q : Int) ∧ s9 = .string (ba C) ∧ C.length ≤ cur.length ∧ ctl C = ctl cur ∧ (∀ b ∈ C.take q, b.toNat ≠ 37) ∧ wx = wr)
        case atStart => exact ⟨0, cur, by omega, rfl, rfl, Nat.le_refl _, rfl, by simp, rfl⟩
        case round =>
          obtain ⟨q, C, hq, rfl, rfl, hCl, hCc, hCn, rfl⟩ := hrel
          have HQ := Lib.hid hq
          have sC := ba_size C
          have hq6 : q ≤ 65537 := by omega
          by_cases hqc : q < C.length
          · obtain ⟨c, hc⟩ : ∃ c, C[q]? = some c := ⟨_, List.getElem?_eq_getElem hqc⟩
            have hcx := fun W => idx_ba (P := Tryz.prog) Tryz.underlying9 C q c hc W
            have hqc' : (q : Int) < (C.length : Int) := by omega
            have HCL := Lib.hid hCl
            have htk : C.take (q + 1) = C.take q ++ [c] := by rw [List.take_add_one, hc]; rfl
            by_cases h37 : c.toNat = 37
            · have hsl := fun W => to_slice C q (by omega) W
              have e1 : ctl (C.take q) = C.take q := ctl_all _ hCn
              have e2 : ctl C = C.take q := by
                have hd : C = C.take q ++ 37 :: C.drop (q + 1) := by
                  conv => lhs; rw [← List.take_append_drop q C, List.drop_eq_getElem_cons hqc]
                  rw [(List.getElem?_eq_some_iff.1 hc).2, show c = 37 from UInt8.toNat_inj.1 h37]
                conv => lhs; rw [hd]
                exact ctl_no _ _ hCn
              have hA := Lib.hid (show (C.take q).length ≤ cur.length ∧ ctl (C.take q) = ctl cur ∧ (∀ b ∈ (C.take q).take (q + 1), b.toNat ≠ 37) from ⟨by rw [List.length_take]; omega, by rw [e1, ← e2, hCc], fun b hb => hCn b (List.mem_of_mem_take hb)⟩)
              rw [h37] at hcx
              rw [show (((37 : Nat)) : Int) = 37 from rfl] at hcx
              generalize C.take q = C2 at *
              clear e1 e2 htk hCn hCc hc hInv hp hown hnx hq hCl h37 hi hz0 hz1 hz2
              go_wp2_with fail
              go_roundg (cur.length + 1 - (q + 1))
              case measure => have h1 := HQ.out; have h2 := HCL.out; omega
              case rel => exact ⟨q + 1, C2, by have h1 := HQ.out; have h2 := HCL.out; omega, rfl, rfl, hA.out.1, hA.out.2.1, hA.out.2.2, rfl⟩
            · have h37' : (c.toNat : Int) ≠ 37 := by omega
              have hA := Lib.hid (show ctl C = ctl cur ∧ ∀ b ∈ C.take (q + 1), b.toNat ≠ 37 from ⟨hCc, fun b hb => by
                rw [htk] at hb
                rcases List.mem_append.1 hb with hb | hb
                · exact hCn b hb
                · simp at hb; subst hb; exact h37⟩)
              clear htk hCn hCc hc hInv hp hown hnx hq hCl h37 hi hz0 hz1 hz2
              go_wp2_with fail
              go_roundg (cur.length + 1 - (q + 1))
              case measure => have h1 := HQ.out; have h2 := HCL.out; omega
              case rel => exact ⟨q + 1, C, by have h1 := HQ.out; have h2 := HCL.out; omega, rfl, rfl, HCL.out, hA.out.1, hA.out.2, rfl⟩
          · have hge : ¬ (q : Int) < (C.length : Int) := by omega
            have hCe : C = ctl cur := by
              rw [List.take_of_length_le (by omega)] at hCn
              rw [← hCc]; exact (ctl_all C hCn).symm
            have hC5 : C.length ≤ 100000 := by omega
            rw [← hCe] at hCc
            clear hCc hCn
            have cW := fun W => rwords_any C W hC5
            have cP := fun W => rparse_any C W hC5
            by_cases hb : wrds C = []
            · rw [prg_skip (by rw [← hCe]; exact hb)] at hp
              have HI := Lib.hid (hInv vs hp)
              rw [hb] at cW
              clear hInv hp hb hCe cP hCl hq hi hz0 hz1 hz2
              go_wp2_with fail
              refine (cW _).mono ?_
              rintro e W2 ⟨v, rfl, hv, n2⟩
              obtain ⟨pv, cv, rfl⟩ := hv.shape
              have n4 := hnx.trans n2
              have o4 := hown.new n2
              clear cW hv n2 hnx hown
              simp only [List.length_nil]
              go_wp2_with fail
              go_roundg (l.length + 1 - (j + 1))
              case measure => have := HJ.out; omega
              case rel => exact ⟨j + 1, j + 1, ln + 1, vs, by have := HJ.out; omega, rfl, rfl, rfl, o4, Nat.le_refl _, by omega, by omega, HI.out, n4⟩
            · obtain ⟨wl, hwl, hw0⟩ : ∃ n : Nat, (wrds C).length = n ∧ 0 < n := ⟨_, rfl, List.length_pos_iff.2 hb⟩
              have hwz : ¬ (wl : Int) = 0 := by omega
              have hwz2 : ((wl : Int) == 0) = false := by simp; omega
              cases hq2 : prs C with
              | none =>
                rw [prg_bad (by rw [← hCe]; exact hb) (by rw [← hCe]; exact hq2)] at hp
                have HP := Lib.hid hp
                rw [hq2] at cP
                unfold rpv at cP
                clear hInv hp hb hCe hCl hq hq2 hi hz0 hz1 hz2
                go_wp2_with fail
                refine (cW _).mono ?_
                rintro e W2 ⟨v, rfl, hv, n2⟩
                obtain ⟨pv, cv, rfl⟩ := hv.shape
                rw [hwl]
                clear hv
                go_wp2_with fail
                refine (cP _).mono ?_
                rintro e W3 ⟨rfl, n3⟩
                have n5 := hnx.trans (n2.trans n3)
                clear cW cP hnx hown n2 n3
                go_wp2
                refine bodyPost_ret (v := .tuple #[.slice none 0 0, .int .i64 ((ln : Int) + 1), .int .i64 22]) (by simp [results, Tryz.results16, go_sem]) rfl ?_
                rw [← HP.out]
                exact ⟨_, rfl, OwnU.nil _ _, by first | exact n5.alloc _ _ | exact n5⟩
              | some y =>
                rw [prg_some (x := y) (by rw [← hCe]; exact hq2)] at hp
                have hok := (prs_tx hq2).1.1
                obtain ⟨yo, ya, yb, ym⟩ := y
                dsimp only at hok hp
                have cE := fun W => irencode_ok (yo : Int) ya yb ym W hok
                rw [hq2] at cP
                dsimp only [rpv] at cP
                generalize innum (yo : Int) ya yb ym = V at *
                have HI := Lib.hid (hInv (vs ++ [V]) hp)
                clear hInv hp hb hCe hCl hq hq2 hok
                go_wp2_with fail
                refine (cW _).mono ?_
                rintro e W2 ⟨v, rfl, hv, n2⟩
                obtain ⟨pv, cv, rfl⟩ := hv.shape
                rw [hwl]
                clear hv
                go_wp2_with fail
                refine (cP _).mono ?_
                rintro e W3 ⟨rfl, n3⟩
                have n4 := hnx.trans (n2.trans n3)
                have o4 := hown.new (n2.trans n3)
                clear cW cP hnx hown n2 n3
                have x4 := Box.here W3 _ #[.int .i64 (yo : Int), .int .i64 ya, .int .i64 yb, .int .i64 ym] 23 rfl
                have n5 := n4.alloc #[.int .i64 (yo : Int), .int .i64 ya, .int .i64 yb, .int .i64 ym] 23
                have o5 := o4.new ((New.refl W3).alloc #[.int .i64 (yo : Int), .int .i64 ya, .int .i64 yb, .int .i64 ym] 23)
                clear n4 o4
                go_wp2_with fail
                refine (cE _).mono ?_
                rintro e W4 ⟨rfl, n6⟩
                have n7 := n5.trans n6
                have o7 := o5.new n6
                clear cE n5 o5 n6 x4
                go_wp2_with (at_builtin; refine wpList_append_own _ rfl _ _ 42 rfl w.heap.size 47 i0 (.int .u32 0) 1 4 Tryz.underlying42 hi hz0 hz1 hz2 rfl (by decide) _ _ _ rfl (World.ownsRow.alloc o7 _) ⟨W4.heap.size, 0, none⟩ 1 1 [.int .u32 V] rfl rfl ?c1 ?c2 ?c3 ?c4 ?c5 ?_)
                case c1 => intro i u hu; rcases i with _ | i <;> simp at hu; subst hu; exact (World.cell?_alloc_at _ _ _ _ rfl).trans rfl
                case c2 => first | rfl | (intro u hu; simp at hu; subst hu; rfl)
                case c3 => unfold maxLen; omega
                case c4 => omega
                case c5 => have := n7.size; simp; omega
                intro v' w9 hown' hgrow _
                obtain ⟨o8, n8⟩ := OwnU.push n7 (Nat.le_refl _) o7 hown' hgrow
                clear hown' hgrow o7 n7
                go_wp2_with fail
                go_roundg (l.length + 1 - (j + 1))
                case measure => have := HJ.out; omega
                case rel => exact ⟨j + 1, j + 1, ln + 1, vs ++ [V], by have := HJ.out; omega, rfl, rfl, rfl, o8, Nat.le_refl _, by omega, by simp; omega, HI.out, n8⟩
      · rw [lnsGo, if_neg h10] at hp
        have h10' : ((b.toNat : Int) != 10) = true := by simp; omega
        have hcur : (l.drop p).take (j + 1 - p) = (l.drop p).take (j - p) ++ [b] := by
          rw [show j + 1 - p = (j - p) + 1 by omega, List.take_add_one, List.getElem?_drop, show p + (j - p) = j by omega, hb]; rfl
        have HL := Lib.hid (show LnAt l G (j + 1) p ln vs from .inl ⟨by omega, by rw [hcur]; exact hp⟩)
        clear hL hdr hb hp hcur hi hz0 hz1 hz2
        go_wp2_with fail
        go_roundg (l.length + 1 - (j + 1))
        case measure => have := HJ.out; omega
        case rel => exact ⟨j + 1, p, ln, vs, by have := HJ.out; omega, rfl, rfl, rfl, hown, by omega, by omega, by omega, HL.out, hnx⟩
    · by_cases heq : j = l.length
      · have hge8 : decide ((j : Int) < (l.length : Int)) = false := by simp; omega
        have hle' : (j : Int) ≤ (l.length : Int) := by omega
        have hge9 : ¬ (j : Int) < (l.length : Int) := by omega
        have hp : prg (ln + 1) [(l.drop p).take (j - p)] vs = G := by
          rcases hL with ⟨_, h⟩ | ⟨h, _⟩
          · rw [List.drop_eq_nil_of_le (by omega : l.length ≤ j)] at h; exact h
          · omega
        have hsl := fun W => part_slice l p j hpj (by omega) W
        have hInv : ∀ vs', prg (ln + 1 + 1) [] vs' = G → LnAt l G (j + 1) (j + 1) (ln + 1) vs' := fun vs' h => .inr ⟨by omega, h⟩
        have hcl : ((l.drop p).take (j - p)).length ≤ 65536 := by rw [List.length_take, List.length_drop]; omega
        obtain ⟨rest, hrest⟩ : ∃ rest : List (List UInt8), rest = [] := ⟨_, rfl⟩
        rw [← hrest] at hInv
        rw [← hrest] at hp
        generalize (l.drop p).take (j - p) = cur at *
        have HEQ := Lib.hid heq
        clear hL heq hlt hrest hj
        go_wp2_with fail
        go_loopg [9, 10] (cur.length + 1) (fun k s9 s10 wx => ∃ (q : Nat) (C : List UInt8), q + k = cur.length + 1 ∧ s10 = .int .i64 (q : Int) ∧ s9 = .string (ba C) ∧ C.length ≤ cur.length ∧ ctl C = ctl cur ∧ (∀ b ∈ C.take q, b.toNat ≠ 37) ∧ wx = wr)
        case atStart => exact ⟨0, cur, by omega, rfl, rfl, Nat.le_refl _, rfl, by simp, rfl⟩
        case round =>
          obtain ⟨q, C, hq, rfl, rfl, hCl, hCc, hCn, rfl⟩ := hrel
          have HQ := Lib.hid hq
          have sC := ba_size C
          have hq6 : q ≤ 65537 := by omega
          by_cases hqc : q < C.length
          · obtain ⟨c, hc⟩ : ∃ c, C[q]? = some c := ⟨_, List.getElem?_eq_getElem hqc⟩
            have hcx := fun W => idx_ba (P := Tryz.prog) Tryz.underlying9 C q c hc W
            have hqc' : (q : Int) < (C.length : Int) := by omega
            have HCL := Lib.hid hCl
            have htk : C.take (q + 1) = C.take q ++ [c] := by rw [List.take_add_one, hc]; rfl
            by_cases h37 : c.toNat = 37
            · have hsl := fun W => to_slice C q (by omega) W
              have e1 : ctl (C.take q) = C.take q := ctl_all _ hCn
              have e2 : ctl C = C.take q := by
                have hd : C = C.take q ++ 37 :: C.drop (q + 1) := by
                  conv => lhs; rw [← List.take_append_drop q C, List.drop_eq_getElem_cons hqc]
                  rw [(List.getElem?_eq_some_iff.1 hc).2, show c = 37 from UInt8.toNat_inj.1 h37]
                conv => lhs; rw [hd]
                exact ctl_no _ _ hCn
              have hA := Lib.hid (show (C.take q).length ≤ cur.length ∧ ctl (C.take q) = ctl cur ∧ (∀ b ∈ (C.take q).take (q + 1), b.toNat ≠ 37) from ⟨by rw [List.length_take]; omega, by rw [e1, ← e2, hCc], fun b hb => hCn b (List.mem_of_mem_take hb)⟩)
              rw [h37] at hcx
              rw [show (((37 : Nat)) : Int) = 37 from rfl] at hcx
              generalize C.take q = C2 at *
              clear e1 e2 htk hCn hCc hc hInv hp hown hnx hq hCl h37 hi hz0 hz1 hz2
              go_wp2_with fail
              go_roundg (cur.length + 1 - (q + 1))
              case measure => have h1 := HQ.out; have h2 := HCL.out; omega
              case rel => exact ⟨q + 1, C2, by have h1 := HQ.out; have h2 := HCL.out; omega, rfl, rfl, hA.out.1, hA.out.2.1, hA.out.2.2, rfl⟩
            · have h37' : (c.toNat : Int) ≠ 37 := by omega
              have hA := Lib.hid (show ctl C = ctl cur ∧ ∀ b ∈ C.take (q + 1), b.toNat ≠ 37 from ⟨hCc, fun b hb => by
                rw [htk] at hb
                rcases List.mem_append.1 hb with hb | hb
                · exact hCn b hb
                · simp at hb; subst hb; exact h37⟩)
              clear htk hCn hCc hc hInv hp hown hnx hq hCl h37 hi hz0 hz1 hz2
              go_wp2_with fail
              go_roundg (cur.length + 1 - (q + 1))
              case measure => have h1 := HQ.out; have h2 := HCL.out; omega
              case rel => exact ⟨q + 1, C, by have h1 := HQ.out; have h2 := HCL.out; omega, rfl, rfl, HCL.out, hA.out.1, hA.out.2, rfl⟩
          · have hge : ¬ (q : Int) < (C.length : Int) := by omega
            have hCe : C = ctl cur := by
              rw [List.take_of_length_le (by omega)] at hCn
              rw [← hCc]; exact (ctl_all C hCn).symm
            have hC5 : C.length ≤ 100000 := by omega
            rw [← hCe] at hCc
            clear hCc hCn
            have cW := fun W => rwords_any C W hC5
            have cP := fun W => rparse_any C W hC5
            by_cases hb : wrds C = []
            · rw [prg_skip (by rw [← hCe]; exact hb)] at hp
              have HI := Lib.hid (hInv vs hp)
              rw [hb] at cW
              clear hInv hp hb hCe cP hCl hq hi hz0 hz1 hz2
              go_wp2_with fail
              refine (cW _).mono ?_
              rintro e W2 ⟨v, rfl, hv, n2⟩
              obtain ⟨pv, cv, rfl⟩ := hv.shape
              have n4 := hnx.trans n2
              have o4 := hown.new n2
              clear cW hv n2 hnx hown
              simp only [List.length_nil]
              go_wp2_with fail
              go_roundg (l.length + 1 - (j + 1))
              case measure => have := HJ.out; omega
              case rel => exact ⟨j + 1, j + 1, ln + 1, vs, by have := HJ.out; omega, rfl, rfl, rfl, o4, Nat.le_refl _, by omega, by omega, HI.out, n4⟩
            · obtain ⟨wl, hwl, hw0⟩ : ∃ n : Nat, (wrds C).length = n ∧ 0 < n := ⟨_, rfl, List.length_pos_iff.2 hb⟩
              have hwz : ¬ (wl : Int) = 0 := by omega
              have hwz2 : ((wl : Int) == 0) = false := by simp; omega
              cases hq2 : prs C with
              | none =>
                rw [prg_bad (by rw [← hCe]; exact hb) (by rw [← hCe]; exact hq2)] at hp
                have HP := Lib.hid hp
                rw [hq2] at cP
                unfold rpv at cP
                clear hInv hp hb hCe hCl hq hq2 hi hz0 hz1 hz2
                go_wp2_with fail
                refine (cW _).mono ?_
                rintro e W2 ⟨v, rfl, hv, n2⟩
                obtain ⟨pv, cv, rfl⟩ := hv.shape
                rw [hwl]
                clear hv
                go_wp2_with fail
                refine (cP _).mono ?_
                rintro e W3 ⟨rfl, n3⟩
                have n5 := hnx.trans (n2.trans n3)
                clear cW cP hnx hown n2 n3
                go_wp2
                refine bodyPost_ret (v := .tuple #[.slice none 0 0, .int .i64 ((ln : Int) + 1), .int .i64 22]) (by simp [results, Tryz.results16, go_sem]) rfl ?_
                rw [← HP.out]
                exact ⟨_, rfl, OwnU.nil _ _, by first | exact n5.alloc _ _ | exact n5⟩
              | some y =>
                rw [prg_some (x := y) (by rw [← hCe]; exact hq2)] at hp
                have hok := (prs_tx hq2).1.1
                obtain ⟨yo, ya, yb, ym⟩ := y
                dsimp only at hok hp
                have cE := fun W => irencode_ok (yo : Int) ya yb ym W hok
                rw [hq2] at cP
                dsimp only [rpv] at cP
                generalize innum (yo : Int) ya yb ym = V at *
                have HI := Lib.hid (hInv (vs ++ [V]) hp)
                clear hInv hp hb hCe hCl hq hq2 hok
                go_wp2_with fail
                refine (cW _).mono ?_
                rintro e W2 ⟨v, rfl, hv, n2⟩
                obtain ⟨pv, cv, rfl⟩ := hv.shape
                rw [hwl]
                clear hv
                go_wp2_with fail
                refine (cP _).mono ?_
                rintro e W3 ⟨rfl, n3⟩
                have n4 := hnx.trans (n2.trans n3)
                have o4 := hown.new (n2.trans n3)
                clear cW cP hnx hown n2 n3
                have x4 := Box.here W3 _ #[.int .i64 (yo : Int), .int .i64 ya, .int .i64 yb, .int .i64 ym] 23 rfl
                have n5 := n4.alloc #[.int .i64 (yo : Int), .int .i64 ya, .int .i64 yb, .int .i64 ym] 23
                have o5 := o4.new ((New.refl W3).alloc #[.int .i64 (yo : Int), .int .i64 ya, .int .i64 yb, .int .i64 ym] 23)
                clear n4 o4
                go_wp2_with fail
                refine (cE _).mono ?_
                rintro e W4 ⟨rfl, n6⟩
                have n7 := n5.trans n6
                have o7 := o5.new n6
                clear cE n5 o5 n6 x4
                go_wp2_with (at_builtin; refine wpList_append_own _ rfl _ _ 42 rfl w.heap.size 47 i0 (.int .u32 0) 1 4 Tryz.underlying42 hi hz0 hz1 hz2 rfl (by decide) _ _ _ rfl (World.ownsRow.alloc o7 _) ⟨W4.heap.size, 0, none⟩ 1 1 [.int .u32 V] rfl rfl ?c1 ?c2 ?c3 ?c4 ?c5 ?_)
                case c1 => intro i u hu; rcases i with _ | i <;> simp at hu; subst hu; exact (World.cell?_alloc_at _ _ _ _ rfl).trans rfl
                case c2 => first | rfl | (intro u hu; simp at hu; subst hu; rfl)
                case c3 => unfold maxLen; omega
                case c4 => omega
                case c5 => have := n7.size; simp; omega
                intro v' w9 hown' hgrow _
                obtain ⟨o8, n8⟩ := OwnU.push n7 (Nat.le_refl _) o7 hown' hgrow
                clear hown' hgrow o7 n7
                go_wp2_with fail
                go_roundg (l.length + 1 - (j + 1))
                case measure => have := HJ.out; omega
                case rel => exact ⟨j + 1, j + 1, ln + 1, vs ++ [V], by have := HJ.out; omega, rfl, rfl, rfl, o8, Nat.le_refl _, by omega, by simp; omega, HI.out, n8⟩
      · have hG : (vs, 0, 0) = G := by
          rcases hL with ⟨h, _⟩ | ⟨_, h⟩
          · omega
          · exact h
        have hgt : ¬ (j : Int) ≤ (l.length : Int) := by omega
        have HG := Lib.hid hG
        obtain ⟨pw, kw, rfl, -⟩ := hown.read
        clear hL hG hi hz0 hz1 hz2
        go_wp2
        refine bodyPost_ret (v := .tuple #[.slice pw vs.length kw, .int .i64 0, .int .i64 0]) (by simp [results, Tryz.results16, go_sem]) rfl ?_
        rw [← HG.out]
        exact ⟨_, rfl, hown, hnx⟩
end Go.Proofs.YtlpjegclpilaaaaGreatDoor
