/- What the document's own rounding of binary64 numbers does: a contract, for all whole numbers below 2^63 times a power of two, in any world; behind it there are new blocks. -/
import Derived.Test.YtgkonjgalpchoaaDoorSoftB
import Derived.LoopTactic
import Derived.Deep.LoopGhost
import Derived.Deep.QuietTactic
import Derived.BigQuiet
import Derived.RegionTactic
import Derived.Deep.DeepCutAuto
import Derived.Deep.CutBlock
namespace Go.Proofs.YtgkonjgalpchoaaDoor
open Go.RowKit
set_option linter.unusedVariables false
theorem u64_of {a b : Nat} (h : a = b) : Value.int .u64 (a : Int) = Value.int .u64 (b : Int) := by rw [h]
theorem cells_of {neg more : Bool} {m m' E E' : Int} (w : World) (h : m = m') (h' : E = E') : (w.alloc (.cells #[.bool neg, .int .u64 m, .int .i64 E, .bool more] 92)).drew = (w.alloc (.cells #[.bool neg, .int .u64 m', .int .i64 E', .bool more] 92)).drew := by rw [h, h']
theorem par_of (m : Nat) : ((m : Int) % 2 == 1) = (m % 2 == 1) := by
  rw [Bool.eq_iff_iff]; simp; omega
set_option maxRecDepth 100000 in
set_option maxHeartbeats 4000000 in
theorem rround_pos (neg : Bool) (M : Nat) (E : Int) (more : Bool) (w : World) (hM : M ≤ 9223372036854775807) (hE : -5000 ≤ E) (hE' : E ≤ 5000) (hm : more = true → 4503599627370496 ≤ M) (h0 : 0 < M) :
    Calls Tryd.prog 66 #[.agg #[.bool neg, .int .u64 M, .int .i64 E, .bool more]] w fun e w' => e = .returned (.int .u64 (so_rd neg M E more)) ∧ New w w' := by
  have hW : 0 < ww M more := by unfold ww; omega
  have H0 := Lib.hid (sm_zero M more)
  have H1 := Lib.hid (sh_zero M more)
  have H2 := Lib.hid (sr_zero M more)
  have hJ2 := rJ_le M more E hM hE
  go_enter Tryd.func66, Tryd.ntmps66
  go_wp2
  go_region
  go_wp2
  go_loopg [3, 4] (rJ (ww M more) E) (fun k half rest wr => ∃ j : Nat, j + k = rJ (ww M more) E ∧ half = .bool (sh (ww M more) j) ∧ rest = .bool (sr (ww M more) j) ∧ wr = (w.alloc (.cells #[.bool neg, .int .u64 (so_sm (ww M more) j), .int .i64 (E + j), .bool more] 92)).drew)
  case atStart => exact ⟨0, by omega, by rw [H1.out], by rw [H2.out], by rw [H0.out]; exact cells_of w rfl (by omega)⟩
  case round =>
    obtain ⟨j, hk, rfl, rfl, rfl⟩ := hrel
    have hj : (j : Int) ≤ 4000 := by omega
    have HL := Lib.hid (loop1_iff (ww M more) E j hW)
    have HN := Lib.hid (sm_some (ww M more) j hW)
    have hb := sm_le M more j hM
    have S1 := Lib.hid (sm_succ (ww M more) j)
    have S2 := Lib.hid (sh_succ (ww M more) j)
    have S3 := Lib.hid (sr_succ (ww M more) j)
    by_cases hlt : j < rJ (ww M more) E
    · have hc := HL.out.2 hlt
      have HK := Lib.hid hk
      have HT := Lib.hid hlt
      clear hk hlt
      have close : ∀ (s h : Bool), sr (ww M more) j = s → sh (ww M more) j = h → (Value.bool (s || h)) = .bool (sr (ww M more) (j + 1)) := by
        intro s h e1 e2; rw [← S3.out, e1, e2]
      have CL := Lib.hid close
      clear close
      by_cases c1 : 9007199254740992 ≤ so_sm (ww M more) j
      · have k1 : (9007199254740992 : Int) ≤ (so_sm (ww M more) j : Int) := by omega
        clear hc c1
        cases hs : sr (ww M more) j
        all_goals
          have HS := Lib.hid hs
          clear hs
          go_wp2
          go_roundg (gk - 1)
          case measure => have := HK.out; have := HT.out; omega
          case rel => exact ⟨j + 1, by have := HK.out; have := HT.out; omega, by rw [← S2.out, par_of], CL.out _ _ HS.out rfl, cells_of w (by rw [← S1.out]; omega) (by omega)⟩
      · have k1 : decide ((9007199254740992 : Int) ≤ (so_sm (ww M more) j : Int)) = false := by simp; omega
        have k2 : E + (j : Int) < -1074 := by omega
        clear hc c1
        by_cases c3 : 0 < so_sm (ww M more) j
        · have k3 : (0 : Int) < (so_sm (ww M more) j : Int) := by omega
          clear c3
          cases hs : sr (ww M more) j
          all_goals
            have HS := Lib.hid hs
            clear hs
            go_wp2
            go_roundg (gk - 1)
            case measure => have := HK.out; have := HT.out; omega
            case rel => exact ⟨j + 1, by have := HK.out; have := HT.out; omega, by rw [← S2.out, par_of], CL.out _ _ HS.out rfl, cells_of w (by rw [← S1.out]; omega) (by omega)⟩
        · have c4 : so_sm (ww M more) j = 0 := by omega
          have k3 : decide (0 < so_sm (ww M more) j) = false := by simp; omega
          clear c3
          cases hh : sh (ww M more) j
          · have hs := HN.out c4 hh
            have HS := Lib.hid hs
            have HH := Lib.hid hh
            clear c4
            go_wp2
            go_roundg (gk - 1)
            case measure => have := HK.out; have := HT.out; omega
            case rel => exact ⟨j + 1, by have := HK.out; have := HT.out; omega, by rw [← S2.out, par_of], CL.out true false HS.out HH.out, cells_of w (by rw [← S1.out]; omega) (by omega)⟩
          · have HH := Lib.hid hh
            clear c4
            cases hs : sr (ww M more) j
            all_goals
              have HS := Lib.hid hs
              go_wp2
              go_roundg (gk - 1)
              case measure => have := HK.out; have := HT.out; omega
              case rel => exact ⟨j + 1, by have := HK.out; have := HT.out; omega, by rw [← S2.out, par_of], CL.out _ true HS.out HH.out, cells_of w (by rw [← S1.out]; omega) (by omega)⟩
    · obtain rfl : j = rJ (ww M more) E := by omega
      have hc : ¬ (9007199254740992 ≤ so_sm (ww M more) (rJ (ww M more) E) ∨ E + (rJ (ww M more) E : Int) < -1074) := fun h => hlt (HL.out.1 h)
      have k1 : decide ((9007199254740992 : Int) ≤ (so_sm (ww M more) (rJ (ww M more) E) : Int)) = false := by simp; omega
      have k2 : decide (E + (rJ (ww M more) E : Int) < -1074) = false := by simp; omega
      have HC := Lib.hid hc
      clear hc hlt hk
      go_upto_block 2 with fail
      clear k1 k2
      go_cut [] (fun wc => wc = (w.alloc (.cells #[.bool neg, .int .u64 (fm M more E), .int .i64 (fe M more E), .bool more] 92)).drew)
      case first =>
        go_wp2_with fail
        go_loopg [] (rI (ww M more) E) (fun k wr => ∃ i : Nat, i + k = rI (ww M more) E ∧ wr = (w.alloc (.cells #[.bool neg, .int .u64 (gm M more E i), .int .i64 (E + rJ (ww M more) E - i), .bool more] 92)).drew)
        case atStart => exact ⟨0, by omega, by rw [gm_zero]; exact cells_of w rfl (by omega)⟩
        case round =>
          obtain ⟨i, hk2, rfl⟩ := hrel
          have hi : (i : Int) ≤ 6074 := by have := rI_le M more E hE'; omega
          have H2' := loop2_all M more E i h0 hm (by omega)
          have GS := Lib.hid (gm_succ M more E i)
          change (_ → 0 < gm M more E i ∧ gm M more E i < 4503599627370496 ∧ _) ∧ (_ → ¬ (gm M more E i < 4503599627370496 ∧ _)) at H2'
          by_cases hlt : i < rI (ww M more) E
          · obtain ⟨a1, a2, a3, a4, a5⟩ := H2'.1 hlt
            have b4 : (!sh (ww M more) (rJ (ww M more) E)) = true := by rw [a4]; rfl
            have b5 : (!sr (ww M more) (rJ (ww M more) E)) = true := by rw [a5]; rfl
            have HK := Lib.hid hk2
            have HT := Lib.hid hlt
            have a6 : (gm M more E i : Int) < 4503599627370496 := by omega
            clear hk2 hlt H2' a4 a5 a2
            go_wp2_with fail
            go_roundg (gk - 1)
            case measure => have := HK.out; have := HT.out; omega
            case rel => exact ⟨i + 1, by have := HK.out; have := HT.out; omega, cells_of w (by rw [GS.out]; omega) (by omega)⟩
          · obtain rfl : i = rI (ww M more) E := by omega
            have h3 := H2'.2 rfl
            clear H2' hk2 hlt
            by_cases c0 : 0 < gm M more E (rI (ww M more) E)
            · by_cases c1 : gm M more E (rI (ww M more) E) < 4503599627370496
              · have k1 : (gm M more E (rI (ww M more) E) : Int) < 4503599627370496 := by omega
                by_cases c2 : -1074 < E + (rJ (ww M more) E : Int) - (rI (ww M more) E : Int)
                · have c3 : (!sr (ww M more) (rJ (ww M more) E)) = false := by
                    cases hs : sr (ww M more) (rJ (ww M more) E)
                    · exact absurd ⟨c1, c2, hs⟩ h3
                    · rfl
                  clear h3 c1
                  cases hh : (!sh (ww M more) (rJ (ww M more) E))
                  all_goals
                    go_wp2_with fail
                    go_meet
                    case rel => exact cells_of w (by rw [← gm_end]) (by rw [← fe_end])
                · have k2 : decide (-1074 < E + (rJ (ww M more) E : Int) - (rI (ww M more) E : Int)) = false := by simp; omega
                  clear h3 c1 c2
                  go_wp2_with fail
                  go_meet
                  case rel => exact cells_of w (by rw [← gm_end]) (by rw [← fe_end])
              · have k1 : decide ((gm M more E (rI (ww M more) E) : Int) < 4503599627370496) = false := by simp; omega
                clear h3 c1
                go_wp2_with fail
                go_meet
                case rel => exact cells_of w (by rw [← gm_end]) (by rw [← fe_end])
            · have k0 : decide (0 < gm M more E (rI (ww M more) E)) = false := by simp; omega
              clear h3 c0
              go_wp2_with fail
              go_meet
              case rel => exact cells_of w (by rw [← gm_end]) (by rw [← fe_end])
      case rest =>
        subst hcut
        have RD := Lib.hid (rd_all neg M E more h0 hm)
        have f1 := fm_lt M more E h0 hm
        obtain ⟨f2, f3⟩ := fe_bd M more E hM hE'
        cases hh : sh (ww M more) (rJ (ww M more) E)
        · have EI := Lib.hid (show fm M more E = fm M more E + bn (inc (fm M more E) (sh (ww M more) (rJ (ww M more) E)) (sr (ww M more) (rJ (ww M more) E))) from by rw [hh]; rfl)
          have k0 : ((fm M more E : Int) == 9007199254740992) = false := by simp; omega
          by_cases dz : fm M more E = 0
          · have kz : ((fm M more E : Int) == 0) = true := by simp; omega
            have EV := Lib.hid (pk_zero neg (fm M more E) (fe M more E) (by omega))
            go_wp2_with (go_at_call 65; (with_reducible refine (so_rsigned_any _ _ _ (by omega) (by omega)).mono ?_); rintro e w' ⟨rfl, rfl⟩)
            go_ret
            exact ⟨ret_int (by rw [← RD.out _ EI.out, EV.out]; first | done | exact congrArg (wdI neg) (by omega)), ((New.refl _).alloc _ _).drew⟩
          · have kz : ((fm M more E : Int) == 0) = false := by simp; omega
            by_cases d2 : fm M more E < 4503599627370496
            · have k2 : ((fm M more E : Int) < 4503599627370496) := by omega
              have EV := Lib.hid (pk_small neg (fm M more E) (fe M more E) (by omega) (by omega))
              go_wp2_with (go_at_call 65; (with_reducible refine (so_rsigned_any _ _ _ (by omega) (by omega)).mono ?_); rintro e w' ⟨rfl, rfl⟩)
              go_ret
              exact ⟨ret_int (by rw [← RD.out _ EI.out, EV.out]; first | done | exact congrArg (wdI neg) (by omega)), ((New.refl _).alloc _ _).drew⟩
            · have k2 : decide ((fm M more E : Int) < 4503599627370496) = false := by simp; omega
              by_cases d3 : 2047 ≤ fe M more E + 1075
              · have EV := Lib.hid (pk_inf neg (fm M more E) (fe M more E) (by omega) (by omega) (by omega))
                go_wp2_with (go_at_call 65; (with_reducible refine (so_rsigned_any _ _ _ (by omega) (by omega)).mono ?_); rintro e w' ⟨rfl, rfl⟩)
                go_ret
                exact ⟨ret_int (by rw [← RD.out _ EI.out, EV.out]; first | done | exact congrArg (wdI neg) (by omega)), ((New.refl _).alloc _ _).drew⟩
              · have k3 : decide (2047 ≤ fe M more E + 1075) = false := by simp; omega
                have EV := Lib.hid (pk_norm neg (fm M more E) (fe M more E) (by omega) (by omega) (by omega) (by omega))
                go_wp2_with (go_at_call 65; (with_reducible refine (so_rsigned_any _ _ _ (by omega) (by omega)).mono ?_); rintro e w' ⟨rfl, rfl⟩)
                go_ret
                exact ⟨ret_int (by rw [← RD.out _ EI.out, EV.out]; first | done | exact congrArg (wdI neg) (by omega)), ((New.refl _).alloc _ _).drew⟩
        · cases hs : sr (ww M more) (rJ (ww M more) E)
          · by_cases hp : fm M more E % 2 = 1
            · have kp : ((fm M more E : Int) % 2 == 1) = true := by simp; omega
              have EI := Lib.hid (show fm M more E + 1 = fm M more E + bn (inc (fm M more E) (sh (ww M more) (rJ (ww M more) E)) (sr (ww M more) (rJ (ww M more) E))) from by rw [hh, hs]; unfold inc; rw [hp]; rfl)
              clear hp
              by_cases d0 : fm M more E = 9007199254740991
              · have k0 : ((fm M more E : Int) + 1 == 9007199254740992) = true := by simp; omega
                by_cases d1 : 2047 ≤ fe M more E + 1 + 1075
                · have EV := Lib.hid (pk_cinf neg (fm M more E + 1) (fe M more E) (by omega) (by omega))
                  go_wp2_with (go_at_call 65; (with_reducible refine (so_rsigned_any _ _ _ (by omega) (by omega)).mono ?_); rintro e w' ⟨rfl, rfl⟩)
                  go_ret
                  exact ⟨ret_int (by rw [← RD.out _ EI.out, EV.out]; first | done | exact congrArg (wdI neg) (by omega)), ((New.refl _).alloc _ _).drew⟩
                · have k1 : decide (2047 ≤ fe M more E + 1 + 1075) = false := by simp; omega
                  have EV := Lib.hid (pk_cnorm neg (fm M more E + 1) (fe M more E) (by omega) (by omega) (by omega))
                  go_wp2_with (go_at_call 65; (with_reducible refine (so_rsigned_any _ _ _ (by omega) (by omega)).mono ?_); rintro e w' ⟨rfl, rfl⟩)
                  go_ret
                  exact ⟨ret_int (by rw [← RD.out _ EI.out, EV.out]; first | done | exact congrArg (wdI neg) (by omega)), ((New.refl _).alloc _ _).drew⟩
              · have k0 : ((fm M more E : Int) + 1 == 9007199254740992) = false := by simp; omega
                have kz : ((fm M more E : Int) + 1 == 0) = false := by simp; omega
                by_cases d2 : fm M more E + 1 < 4503599627370496
                · have k2 : ((fm M more E : Int) + 1 < 4503599627370496) := by omega
                  have EV := Lib.hid (pk_small neg (fm M more E + 1) (fe M more E) (by omega) (by omega))
                  go_wp2_with (go_at_call 65; (with_reducible refine (so_rsigned_any _ _ _ (by omega) (by omega)).mono ?_); rintro e w' ⟨rfl, rfl⟩)
                  go_ret
                  exact ⟨ret_int (by rw [← RD.out _ EI.out, EV.out]; first | done | exact congrArg (wdI neg) (by omega)), ((New.refl _).alloc _ _).drew⟩
                · have k2 : decide ((fm M more E : Int) + 1 < 4503599627370496) = false := by simp; omega
                  by_cases d3 : 2047 ≤ fe M more E + 1075
                  · have EV := Lib.hid (pk_inf neg (fm M more E + 1) (fe M more E) (by omega) (by omega) (by omega))
                    go_wp2_with (go_at_call 65; (with_reducible refine (so_rsigned_any _ _ _ (by omega) (by omega)).mono ?_); rintro e w' ⟨rfl, rfl⟩)
                    go_ret
                    exact ⟨ret_int (by rw [← RD.out _ EI.out, EV.out]; first | done | exact congrArg (wdI neg) (by omega)), ((New.refl _).alloc _ _).drew⟩
                  · have k3 : decide (2047 ≤ fe M more E + 1075) = false := by simp; omega
                    have EV := Lib.hid (pk_norm neg (fm M more E + 1) (fe M more E) (by omega) (by omega) (by omega) (by omega))
                    go_wp2_with (go_at_call 65; (with_reducible refine (so_rsigned_any _ _ _ (by omega) (by omega)).mono ?_); rintro e w' ⟨rfl, rfl⟩)
                    go_ret
                    exact ⟨ret_int (by rw [← RD.out _ EI.out, EV.out]; first | done | exact congrArg (wdI neg) (by omega)), ((New.refl _).alloc _ _).drew⟩
            · have kp : ((fm M more E : Int) % 2 == 1) = false := by simp; omega
              have EI := Lib.hid (show fm M more E = fm M more E + bn (inc (fm M more E) (sh (ww M more) (rJ (ww M more) E)) (sr (ww M more) (rJ (ww M more) E))) from by rw [hh, hs]; unfold inc; rw [show fm M more E % 2 = 0 from by omega]; rfl)
              clear hp
              have k0 : ((fm M more E : Int) == 9007199254740992) = false := by simp; omega
              by_cases dz : fm M more E = 0
              · have kz : ((fm M more E : Int) == 0) = true := by simp; omega
                have EV := Lib.hid (pk_zero neg (fm M more E) (fe M more E) (by omega))
                go_wp2_with (go_at_call 65; (with_reducible refine (so_rsigned_any _ _ _ (by omega) (by omega)).mono ?_); rintro e w' ⟨rfl, rfl⟩)
                go_ret
                exact ⟨ret_int (by rw [← RD.out _ EI.out, EV.out]; first | done | exact congrArg (wdI neg) (by omega)), ((New.refl _).alloc _ _).drew⟩
              · have kz : ((fm M more E : Int) == 0) = false := by simp; omega
                by_cases d2 : fm M more E < 4503599627370496
                · have k2 : ((fm M more E : Int) < 4503599627370496) := by omega
                  have EV := Lib.hid (pk_small neg (fm M more E) (fe M more E) (by omega) (by omega))
                  go_wp2_with (go_at_call 65; (with_reducible refine (so_rsigned_any _ _ _ (by omega) (by omega)).mono ?_); rintro e w' ⟨rfl, rfl⟩)
                  go_ret
                  exact ⟨ret_int (by rw [← RD.out _ EI.out, EV.out]; first | done | exact congrArg (wdI neg) (by omega)), ((New.refl _).alloc _ _).drew⟩
                · have k2 : decide ((fm M more E : Int) < 4503599627370496) = false := by simp; omega
                  by_cases d3 : 2047 ≤ fe M more E + 1075
                  · have EV := Lib.hid (pk_inf neg (fm M more E) (fe M more E) (by omega) (by omega) (by omega))
                    go_wp2_with (go_at_call 65; (with_reducible refine (so_rsigned_any _ _ _ (by omega) (by omega)).mono ?_); rintro e w' ⟨rfl, rfl⟩)
                    go_ret
                    exact ⟨ret_int (by rw [← RD.out _ EI.out, EV.out]; first | done | exact congrArg (wdI neg) (by omega)), ((New.refl _).alloc _ _).drew⟩
                  · have k3 : decide (2047 ≤ fe M more E + 1075) = false := by simp; omega
                    have EV := Lib.hid (pk_norm neg (fm M more E) (fe M more E) (by omega) (by omega) (by omega) (by omega))
                    go_wp2_with (go_at_call 65; (with_reducible refine (so_rsigned_any _ _ _ (by omega) (by omega)).mono ?_); rintro e w' ⟨rfl, rfl⟩)
                    go_ret
                    exact ⟨ret_int (by rw [← RD.out _ EI.out, EV.out]; first | done | exact congrArg (wdI neg) (by omega)), ((New.refl _).alloc _ _).drew⟩
          · have EI := Lib.hid (show fm M more E + 1 = fm M more E + bn (inc (fm M more E) (sh (ww M more) (rJ (ww M more) E)) (sr (ww M more) (rJ (ww M more) E))) from by rw [hh, hs]; rfl)
            by_cases d0 : fm M more E = 9007199254740991
            · have k0 : ((fm M more E : Int) + 1 == 9007199254740992) = true := by simp; omega
              by_cases d1 : 2047 ≤ fe M more E + 1 + 1075
              · have EV := Lib.hid (pk_cinf neg (fm M more E + 1) (fe M more E) (by omega) (by omega))
                go_wp2_with (go_at_call 65; (with_reducible refine (so_rsigned_any _ _ _ (by omega) (by omega)).mono ?_); rintro e w' ⟨rfl, rfl⟩)
                go_ret
                exact ⟨ret_int (by rw [← RD.out _ EI.out, EV.out]; first | done | exact congrArg (wdI neg) (by omega)), ((New.refl _).alloc _ _).drew⟩
              · have k1 : decide (2047 ≤ fe M more E + 1 + 1075) = false := by simp; omega
                have EV := Lib.hid (pk_cnorm neg (fm M more E + 1) (fe M more E) (by omega) (by omega) (by omega))
                go_wp2_with (go_at_call 65; (with_reducible refine (so_rsigned_any _ _ _ (by omega) (by omega)).mono ?_); rintro e w' ⟨rfl, rfl⟩)
                go_ret
                exact ⟨ret_int (by rw [← RD.out _ EI.out, EV.out]; first | done | exact congrArg (wdI neg) (by omega)), ((New.refl _).alloc _ _).drew⟩
            · have k0 : ((fm M more E : Int) + 1 == 9007199254740992) = false := by simp; omega
              have kz : ((fm M more E : Int) + 1 == 0) = false := by simp; omega
              by_cases d2 : fm M more E + 1 < 4503599627370496
              · have k2 : ((fm M more E : Int) + 1 < 4503599627370496) := by omega
                have EV := Lib.hid (pk_small neg (fm M more E + 1) (fe M more E) (by omega) (by omega))
                go_wp2_with (go_at_call 65; (with_reducible refine (so_rsigned_any _ _ _ (by omega) (by omega)).mono ?_); rintro e w' ⟨rfl, rfl⟩)
                go_ret
                exact ⟨ret_int (by rw [← RD.out _ EI.out, EV.out]; first | done | exact congrArg (wdI neg) (by omega)), ((New.refl _).alloc _ _).drew⟩
              · have k2 : decide ((fm M more E : Int) + 1 < 4503599627370496) = false := by simp; omega
                by_cases d3 : 2047 ≤ fe M more E + 1075
                · have EV := Lib.hid (pk_inf neg (fm M more E + 1) (fe M more E) (by omega) (by omega) (by omega))
                  go_wp2_with (go_at_call 65; (with_reducible refine (so_rsigned_any _ _ _ (by omega) (by omega)).mono ?_); rintro e w' ⟨rfl, rfl⟩)
                  go_ret
                  exact ⟨ret_int (by rw [← RD.out _ EI.out, EV.out]; first | done | exact congrArg (wdI neg) (by omega)), ((New.refl _).alloc _ _).drew⟩
                · have k3 : decide (2047 ≤ fe M more E + 1075) = false := by simp; omega
                  have EV := Lib.hid (pk_norm neg (fm M more E + 1) (fe M more E) (by omega) (by omega) (by omega) (by omega))
                  go_wp2_with (go_at_call 65; (with_reducible refine (so_rsigned_any _ _ _ (by omega) (by omega)).mono ?_); rintro e w' ⟨rfl, rfl⟩)
                  go_ret
                  exact ⟨ret_int (by rw [← RD.out _ EI.out, EV.out]; first | done | exact congrArg (wdI neg) (by omega)), ((New.refl _).alloc _ _).drew⟩
end Go.Proofs.YtgkonjgalpchoaaDoor
