/- Behind whatever was done to regions each page is used as it was laid down last; what is refused changes nothing; the list is always one that may be. -/
import Derived.Test.YtfkjgbenjdmedaaRows
import Derived.Test.YtfkjgbenjdmedaaReJ
import Derived.Test.YtfkjgbenjdmedaaReK
import Derived.Test.YtfkjgbenjdmedaaReL
import Derived.Test.YtfkjgbenjdmedaaPost
import Derived.WalkKit
import Derived.ProofKit
import Derived.OpenShut
import Derived.ShutString
import Derived.ChangeOld
import Derived.Below
namespace Go.Proofs.Ytfkjgbenjdmedaa.regionKeeps
open Go.ChangeShapes Go.WideShapes Go.ChangeAt Go.RowKit
open Go.ChangeMaps (open_string shut_string)
set_option linter.unusedVariables false

theorem own : ownKnob Try.prog.godebug = none := by kernel_rfl
theorem laidOut : laidOutB Try.prog = true := by kernel_rfl

/-- WHAT THE WALK IS TOLD OF A SLICE OF INTEGERS THAT CAME IN: it is nil; or it leads to a row of 'cap' cells, the numbers 'zs' (the first 'len' are its elements, the rest its spare room), each fitting its kind. -/
def IsRow (k : IntKind) (w : World) (a : Option Addr) (len cap : Nat) (zs : List Int) : Prop :=
  (a = none ∧ len = 0 ∧ cap = 0 ∧ zs = []) ∨
  ∃ x, a = some x ∧ len ≤ cap ∧ cap ≤ maxLen ∧ zs.length = cap ∧ (∀ i, i < zs.length → w.cell? (x.add i) = some (.int k (zs.getD i 0))) ∧ ∀ n ∈ zs, (Lit.int k n).wf = true

open Go.RowKit Go.Deep
theorem kmod (a : Int) (n : Nat) (h1 : 0 < n) (h2 : n ≤ 4096) : ∃ x : Nat, wrap64 ((IntKind.u64.wrap a).tmod (n : Int)) = (x : Int) ∧ x < n := by
  rw [IntKind.wrap_u64, Int.tmod_eq_emod_of_nonneg (by omega)]
  have h := Int.emod_lt_of_pos (a % 18446744073709551616) (show (0 : Int) < n by omega)
  have h' := Int.emod_nonneg (a % 18446744073709551616) (show (n : Int) ≠ 0 by omega)
  refine ⟨(a % 18446744073709551616 % n).toNat, ?_, by omega⟩
  unfold wrap64; omega
theorem acts_at {w : World} {a : Option Addr} {n : Nat} (h : MixRows [some .i64, some .i64, some .i64, some .u8] w a n) (j : Nat) (hj : j < n) : ∃ (x : Addr) (k f t : Int) (p : Nat), a = some x ∧ p ≤ 255 ∧ w.cell? (x.add (j * 4)) = some (.int .i64 k) ∧
    w.cell? ⟨(x.add (j * 4)).block, (x.add (j * 4)).off + 1, none⟩ = some (.int .i64 f) ∧ w.cell? ⟨(x.add (j * 4)).block, (x.add (j * 4)).off + 2, none⟩ = some (.int .i64 t) ∧ w.cell? ⟨(x.add (j * 4)).block, (x.add (j * 4)).off + 3, none⟩ = some (.int .u8 (p : Int)) := by
  obtain ⟨x, hx, hf⟩ := h.2 j hj
  obtain ⟨v0, c0, n0, rfl, f0⟩ := hf 0 _ rfl
  obtain ⟨v1, c1, n1, rfl, f1⟩ := hf 1 _ rfl
  obtain ⟨v2, c2, n2, rfl, f2⟩ := hf 2 _ rfl
  obtain ⟨v3, c3, n3, rfl, f3⟩ := hf 3 _ rfl
  have b3 := u8_bd f3
  obtain ⟨p, rfl⟩ := Int.eq_ofNat_of_zero_le b3.1
  refine ⟨x, n0, n1, n2, p, hx, by omega, c0, ?_, ?_, ?_⟩
  · rw [← c1, ← Go.Deep.add_add]; rfl
  · rw [← c2, ← Go.Deep.add_add]; rfl
  · rw [← c3, ← Go.Deep.add_add]; rfl
/-- behind one act: the list then, or the error; the page as it is used then -/
def RkS (p : Nat) (X : List Rg) (W : World) (pm is y e : Value) (wc : World) : Prop :=
  ∃ (X2 : List Rg) (q2 : Nat), ROk X2 ∧ is = .bool (rpg X2 p).isSome ∧ pm = .int .u8 (q2 : Int) ∧ (∀ n, rpg X2 p = some n → q2 = n) ∧ New W wc ∧ ((e = .nilIface ∧ Rgs wc y X2) ∨ (X2 = X ∧ ∃ c, e = .iface 47 (.int .i64 c)))
section
variable {p : Nat} {X : List Rg} {W wc : World} {q P pm : Nat} {b inn : Bool} {F T : Int} {y : Value} {c : Int}
theorem rks_cut (hFT : F < T) (hO : ROk X) (hb : (rpg X p).isSome = b) (hq : ∀ n, rpg X p = some n → q = n) (hin : inR ⟨F, T, P⟩ p = inn) (h : Rgs wc y (cutL X F T)) (n : New W wc) :
    RkS p X W (.int .u8 (q : Int)) (.bool (b && !inn)) y .nilIface wc := by
  have e := rpg_cutL hO hFT p
  refine ⟨_, q, hO.cutL hFT, ?_, rfl, fun n hn => ?_, n, .inl ⟨rfl, h⟩⟩
  · rw [e]
    cases inn with
    | true => rw [if_pos (inR_iff.1 hin)]; simp
    | false => rw [if_neg (inR_not.1 hin), hb]; simp
  · rw [e] at hn
    split at hn
    · cases hn
    · exact hq n hn
theorem rks_same (hO : ROk X) (hb : (rpg X p).isSome = b) (hq : ∀ n, rpg X p = some n → q = n) (n : New W wc) : RkS p X W (.int .u8 (q : Int)) (.bool b) y (.iface 47 (.int .i64 c)) wc :=
  ⟨X, q, hO, by rw [hb], rfl, hq, n, .inr ⟨rfl, c, rfl⟩⟩
theorem rks_out (hO : ROk X) (hr : okR ⟨F, T, P⟩ = true) (hb : (rpg X p).isSome = b) (hq : ∀ n, rpg X p = some n → q = n) (hin : inR ⟨F, T, P⟩ p = false) (h : Rgs wc y (layL X ⟨F, T, P⟩)) (n : New W wc) :
    RkS p X W (.int .u8 (q : Int)) (.bool b) y .nilIface wc := by
  have e := rpg_layL hO hr p
  rw [if_neg (by rw [hin]; simp)] at e
  exact ⟨_, q, hO.layL hr, by rw [e, hb], rfl, by rw [e]; exact hq, n, .inl ⟨rfl, h⟩⟩
theorem rks_in (hO : ROk X) (hr : okR ⟨F, T, P⟩ = true) (hin : inR ⟨F, T, P⟩ p = true) (h : Rgs wc y (layL X ⟨F, T, P⟩)) (n : New W wc) :
    RkS p X W (.int .u8 (P : Int)) (.bool true) y .nilIface wc := by
  have e := rpg_layL hO hr p
  rw [if_pos hin] at e
  exact ⟨_, P, hO.layL hr, by rw [e]; rfl, rfl, (fun n hn => by rw [e] at hn; exact Option.some.inj hn), n, .inl ⟨rfl, h⟩⟩
end
/-! ### STEP 1: THE WALK: the Go text returns true, AND WRITES NOTHING THAT WAS THERE: 'Below w.heap.size w w'' (Derived/Below.lean: '.refl', '.alloc', '.drew', '.setCell' at a new block, '.trans'). Open each 'IsRow' by 'rcases' AHEAD of 'go_enter'; part every test ahead of the walk. -/
set_option maxHeartbeats 4000000 in
set_option maxRecDepth 100000 in
theorem walk (a0 : Option Addr) (len0 cap0 : Nat) (a1 : Int) (w : World) (w0 : MixRows [some .i64, some .i64, some .i64, some .u8] w a0 len0) (w1 : (Lit.int .i64 a1).wf = true) :
    Calls Try.prog 3 #[.slice a0 len0 cap0, .int .i64 a1] w fun e w' => e = .returned (.bool true) ∧ Below w.heap.size w w' := by
  obtain ⟨p, hp, hp64⟩ : ∃ x : Nat, wrap64 ((IntKind.u64.wrap a1).tmod 64) = (x : Int) ∧ x < 64 := kmod a1 64 (by omega) (by omega)
  have HA := Lib.hid w0
  have hlen : len0 ≤ 9223372036854775807 := by have := w0.1; unfold maxLen at this; omega
  clear w0
  have hsure := fun W => rsure_any W
  go_enter Try.func3, Try.ntmps3
  go_wp2
  simp only [hp]
  clear hp
  go_loopg [5, 7, 8, 9] 25 (fun k xv pm is i wr => ∃ (j : Nat) (X : List Rg) (q : Nat), j + k = 25 ∧ i = .int .i64 (j : Int) ∧ Rgs wr xv X ∧ ROk X ∧ is = .bool (rpg X p).isSome ∧ pm = .int .u8 (q : Int) ∧ (∀ n, rpg X p = some n → q = n) ∧ New w wr)
  case atStart => exact ⟨0, [], 0, by omega, rfl, Rgs.nil, trivial, rfl, rfl, (fun n h => by cases h), New.refl _⟩
  case round =>
    obtain ⟨j, X, q, hj, rfl, hR, hO, rfl, rfl, hq, hn⟩ := hrel
    have J := Lib.hid hj
    have HR := Lib.hid hR
    have HO := Lib.hid hO
    have HQ := Lib.hid hq
    have HN := Lib.hid hn
    by_cases c : j < len0
    · by_cases c25 : j < 25
      · obtain ⟨x, kd, f, t, pr, rfl, hpr, c0, c1, c2, c3⟩ := acts_at HA.out j c
        have c0 := hn.keeps c0
        have c1 := hn.keeps c1
        have c2 := hn.keeps c2
        have c3 := hn.keeps c3
        have c3' : wr.cell? ⟨(x.add (j * 4)).block, (x.add (j * 4)).off + 1 + 2, none⟩ = some (.int .u8 (pr : Int)) := c3
        have c2' : wr.cell? ⟨(x.add (j * 4)).block, (x.add (j * 4)).off + 1 + 1, none⟩ = some (.int .i64 t) := c2
        have hxl : (x.add (j * 4)).block < wr.heap.size := World.block_lt_of_cell? wr _ c0
        have hxl' : (x.add (j * 4)).block < wr.heap.size + 1 := by omega
        obtain ⟨K, eK, hK⟩ : ∃ x : Nat, wrap64 ((IntKind.u64.wrap kd).tmod 4) = (x : Int) ∧ x < 4 := kmod kd 4 (by omega) (by omega)
        obtain ⟨F, eF, hF⟩ : ∃ x : Nat, wrap64 ((IntKind.u64.wrap f).tmod 64) = (x : Int) ∧ x < 64 := kmod f 64 (by omega) (by omega)
        obtain ⟨D, eD, hD⟩ : ∃ x : Nat, wrap64 ((IntKind.u64.wrap t).tmod 20) = (x : Int) ∧ x < 20 := kmod t 20 (by omega) (by omega)
        obtain ⟨P, eP, hP⟩ : ∃ P : Nat, ((pr : Int)).tmod 8 = (P : Int) ∧ P < 8 := ⟨pr % 8, by rw [Int.tmod_eq_emod_of_nonneg (by omega)]; omega, by omega⟩
        obtain ⟨p', cp', rfl, hcp, hcm⟩ := hR.shape
        generalize hb : (rpg X p).isSome = b at *
        clear hj hR hO hq hn hcp hcm
        go_upto_region 7 with fail
        go_region
        have BR0 : Box (wr.alloc (.cells #[.int .i64 (F : Int), .int .i64 0, .int .u8 (P : Int)] 29)).drew wr.heap.size #[.int .i64 (F : Int), .int .i64 0, .int .u8 (P : Int)] 29 := (Box.here wr _ _ _ rfl).new (New.refl _).drew
        have N0 : New wr (wr.alloc (.cells #[.int .i64 (F : Int), .int .i64 0, .int .u8 (P : Int)] 29)).drew := ((New.refl wr).alloc _ _).drew
        simp only [eF]
        go_upto_region 8 with fail
        change Code.wp _ _ _ _ (wr.alloc (.cells #[.int .i64 (F : Int), .int .i64 0, .int .u8 (P : Int)] 29)).drew
        generalize (wr.alloc (.cells #[.int .i64 (F : Int), .int .i64 0, .int .u8 (P : Int)] 29)).drew = W at *
        generalize hrbe : wr.heap.size = rb at *
        have c00 := c0
        have c0 := N0.keeps c0
        have c1 := N0.keeps c1
        have c2 := N0.keeps c2
        have c3 := N0.keeps c3
        have c2' := N0.keeps c2'
        obtain ⟨hrb, b0, b1, b2, g0, g1, g2⟩ := BR0.three'
        have e1 : IntKind.i64.wrap ((F : Int) + 1) = (F : Int) + 1 := IntWalk.i64_in _ (by omega)
        have e2 : IntKind.i64.wrap ((F : Int) + 1 + (D : Int)) = (F : Int) + 1 + (D : Int) := IntWalk.i64_in _ (by omega)
        go_region
        have BR := (BR0.set 1 (.int .i64 ((F : Int) + 1 + (D : Int)))).new (New.refl _).drew
        have NRR := Lib.hid (show New wr (W.setCell ⟨rb, 1, none⟩ (.int .i64 ((F : Int) + 1 + (D : Int)))).drew from (N0.setCell (p := ⟨rb, 1, none⟩) (by rw [← hrbe]; exact Nat.le_refl _) _).drew)
        have d0 := NRR.out.keeps c00
        go_upto_region 9 with fail
        change Code.wp _ _ _ _ (W.setCell ⟨rb, 1, none⟩ (.int .i64 ((F : Int) + 1 + (D : Int)))).drew
        clear b0 b1 b2 g0 g1 g2 c0 c1 c2 c3 c2' c3' BR0
        generalize (W.setCell ⟨rb, 1, none⟩ (.int .i64 ((F : Int) + 1 + (D : Int)))).drew = W2 at *
        generalize hT : (F : Int) + 1 + (D : Int) = T at *
        have BR : Box W2 rb #[.int .i64 (F : Int), .int .i64 T, .int .u8 (P : Int)] 29 := BR
        obtain ⟨r0, r1, r2⟩ := BR.three
        go_cut [11] (fun v wc => v = .bool (inR ⟨F, T, P⟩ p) ∧ W2 = wc)
        case first =>
          by_cases i1 : (F : Int) ≤ p
          · have s1 : decide ((F : Int) ≤ (p : Int)) = true := by simpa using i1
            by_cases i2 : (p : Int) < T
            · have s2 : decide ((p : Int) < T) = true := by simpa using i2
              have s3 : inR ⟨F, T, P⟩ p = true := inR_iff.2 ⟨i1, i2⟩
              go_wp2
              go_meet
              exact ⟨by rw [s3], rfl⟩
            · have s2 : decide ((p : Int) < T) = false := by simpa using i2
              have s3 : inR ⟨F, T, P⟩ p = false := inR_not.2 fun h => i2 h.2
              go_wp2
              go_meet
              exact ⟨by rw [s3], rfl⟩
          · have s1 : decide ((F : Int) ≤ (p : Int)) = false := by simpa using i1
            have s3 : inR ⟨F, T, P⟩ p = false := inR_not.2 fun h => i1 h.1
            go_wp2
            go_meet
            exact ⟨by rw [s3], rfl⟩
        case rest =>
          obtain ⟨rfl, rfl⟩ := hcut
          go_upto_block 2 with fail
          simp only [eK]
          clear eK eF eD eP d0
          have hrr : okR ⟨F, T, P⟩ = true := okR_iff.2 (by simp only; omega)
          have hpp : okP F T = true := okP_iff.2 (by omega)
          have HX := Lib.hid hb
          have HRW := Lib.hid (HR.out.new (NRR.out))
          generalize hin : inR ⟨F, T, P⟩ p = inn at *
          have HI := Lib.hid hin
          clear hin hb
          go_cut [7, 8, 12, 13] (fun pm is y e wc => RkS p X W2 pm is y e wc)
          case first =>
            by_cases k2 : K = 2
            · have k2' : ((K : Int) == 2) = true := by simp; omega
              obtain ⟨ce, cl⟩ := ct_ok HO.out hpp
              have q1 := rcut_any W2 _ X F T HRW.out
              rw [ce, cl] at q1
              have RK := Lib.hid (fun y wc (h : Rgs wc y (cutL X F T)) (n : New W2 wc) => rks_cut (P := P) (by omega) HO.out HX.out HQ.out HI.out h n)
              clear k2 ce cl
              cases b with
              | false =>
                go_wp2_with (go_at_call 5; (with_reducible refine q1.mono ?_); rintro e w3 ⟨_, rfl, o3, n3⟩; obtain ⟨p3, c3, rfl⟩ := o3.shape; rw [erN_zero])
                go_meet
                exact RK.out _ _ o3.rgs n3
              | true =>
                have e4 : (true && !inn) = !inn := rfl
                rw [e4] at RK
                go_wp2_with (go_at_call 5; (with_reducible refine q1.mono ?_); rintro e w3 ⟨_, rfl, o3, n3⟩; obtain ⟨p3, c3, rfl⟩ := o3.shape; rw [erN_zero])
                go_meet
                exact RK.out _ _ o3.rgs n3
            · have k2' : ((K : Int) == 2) = false := by simp; omega
              by_cases k3 : K = 3
              · have k3' : ((K : Int) == 3) = true := by simp; omega
                have q1 := rprot_any W2 _ X ⟨F, T, P⟩ HRW.out
                clear k2 k3
                rcases prE_cases HO.out hrr with ⟨pe, pl, pa⟩ | ⟨pe, pl, _⟩
                · rw [pe, pl] at q1
                  cases inn with
                  | false =>
                    have RK := Lib.hid (fun y wc (h : Rgs wc y (layL X ⟨F, T, P⟩)) (n : New W2 wc) => rks_out HO.out hrr HX.out HQ.out HI.out h n)
                    clear pe pl pa
                    go_wp2_with (go_at_call 6; (with_reducible refine q1.mono ?_); rintro e w3 ⟨_, rfl, o3, n3⟩; obtain ⟨p3, c3, rfl⟩ := o3.shape; rw [erN_zero])
                    go_meet
                    exact RK.out _ _ o3.rgs n3
                  | true =>
                    have RK := Lib.hid (fun y wc (h : Rgs wc y (layL X ⟨F, T, P⟩)) (n : New W2 wc) => rks_in HO.out hrr HI.out h n)
                    have hbt : b = true := by
                      have h1 := inR_iff.1 HI.out
                      have h2 := pa p h1.1 h1.2
                      rw [← HX.out]; exact h2
                    subst hbt
                    clear pe pl pa
                    go_wp2_with (go_at_call 6; (with_reducible refine q1.mono ?_); rintro e w3 ⟨_, rfl, o3, n3⟩; obtain ⟨p3, c3, rfl⟩ := o3.shape; rw [erN_zero]; obtain ⟨r0', r1', r2'⟩ := (BR.new n3).three)
                    go_meet
                    exact RK.out _ _ o3.rgs n3
                · rw [pe, pl] at q1
                  have RK := Lib.hid (fun y wc c (n : New W2 wc) => rks_same (y := y) (c := c) HO.out HX.out HQ.out n)
                  clear pe pl
                  go_wp2_with (go_at_call 6; (with_reducible refine q1.mono ?_); rintro e w3 ⟨_, rfl, o3, n3⟩; obtain ⟨p3, c3, rfl⟩ := o3.shape; rw [erN_pos (by decide)])
                  go_meet
                  exact RK.out _ _ _ n3
              · have k3' : ((K : Int) == 3) = false := by simp; omega
                have q1 := radd_any W2 _ X ⟨F, T, P⟩ HRW.out
                clear k2 k3
                rcases adE_cases HO.out hrr with ⟨pe, pl, pa⟩ | ⟨pe, pl, _⟩
                · rw [pe, pl] at q1
                  cases inn with
                  | false =>
                    have RK := Lib.hid (fun y wc (h : Rgs wc y (layL X ⟨F, T, P⟩)) (n : New W2 wc) => rks_out HO.out hrr HX.out HQ.out HI.out h n)
                    clear pe pl pa
                    go_wp2_with (go_at_call 7; (with_reducible refine q1.mono ?_); rintro e w3 ⟨_, rfl, o3, n3⟩; obtain ⟨p3, c3, rfl⟩ := o3.shape; rw [erN_zero])
                    go_meet
                    exact RK.out _ _ o3.rgs n3
                  | true =>
                    have RK := Lib.hid (fun y wc (h : Rgs wc y (layL X ⟨F, T, P⟩)) (n : New W2 wc) => rks_in HO.out hrr HI.out h n)
                    have hbt : b = false := by
                      have h1 := inR_iff.1 HI.out
                      have h2 := pa p h1.1 h1.2
                      rw [← HX.out, h2]; rfl
                    subst hbt
                    clear pe pl pa
                    go_wp2_with (go_at_call 7; (with_reducible refine q1.mono ?_); rintro e w3 ⟨_, rfl, o3, n3⟩; obtain ⟨p3, c3, rfl⟩ := o3.shape; rw [erN_zero]; obtain ⟨r0', r1', r2'⟩ := (BR.new n3).three)
                    go_meet
                    exact RK.out _ _ o3.rgs n3
                · rw [pe, pl] at q1
                  have RK := Lib.hid (fun y wc c (n : New W2 wc) => rks_same (y := y) (c := c) HO.out HX.out HQ.out n)
                  clear pe pl
                  go_wp2_with (go_at_call 7; (with_reducible refine q1.mono ?_); rintro e w3 ⟨_, rfl, o3, n3⟩; obtain ⟨p3, c3, rfl⟩ := o3.shape; rw [erN_pos (by decide)])
                  go_meet
                  exact RK.out _ _ _ n3
          case rest =>
            obtain ⟨X2, q2, hO2, rfl, rfl, hq2, n2, hc⟩ := hcut
            rcases hc with ⟨rfl, hR2⟩ | ⟨rfl, c, rfl⟩
            · have qa := rat_any wc _ X2 p hR2
              have HO2 := Lib.hid hO2
              have HQ2 := Lib.hid hq2
              have ha := atO_pg hO2 p
              have hs := atO_some hO2 p
              cases hat : atO X2 p with
              | none =>
                rw [hat] at qa ha hs
                have hx0 : (rpg X2 p).isSome = false := by rw [← hs]; rfl
                rw [hx0]
                have HX0 := Lib.hid hx0
                have HR2 := Lib.hid hR2
                obtain ⟨p5, c5, rfl, _, _⟩ := hR2.shape
                clear hO2 hq2 ha hs hat hR2 hx0
                go_wp2_with fail
                refine qa.mono ?_
                rintro e w4 ⟨rfl, n4⟩
                have NA : New wc (w4.alloc (.cells #[.int .i64 0, .int .i64 0, .int .u8 0] 29)) := n4.alloc _ _
                have qc := check_any _ _ X2 (HR2.out.new NA)
                rw [chv_ok HO2.out, erN_zero] at qc
                go_wp2_with fail
                refine qc.mono ?_
                rintro e w5 ⟨rfl, n5⟩
                go_wp2
                go_roundg (25 - (j + 1))
                case measure => have := J.out; omega
                case rel => exact ⟨j + 1, X2, q2, by have := J.out; omega, by go_num, HR2.out.new (NA.trans n5), HO2.out, by rw [HX0.out], rfl, HQ2.out, HN.out.trans (NRR.out.trans (n2.trans (NA.trans n5)))⟩
              | some a =>
                rw [hat] at qa ha hs
                have hx0 : (rpg X2 p).isSome = true := by rw [← hs]; rfl
                have hqa : q2 = a.p := hq2 _ ha.symm
                rw [hx0]
                have HX0 := Lib.hid hx0
                have HR2 := Lib.hid hR2
                obtain ⟨p5, c5, rfl, _, _⟩ := hR2.shape
                clear hO2 hq2 ha hs hat hR2 hx0
                subst hqa
                go_wp2_with fail
                refine qa.mono ?_
                rintro e w4 ⟨rfl, n4⟩
                have NA : New wc (w4.alloc (.cells #[.int .i64 a.f, .int .i64 a.t, .int .u8 (a.p : Int)] 29)) := n4.alloc _ _
                have BA : Box (w4.alloc (.cells #[.int .i64 a.f, .int .i64 a.t, .int .u8 (a.p : Int)] 29)) w4.heap.size #[.int .i64 a.f, .int .i64 a.t, .int .u8 (a.p : Int)] 29 := Box.here _ _ _ _ rfl
                have qc := check_any _ _ X2 (HR2.out.new NA)
                rw [chv_ok HO2.out, erN_zero] at qc
                go_wp2_with fail
                refine qc.mono ?_
                rintro e w5 ⟨rfl, n5⟩
                obtain ⟨z0, z1, z2⟩ := (BA.new n5).three
                go_wp2
                go_roundg (25 - (j + 1))
                case measure => have := J.out; omega
                case rel => exact ⟨j + 1, X2, _, by have := J.out; omega, by go_num, HR2.out.new (NA.trans n5), HO2.out, by rw [HX0.out], rfl, HQ2.out, HN.out.trans (NRR.out.trans (n2.trans (NA.trans n5)))⟩
            · have hR2 := HRW.out.new n2
              have qa := rat_any wc _ X2 p hR2
              have HO2 := Lib.hid hO2
              have HQ2 := Lib.hid hq2
              have ha := atO_pg hO2 p
              have hs := atO_some hO2 p
              cases hat : atO X2 p with
              | none =>
                rw [hat] at qa ha hs
                have hx0 : (rpg X2 p).isSome = false := by rw [← hs]; rfl
                rw [hx0]
                have HX0 := Lib.hid hx0
                have HR2 := Lib.hid hR2
                clear hO2 hq2 ha hs hat hR2 hx0
                go_wp2_with fail
                refine qa.mono ?_
                rintro e w4 ⟨rfl, n4⟩
                have NA : New wc (w4.alloc (.cells #[.int .i64 0, .int .i64 0, .int .u8 0] 29)) := n4.alloc _ _
                have qc := check_any _ _ X2 (HR2.out.new NA)
                rw [chv_ok HO2.out, erN_zero] at qc
                go_wp2_with fail
                refine qc.mono ?_
                rintro e w5 ⟨rfl, n5⟩
                go_wp2
                go_roundg (25 - (j + 1))
                case measure => have := J.out; omega
                case rel => exact ⟨j + 1, X2, q2, by have := J.out; omega, by go_num, HR2.out.new (NA.trans n5), HO2.out, by rw [HX0.out], rfl, HQ2.out, HN.out.trans (NRR.out.trans (n2.trans (NA.trans n5)))⟩
              | some a =>
                rw [hat] at qa ha hs
                have hx0 : (rpg X2 p).isSome = true := by rw [← hs]; rfl
                have hqa : q2 = a.p := hq2 _ ha.symm
                rw [hx0]
                have HX0 := Lib.hid hx0
                have HR2 := Lib.hid hR2
                clear hO2 hq2 ha hs hat hR2 hx0
                subst hqa
                go_wp2_with fail
                refine qa.mono ?_
                rintro e w4 ⟨rfl, n4⟩
                have NA : New wc (w4.alloc (.cells #[.int .i64 a.f, .int .i64 a.t, .int .u8 (a.p : Int)] 29)) := n4.alloc _ _
                have BA : Box (w4.alloc (.cells #[.int .i64 a.f, .int .i64 a.t, .int .u8 (a.p : Int)] 29)) w4.heap.size #[.int .i64 a.f, .int .i64 a.t, .int .u8 (a.p : Int)] 29 := Box.here _ _ _ _ rfl
                have qc := check_any _ _ X2 (HR2.out.new NA)
                rw [chv_ok HO2.out, erN_zero] at qc
                go_wp2_with fail
                refine qc.mono ?_
                rintro e w5 ⟨rfl, n5⟩
                obtain ⟨z0, z1, z2⟩ := (BA.new n5).three
                go_wp2
                go_roundg (25 - (j + 1))
                case measure => have := J.out; omega
                case rel => exact ⟨j + 1, X2, _, by have := J.out; omega, by go_num, HR2.out.new (NA.trans n5), HO2.out, by rw [HX0.out], rfl, HQ2.out, HN.out.trans (NRR.out.trans (n2.trans (NA.trans n5)))⟩
      · have g25 : decide ((j : Int) < 25) = false := by simp; omega
        have gl : decide ((j : Int) < (len0 : Int)) = true := by simp; omega
        clear hj hR hO hq
        go_wp2_with (go_at_call 10; (with_reducible refine (hsure _).mono ?_); rintro e w2 ⟨rfl, n2⟩)
        go_ret
        exact ⟨rfl, hn.trans n2⟩
    · have gl : decide ((j : Int) < (len0 : Int)) = false := by simp; omega
      clear hj hR hO hq
      go_wp2_with (go_at_call 10; (with_reducible refine (hsure _).mono ?_); rintro e w2 ⟨rfl, n2⟩)
      go_ret
      exact ⟨rfl, hn.trans n2⟩

/-! ### THE ROW's STEP: WRITTEN OUT: LEAVE IT -/
set_option maxRecDepth 100000 in
theorem lifted (os : Os) (started : os.Started) (H : Type) (enc : TypeId × Value → H) :
    ReturnsInHanded {} Try.checked os 3 .any (Rows.regionKeepsSpec.pre6 enc Try.prog Try.f3 Rows.regionKeepsRow.domain false) (Rows.regionKeepsSpec.post enc Try.prog Try.f3 false true false false) := by
  refine returnsInHanded_of_change (C := Try.checked) own started (by kernel_rfl) Try.func3
    (ChangeSpec.witness6 (enc := enc) (C := Try.checked) false ⟨#[], #[.slice none 0 0, .int .i64 0], []⟩ 8 (by kernel_rfl) (by kernel_rfl) (by kernel_rfl) (by kernel_rfl)) ?_
  intro W base args ds gs before hval0 hW hcnd _
  have hval : ∀ (j : Nat) t v, Try.f3.params[j]? = some t → args[j]? = some v → Value.okWide Try.prog W .any base t v := hval0
  have hW' := hW
  obtain ⟨p, q, hA0, hV, rfl, hfz, hnd⟩ := hW
  have hA : DataW.TrodAll enc Try.prog W 0 (fun _ => true) true Try.f3.params.toList args.toList ds p := hA0
  rw [Try.params3] at hA hval
  obtain ⟨v0, vs0, d0, ds0, p0, q0, hargs, rfl, rfl, h0, r0⟩ := trodAll_cons hA
  obtain ⟨v1, vs1, d1, ds1, p1, q1, rfl, rfl, rfl, h1, r1⟩ := trodAll_cons r0
  obtain ⟨rfl, rfl, rfl⟩ := trodAll_nil r1
  obtain rfl : args = #[v0, v1] := by cases args; simp_all
  obtain ⟨rfl, rfl⟩ := trodVars_none hV
  obtain ⟨a0, len0, cap0, rfl⟩ := okWide_slice Try.underlying22 (hval 0 22 v0 rfl rfl)
  have k0 := h0
  have lt0 : ∀ x ∈ p0, x.block < W.heap.size := by obtain ⟨m, hm⟩ := k0; exact DataW.trod_lt m _ _ _ hm
  have w0 : MixRows [some .i64, some .i64, some .i64, some .u8] W a0 len0 := mixrows_of Try.underlying22 (.struct Try.underlying28 (.cons rfl (.int Try.underlying3) (by kernel_rfl) (.cons rfl (.struct Try.underlying26 (.cons rfl (.int Try.underlying3) (by kernel_rfl) (.cons rfl (.int Try.underlying3) (by kernel_rfl) (.cons rfl (.int Try.underlying5) (by kernel_rfl) .nil)))) (by kernel_rfl) .nil))) (by kernel_rfl) h0
  obtain ⟨a1, rfl, rfl, rfl, w1⟩ := open_int Try.underlying3 (hval 1 3 v1 rfl rfl) h1
  clear hA0 hval0
  refine (walk a0 len0 cap0 a1 W w0 w1).mono fun e W' ⟨he, bel⟩ => ?_
  subst he
  exact ⟨_, rfl, _, _, _, [], _, [], hW', trodAll_mk1 (shut_bool Try.underlying4 _), (trodAll_cons_mk (Below.trod laidOut (by kernel_rfl) (of_decide_eq_true (by kernel_rfl)) k0 bel lt0) (trodAll_cons_mk (shut_int Try.underlying3 w1) trodAll_mk0)), rfl, bel.frame _, fun h => by cases h⟩

theorem over : Rows.regionKeepsRow.holds Try.pinned (OpenSpec.ofChange Rows.regionKeepsSpec) :=
  OpenClaim.holds_of_wide 3 Try.f3 rfl rfl rfl rfl rfl rfl rfl ⟨rfl, rfl, rfl, rfl, rfl⟩ rfl rfl rfl rfl rfl (by kernel_rfl) Try.func3 (by kernel_rfl)
    (of_decide_eq_true (by kernel_rfl)) (by unfold Func.isWrapper; first | (rw [if_pos (by decide +kernel)]; kernel_rfl) | (rw [if_neg (by decide +kernel)]; exact ⟨rfl, rfl⟩))
    (fun os started H enc _ => lifted os started H enc)

/-- ████ THE STATEMENT ████ -/
theorem proved : Rows.RegionKeepsSaid := over
#print axioms proved
end Go.Proofs.Ytfkjgbenjdmedaa.regionKeeps
