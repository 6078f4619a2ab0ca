/- The document's Text. -/
import Derived.Test.YtlpjegclpilaaaaGreatDoorAmRa
import Derived.Test.YtlpjegclpilaaaaGreatDoorAmRf
import Derived.Test.YtlpjegclpilaaaaGreatDoorIsD
import Derived.Deep.DeepCutAuto
import Derived.Deep.RegionHeld3
import Derived.Deep.RegionWith
import Derived.RegionTactic
namespace Go.Proofs.YtlpjegclpilaaaaGreatDoor
open Go.RowKit
set_option linter.unusedVariables false
/-- a part's number, where the letters have it -/
def pa (x : UInt8) (v : Int) (L : List UInt8) : Int := if x ∈ L then v else 0
theorem pa_no (x c : UInt8) (v : Int) (L : List UInt8) (h : x ≠ c) : pa x v (L ++ (some c).toList) = pa x v L := by
  unfold pa; simp [h]
theorem pa_yes (x : UInt8) (v : Int) (L : List UInt8) : pa x v (L ++ (some x).toList) = v := by
  unfold pa; simp
/-- a name and the words of some letters, joined -/
def txs (M N : List UInt8) (a b m : Int) : List UInt8 := M ++ N.flatMap (fun c => 32 :: wdOf a b m c)
theorem txs_snoc_a (M L : List UInt8) (a b m : Int) : txs M (L ++ (some 97).toList) a b m = txs M L a b m ++ [32, 114] ++ Lib.itoa a := by unfold txs; simp [wdOf]
theorem txs_snoc_b (M L : List UInt8) (a b m : Int) : txs M (L ++ (some 98).toList) a b m = txs M L a b m ++ [32, 114] ++ Lib.itoa b := by unfold txs; simp [wdOf]
theorem txs_snoc_m (M L : List UInt8) (a b m : Int) : txs M (L ++ (some 105).toList) a b m = txs M L a b m ++ [32] ++ Lib.itoa m := by unfold txs; simp [wdOf]
theorem txs_all (M N : List UInt8) (a b m : Int) : txs M N a b m = ([32] : List UInt8).intercalate (M :: N.map (wdOf a b m)) := by
  unfold txs
  induction N generalizing M with
  | nil => simp [List.intercalate]
  | cons c t ih =>
    have e : ([32] : List UInt8).intercalate (M :: (c :: t).map (wdOf a b m)) = M ++ (32 :: ([32] : List UInt8).intercalate (wdOf a b m c :: t.map (wdOf a b m))) := by simp [List.intercalate]
    rw [e, ← ih]; simp
/-- what Text answers -/
noncomputable def rtv (o a b m : Int) : Value := by classical exact if TxI o a b m then .tuple #[.string (ba (txtI o a b m)), .int .i64 0] else .tuple #[.string (ba []), .int .i64 22]
theorem forms_new (w : World) : Calls Tryz.prog 8 #[] w fun e w' => ∃ A, e = .returned (.slice (some ⟨A, 0, none⟩) 42 42) ∧
    (∀ k, k < 42 → w'.cell? ⟨A, k * 2, none⟩ = some (.string (ba (nm k))) ∧ w'.cell? ⟨A, k * 2 + 1, none⟩ = some (.string (ba (nd k)))) ∧ New w w' := by
  refine (forms_any w).mono ?_
  rintro e w' ⟨rfl, h, n, _⟩
  exact ⟨_, rfl, h, n⟩
theorem tx_iff (k : Nat) (a b m : Int) (hk : k < 42) (h : InOk (k : Int) a b m) : TxI (k : Int) a b m ↔ (pa 97 a (nd k) = a ∧ pa 98 b (nd k) = b ∧ pa 105 m (nd k) = m) := by
  have key : ∀ (x : UInt8) (v : Int), (pa x v (nd k) = v ↔ (x ∉ nd k → v = 0)) := fun x v => by
    unfold pa
    by_cases hx : x ∈ nd k
    · rw [if_pos hx]; exact ⟨fun _ h => absurd hx h, fun _ => rfl⟩
    · rw [if_neg hx]; exact ⟨fun e _ => e.symm, fun e => (e hx).symm⟩
  rw [key, key, key]
  constructor
  · rintro ⟨q, e, _, h5⟩
    obtain rfl : q = k := by omega
    exact h5.2
  · intro h2
    exact ⟨k, rfl, hk, h, h2⟩
set_option maxHeartbeats 4000000 in
set_option maxRecDepth 100000 in
theorem rtext_any (o a b m : Int) (w : World) : Calls Tryz.prog 7 #[.agg #[.int .i64 o, .int .i64 a, .int .i64 b, .int .i64 m]] w fun e w' => e = .returned (rtv o a b m) ∧ New w w' := by
  obtain ⟨T, hT⟩ : ∃ T, T = rtv o a b m := ⟨_, rfl⟩
  rw [← hT]
  have hS1 : TxI o a b m → T = .tuple #[.string (ba (txtI o a b m)), .int .i64 0] := fun h => by rw [hT]; unfold rtv; exact if_pos h
  have hS2 : ¬ TxI o a b m → T = .tuple #[.string (ba []), .int .i64 22] := fun h => by rw [hT]; unfold rtv; exact if_neg h
  clear hT
  have b0 := Box.here w _ #[.int .i64 o, .int .i64 a, .int .i64 b, .int .i64 m] 23 rfl
  have n0 := (New.refl w).alloc #[.int .i64 o, .int .i64 a, .int .i64 b, .int .i64 m] 23
  by_cases hok : InOk o a b m
  rotate_left
  · have cM := fun W => irmay_no o a b m W hok
    have hTn := Lib.hid (hS2 (fun ⟨k, e, _, h⟩ => hok (by rw [e]; exact h.1)))
    clear hS1 hS2 hok
    go_enter Tryz.func7, Tryz.ntmps7
    go_wp2_with fail
    refine (cM _).mono ?_
    rintro e w1 ⟨rfl, n1⟩
    go_wp2
    go_ret2
    exact ⟨by rw [hTn.out]; rfl, n0.trans n1⟩
  have cM := fun W => irmay_ok o a b m W hok
  obtain ⟨k, rfl⟩ : ∃ k : Nat, o = (k : Int) := ⟨o.toNat, by unfold InOk at hok; omega⟩
  have hk : k < 42 := by unfold InOk at hok; omega
  have hiff := tx_iff k a b m hk hok
  have hM5 := nm_len k
  have hN3 := nd_len k
  have hL := (nd_letters k).2
  have hbd := hok
  unfold InOk at hbd
  have hTe : txtI (k : Int) a b m = ([32] : List UInt8).intercalate (nm k :: (nd k).map (wdOf a b m)) := by rw [txtI_nat]; rfl
  rw [hTe] at hS1
  have hFo : ∀ (W : World), Calls Tryz.prog 8 #[] W fun e w' => ∃ A, e = .returned (.slice (some ⟨A, 0, none⟩) 42 42) ∧ w'.cell? ⟨A, k * 2, none⟩ = some (.string (ba (nm k))) ∧ w'.cell? ⟨A, k * 2 + 1, none⟩ = some (.string (ba (nd k))) ∧ New W w' := fun W => by
    refine (forms_new W).mono ?_
    rintro e w' ⟨A, rfl, h, n⟩
    exact ⟨A, rfl, (h k hk).1, (h k hk).2, n⟩
  generalize nm k = M at *
  generalize nd k = N at *
  obtain ⟨o, ho⟩ : ∃ o : Int, o = (k : Int) := ⟨_, rfl⟩
  have sN := ba_size N
  clear hTe hok
  go_enter Tryz.func7, Tryz.ntmps7
  go_wp2_with fail
  refine (cM _).mono ?_
  rintro e w1 ⟨rfl, n1⟩
  have b1 := b0.new n1
  have N1 := n0.trans n1
  clear cM b0 n0 n1
  go_wp2_with fail
  go_cut [4] (fun s4 wc => ∃ F, s4 = .pointer (some ⟨F, 0, none⟩) ∧ Box wc F #[.string (ba M), .string (ba N)] 31 ∧ New w1 wc)
  case first =>
    obtain ⟨x0, x1, x2, x3⟩ := b1.four
    have z1 := b1.lt
    have KEEP : ∀ w', New w1 w' → w'.cell? ⟨w.heap.size, 0, none⟩ = some (.int .i64 (k : Int)) := fun w' kk => kk.keeps x0
    have k0 : (0 : Int) ≤ (k : Int) := by omega
    have k1 : (k : Int) < 42 := by omega
    clear hS1 hS2 hiff hM5 hN3 hL hbd N1 b1
    have z1' : w.heap.size < w1.heap.size + 1 := Nat.lt_succ_of_lt z1
    have nd0 : New w1 w1.drew := (New.refl _).drew
    have nx0 : New w1 (w1.alloc (.cells #[.string ⟨#[]⟩, .string ⟨#[]⟩] 31)).drew := ((New.refl w1).alloc #[.string ⟨#[]⟩, .string ⟨#[]⟩] 31).drew
    go_region_with (first | (go_at_call 8; (first | ((with_reducible refine (hFo w1.drew).mono ?_); rintro e we ⟨A, rfl, hA1, hA2, ne⟩; have hnx := New.trans nd0 ne; have X0 := KEEP _ hnx; have hib : w.heap.size < we.heap.size := Nat.lt_of_lt_of_le z1 hnx.size; have hib1 : w.heap.size < we.heap.size + 1 := Nat.lt_succ_of_lt hib; have hAs : A < we.heap.size := lt_cell hA1; have hws := hnx.size) | ((with_reducible refine (hFo (w1.alloc (.cells #[.string ⟨#[]⟩, .string ⟨#[]⟩] 31)).drew).mono ?_); rintro e we ⟨A, rfl, hA1, hA2, ne⟩; have hnx := New.trans nx0 ne; have X0 := KEEP _ hnx; have hib : w.heap.size < we.heap.size := Nat.lt_of_lt_of_le z1 hnx.size; have hib1 : w.heap.size < we.heap.size + 1 := Nat.lt_succ_of_lt hib; have hAs : A < we.heap.size := lt_cell hA1; have FB := (Box.here w1 _ #[.string ⟨#[]⟩, .string ⟨#[]⟩] 31 rfl).new (New.trans (b := (w1.alloc (.cells #[.string ⟨#[]⟩, .string ⟨#[]⟩] 31)).drew) ((New.refl (w1.alloc (.cells #[.string ⟨#[]⟩, .string ⟨#[]⟩] 31))).drew) ne); obtain ⟨F0, F1⟩ := FB.two; have Fs := FB.lt; have Fu0 := FB.unfrozen 0; have Fu1 := FB.unfrozen 1))))
    all_goals
      go_wp2_with fail
      go_meet
      case rel => first
        | exact ⟨_, rfl, Box.here we _ _ _ rfl, hnx.alloc _ _⟩
        | exact ⟨_, rfl, (FB.set 0 (.string (ba M))).set 1 (.string (ba N)), New.setCell (New.setCell hnx (Nat.le_refl _) _) (Nat.le_refl _) _⟩
  case rest =>
    obtain ⟨F, rfl, FB, nc⟩ := hcut
    have bc := b1.new nc
    have NC := N1.trans nc
    clear b1 N1 nc hFo ho o
    obtain ⟨v0, v1⟩ := FB.two
    obtain ⟨x0, x1, x2, x3⟩ := bc.four
    have hzi := bc.lt
    have hzf := FB.lt
    go_wp2_with fail
    go_loopg [5, 6, 7, 8, 9] N.length (fun kk s5 s6 s7 s8 s9 wr => ∃ (j : Nat) (S : List UInt8), j + kk = N.length ∧ s9 = .int .i64 (j : Int) ∧ s5 = .string (ba S) ∧ txs M (N.take j) a b m = S ∧ s6 = .int .i64 (pa 97 a (N.take j)) ∧ s7 = .int .i64 (pa 98 b (N.take j)) ∧ s8 = .int .i64 (pa 105 m (N.take j)) ∧ S.length ≤ 100 * (j + 1) ∧ New wc wr)
    case atStart => exact ⟨0, M, by omega, rfl, rfl, by simp [txs], rfl, rfl, rfl, by omega, New.refl _⟩
    case round =>
      obtain ⟨j, S, hj, rfl, rfl, hS, rfl, rfl, rfl, hSl, hnx⟩ := hrel
      have HJ := Lib.hid hj
      have y0 := hnx.keeps x0
      have y1 := hnx.keeps x1
      have y2 := hnx.keeps x2
      have y3 := hnx.keeps x3
      have z0 := hnx.keeps v0
      have z1 := hnx.keeps v1
      clear x0 x1 x2 x3 v0 v1 bc FB
      by_cases hlt : j < N.length
      · obtain ⟨c, hc⟩ : ∃ c, N[j]? = some c := ⟨_, List.getElem?_eq_getElem hlt⟩
        have hcl := hL c (List.mem_of_getElem? hc)
        have hix := fun W => idx_ba (P := Tryz.prog) Tryz.underlying9 N j c hc W
        have hlt' : (j : Int) < (N.length : Int) := by omega
        have hj3 : j ≤ 2 := by omega
        clear hj hS1 hS2 hiff
        rcases hcl with hcv | hcv | hcv
        · subst hcv
          have cI := fun W => rdigits_any a (by omega) (by omega) W
          have e1 : ba S ++ ⟨#[32, 114]⟩ = ba (S ++ [32, 114]) := (ba_app S [32, 114]).symm
          obtain ⟨S2, h2S⟩ : ∃ S2, S2 = S ++ [32, 114] ++ Lib.itoa a := ⟨_, rfl⟩
          have e2 : ba (S ++ [32, 114]) ++ ba (Lib.itoa a) = ba S2 := by rw [h2S]; exact (ba_app _ _).symm
          have la := Lib.itoa_length_le a (by omega) (by omega)
          have q1 : ¬ 9223372036854775807 < (ba S).size + 2 := by rw [ba_size]; omega
          have q2 : ¬ 9223372036854775807 < (ba (S ++ [32, 114])).size + (ba (Lib.itoa a)).size := by rw [ba_size, ba_size]; simp; omega
          have r1 : pa 98 b (N.take (j + 1)) = pa 98 b (N.take j) := by rw [List.take_add_one, hc]; exact pa_no _ _ _ _ (by decide)
          have r2 : pa 105 m (N.take (j + 1)) = pa 105 m (N.take j) := by rw [List.take_add_one, hc]; exact pa_no _ _ _ _ (by decide)
          have r3 : pa 97 a (N.take (j + 1)) = a := by rw [List.take_add_one, hc]; exact pa_yes _ _ _
          have eS : txs M (N.take (j + 1)) a b m = S2 := by rw [h2S, List.take_add_one, hc, ← hS]; exact txs_snoc_a M (N.take j) a b m
          have hSl2 : S2.length ≤ 100 * (j + 1 + 1) := by rw [h2S]; simp; omega
          have HR := Lib.hid (And.intro r1 (And.intro r2 (And.intro r3 (And.intro eS hSl2))))
          clear hS r1 r2 r3 eS hSl2 hSl hc hL la h2S
          go_wp2_with fail
          refine (cI _).mono ?_
          rintro e w5 ⟨rfl, n5⟩
          have hnx5 := hnx.trans n5
          clear hnx n5 cI y1 y2 y3 z0 z1 hzi hzf
          go_wp2_with fail
          go_roundg (N.length - (j + 1))
          case measure => have := HJ.out; omega
          case rel => exact ⟨j + 1, S2, by have := HJ.out; omega, rfl, rfl, HR.out.2.2.2.1, by rw [HR.out.2.2.1], by rw [HR.out.1], by rw [HR.out.2.1], HR.out.2.2.2.2, hnx5⟩
        · subst hcv
          have cI := fun W => rdigits_any b (by omega) (by omega) W
          have e1 : ba S ++ ⟨#[32, 114]⟩ = ba (S ++ [32, 114]) := (ba_app S [32, 114]).symm
          obtain ⟨S2, h2S⟩ : ∃ S2, S2 = S ++ [32, 114] ++ Lib.itoa b := ⟨_, rfl⟩
          have e2 : ba (S ++ [32, 114]) ++ ba (Lib.itoa b) = ba S2 := by rw [h2S]; exact (ba_app _ _).symm
          have la := Lib.itoa_length_le b (by omega) (by omega)
          have q1 : ¬ 9223372036854775807 < (ba S).size + 2 := by rw [ba_size]; omega
          have q2 : ¬ 9223372036854775807 < (ba (S ++ [32, 114])).size + (ba (Lib.itoa b)).size := by rw [ba_size, ba_size]; simp; omega
          have r1 : pa 97 a (N.take (j + 1)) = pa 97 a (N.take j) := by rw [List.take_add_one, hc]; exact pa_no _ _ _ _ (by decide)
          have r2 : pa 105 m (N.take (j + 1)) = pa 105 m (N.take j) := by rw [List.take_add_one, hc]; exact pa_no _ _ _ _ (by decide)
          have r3 : pa 98 b (N.take (j + 1)) = b := by rw [List.take_add_one, hc]; exact pa_yes _ _ _
          have eS : txs M (N.take (j + 1)) a b m = S2 := by rw [h2S, List.take_add_one, hc, ← hS]; exact txs_snoc_b M (N.take j) a b m
          have hSl2 : S2.length ≤ 100 * (j + 1 + 1) := by rw [h2S]; simp; omega
          have HR := Lib.hid (And.intro r1 (And.intro r2 (And.intro r3 (And.intro eS hSl2))))
          clear hS r1 r2 r3 eS hSl2 hSl hc hL la h2S
          go_wp2_with fail
          refine (cI _).mono ?_
          rintro e w5 ⟨rfl, n5⟩
          have hnx5 := hnx.trans n5
          clear hnx n5 cI y1 y2 y3 z0 z1 hzi hzf
          go_wp2_with fail
          go_roundg (N.length - (j + 1))
          case measure => have := HJ.out; omega
          case rel => exact ⟨j + 1, S2, by have := HJ.out; omega, rfl, rfl, HR.out.2.2.2.1, by rw [HR.out.1], by rw [HR.out.2.2.1], by rw [HR.out.2.1], HR.out.2.2.2.2, hnx5⟩
        · subst hcv
          have cI := fun W => rdigits_any m (by omega) (by omega) W
          have e1 : ba S ++ ⟨#[32]⟩ = ba (S ++ [32]) := (ba_app S [32]).symm
          obtain ⟨S2, h2S⟩ : ∃ S2, S2 = S ++ [32] ++ Lib.itoa m := ⟨_, rfl⟩
          have e2 : ba (S ++ [32]) ++ ba (Lib.itoa m) = ba S2 := by rw [h2S]; exact (ba_app _ _).symm
          have la := Lib.itoa_length_le m (by omega) (by omega)
          have q1 : ¬ 9223372036854775807 < (ba S).size + 1 := by rw [ba_size]; omega
          have q2 : ¬ 9223372036854775807 < (ba (S ++ [32])).size + (ba (Lib.itoa m)).size := by rw [ba_size, ba_size]; simp; omega
          have r1 : pa 97 a (N.take (j + 1)) = pa 97 a (N.take j) := by rw [List.take_add_one, hc]; exact pa_no _ _ _ _ (by decide)
          have r2 : pa 98 b (N.take (j + 1)) = pa 98 b (N.take j) := by rw [List.take_add_one, hc]; exact pa_no _ _ _ _ (by decide)
          have r3 : pa 105 m (N.take (j + 1)) = m := by rw [List.take_add_one, hc]; exact pa_yes _ _ _
          have eS : txs M (N.take (j + 1)) a b m = S2 := by rw [h2S, List.take_add_one, hc, ← hS]; exact txs_snoc_m M (N.take j) a b m
          have hSl2 : S2.length ≤ 100 * (j + 1 + 1) := by rw [h2S]; simp; omega
          have HR := Lib.hid (And.intro r1 (And.intro r2 (And.intro r3 (And.intro eS hSl2))))
          clear hS r1 r2 r3 eS hSl2 hSl hc hL la h2S
          go_wp2_with fail
          refine (cI _).mono ?_
          rintro e w5 ⟨rfl, n5⟩
          have hnx5 := hnx.trans n5
          clear hnx n5 cI y1 y2 y3 z0 z1 hzi hzf
          go_wp2_with fail
          go_roundg (N.length - (j + 1))
          case measure => have := HJ.out; omega
          case rel => exact ⟨j + 1, S2, by have := HJ.out; omega, rfl, rfl, HR.out.2.2.2.1, by rw [HR.out.1], by rw [HR.out.2.1], by rw [HR.out.2.2.1], HR.out.2.2.2.2, hnx5⟩
      · obtain rfl : j = N.length := by omega
        rw [List.take_length] at hS
        simp only [List.take_length]
        have hX := txs_all M N a b m
        rw [hS] at hX
        have hgo : TxI (k : Int) a b m ↔ (pa 97 a N = a ∧ pa 98 b N = b ∧ pa 105 m N = m) := hiff
        generalize pa 97 a N = A at *
        generalize pa 98 b N = B at *
        generalize pa 105 m N = C at *
        have hge : ¬ (N.length : Int) < (N.length : Int) := by omega
        have HG := Lib.hid hgo
        have HX := Lib.hid hX
        have HT := Lib.hid (And.intro hS1 hS2)
        clear hgo hX hiff hS1 hS2 hL hS
        by_cases gA : A = a
        · have gA' : (A != a) = false := by simp [gA]
          by_cases gB : B = b
          · have gB' : (B != b) = false := by simp [gB]
            by_cases gC : C = m
            · have gC' : (C != m) = false := by simp [gC]
              have hT := HT.out.1 (HG.out.2 ⟨gA, gB, gC⟩)
              rw [← HX.out] at hT
              have HTT := Lib.hid hT
              clear gA gB gC hT
              go_wp2
              go_ret2
              exact ⟨by first | (rw [HTT.out]; done) | (rw [HTT.out]; rfl), NC.trans hnx⟩
            · have gC' : (C != m) = true := by simp [gC]
              have HTT := Lib.hid (HT.out.2 (fun h => gC (HG.out.1 h).2.2))
              clear gA gB gC
              go_wp2
              go_ret2
              exact ⟨by rw [HTT.out]; rfl, NC.trans hnx⟩
          · have gB' : (B != b) = true := by simp [gB]
            have HTT := Lib.hid (HT.out.2 (fun h => gB (HG.out.1 h).2.1))
            clear gA gB
            go_wp2
            go_ret2
            exact ⟨by rw [HTT.out]; rfl, NC.trans hnx⟩
        · have gA' : (A != a) = true := by simp [gA]
          have HTT := Lib.hid (HT.out.2 (fun h => gA (HG.out.1 h).1))
          clear gA
          go_wp2
          go_ret2
          exact ⟨by rw [HTT.out]; rfl, NC.trans hnx⟩
end Go.Proofs.YtlpjegclpilaaaaGreatDoor
