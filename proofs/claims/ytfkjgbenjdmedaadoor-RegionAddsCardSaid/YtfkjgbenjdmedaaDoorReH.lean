/- What the package of regions answers: Add, Cut, Protect, At. Contracts, for any list, in any world; behind each there are only new blocks. -/
import Derived.Test.YtfkjgbenjdmedaaDoorReG
namespace Go.Proofs.YtfkjgbenjdmedaaDoor
open Go.RowKit
set_option linter.unusedVariables false
set_option maxRecDepth 100000
/-- a slice of the call's own and an error's number -/
def MadeE (T : TypeId) (l : List Rg) (c : Int) (w : World) (e : Ending) (w' : World) : Prop := ∃ v, e = .returned (.tuple #[v, erN c]) ∧ OwnR T w.heap.size w' v l ∧ New w w'
/-- Add: the error, the list -/
noncomputable def adE (l : List Rg) (r : Rg) : Int := if rokb l = true ∧ okR r = true then (if fiN (ovR r.f r.t) l < 0 then 0 else 17) else 22
noncomputable def adL (l : List Rg) (r : Rg) : List Rg := if adE l r = 0 then layL l r else []
noncomputable def ctE (l : List Rg) (a b : Int) : Int := if rokb l = true ∧ okP a b = true then 0 else 22
noncomputable def ctL (l : List Rg) (a b : Int) : List Rg := if ctE l a b = 0 then cutL l a b else []
noncomputable def prE (l : List Rg) (r : Rg) : Int := if rokb l = true ∧ okR r = true then (if szv (rpart l r.f r.t) < r.t - r.f then 12 else 0) else 22
noncomputable def prL (l : List Rg) (r : Rg) : List Rg := if prE l r = 0 then layL l r else []
noncomputable def atO (l : List Rg) (q : Int) : Option Rg := if rokb l = true then l.find? (fun r => inR r q) else none
theorem find_of_fi {l : List Rg} {g : Rg → Bool} : (fiN g l = -1 ∧ l.find? g = none) ∨ ∃ j, ∃ hj : j < l.length, fiN g l = (j : Int) ∧ l.find? g = some l[j] := by
  rcases fiN_cases g l with ⟨e, k⟩ | ⟨j, hj, e, k1, k2⟩
  · exact .inl ⟨e, List.find?_eq_none.2 fun x hx => by rw [k x hx]; simp⟩
  · refine .inr ⟨j, hj, e, ?_⟩
    exact List.find?_eq_some_iff_getElem.2 ⟨k1, j, hj, rfl, fun i hi => by simpa using k2 i (by omega) hi⟩
section
variable (w : World) (v : Value) (l : List Rg)
set_option maxHeartbeats 1000000 in
theorem radd_any (r : Rg) (h : Rgs w v l) : Calls Tryd.prog 8 #[v, .agg #[.int .i64 r.f, .int .i64 r.t, .int .u8 (r.p : Int)]] w (MadeE 33 (adL l r) (adE l r) w) := by
  have HN : New w (w.alloc (.cells #[.int .i64 r.f, .int .i64 r.t, .int .u8 (r.p : Int)] 33)) := (New.refl w).alloc _ _
  have BR : Box (w.alloc (.cells #[.int .i64 r.f, .int .i64 r.t, .int .u8 (r.p : Int)] 33)) w.heap.size #[.int .i64 r.f, .int .i64 r.t, .int .u8 (r.p : Int)] 33 := Box.here w _ _ _ rfl
  have hR := h.new HN
  have q1 := check_any _ v l hR
  have q2 := fun W => isRegion_any W r
  have q3 := fun W (k : New w W) => over_any W v l (h.new k) r.f r.t
  obtain ⟨p, cap, rfl, _, _⟩ := h.shape
  cases ho : rokb l with
  | false =>
    have e1 : adE l r = 22 := by unfold adE; rw [ho, if_neg (by simp)]
    have e2 : adL l r = [] := by unfold adL; rw [e1, if_neg (by decide)]
    rw [e1, e2]
    rw [chv_no (rokb_not.1 ho), erN_pos (by decide)] at q1
    clear ho e1 e2
    go_enter Tryd.func8, Tryd.ntmps8
    go_wp2_with (go_at_call 18; (with_reducible refine q1.mono ?_); rintro e w1 ⟨rfl, n1⟩)
    go_ret2
    exact ⟨_, rfl, OwnR.nil, HN.trans n1⟩
  | true =>
    have hO := rokb_iff.1 ho
    rw [chv_ok hO, erN_zero] at q1
    cases hr : okR r with
    | false =>
      have e1 : adE l r = 22 := by unfold adE; rw [hr, if_neg (by simp)]
      have e2 : adL l r = [] := by unfold adL; rw [e1, if_neg (by decide)]
      rw [e1, e2]
      rw [hr] at q2
      clear ho hr e1 e2 hO
      go_enter Tryd.func8, Tryd.ntmps8
      go_wp2_with fail
      refine q1.mono ?_
      rintro e w1 ⟨rfl, n1⟩
      obtain ⟨b0, b1, b2⟩ := (BR.new n1).three
      go_wp2_with fail
      refine (q2 _).mono ?_
      rintro e w2 ⟨rfl, n2⟩
      go_wp2
      go_ret2
      exact ⟨_, rfl, OwnR.nil, HN.trans (n1.trans n2)⟩
    | true =>
      rw [hr] at q2
      have hlen : l.length ≤ 100000 := by have := hO.asc.len; omega
      have q4 := fun W (k : New w W) => lay_any W _ l r (h.new k) hlen
      rcases find_of_fi (g := ovR r.f r.t) (l := l) with ⟨hf, _⟩ | ⟨j, _, hf, _⟩
      · have e1 : adE l r = 0 := by unfold adE; rw [ho, hr, if_pos ⟨rfl, rfl⟩, hf, if_pos (by omega)]
        have e2 : adL l r = layL l r := by unfold adL; rw [e1, if_pos rfl]
        rw [e1, e2]
        simp only [hf] at q3
        clear ho hr e1 e2 hO hf
        go_enter Tryd.func8, Tryd.ntmps8
        go_wp2_with fail
        refine q1.mono ?_
        rintro e w1 ⟨rfl, n1⟩
        obtain ⟨b0, b1, b2⟩ := (BR.new n1).three
        go_wp2_with fail
        refine (q2 _).mono ?_
        rintro e w2 ⟨rfl, n2⟩
        obtain ⟨b0', b1', b2'⟩ := ((BR.new n1).new n2).three
        clear b0 b1 b2
        have N2 := HN.trans (n1.trans n2)
        go_wp2_with fail
        refine (q3 _ N2).mono ?_
        rintro e w3 ⟨rfl, n3⟩
        obtain ⟨b0, b1, b2⟩ := (((BR.new n1).new n2).new n3).three
        clear b0' b1' b2'
        have N3 := N2.trans n3
        go_wp2_with fail
        refine (q4 _ N3).mono ?_
        rintro e w4 ⟨_, rfl, o4, n4⟩
        obtain ⟨p4, c4, rfl⟩ := o4.shape
        go_wp2
        go_ret2
        exact ⟨_, rfl, OwnR.more o4 N3.size, N3.trans n4⟩
      · have e1 : adE l r = 17 := by unfold adE; rw [ho, hr, if_pos ⟨rfl, rfl⟩, hf, if_neg (by omega)]
        have e2 : adL l r = [] := by unfold adL; rw [e1, if_neg (by decide)]
        rw [e1, e2]
        simp only [hf] at q3
        clear ho hr e1 e2 hO hf
        go_enter Tryd.func8, Tryd.ntmps8
        go_wp2_with fail
        refine q1.mono ?_
        rintro e w1 ⟨rfl, n1⟩
        obtain ⟨b0, b1, b2⟩ := (BR.new n1).three
        go_wp2_with fail
        refine (q2 _).mono ?_
        rintro e w2 ⟨rfl, n2⟩
        obtain ⟨b0', b1', b2'⟩ := ((BR.new n1).new n2).three
        clear b0 b1 b2
        have N2 := HN.trans (n1.trans n2)
        go_wp2_with fail
        refine (q3 _ N2).mono ?_
        rintro e w3 ⟨rfl, n3⟩
        go_wp2
        go_ret2
        exact ⟨_, rfl, OwnR.nil, N2.trans n3⟩
set_option maxHeartbeats 1000000 in
theorem rcut_any (a b : Int) (h : Rgs w v l) : Calls Tryd.prog 19 #[v, .int .i64 a, .int .i64 b] w (MadeE 33 (ctL l a b) (ctE l a b) w) := by
  have q1 := check_any _ v l h
  have q2 := fun W => arePages_any W a b
  obtain ⟨p, cap, rfl, _, _⟩ := h.shape
  cases ho : rokb l with
  | false =>
    have e1 : ctE l a b = 22 := by unfold ctE; rw [ho, if_neg (by simp)]
    have e2 : ctL l a b = [] := by unfold ctL; rw [e1, if_neg (by decide)]
    rw [e1, e2]
    rw [chv_no (rokb_not.1 ho), erN_pos (by decide)] at q1
    clear ho e1 e2
    go_enter Tryd.func19, Tryd.ntmps19
    go_wp2_with (go_at_call 18; (with_reducible refine q1.mono ?_); rintro e w1 ⟨rfl, n1⟩)
    go_ret2
    exact ⟨_, rfl, OwnR.nil, n1⟩
  | true =>
    have hO := rokb_iff.1 ho
    rw [chv_ok hO, erN_zero] at q1
    cases hr : okP a b with
    | false =>
      have e1 : ctE l a b = 22 := by unfold ctE; rw [hr, if_neg (by simp)]
      have e2 : ctL l a b = [] := by unfold ctL; rw [e1, if_neg (by decide)]
      rw [e1, e2]
      rw [hr] at q2
      clear ho hr e1 e2 hO
      go_enter Tryd.func19, Tryd.ntmps19
      go_wp2_with fail
      refine q1.mono ?_
      rintro e w1 ⟨rfl, n1⟩
      go_wp2_with fail
      refine (q2 _).mono ?_
      rintro e w2 ⟨rfl, rfl⟩
      go_wp2
      go_ret2
      exact ⟨_, rfl, OwnR.nil, n1⟩
    | true =>
      rw [hr] at q2
      have hlen : l.length ≤ 100000 := by have := hO.asc.len; omega
      have e1 : ctE l a b = 0 := by unfold ctE; rw [ho, hr, if_pos ⟨rfl, rfl⟩]
      have e2 : ctL l a b = cutL l a b := by unfold ctL; rw [e1, if_pos rfl]
      rw [e1, e2]
      have q3 := fun W (k : New w W) => part_any W _ l 0 a (h.new k) (by omega)
      have q4 := fun W (k : New w W) => part_any W _ l b 4096 (h.new k) (by omega)
      have hfe : [rpart l 0 a, rpart l b 4096].flatten = cutL l a b := by unfold cutL; simp
      have hfl : [rpart l 0 a, rpart l b 4096].flatten.length ≤ 1000000 := by
        have := rpart_len l 0 a
        have := rpart_len l b 4096
        simp; omega
      clear ho hr e1 e2 hO hlen
      go_enter Tryd.func19, Tryd.ntmps19
      go_wp2_with fail
      refine q1.mono ?_
      rintro e w1 ⟨rfl, n1⟩
      go_wp2_with fail
      refine (q2 _).mono ?_
      rintro e w2 ⟨rfl, rfl⟩
      go_wp2_with fail
      refine (q3 _ n1).mono ?_
      rintro e w3 ⟨_, rfl, o3, n3⟩
      obtain ⟨p3, c3, rfl⟩ := o3.shape
      have N3 := n1.trans n3
      go_wp2_with fail
      refine (q4 _ N3).mono ?_
      rintro e w4 ⟨_, rfl, o4, n4⟩
      obtain ⟨p4, c4, rfl⟩ := o4.shape
      have N4 := N3.trans n4
      have hsl := sls_two w4 _ _ 27 (o3.rgs.new n4) o4.rgs
      go_wp2_with fail
      refine (concat_any _ _ _ 2 rfl hsl hfl (by show 2 ≤ 100; omega)).mono ?_
      rintro e w5 ⟨_, rfl, o5, n5⟩
      rw [hfe] at o5
      obtain ⟨p5, c5, rfl⟩ := o5.shape
      have N5 := (N4.alloc #[.slice p3 (rpart l 0 a).length c3, .slice p4 (rpart l b 4096).length c4] 27)
      go_wp2
      go_ret2
      exact ⟨_, rfl, OwnR.more o5 N5.size, N5.trans n5⟩
set_option maxHeartbeats 1000000 in
theorem rprot_any (r : Rg) (h : Rgs w v l) : Calls Tryd.prog 21 #[v, .int .i64 r.f, .int .i64 r.t, .int .u8 (r.p : Int)] w (MadeE 33 (prL l r) (prE l r) w) := by
  have HN : New w (w.alloc (.cells #[.int .i64 r.f, .int .i64 r.t, .int .u8 (r.p : Int)] 33)) := (New.refl w).alloc _ _
  have BR : Box (w.alloc (.cells #[.int .i64 r.f, .int .i64 r.t, .int .u8 (r.p : Int)] 33)) w.heap.size #[.int .i64 r.f, .int .i64 r.t, .int .u8 (r.p : Int)] 33 := Box.here w _ _ _ rfl
  have hR := h.new HN
  have q1 := check_any _ v l hR
  have q2 := fun W => isRegion_any W r
  obtain ⟨p, cap, rfl, _, _⟩ := h.shape
  cases ho : rokb l with
  | false =>
    have e1 : prE l r = 22 := by unfold prE; rw [ho, if_neg (by simp)]
    have e2 : prL l r = [] := by unfold prL; rw [e1, if_neg (by decide)]
    rw [e1, e2]
    rw [chv_no (rokb_not.1 ho), erN_pos (by decide)] at q1
    clear ho e1 e2
    go_enter Tryd.func21, Tryd.ntmps21
    go_wp2_with (go_at_call 18; (with_reducible refine q1.mono ?_); rintro e w1 ⟨rfl, n1⟩)
    go_ret2
    exact ⟨_, rfl, OwnR.nil, HN.trans n1⟩
  | true =>
    have hO := rokb_iff.1 ho
    rw [chv_ok hO, erN_zero] at q1
    cases hr : okR r with
    | false =>
      have e1 : prE l r = 22 := by unfold prE; rw [hr, if_neg (by simp)]
      have e2 : prL l r = [] := by unfold prL; rw [e1, if_neg (by decide)]
      rw [e1, e2]
      rw [hr] at q2
      clear ho hr e1 e2 hO
      go_enter Tryd.func21, Tryd.ntmps21
      go_wp2_with fail
      refine q1.mono ?_
      rintro e w1 ⟨rfl, n1⟩
      obtain ⟨b0, b1, b2⟩ := (BR.new n1).three
      go_wp2_with fail
      refine (q2 _).mono ?_
      rintro e w2 ⟨rfl, n2⟩
      go_wp2
      go_ret2
      exact ⟨_, rfl, OwnR.nil, HN.trans (n1.trans n2)⟩
    | true =>
      rw [hr] at q2
      have hro := okR_iff.1 hr
      have hlen : l.length ≤ 100000 := by have := hO.asc.len; omega
      have q3 := fun W (k : New w W) => part_any W _ l r.f r.t (h.new k) (by omega)
      have q4 := fun W (k : New w W) => lay_any W _ l r (h.new k) hlen
      have gs : IntKind.i64.wrap (r.t - r.f) = r.t - r.f := IntWalk.i64_in _ (by omega)
      by_cases hz : szv (rpart l r.f r.t) < r.t - r.f
      · have e1 : prE l r = 12 := by unfold prE; rw [ho, hr, if_pos ⟨rfl, rfl⟩, if_pos hz]
        have e2 : prL l r = [] := by unfold prL; rw [e1, if_neg (by decide)]
        rw [e1, e2]
        have hz : decide (szv (rpart l r.f r.t) < r.t - r.f) = true := by simpa using hz
        have q5 := fun W v' (k : Rgs W v' (rpart l r.f r.t)) => size_any W v' _ k
        generalize szv (rpart l r.f r.t) = Z at *
        clear ho hr e1 e2 hO hlen
        go_enter Tryd.func21, Tryd.ntmps21
        go_wp2_with fail
        refine q1.mono ?_
        rintro e w1 ⟨rfl, n1⟩
        obtain ⟨b0, b1, b2⟩ := (BR.new n1).three
        go_wp2_with fail
        refine (q2 _).mono ?_
        rintro e w2 ⟨rfl, n2⟩
        have N2 := HN.trans (n1.trans n2)
        clear b0 b1 b2
        go_wp2_with fail
        refine (q3 _ N2).mono ?_
        rintro e w3 ⟨_, rfl, o3, n3⟩
        have N3 := N2.trans n3
        have q6 := q5 _ _ o3.rgs
        obtain ⟨p3, c3, rfl⟩ := o3.shape
        go_wp2_with fail
        refine q6.mono ?_
        rintro e w4 ⟨rfl, n4⟩
        have N4 := N3.trans n4
        go_wp2
        go_ret2
        exact ⟨_, rfl, OwnR.nil, N4⟩
      · have e1 : prE l r = 0 := by unfold prE; rw [ho, hr, if_pos ⟨rfl, rfl⟩, if_neg hz]
        have e2 : prL l r = layL l r := by unfold prL; rw [e1, if_pos rfl]
        rw [e1, e2]
        have hz : decide (szv (rpart l r.f r.t) < r.t - r.f) = false := by simpa using hz
        have q5 := fun W v' (k : Rgs W v' (rpart l r.f r.t)) => size_any W v' _ k
        generalize szv (rpart l r.f r.t) = Z at *
        clear ho hr e1 e2 hO hlen
        go_enter Tryd.func21, Tryd.ntmps21
        go_wp2_with fail
        refine q1.mono ?_
        rintro e w1 ⟨rfl, n1⟩
        obtain ⟨b0, b1, b2⟩ := (BR.new n1).three
        go_wp2_with fail
        refine (q2 _).mono ?_
        rintro e w2 ⟨rfl, n2⟩
        have N2 := HN.trans (n1.trans n2)
        clear b0 b1 b2
        go_wp2_with fail
        refine (q3 _ N2).mono ?_
        rintro e w3 ⟨_, rfl, o3, n3⟩
        have N3 := N2.trans n3
        have q6 := q5 _ _ o3.rgs
        obtain ⟨p3, c3, rfl⟩ := o3.shape
        go_wp2_with fail
        refine q6.mono ?_
        rintro e w4 ⟨rfl, n4⟩
        have N4 := N3.trans n4
        obtain ⟨b0, b1, b2⟩ := ((((BR.new n1).new n2).new n3).new n4).three
        go_wp2_with fail
        refine (q4 _ N4).mono ?_
        rintro e w5 ⟨_, rfl, o5, n5⟩
        obtain ⟨p5, c5, rfl⟩ := o5.shape
        go_wp2
        go_ret2
        exact ⟨_, rfl, OwnR.more o5 N4.size, N4.trans n5⟩
/-- a region or the empty one, and whether there is one -/
def AtN (o : Option Rg) (w : World) (e : Ending) (w' : World) : Prop :=
  e = .returned (.tuple #[.agg #[.int .i64 (o.getD ⟨0, 0, 0⟩).f, .int .i64 (o.getD ⟨0, 0, 0⟩).t, .int .u8 ((o.getD ⟨0, 0, 0⟩).p : Int)], .bool o.isSome]) ∧ New w w'
set_option maxHeartbeats 1000000 in
theorem rat_any (q : Int) (h : Rgs w v l) : Calls Tryd.prog 10 #[v, .int .i64 q] w (AtN (atO l q) w) := by
  have HN : New w ((w.alloc (.cells #[.int .i64 q] 3)).alloc (.cells #[.int .i64 0, .int .i64 0, .int .u8 0] 33)) := ((New.refl w).alloc _ _).alloc _ _
  have BQ : Box ((w.alloc (.cells #[.int .i64 q] 3)).alloc (.cells #[.int .i64 0, .int .i64 0, .int .u8 0] 33)) w.heap.size #[.int .i64 q] 3 := (Box.here w _ _ _ rfl).alloc _
  have BR : Box ((w.alloc (.cells #[.int .i64 q] 3)).alloc (.cells #[.int .i64 0, .int .i64 0, .int .u8 0] 33)) (w.heap.size + 1) #[.int .i64 0, .int .i64 0, .int .u8 0] 33 := Box.here _ _ _ _ (by simp)
  have hR := h.new HN
  have q1 := check_any _ v l hR
  have q2 := fun W (k : New ((w.alloc (.cells #[.int .i64 q] 3)).alloc (.cells #[.int .i64 0, .int .i64 0, .int .u8 0] 33)) W) => idx_at W v l (hR.new k) (fun r => inR r q) w.heap.size fun W' r hW => at_clo W' r q _ ((BQ.new k).new hW).one
  obtain ⟨p, cap, rfl, _, _⟩ := h.shape
  cases ho : rokb l with
  | false =>
    have e1 : atO l q = none := by unfold atO; rw [ho, if_neg (by simp)]
    rw [e1]
    rw [chv_no (rokb_not.1 ho), erN_pos (by decide)] at q1
    clear ho e1
    go_enter Tryd.func10, Tryd.ntmps10
    go_wp2_with fail
    refine q1.mono ?_
    rintro e w1 ⟨rfl, n1⟩
    obtain ⟨hs, k0, k1, k2, f0, f1, f2⟩ := (BR.new n1).three'
    go_wp2
    exact bodyPost_ret (v := .tuple #[.agg #[.int .i64 0, .int .i64 0, .int .u8 0], .bool false]) (by simp [results, Tryd.results10, go_sem, k0, k1, k2]) rfl ⟨rfl, by repeat (first | exact HN.trans n1 | refine New.setCell ?_ (by simp) _)⟩
  | true =>
    rw [chv_ok (rokb_iff.1 ho), erN_zero] at q1
    have e0 : atO l q = l.find? (fun r => inR r q) := by unfold atO; rw [ho, if_pos rfl]
    rcases find_of_fi (g := fun r => inR r q) (l := l) with ⟨hf, e1⟩ | ⟨j, hj, hf, e1⟩
    · rw [e1] at e0
      rw [e0]
      simp only [hf] at q2
      clear ho e1 e0 hf
      go_enter Tryd.func10, Tryd.ntmps10
      go_wp2_with fail
      refine q1.mono ?_
      rintro e w1 ⟨rfl, n1⟩
      have q3 := q2 _ n1
      go_wp2_with fail
      refine q3.mono ?_
      rintro e w2 ⟨rfl, n2⟩
      obtain ⟨hs, k0, k1, k2, f0, f1, f2⟩ := ((BR.new n1).new n2).three'
      go_wp2
      exact bodyPost_ret (v := .tuple #[.agg #[.int .i64 0, .int .i64 0, .int .u8 0], .bool false]) (by simp [results, Tryd.results10, go_sem, k0, k1, k2]) rfl ⟨rfl, by repeat (first | exact HN.trans (n1.trans n2) | refine New.setCell ?_ (by simp) _)⟩
    · rw [e1] at e0
      rw [e0]
      simp only [hf] at q2
      have hm := h.len
      have hm2 : l.length ≤ 9223372036854775807 := by unfold maxLen at hm; omega
      obtain ⟨_, x, rfl, hx⟩ := h.at_ j hj
      generalize l[j] = r at *
      clear ho e1 e0 hf hm
      go_enter Tryd.func10, Tryd.ntmps10
      go_wp2_with fail
      refine q1.mono ?_
      rintro e w1 ⟨rfl, n1⟩
      have q3 := q2 _ n1
      go_wp2_with fail
      refine q3.mono ?_
      rintro e w2 ⟨rfl, n2⟩
      obtain ⟨hs, k0, k1, k2, f0, f1, f2⟩ := ((BR.new n1).new n2).three'
      have hN := HN.trans (n1.trans n2)
      obtain ⟨c0, c1, c2⟩ := hx.new hN
      go_wp2
      exact bodyPost_ret (v := .tuple #[.agg #[.int .i64 r.f, .int .i64 r.t, .int .u8 (r.p : Int)], .bool true]) (by simp [results, Tryd.results10, go_sem, k0, k1, k2]) rfl ⟨rfl, by repeat (first | exact hN | refine New.setCell ?_ (by simp) _)⟩
end
end Go.Proofs.YtfkjgbenjdmedaaDoor
