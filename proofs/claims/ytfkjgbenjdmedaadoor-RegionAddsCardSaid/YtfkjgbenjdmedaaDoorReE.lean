/- Several lists of regions, one behind the other, in one that the call makes: the library's Concat at regions. Contracts, for any lists, in any world; behind each there are only new blocks. -/
import Derived.Test.YtfkjgbenjdmedaaDoorReD
import Derived.Deep.Slices
namespace Go.Proofs.YtfkjgbenjdmedaaDoor
open Go.RowKit
set_option linter.unusedVariables false
set_option maxRecDepth 100000
section
variable {w w' w1 wr : World} {base : Nat} {v v' : Value} {l m : List Rg} {T : TypeId}
theorem RgAt.add {x : Addr} {i : Nat} {r : Rg} (h : RgAt w (x.add (i * 3)) r) (f : Nat) (u : Value) (hu : (rcell r)[f]? = some u) : w.cell? (x.add (i * 3 + f)) = some u := by
  obtain ⟨h0, h1, h2⟩ := h
  rw [← Go.Deep.add_add]
  generalize x.add (i * 3) = y at *
  match f, hu with
  | 0, hu => simp [rcell] at hu; subst hu; simpa [Addr.add] using h0
  | 1, hu => simp [rcell] at hu; subst hu; simpa [Addr.add] using h1
  | 2, hu => simp [rcell] at hu; subst hu; simpa [Addr.add] using h2
  | f + 3, hu => simp [rcell] at hu
theorem Rgs.holds {x : Addr} {n cap : Nat} (h : Rgs w (.slice (some x) n cap) l) : ∀ j u, (rcells l)[j]? = some u → w.cell? (x.add j) = some u := by
  intro j u hu
  have hj : j < l.length * 3 := by rw [← rcells_len]; exact (List.getElem?_eq_some_iff.1 hu).1
  have hi : j / 3 < l.length := by omega
  obtain ⟨_, y, e, hr⟩ := h.at_ (j / 3) hi
  cases e
  have e := rcells_get l (j / 3) (j % 3) hi (Nat.mod_lt _ (by omega))
  have ej : j / 3 * 3 + j % 3 = j := by omega
  rw [ej, hu] at e
  have := hr.add (j % 3) u e.symm
  rwa [ej] at this
theorem run_append_zero {P : Program} (w : World) (t ty e : TypeId) (i : TypeInfo) (ht : P.underlying t = some (.slice e)) (hi : P.info? e = some i) (base : Nat) (size n : Nat) (v : Value) (xs : List Value) (hown : w.ownsRow base e size v n xs) (c : Nat) :
    (Builtin.append_ #[t, t] ty #[v, .slice none 0 c]).run P w = .ok v w := by
  have hst : ∀ a, (storeCells a []).run P w = .ok () w := fun a => rfl
  rcases hown.2 with ⟨rfl, rfl⟩ | ⟨g, cap, cur, rfl, hb, hg, h1, h2, h3, h4⟩
  · simp [Builtin.append_, run_underlying ht, sizeOf, typeInfo, hi, Builtin.lenOf, run_firstCells_none]
  · simp [Builtin.append_, run_underlying ht, sizeOf, typeInfo, hi, Builtin.lenOf, run_firstCells_none, h1, hst]
/-- a list of the call's own, and one that can be read behind it -/
theorem run_append_rgs {W : World} (hn : New W w) (h : OwnR 33 W.heap.size w v l) (hm : Rgs w v' m) (hl : l.length + m.length ≤ 2000000) :
    ∃ u w1, (Builtin.append_ #[27, 27] 27 #[v, v']).run Tryd.prog w = .ok u w1 ∧ OwnR 33 W.heap.size w1 u (l ++ m) ∧ New W w1 := by
  obtain ⟨i0, hi, hz0, hz1, hz2⟩ := info_parts3 region_info
  obtain ⟨p, cap, rfl, _, _⟩ := hm.shape
  cases p with
  | none =>
    have hm0 : m = [] := by
      cases m with
      | nil => rfl
      | cons a m => obtain ⟨_, x, e, _⟩ := hm.at_ 0 (by simp); cases e
    subst hm0
    exact ⟨v, w, run_append_zero w _ _ _ i0 Tryd.underlying27 hi _ _ _ _ _ h cap, by rw [List.append_nil]; exact h, hn⟩
  | some x =>
    obtain ⟨u, w1, k1, k2, k3, _⟩ := run_append_own (P := Tryd.prog) w W.heap.size 27 27 33 i0 _ 3 24 Tryd.underlying27 hi hz0 hz1 hz2 rfl (by decide) v l.length (rcells l) h x m.length cap (rcells m) (rcells_len m) hm.holds (rcells_one m) (by unfold maxLen; omega) (by omega) hn.size
    refine ⟨u, w1, k1, ?_, hn.grown k3 fun k hk => (World.ownsRow.lt h k hk).1⟩
    unfold OwnR; rw [rcells_append, List.length_append]; exact k2
/-- slices of regions in memory, one cell each -/
def Sls (w : World) (b : Nat) (LL : List (List Rg)) : Prop := ∀ i (hi : i < LL.length), ∃ u, w.cell? ⟨b, i, none⟩ = some u ∧ Rgs w u LL[i]
theorem Sls.new {b : Nat} {LL : List (List Rg)} (h : Sls w b LL) (k : New w w') : Sls w' b LL := fun i hi => by
  obtain ⟨u, h1, h2⟩ := h i hi
  exact ⟨u, k.keeps h1, h2.new k⟩
end
theorem flat_len (LL : List (List Rg)) (j : Nat) : (LL.take j).flatten.length ≤ LL.flatten.length := by
  conv => rhs; rw [← List.take_append_drop j LL]
  rw [List.flatten_append, List.length_append]; omega
set_option maxHeartbeats 1000000 in
theorem concat_any (w : World) (b : Nat) (LL : List (List Rg)) (n : Nat) (hn : n = LL.length) (h : Sls w b LL) (hlen : LL.flatten.length ≤ 1000000) (hL : LL.length ≤ 100) :
    Calls Tryd.prog 35 #[.slice (some ⟨b, 0, none⟩) n n] w (MadeR 33 LL.flatten w) := by
  subst hn
  have HS := Lib.hid h
  have HL := Lib.hid hlen
  clear h
  go_enter Tryd.func35, Tryd.ntmps35
  go_wp2
  go_loopg [3, 11] LL.length (fun k s i wr => ∃ j : Nat, j + k = LL.length ∧ i = .int .i64 (j : Int) ∧ s = .int .i64 ((LL.take j).flatten.length : Int) ∧ w = wr)
  case atStart => exact ⟨0, by omega, rfl, rfl, rfl⟩
  case round =>
    obtain ⟨j, hj, rfl, rfl, rfl⟩ := hrel
    by_cases c : j < LL.length
    · obtain ⟨u, hu, hr⟩ := HS.out j c
      obtain ⟨p, cap, rfl, _, _⟩ := hr.shape
      have J := Lib.hid hj
      have he := Lib.hid (show (LL.take (j + 1)).flatten.length = (LL.take j).flatten.length + (LL[j]).length by
        rw [List.take_succ_eq_append_getElem c, List.flatten_append, List.length_append, List.flatten_cons, List.flatten_nil, List.append_nil])
      have h1 := flat_len LL (j + 1)
      rw [he.out] at h1
      generalize (LL.take j).flatten.length = s at *
      generalize (LL[j]).length = m at *
      clear hj hr
      go_wp2
      go_roundg (LL.length - (j + 1))
      case measure => have := J.out; omega
      case rel => exact ⟨j + 1, by have := J.out; omega, by go_num, by rw [he.out]; simp, rfl⟩
    · obtain rfl : j = LL.length := by omega
      rw [List.take_length]
      have q := grow_any w LL.flatten.length hlen
      clear hj c
      generalize hT : LL.flatten.length = T at *
      go_wp2_with (go_at_call 44; (with_reducible refine q.mono ?_); rintro e w1 ⟨v1, rfl, o1, n1⟩)
      clear q
      go_loopg [6, 27] LL.length (fun k acc i wr => ∃ j : Nat, j + k = LL.length ∧ i = .int .i64 (j : Int) ∧ OwnR 33 w.heap.size wr acc (LL.take j).flatten ∧ New w wr)
      case atStart => exact ⟨0, by omega, rfl, o1, n1⟩
      case round =>
        obtain ⟨j, hj, rfl, ho, hn⟩ := hrel
        by_cases c : j < LL.length
        · obtain ⟨u, hu, hr⟩ := HS.out j c
          have hu := hn.keeps hu
          have hr := hr.new hn
          have J := Lib.hid hj
          have h1 := flat_len LL (j + 1)
          have he : (LL.take (j + 1)).flatten = (LL.take j).flatten ++ LL[j] := by rw [List.take_succ_eq_append_getElem c, List.flatten_append, List.flatten_cons, List.flatten_nil, List.append_nil]
          obtain ⟨z, w2, hr2, o2, n2⟩ := run_append_rgs hn ho hr (by have := HL.out; rw [he, List.length_append] at h1; omega)
          rw [← he] at o2
          obtain ⟨p, cap, rfl, _, _⟩ := hr.shape
          obtain ⟨p3, c3, rfl⟩ := ho.shape
          have O2 := Lib.hid o2
          have N2 := Lib.hid n2
          clear hj hr h1 he o2 n2 ho
          go_wp2_with (at_builtin; refine Lib.wpList_append_run _ rfl _ _ _ _ rfl _ _ rfl rfl _ _ hr2 ?_)
          obtain ⟨p4, c4, rfl⟩ := O2.out.shape
          go_wp2
          go_roundg (LL.length - (j + 1))
          case measure => have := J.out; omega
          case rel => exact ⟨j + 1, by have := J.out; omega, by go_num, O2.out, N2.out⟩
        · obtain rfl : j = LL.length := by omega
          rw [List.take_length] at ho
          obtain ⟨p3, c3, rfl⟩ := ho.shape
          go_wp2
          go_ret
          exact ⟨_, rfl, ho, hn⟩
end Go.Proofs.YtfkjgbenjdmedaaDoor
