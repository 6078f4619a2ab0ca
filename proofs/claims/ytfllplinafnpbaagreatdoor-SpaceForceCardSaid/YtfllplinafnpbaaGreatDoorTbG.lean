/- What the package of tables of two levels does with all its upper parts: how many frames it has, its pages, and how it gives its frames back: contracts, for any table in any frames of bytes, in any world. -/
import Derived.Test.YtfllplinafnpbaaGreatDoorTbF
namespace Go.Proofs.YtfllplinafnpbaaGreatDoor
open Go.RowKit Go.Shelf
set_option linter.unusedVariables false
set_option maxRecDepth 100000
attribute [local go_sem] Oper.semAt_some
section
variable {w : World} {tb fb rb mb qb t many n : Nat} {rs bs : List Int} {a : Nat → Prop} {v : Value}
theorem tframes_gone (h : Gone w v) : Calls Tryz.prog 44 #[v] w fun e w' => e = .returned (.int .i64 0) ∧ w = w' := by
  have X := isgone_yes h
  clear h
  go_enter Tryz.func44, Tryz.ntmps44
  go_wp2_with (go_at_call 69; (with_reducible refine (X).mono ?_); rintro e w' ⟨rfl, rfl⟩)
  go_ret
  exact ⟨rfl, rfl⟩
set_option maxHeartbeats 2000000 in
theorem tframes_any (h : Tb w tb fb mb t) (h2 : Ph w mb qb many bs) (hg : Good n a bs t) (hn : n ≤ many) :
    Calls Tryz.prog 44 #[.pointer (some ⟨tb, 0, none⟩)] w (IntN (1 + nup bs t 64) w) := by
  refine (callsIn_wide (n := 3)).1 ?_
  have G := isgone_no h
  have l1 := Box.lt h
  have l2 := h2.lt
  have hmf : ∀ (fn : Fn) (first cap : Array Value) (w : World), (Instr.makeFunc fn first cap).run Tryz.prog w = .ok (.func fn first cap) w := fun _ _ _ _ => rfl
  have nn : New w (w.alloc (.cells #[.int .i64 1] 3)) := (New.refl w).alloc _ _
  have HI := Lib.hid (uppers_iter (h.new nn) (h2.new nn) hg hn w.heap.size w.heap.size (by simp) l1 l2.1 l2.2 (by omega) (by omega) (by omega))
  have HU := Lib.hid (ups_len bs t 64)
  refine callsIn_of_wp_marks Tryz.func44 rfl trivial ?_ rfl
  simp only [Tryz.ntmps44, List.size_toArray, List.length_cons, List.length_nil, Nat.reduceAdd, Nat.reduceSub, Array.replicate_succ, Array.replicate_zero, List.push_toArray, List.append_toArray, List.nil_append, List.cons_append]
  gi_wp2_with (refine ⟨trivial, ?_⟩; gi_at_call 69; refine (callsIn_wide.2 G).mono ?_; rintro e w' ⟨rfl, rfl⟩)
  refine range_all (gf := 63) (fs := #[.pointer (some ⟨tb, 0, none⟩)]) rfl (enters_of Tryz.func63 (by kernel_rfl) rfl) HI.out (by simp) (fun _ => rfl)
    (fun pre W => Box W w.heap.size #[.int .i64 (1 + (pre.length : Int))] 3 ∧ New w W)
    (fun pre W W' hi hc => ⟨hi.1.cel hc, hi.2.cel hc (by simp)⟩) ⟨Box.here _ _ _ _ rfl, nn⟩
    (fun x => { tmps := #[.pointer (some ⟨tb, 0, none⟩), undef, .int .i64 0, .pointer (some ⟨w.heap.size, 0, none⟩), .pointer (some ⟨tb, 0, none⟩), .bool false, .pointer (some ⟨tb, 0, none⟩), .func (.func 63) #[.pointer (some ⟨tb, 0, none⟩)] #[], .int .i64 x.1, .int .i64 x.2, undef, undef, undef], defers := [] }) ?assign ?body ?done
  case assign =>
    intro l x W K hK
    gi_wp2
    simpa using hK
  case body =>
    rintro l pre x W ⟨hb, hw⟩ hx hz
    have hl : pre.length + 1 ≤ 64 := by have := hx.length_le; have := HU.out; simp at *; omega
    have hc := hb.one
    have hf := hb.unfrozen 0
    have hb' := hb.set 0 (.int .i64 (1 + (pre.length : Int) + 1))
    gi_wp2
    refine ⟨KeepsOthers.setCell _ _ _, ?_, ?_, hw.setCell (Nat.le_refl _) _⟩
    · exact ⟨rfl, rfl, rfl, by simp [World.setCell], fun k hk hs => Below.heap_setCell W _ _ k (fun e => hs (.inl e))⟩
    · rw [List.length_append, List.length_singleton, Int.natCast_add, ← Int.add_assoc]; exact hb'
  case done =>
    rintro D W hD ⟨hb, hw⟩ hK
    have hc := hb.one
    gi_wp2
    refine ⟨by simp, .inl ⟨_, _, rfl, run_takeDeferred hK, ?_⟩⟩
    exact ⟨_, results_tmp rfl _ _ _, rfl, hw.cel (Cel.put (B := w.heap.size) _ (by simp at hD; omega) hK rfl) (Nat.le_refl _)⟩
theorem uppers_gone (h : Gone w v) (ch n0 : Nat) : Iter Tryz.prog 63 #[v] (fun x : Nat × Nat => #[.int .i64 x.1, .int .i64 x.2]) ch n0 [] w := fun l J W nW hJ hY h0 => by
  have G := isgone_yes (h.new nW)
  clear hY hJ h
  refine callsIn_of_wp Tryz.func63 rfl trivial ?_ rfl
  simp only [Tryz.ntmps63, List.size_toArray, List.length_cons, List.length_nil, Nat.reduceAdd, Nat.reduceSub, Array.replicate_succ, Array.replicate_zero, List.push_toArray, List.append_toArray, List.nil_append, List.cons_append]
  gi_wp2_with (refine ⟨trivial, ?_⟩; gi_at_call 69; refine (callsIn_wide.2 G).mono ?_; rintro e w' ⟨rfl, rfl⟩)
  refine bodyPost_ret (results_none rfl _ _ _) rfl ?_
  exact ⟨⟨_, rfl⟩, h0⟩
theorem Own.cel {B base : Nat} {W W' : World} {v : Value} {l : List Int} (h : Own base W v l) (k : Cel B W W') : Own base W' v l := by
  refine ⟨h.1, ?_⟩
  rcases h.2 with hn | ⟨g, cap, cur, rfl, hb, hg, rest⟩
  · exact .inl hn
  · exact .inr ⟨g, cap, cur, rfl, hb, by rw [k.2.2.2.2 g (Array.getElem?_eq_some_iff.1 hg).1 (.inr ⟨_, hg, rfl⟩)]; exact hg, rest⟩
theorem Own.keeps {base : Nat} {W W1 : World} {v : Value} {l : List Int} (h : Own base W v l) (hg : W.grownBy W1 v.ownBlock) : KeepsOthers W W1 :=
  KeepsOthers.of_grownBy hg fun j o e ho => by
    rcases h.2 with ⟨rfl, _⟩ | ⟨g, cap, cur, rfl, hb, hg, rest⟩
    · cases e
    · cases e; rw [hg] at ho; cases ho; rfl
theorem Own.kept {base : Nat} {W W1 : World} {v : Value} {l : List Int} (h : Own base W v l) (hg : W.grownBy W1 v.ownBlock) (ch : Nat) : Kept ch base W W1 :=
  ⟨hg.os, hg.tape, hg.output, hg.size, fun k hk hs => hg.block k hk (fun e => by
    have := (World.ownsRow.lt h k e.symm).1
    exact hs (.inr this))⟩
theorem Own.box {base n : Nat} {W W1 : World} {v : Value} {l : List Int} {cs : Array Value} {ty : TypeId} (h : Own base W v l) (hg : W.grownBy W1 v.ownBlock) (b : Box W n cs ty) (ht : ty ≠ 3) : Box W1 n cs ty := by
  unfold Box
  rw [hg.block n b.lt (fun e => ?_)]
  · exact b
  · rcases h.2 with ⟨rfl, _⟩ | ⟨g, cap, cur, rfl, hb, hg, rest⟩
    · cases e
    · cases e
      unfold Box at b
      rw [hg] at b; cases b; exact ht rfl
theorem Own.off {base n : Nat} {W : World} {v : Value} {l : List Int} {cs : Array Value} {ty : TypeId} (h : Own base W v l) (b : Box W n cs ty) (ht : ty ≠ 3) (i : Nat) (x : Value) : Own base (W.setCell ⟨n, i, none⟩ x) v l := by
  refine ⟨h.1, ?_⟩
  rcases h.2 with hn | ⟨g, cap, cur, rfl, hb, hg, rest⟩
  · exact .inl hn
  · refine .inr ⟨g, cap, cur, rfl, hb, ?_, rest⟩
    rw [Below.heap_setCell _ _ _ _ (fun (e : g = n) => by subst e; unfold Box at b; rw [hg] at b; cases b; exact ht rfl)]; exact hg
/-- between two rounds of Pages: what it has collected, its two boxes -/
def Coll (w : World) (tb : Nat) (l : List Int) (W : World) : Prop :=
  ∃ v, Box W (w.heap.size + 1) #[v] 43 ∧ Own w.heap.size W v l ∧ Box W w.heap.size #[.pointer (some ⟨tb, 0, none⟩)] 75 ∧ New w W
theorem Coll.cel {w W W' : World} {tb : Nat} {l : List Int} (h : Coll w tb l W) {B : Nat} (k : Cel B W W') (hB : w.heap.size ≤ B) : Coll w tb l W' := by
  obtain ⟨v, h1, h2, h3, h4⟩ := h
  exact ⟨v, h1.cel k, h2.cel k, h3.cel k, h4.cel k hB⟩
theorem Coll.new {w W W' : World} {tb : Nat} {l : List Int} (h : Coll w tb l W) (k : New W W') : Coll w tb l W' := by
  obtain ⟨v, h1, h2, h3, h4⟩ := h
  exact ⟨v, h1.new k, h2.new k, h3.new k, h4.trans k⟩
set_option maxHeartbeats 2000000 in
theorem tpages_any (h : Tb w tb fb mb t) (h2 : Ph w mb qb many bs) (hg : Good n a bs t) (hn : n ≤ many) :
    Calls Tryz.prog 29 #[.pointer (some ⟨tb, 0, none⟩)] w (Lists (pgs (pgn bs t) 4096) w) := by
  refine (callsIn_wide (n := 3)).1 ?_
  obtain ⟨i0, hi, hz0, hz1, hz2⟩ := info_parts int_info
  have l1 := Box.lt h
  have l2 := h2.lt
  have hmf : ∀ (fn : Fn) (first cap : Array Value) (w : World), (Instr.makeFunc fn first cap).run Tryz.prog w = .ok (.func fn first cap) w := fun _ _ _ _ => rfl
  have nn : New w ((w.alloc (.cells #[.pointer (some ⟨tb, 0, none⟩)] 75)).alloc (.cells #[.slice none 0 0] 43)) := ((New.refl w).alloc _ _).alloc _ _
  have HI := Lib.hid (uppers_iter (h.new nn) (h2.new nn) hg hn w.heap.size w.heap.size (by simp; omega) l1 l2.1 l2.2 (by omega) (by omega) (by omega))
  have HU := Lib.hid (ups_len bs t 64)
  have HG := Lib.hid hg
  have HT := Lib.hid h
  have HP := Lib.hid h2
  refine callsIn_of_wp_marks Tryz.func29 rfl trivial ?_ rfl
  simp only [Tryz.ntmps29, List.size_toArray, List.length_cons, List.length_nil, Nat.reduceAdd, Nat.reduceSub, Array.replicate_succ, Array.replicate_zero, List.push_toArray, List.append_toArray, List.nil_append, List.cons_append]
  gi_wp2
  refine range_all (gf := 63) (fs := #[.pointer (some ⟨tb, 0, none⟩)]) rfl (enters_of Tryz.func63 (by kernel_rfl) rfl) HI.out (by simp; omega) (fun _ => rfl)
    (fun pre W => Coll w tb (pgl (pgn bs t) pre) W)
    (fun pre W W' hi hc => hi.cel hc (by simp; omega)) ⟨_, Box.here _ _ _ _ (by simp), Own.nil _ _, (Box.here w _ _ _ rfl).alloc _, nn⟩
    (fun x => { tmps := #[.pointer (some ⟨tb, 0, none⟩), .pointer (some ⟨w.heap.size, 0, none⟩), .slice none 0 0, .pointer (some ⟨w.heap.size + 1, 0, none⟩), .int .i64 x.1, .int .i64 x.2, undef, undef, undef, .pointer (some ⟨tb, 0, none⟩), .func (.func 63) #[.pointer (some ⟨tb, 0, none⟩)] #[], .int .i64 x.1, .int .i64 x.2,
      undef, undef, undef, undef, undef, undef, undef, undef, undef, undef, undef, undef, undef, undef, undef, undef, undef, undef, undef, undef], defers := [] }) ?assign ?body ?done
  case assign =>
    intro l x W K hK
    gi_wp2
    simpa using hK
  case body =>
    rintro l pre x W hI hx hz
    have hmem : x ∈ ups bs t 64 := hx.subset (by simp)
    obtain ⟨m1, m2, m3⟩ := ups_mem hmem
    have hlen : (pgl (pgn bs t) pre).length ≤ 4096 := by have := pgl_len (pgn bs t) pre; have := hx.length_le; have := HU.out; simp at *; omega
    obtain ⟨g1, g2, g3, g4⟩ := HG.out.frame m1 m2
    have hn4 : x.2 < many := by rw [m3]; omega
    have hpn : ∀ q, q < 64 → Pn (nm bs x.2 q) := fun q hq => by have := HG.out.pg x.1 q m1 hq m2; rw [m3]; exact this
    have hpp : ∀ q, q < 64 → pgn bs t (x.1 * 64 + q) = nm bs x.2 q := fun q hq => by rw [m3]; exact pgn_part bs t x.1 q hq m2
    have E := Lib.hid (pgl_push (pgn bs t) pre x)
    obtain ⟨u, F⟩ := x
    dsimp only at *
    have H1 := Lib.hid hpn
    have H2 := Lib.hid hpp
    have e1 : (u : Int) < 64 := by omega
    clear hpn hpp g1 g2 g3 g4 m2 m3 hmem hx
    gi_wp2
    gi_loopw [13] (fun i wr => ∃ q : Nat, q ≤ 64 ∧ i = .int .i64 q ∧ Coll w tb (pgl (pgn bs t) pre ++ pgk (pgn bs t) u q) wr ∧ KeepsOthers W wr ∧ Kept w.heap.size w.heap.size W wr) (fun i _ => 64 - (intOf i).toNat)
    case atStart => exact ⟨0, by omega, rfl, by simpa [pgk] using hI, KeepsOthers.refl _, But.refl _ _⟩
    case round =>
      obtain ⟨q, hq, rfl, hc, ho, hk⟩ := hrel
      by_cases c : q < 64
      · have hl2 := pgk_len (pgn bs t) u q
        obtain ⟨LL, hLL⟩ : ∃ LL, LL = pgl (pgn bs t) pre ++ pgk (pgn bs t) u q := ⟨_, rfl⟩
        have hl3 : LL.length ≤ 5000 := by rw [hLL, List.length_append]; omega
        rw [← hLL] at hc
        have HLL := Lib.hid hLL
        clear hLL
        obtain ⟨v, b1, o1, b2, nw1⟩ := id hc
        have X := fun V (k : New wr V) => tload_any F q ((HT.out.new nw1).new k) ((HP.out.new nw1).new k) hn4 c
        have t1 := b1.one
        have t2 := b2.one
        have z1 := b1.lt
        by_cases d : nm bs F q = 0
        · have Y := tload_zero F q (HT.out.new nw1) (HP.out.new nw1) hn4 c d
          have P := Lib.hid (pgk_skip (f := pgn bs t) (u := u) (k := q) (by rw [H2.out q c]; exact d))
          clear X d
          gi_wp2_with (refine ⟨trivial, ?_⟩; gi_at_call 64; refine (CallsIn.inRound l (callsIn_wide.2 Y)).mono ?_; rintro e w1 ⟨rfl, n1⟩)
          go_roundw
          case rel => exact ⟨q + 1, by omega, by go_num, by rw [P.out, ← HLL.out]; exact hc.new (n1.alloc _ _), ho.trans (keeps_new (n1.alloc _ _)), But.trans hk (But.of_new _ (n1.alloc _ _))⟩
          case measure => simp [intOf]; omega
        · have hp1 : 1 ≤ nm bs F q ∧ EnNum (nm bs F q) := by
            rcases H1.out q c with h | h
            · exact absurd h d
            · exact h
          have Y := tload_is F q (HT.out.new nw1) (HP.out.new nw1) hn4 c hp1.1 hp1.2
          have P := Lib.hid (pgk_push (f := pgn bs t) (u := u) (k := q) (by rw [H2.out q c]; exact d))
          have hv := nm_bd HP.out.oct F q
          generalize nm bs F q = V at *
          clear X d hp1
          gi_wp2_with (first
            | (refine ⟨trivial, ?_⟩; gi_at_call 64; refine (CallsIn.inRound l (callsIn_wide.2 Y)).mono ?_; rintro e w1 ⟨rfl, n1⟩; have nA := n1.alloc #[.int .i64 (V / 256), .int .u8 (V % 8), .bool (cwb V)] 91; have o2 := o1.new nA; have b1' := b1.new nA; have t1' := b1'.one)
            | (gi_at_builtin; refine wpListIn_append_own _ rfl _ _ 43 rfl w.heap.size 3 i0 (.int .i64 0) 1 8 Tryz.underlying43 hi hz0 hz1 hz2 rfl (by decide) _ _ _ rfl (World.ownsRow.alloc o2 _) ⟨w1.heap.size + 1, 0, none⟩ 1 1 [.int .i64 ((u : Int) * 64 + q)] rfl rfl ?c1 ?c2 ?c3 ?c4 ?c5 ?_))
          case c1 => intro i u' hu; rcases i with _ | i <;> simp at hu; subst hu; exact (World.cell?_alloc_at _ _ _ _ (by simp)).trans rfl
          case c2 => intro u' hu; simp at hu; subst hu; rfl
          case c3 => unfold maxLen; omega
          case c4 => omega
          case c5 => have := nw1.size; have := n1.size; simp; omega
          intro v' w2 hown' hgrow _
          obtain ⟨o3, nB⟩ := Own.push (nw1.trans nA) rfl o2 hown' hgrow
          have oA : Own w.heap.size ((w1.alloc (.cells #[.int .i64 (V / 256), .int .u8 (V % 8), .bool (cwb V)] 91)).alloc (.cells #[.int .i64 ((u : Int) * 64 + q)] 3)) v LL := o2.new ((New.refl _).alloc _ _)
          have k1 := ho.trans ((keeps_new (nA.alloc _ _)).trans (oA.keeps hgrow))
          have k2 : Kept w.heap.size w.heap.size W w2 := But.trans hk (But.trans (But.of_new _ (nA.alloc _ _)) (oA.kept hgrow w.heap.size))
          have bA : Box w2 (w.heap.size + 1) #[v] 43 := oA.box hgrow (b1'.alloc _) (by decide)
          have bB : Box w2 w.heap.size #[.pointer (some ⟨tb, 0, none⟩)] 75 := oA.box hgrow ((b2.new nA).alloc _) (by decide)
          obtain ⟨p2, cap2, rfl⟩ := o3.ints.len
          rw [List.length_append, List.length_singleton] at o3
          have t3 := bA.one
          have f3 := bA.unfrozen 0
          have PP := Lib.hid (show pgl (pgn bs t) pre ++ pgk (pgn bs t) u (q + 1) = LL ++ [(u : Int) * 64 + q] from by rw [P.out, ← List.append_assoc, ← HLL.out]; simp)
          have O4 := Lib.hid (fun x => o3.off bA (by decide) 0 x)
          have B4 := Lib.hid (fun x => bA.set 0 x)
          have B5 := Lib.hid (fun x => bB.other (p := ⟨w.heap.size + 1, 0, none⟩) (by simp) x)
          clear hown' hgrow oA o3 o2 o1 b1 b1' b2 t1 t1' t2 hc
          gi_wp2
          go_roundw
          case rel => exact ⟨q + 1, by omega, by go_num, by rw [PP.out]; exact ⟨_, B4.out _, O4.out _, B5.out _, nB.setCell (by simp) _⟩, k1.trans (KeepsOthers.setCell _ _ _), But.trans k2 ⟨rfl, rfl, rfl, by simp [World.setCell], fun k hk hs => Below.heap_setCell w2 _ _ k (fun e => hs (.inr (by show w.heap.size ≤ k; rw [e]; simp)))⟩⟩
          case measure => simp [intOf]; omega
      · obtain rfl : q = 64 := by omega
        gi_wp2
        exact ⟨ho, hk, by show Coll w tb (pgl (pgn bs t) (pre ++ [(u, F)])) wr; rw [E.out]; exact hc⟩
  case done =>
    rintro D W hD hI hK
    rw [pgl_ups, show 64 * 64 = 4096 from rfl] at hI
    obtain ⟨v, hb, hown, _, hw⟩ := hI
    have hc := hb.one
    obtain ⟨p, cap, rfl⟩ := hown.ints.len
    gi_wp2
    refine ⟨by simp, .inl ⟨_, _, rfl, run_takeDeferred hK, ?_⟩⟩
    have hce := Cel.put (W := W) (B := w.heap.size) (.deferred none) (by simp at hD; omega) hK rfl
    exact ⟨.slice p (pgs (pgn bs t) 4096).length cap, by simp [results, Tryz.results29, go_sem], _, rfl, hown.cel hce, hw.cel hce (Nat.le_refl _)⟩
end
end Go.Proofs.YtfllplinafnpbaaGreatDoor
