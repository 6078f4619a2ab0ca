/- The names of a folder, in order: how many they are. -/
import Derived.Test.YtgoecdmnefjdnaaDoorInG
import Derived.Test.YtgoecdmnefjdnaaDoorIter
import Derived.Deep.LoopGhost
namespace Go.Proofs.YtgoecdmnefjdnaaDoor
open Go.RowKit Go.MapKept
open Go.Maps (Keyed)
open Go.WideElems (Fit rg rd_mk rg_of)
set_option linter.unusedVariables false
set_option maxRecDepth 100000
/-- elements that nobody reads -/
def anyE (v : Value) : Option (DataW Unit × List MemPlace) := some (.lit (.bool false), [])
theorem names_owns {w : World} {b : Nat} {l : List (List UInt8 × Int)} (h : Mp Tryd.prog 9 w b (nmE l)) : ∃ D : DataW Unit, w.ownsMap Tryd.prog 9 anyE b l.length D ∧ Maps.size D = l.length ∧ (strKeys D).length = l.length ∧ ∀ y ∈ strKeys D, ∃ x ∈ l, y = x.1 := by
  obtain ⟨es, cl, hb, hs, hz, hk, hl⟩ := h
  have rds : ∀ x ∈ es.toList, ∃ kl, keyOf Tryd.prog 9 x.key = some kl ∧ WideElems.rd Tryd.prog 9 anyE x = some (kl, (DataW.lit (.bool false) : DataW Unit)) := fun x hx => by
    obtain ⟨kl, hkl⟩ := hk x hx
    exact ⟨kl, hkl, rd_mk (R := anyE) (key := x.key) (val := x.val) (born := x.born) hkl rfl⟩
  have hlen : es.size = l.length := by have := congrArg List.length hl; simpa [nmE] using this
  refine ⟨_, ⟨es, cl, hb, ⟨hz, hs, fun x hx => let ⟨kl, _, h⟩ := rds x hx; ⟨_, h⟩⟩, by omega, rfl⟩, ?_, ?_, ?_⟩
  · simp only [Maps.size, length_sorted, List.length_map, Array.length_toList]; exact hlen
  · show (List.map _ _).length = _
    rw [List.length_map, length_sorted, List.length_map, Array.length_toList]; exact hlen
  · intro y hy
    obtain ⟨p, hp, rfl⟩ := List.mem_map.1 hy
    have hp := (WideShapes.sorted_perm _).mem_iff.1 hp
    obtain ⟨x, hx, rfl⟩ := List.mem_map.1 hp
    obtain ⟨kl, hkl, hr⟩ := rds x hx
    rw [rg_of hr]
    have hm : (x.key, x.val) ∈ nmE l := by rw [← hl]; exact List.mem_map.2 ⟨x, hx, rfl⟩
    obtain ⟨q, hq, e⟩ := List.mem_map.1 hm
    refine ⟨q, hq, ?_⟩
    have e1 : x.key = Value.string (ba q.1) := (congrArg Prod.fst e).symm
    rw [e1] at hkl
    obtain ⟨z, h1, h2, -⟩ := Maps.keyOf_str Tryd.underlying9 hkl
    rw [h2]
    have h3 : ba q.1 = ⟨z.toArray⟩ := by simpa [encStr] using h1
    have := congrArg (fun s : ByteArray => s.data.toList) h3
    rw [ba_data] at this
    show z = q.1
    rw [this]
theorem keys_call (mb : Option Nat) (W : World) : Calls Tryd.prog 32 #[.map mb] W fun e w' => e = .returned (.func (.func 41) #[] #[.pointer (some ⟨W.heap.size, 0, none⟩)]) ∧ w' = W.alloc (.cells #[.map mb] 60) :=
  callsIn_wide.1 (Tryd.maps_Keys_32 mb W)
theorem sorted_call {w : World} {b : Nat} {l : List (List UInt8 × Int)} (h : Mp Tryd.prog 9 w b (nmE l)) (hl : l.length ≤ 1000) :
    Calls Tryd.prog 31 #[.func (.func 41) #[] #[.pointer (some ⟨w.heap.size, 0, none⟩)]] (w.alloc (.cells #[.map (some b)] 60)) fun e w' => ∃ (v : Value) (ls : List (List UInt8)), e = .returned v ∧ ls.length = l.length ∧ (∀ y ∈ ls, ∃ x ∈ l, y = x.1) ∧ OwnS w.heap.size w' v ls ∧ New w w' := by
  obtain ⟨D, h1, h2, h3, h4⟩ := names_owns h
  refine (callsIn_wide.1 (Tryd.slices_Sorted_keys_31_32 b _ D anyE w h1 (by rw [h2]; unfold maxLen; omega) (by rw [h2]; omega))).mono ?_
  rintro e w' ⟨v, ss, rfl, hp, hrow, -, hbel⟩
  have hperm := List.mergeSort_perm ss (fun x y => decide (x ≤ y))
  have hlen : (ss.mergeSort (fun x y => decide (x ≤ y))).length = ss.length := hperm.length_eq
  refine ⟨v, ss.mergeSort (fun x y => decide (x ≤ y)), rfl, by rw [hlen, hp.length_eq, h3], fun y hy => h4 y (hp.mem_iff.1 (hperm.mem_iff.1 hy)), ?_, ?_⟩
  · have n1 : w.heap.size ≤ (w.alloc (.cells #[.map (some b)] 60)).heap.size := by simp
    have hr : w'.ownsRow w.heap.size 9 1 v ss.length ((ss.mergeSort (fun x y => decide (x ≤ y))).map encStr) := by
      refine ⟨hrow.1, ?_⟩
      rcases hrow.2 with hn | ⟨g, cap, cur, e, hb, rest⟩
      · exact .inl hn
      · exact .inr ⟨g, cap, cur, e, Nat.le_trans n1 hb, rest⟩
    unfold OwnS
    rw [hlen]
    exact hr
  · exact ((New.refl w).alloc _ _).trans hbel
section
variable {X : Nat → Prop} {w w' : World} {tb mb : Nat} {most : Int} {N : List (Int × Nd)} {tg : Nat → Option (Int × Nat)} {i : Int} {n : Nd}
theorem list_any {L : Pt} (h : Tr X w tb most L) (hi : Ok64 i) (hf : fdE L i = 0) (hl : (nat L i).nms.length ≤ 1000) (hs : ∀ x ∈ (nat L i).nms, x.1.length ≤ 1000000) : Calls Tryd.prog 18 #[.pointer (some ⟨tb, 0, none⟩), .int .i64 i] w fun e w' => ∃ p cap, e = .returned (.tuple #[.slice p (nat L i).nms.length cap, .nilIface]) ∧ New w w' := by
  obtain ⟨mb, N, tg, h, rfl⟩ := h
  cases hg : nget N i with
  | none => rw [fdE_none (pl_none hg)] at hf; cases hf
  | some n =>
    have hfd : n.p.fd = true := by rw [fdE_some (pl_some hg)] at hf; cases e : n.p.fd with | false => rw [e] at hf; cases hf | true => rfl
    have c := folder_hit h hi hg hfd
    have hN := node_cell h hg
    obtain ⟨-, -, -, -, -, c5⟩ := hN.six
    rw [hfd, if_pos rfl] at c5
    rw [nat_pl hg] at hl hs ⊢
    have cK := keys_call (some n.nb) w
    have cS := sorted_call (hN.mp hfd) hl
    generalize hm : n.p.nms.length = m at *
    have HS := Lib.hid hs
    clear hf h hg hN hs
    go_enter Tryd.func18, Tryd.ntmps18
    go_wp2_with fail
    refine c.mono ?_
    rintro e w1 ⟨rfl, rfl⟩
    go_wp2_with fail
    refine cK.mono ?_
    rintro e w2 ⟨rfl, rfl⟩
    go_wp2_with fail
    refine cS.mono ?_
    rintro e w3 ⟨v, ls, rfl, e1, e2, o3, n3⟩
    have E2 := Lib.hid e2
    obtain ⟨p, cap, rfl⟩ : ∃ p cap, v = .slice p ls.length cap := by
      rcases o3.2 with ⟨e, z⟩ | ⟨g, cap, cur, e, -⟩
      · exact ⟨none, 0, by rw [e, z]⟩
      · exact ⟨_, cap, e⟩
    rw [e1] at o3 ⊢
    have n3' := n3
    clear cS cK e2 c
    go_wp2_with fail
    go_loopg [28] m (fun gk s28 wr => ∃ j : Nat, j + gk = m ∧ s28 = .int .i64 (j : Int) ∧ OwnS w1.heap.size wr (.slice p m cap) ls ∧ New w1 wr)
    case atStart => exact ⟨0, by omega, rfl, o3, n3'⟩
    case round =>
      obtain ⟨j, hj, rfl, o, hn⟩ := hrel
      have HJ := Lib.hid hj
      by_cases hlt : j < m
      · obtain ⟨g, cap', ev, hc1, hg, hcells⟩ := o.some (fun e => by rw [e] at e1; simp at e1; omega)
        rw [e1] at ev
        cases ev
        obtain ⟨x, hx⟩ : ∃ x, ls[j]? = some x := ⟨_, List.getElem?_eq_getElem (by omega)⟩
        have cx := hcells j x hx
        obtain ⟨q, hq, eq⟩ := E2.out x (List.mem_of_getElem? hx)
        have hxl := HS.out q hq
        rw [← eq] at hxl
        have cC := fun W => clone_any x W (by omega)
        have hlt' : (j : Int) < (m : Int) := by omega
        have hm9 : (m : Int) ≤ 1000 := by omega
        have hlc : m ≤ cap := by rw [← e1]; exact hc1
        have O := Lib.hid o
        have HX := Lib.hid hx
        clear hcells hj o hx eq
        go_wp2_with fail
        refine (cC _).mono ?_
        rintro e w5 ⟨rfl, n5⟩
        have o5 := O.out.new n5
        have cx5 := n5.keeps cx
        have ow : w5.ownsRow w1.heap.size 9 1 (.slice (some ⟨g, 0, none⟩) m cap) m (ls.map fun l => Value.string (ba l)) := by have := o5; unfold OwnS at this; rw [e1] at this; exact this
        have fz := ow.frozenAt j
        obtain ⟨st1, st2⟩ := ow.stored j (.string (ba x))
        have ST1 := Lib.hid st1
        have hg1 := (World.ownsRow.lt ow g rfl).1
        have n6 : New w1 (w5.setCell ⟨g, j, none⟩ (.string (ba x))) := (hn.trans n5).setCell hg1 _
        have N6 := Lib.hid n6
        clear ow st1 st2 o5 hn
        go_wp2_with fail
        go_roundg (m - (j + 1))
        case measure => have := HJ.out; omega
        case rel =>
          refine ⟨j + 1, by have := HJ.out; omega, rfl, ?_, N6.out⟩
          have hset : (ls.map fun l => Value.string (ba l)).set j (.string (ba x)) = ls.map fun l => Value.string (ba l) := by
            apply List.ext_getElem?
            intro k
            rw [List.getElem?_set]
            by_cases c : j = k
            · subst c
              rw [if_pos rfl, if_pos (by rw [List.length_map]; omega), List.getElem?_map, HX.out]; rfl
            · rw [if_neg c]
          have := ST1.out
          rw [hset] at this
          unfold OwnS
          rw [e1]; exact this
      · have hge : ¬ (j : Int) < (m : Int) := by omega
        clear hj o
        go_wp2
        go_ret2
        first | exact ⟨⟨_, _, rfl⟩, hn⟩ | exact ⟨_, _, rfl, hn⟩
end
end Go.Proofs.YtgoecdmnefjdnaaDoor
