/- The rows' premise on the listed variables, and the world's shape, give what the walks ask of the world. -/
import Derived.Test.YtlpjegclpilaaaaGreatDoorAmA
import Derived.Test.YtlpjegclpilaaaaGreatDoorRows
import Derived.Lib.LaidU8T
import Derived.PinnedBridge
import Derived.Shelf.Vars
import Derived.Shelf.GgClosure.StringsTrimFunc
import Derived.Test.YtlpjegclpilaaaaGreatDoorShelf
import Derived.ChangeSame
import Derived.ChangeVars
import Derived.OpenShut
import Derived.JoinedOf
import Derived.LaidLaws
import Derived.LaidHandle
import Derived.Handed
namespace Go.Proofs.YtlpjegclpilaaaaGreatDoor
open Go.ChangeShapes Go.WideShapes Go.RowKit Go.Lib
set_option linter.unusedVariables false
set_option maxRecDepth 100000
theorem alay_pow {W : World} (h : VarReads Tryz.prog W "internal/strconv.uint64pow10" Rows.laid_internal_strconv_uint64pow10) : Lib.TabIs Tryz.prog W "internal/strconv.uint64pow10" .u64 Lib.pow10Tab := by
  obtain ⟨g, t, cs, fuel, p, hg, ht, hv, hd⟩ := h
  obtain rfl := Option.some.inj ((show Tryz.prog.globalNamed "internal/strconv.uint64pow10" = some 3 by kernel_rfl).symm.trans hg)
  obtain rfl := Option.some.inj ((show (Tryz.prog.globals[3]?).map (·.type) = some 140 by kernel_rfl).symm.trans ht)
  have e : (Rows.laid_internal_strconv_uint64pow10 : DataW Unit) = tabData .u64 Lib.pow10Tab := by kernel_rfl
  rw [e] at hd
  unfold Lib.TabIs
  rw [hv, ← cells_of_tab Tryz.underlying140 Tryz.underlying128 (by kernel_rfl) (by kernel_rfl) hd]
theorem alay_utf {W : World} (h3 : VarReads Tryz.prog W "unicode/utf8.first" Rows.laid_unicode_utf8_first) (h4 : VarReads Tryz.prog W "unicode/utf8.acceptRanges" Rows.laid_unicode_utf8_acceptRanges) : Lib.Utf8Tabs 4 5 W := by
  have e3 : (Rows.laid_unicode_utf8_first : DataW Unit) = firstData := Pinned.utf8First_eq
  have e4 : (Rows.laid_unicode_utf8_acceptRanges : DataW Unit) = acceptData := by kernel_rfl
  rw [e3] at h3
  rw [e4] at h4
  exact utf8Tabs_of_readsT (ρ := Tryz.lays237_ren)
    { t5 := by kernel_rfl, t119 := by kernel_rfl, t138 := by kernel_rfl, t139 := by kernel_rfl }
    { n3 := by kernel_rfl, n4 := by kernel_rfl, y3 := by kernel_rfl, y4 := by kernel_rfl, c5 := by kernel_rfl, c119 := by kernel_rfl, c138 := by kernel_rfl } h3 h4
theorem alay_ops {W : World} (h : VarReads Tryz.prog W "halter/asm.operations" Rows.laid_halter_asm_operations) (o : Nat) (ho : o < 42) :
    W.cell? ⟨0, o * 2, none⟩ = some (.string (ba (nm o))) ∧ W.cell? ⟨0, o * 2 + 1, none⟩ = some (.string (ba (nd o))) := by
  obtain ⟨g, t, cs, fuel, p, hg, ht, hv, hd⟩ := h
  obtain rfl := Option.some.inj ((show Tryz.prog.globalNamed "halter/asm.operations" = some 0 by kernel_rfl).symm.trans hg)
  obtain rfl := Option.some.inj ((show (Tryz.prog.globals[0]?).map (·.type) = some 62 by kernel_rfl).symm.trans ht)
  have e : (Rows.laid_halter_asm_operations : DataW Unit) = .agg (ops.map fun x => .agg [.lit (.string x.1), .lit (.string x.2)]) := by kernel_rfl
  rw [e] at hd
  obtain ⟨fuel', d, q, hdi, he⟩ := array_elem Tryz.underlying62 hd o ho
  have hlt : o < ops.length := ho
  rw [List.getElem?_map, List.getElem?_eq_getElem hlt, Option.map_some, Option.some.injEq] at hdi
  subst hdi
  have c2 : Tryz.prog.cellsOf 61 = 2 := by kernel_rfl
  have c1 : Tryz.prog.cellsOf 9 = 1 := by kernel_rfl
  rw [c2] at he
  obtain ⟨xs, n, _, hx, _, _, hf⟩ := DataW.trod_struct Tryz.underlying61 he
  have key : ∀ (i : Nat) (f : Field) (z : List UInt8), (#[f][0]? = some f) → f.type = 9 → f.offset = i → i < 2 → xs[i]? = some (((.lit (.string z) : DataW Unit)), (xs[i]?.getD (.nil, [])).2) →
      DataW.trod (fun _ => ()) Tryz.prog W 0 (fun _ => true) false n f.type ((((cs.toList.drop (o * 2)).take 2).drop f.offset).take (Tryz.prog.cellsOf f.type)) = xs[i]? → cs[o * 2 + i]? = some (.string (ba z)) := by
    intro i f z _ hty hoff hi hxi hr
    rw [hty, hoff, c1, hxi] at hr
    obtain ⟨s, e1, e2, _⟩ := DataW.trod_string Tryz.underlying9 hr
    have e3 : z = s.data.toList := by
      have := congrArg Prod.fst e2
      simpa using this
    have e4 := congrArg (·[0]?) e1
    simp only [List.getElem?_take, List.getElem?_drop, List.getElem?_cons_zero] at e4
    rw [e3, ba_of]
    rw [if_pos (by omega), if_pos (by omega)] at e4
    rw [← Array.getElem?_toList]
    simpa using e4
  have hx1 : xs.map (·.1) = [.lit (.string (nm o)), .lit (.string (nd o))] := by
    have := congrArg Prod.fst hx
    simp only [DataW.agg.injEq] at this
    rw [← this]
    unfold nm nd
    rw [List.getD_eq_getElem?_getD, List.getElem?_eq_getElem hlt]; rfl
  obtain ⟨y0, y1, hxs⟩ : ∃ y0 y1, xs = [y0, y1] := by
    match xs, hx1 with
    | [y0, y1], _ => exact ⟨y0, y1, rfl⟩
    | [], h => simp at h
    | [_], h => simp at h
    | _ :: _ :: _ :: _, h => simp at h
  subst hxs
  simp only [List.map_cons, List.map_nil, List.cons.injEq, and_true] at hx1
  have f0 := hf 0 _ rfl
  have f1 := hf 1 _ rfl
  have k0 := key 0 _ (nm o) rfl rfl rfl (by omega) (by rw [← hx1.1]; rfl) f0
  have k1 := key 1 _ (nd o) rfl rfl rfl (by omega) (by rw [← hx1.2]; rfl) f1
  have hc := World.var?_cell hg hv
  exact ⟨(hc (o * 2)).trans k0, (hc (o * 2 + 1)).trans k1⟩
theorem alay_err {W : World} {name : String} {g : Nat} {te : String} {d : DataW Unit} (h : VarReads Tryz.prog W name (.iface te d)) (hg : Tryz.prog.globalNamed name = some g) (ht : (Tryz.prog.globals[g]?).map (·.type) = some 25) : ∃ t p, W.cell? ⟨g, 0, none⟩ = some (.iface t p) := by
  obtain ⟨g', t', cs, fuel, p, hg', ht', hv, hd⟩ := h
  obtain rfl := Option.some.inj (hg.symm.trans hg')
  obtain rfl := Option.some.inj (ht.symm.trans ht')
  obtain ⟨fuel', u, v, hcs, _, _⟩ := iface_of_trod Tryz.underlying25 hd
  refine ⟨u, v, ?_⟩
  rw [World.var?_cell hg hv 0, ← Array.getElem?_toList, hcs]; rfl
theorem env_of {W : World} {l : List (String × DataW Unit)} (hL : laidMet Tryz.prog l W) (hs : W.ShapedOpen Tryz.prog)
    (m1 : ("internal/strconv.uint64pow10", Rows.laid_internal_strconv_uint64pow10) ∈ l) (m2 : ("unicode/utf8.first", Rows.laid_unicode_utf8_first) ∈ l) (m3 : ("unicode/utf8.acceptRanges", Rows.laid_unicode_utf8_acceptRanges) ∈ l)
    (m4 : ("halter/asm.operations", Rows.laid_halter_asm_operations) ∈ l) (m5 : ("strconv.ErrSyntax", Rows.laid_strconv_ErrSyntax) ∈ l) (m6 : ("strconv.ErrRange", Rows.laid_strconv_ErrRange) ∈ l) : Env W := by
  obtain ⟨ps, hv, _⟩ := hL
  have r := fun n d h => LaidVars_reads hv n d h
  exact {
    name := fun o ho => (alay_ops (r _ _ m4) o ho).1
    need := fun o ho => (alay_ops (r _ _ m4) o ho).2
    max := Go.Proofs.cell_of_shapedOpen_int (P := Tryz.prog) (t := 3) (zero := #[.int .i64 0]) (k := .i64) hs (by rw [show Tryz.prog.globals.size = 10 by kernel_rfl]; decide) (by kernel_rfl) rfl (by kernel_rfl) (by kernel_rfl) Tryz.underlying3
    pow := alay_pow (r _ _ m1)
    utf := alay_utf (r _ _ m2) (r _ _ m3)
    syn := alay_err (r _ _ m5) (by kernel_rfl) (by kernel_rfl)
    rng := alay_err (r _ _ m6) (by kernel_rfl) (by kernel_rfl) }
end Go.Proofs.YtlpjegclpilaaaaGreatDoor
