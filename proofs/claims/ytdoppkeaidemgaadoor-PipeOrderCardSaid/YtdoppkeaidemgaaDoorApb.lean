/- Bytes appended to a slice of bytes that the call made: which block is written, where the new slice lies. -/
import Derived.Test.YtdoppkeaidemgaaDoorByts
import Derived.Test.YtdoppkeaidemgaaDoorBut
import Derived.Maps.AppendAt
namespace Go.Proofs.YtdoppkeaidemgaaDoor
open Go.RowKit
set_option linter.unusedVariables false
theorem row_but {row : Option Nat} {w w' : World} (h : w.grownBy w' row) : But (fun x => row = some x) w w' := ⟨h.os, h.tape, h.output, h.size, fun k hk hn => h.block k hk (fun e => hn e.symm)⟩
theorem OwnB.but {S : Nat → Prop} {w w' : World} {b : Nat} {v : Value} {l : List Int} (h : OwnB b w v l) (k : But S w w') (hn : ∀ g, v.ownBlock = some g → ¬ S g) : OwnB b w' v l := by
  refine ⟨h.1, ?_⟩
  rcases h.2 with hh | ⟨g, cap, cur, rfl, hb, hg, rest⟩
  · exact .inl hh
  · exact .inr ⟨g, cap, cur, rfl, hb, by rw [k.block (Array.getElem?_eq_some_iff.1 hg).1 (hn g rfl)]; exact hg, rest⟩
theorem OwnB.lt {w : World} {b : Nat} {v : Value} {l : List Int} (h : OwnB b w v l) {g : Nat} (hg : v.ownBlock = some g) : g < w.heap.size := (World.ownsRow.lt h g hg).2
theorem run_app_b (w : World) (v : Value) (xs : List Int) (hown : OwnB 0 w v xs) (u : Value) (l : List Int) (hu : Byts w u l) (hlen : xs.length + l.length ≤ 1000000) :
    ∃ v' w', (Builtin.append_ #[22, 22] 22 #[v, u]).run Tryd.prog w = .ok v' w' ∧ OwnB 0 w' v' (xs ++ l) ∧ But (fun g => v.ownBlock = some g) w w' ∧ ∀ g, v'.ownBlock = some g → v.ownBlock = some g ∨ g = w.heap.size := by
  obtain ⟨i0, hi, hz0, hz1, hz2⟩ := info_parts byte_info
  obtain ⟨p, cap, rfl, hlm, hc⟩ := hu
  rcases p with _ | ad
  · have hl : l = [] := by
      rcases l with _ | ⟨x, l⟩
      · rfl
      · obtain ⟨a, ha, _⟩ := hc 0 (by simp); cases ha
    subst hl
    refine ⟨v, w, ?_, by rw [List.append_nil]; exact hown, But.refl _ _, fun g hg => .inl hg⟩
    rcases hown.2 with ⟨rfl, hn⟩ | ⟨g, cap', cur, rfl, _, _, hnc, _⟩
    · simp [Builtin.append_, run_underlying Tryd.underlying22, sizeOf, typeInfo, hi, Builtin.lenOf, Builtin.firstCells]
    · simp [Builtin.append_, run_underlying Tryd.underlying22, sizeOf, typeInfo, hi, Builtin.lenOf, Builtin.firstCells, hnc, storeCells]
  · obtain ⟨v', w', h1, h2, h3, -, h5⟩ := run_append_own_at (P := Tryd.prog) w 0 22 22 5 i0 (.int .u8 0) 1 1 Tryd.underlying22 hi hz0 hz1 hz2 rfl (by decide) v xs.length (cells8 xs) hown ad l.length cap (cells8 l)
      (by rw [cells8_len]; omega) (fun j u hu => by
        obtain ⟨hj, rfl⟩ := cells8_get hu
        obtain ⟨a', e, hcc⟩ := hc j hj
        cases e; exact hcc) cells8_one (by unfold maxLen; omega) (by omega) (Nat.zero_le _)
    refine ⟨v', w', h1, ?_, row_but h3, fun g hg => ?_⟩
    · unfold OwnB
      rw [List.length_append, show cells8 (xs ++ l) = cells8 xs ++ cells8 l by simp [cells8]]
      exact h2
    · rcases h5 with e | e
      · exact .inl (by rw [← e]; exact hg)
      · right; rw [e] at hg; exact (Option.some.inj hg).symm
/-- append of bytes to a slice of bytes that the call made -/
theorem wpList_app_b {w : World} {ops : Array Oper} {rest : List Oper} {o : Oper} {a : Act} {Q : Exit → Act → World → Prop} (hgd : o.guard = none) (s x : Operand)
    (ho : o.op = .call { callee := .builtin .append, args := #[s, x], argTypes := #[22, 22] }) (hty : o.type = 22)
    (v : Value) (xs : List Int) (hs : a.eval s = v) (hown : OwnB 0 w v xs) (u : Value) (l : List Int) (hx : a.eval x = u) (hu : Byts w u l) (hlen : xs.length + l.length ≤ 1000000)
    (h : ∀ v' w', OwnB 0 w' v' (xs ++ l) → But (fun g => v.ownBlock = some g) w w' → (∀ g, v'.ownBlock = some g → v.ownBlock = some g ∨ g = w.heap.size) → wpList Tryd.prog ops Q rest (a.put o.dst v') w') : wpList Tryd.prog ops Q (o :: rest) a w := by
  obtain ⟨v', w', hr, h2, h3, h4⟩ := run_app_b w v xs hown u l hu hlen
  refine wpList_plain hgd fun _ hK => ?_
  unfold Oper.wp execOp
  rw [← hty] at hr
  simp only [ho, resolve, invoke, builtin, Sem.run_bind, Sem.run_pure, Result.andThen_ok, List.map_toArray, List.map_cons, List.map_nil, hs, hx]
  rw [hty] at hr ⊢
  simp only [hr]
  exact hK _ _ (h v' w' h2 h3 h4)
end Go.Proofs.YtdoppkeaidemgaaDoor
