/- What the package of tables of two levels does with the numbers of its frames: contracts, for any table in any frames of bytes, in any world. -/
import Derived.Test.YtajhlmiobibhjaaDoorTbMath
import Derived.Test.YtajhlmiobibhjaaDoorTbW
import Derived.Test.YtajhlmiobibhjaaDoorFrF
import Derived.Test.YtajhlmiobibhjaaDoorPhE
import Derived.Test.YtajhlmiobibhjaaDoorEnE
import Derived.Test.YtajhlmiobibhjaaDoorBox
import Derived.RegionTactic
import Derived.ChangeAlike
namespace Go.Proofs.YtajhlmiobibhjaaDoor
open Go.RowKit
set_option linter.unusedVariables false
set_option maxRecDepth 100000
/-- all blocks but some are as they were -/
def But (S : Nat → Prop) (w w' : World) : Prop := w'.os = w.os ∧ w'.tape = w.tape ∧ w'.output = w.output ∧ w.heap.size ≤ w'.heap.size ∧ ∀ k, k < w.heap.size → ¬ S k → w'.heap[k]? = w.heap[k]?
section
variable {S T : Nat → Prop} {a b c w w' : World}
theorem But.refl (S : Nat → Prop) (w : World) : But S w w := ⟨rfl, rfl, rfl, Nat.le_refl _, fun _ _ _ => rfl⟩
theorem But.trans (h : But S a b) (k : But S b c) : But S a c :=
  ⟨k.1.trans h.1, k.2.1.trans h.2.1, k.2.2.1.trans h.2.2.1, Nat.le_trans h.2.2.2.1 k.2.2.2.1, fun i hi hr => (k.2.2.2.2 i (Nat.lt_of_lt_of_le hi h.2.2.2.1) hr).trans (h.2.2.2.2 i hi hr)⟩
theorem But.mono (h : But S a b) (k : ∀ i, i < a.heap.size → S i → T i) : But T a b := ⟨h.1, h.2.1, h.2.2.1, h.2.2.2.1, fun i hi hn => h.2.2.2.2 i hi fun c => hn (k i hi c)⟩
theorem But.of_new (S : Nat → Prop) (h : New w w') : But S w w' := ⟨h.os, h.tape, h.output, h.size, fun k hk _ => h.block hk⟩
theorem But.of_far {rb : Nat} (h : Far rb w w') (k : S rb) : But S w w' := ⟨h.1, h.2.1, h.2.2.1, h.2.2.2.1, fun i hi hn => h.2.2.2.2 i hi fun e => hn (e ▸ k)⟩
theorem But.new (h : But S w w') (k : ∀ i, i < w.heap.size → ¬ S i) : New w w' := ⟨h.1, h.2.1, h.2.2.1, h.2.2.2.1, fun i hi => h.2.2.2.2 i hi (k i hi)⟩
theorem But.size (h : But S w w') : w.heap.size ≤ w'.heap.size := h.2.2.2.1
theorem But.block (h : But S w w') {k : Nat} (hk : k < w.heap.size) (hr : ¬ S k) : w'.heap[k]? = w.heap[k]? := h.2.2.2.2 k hk hr
theorem But.cell (h : But S w w') {p : Addr} (hp : p.block < w.heap.size) (hr : ¬ S p.block) : w'.cell? p = w.cell? p := World.cell?_of_block (h.block hp hr)
theorem Box.but {n : Nat} {cs : Array Value} {t : TypeId} (h : Box w n cs t) (k : But S w w') (hn : ¬ S n) : Box w' n cs t := by unfold Box; rw [k.block h.lt hn]; exact h
theorem Box.ne {n m : Nat} {cs ds : Array Value} {t s : TypeId} (h : Box w n cs t) (k : Box w m ds s) (hts : t ≠ s) : n ≠ m := by
  rintro rfl
  unfold Box at h k
  rw [h] at k; cases k; exact hts rfl
theorem Box.laid {n : Nat} {cs : Array Value} {t : TypeId} (h : Box w n cs t) (hl : Laid w) (hts : t ≠ 73) (hx : ∀ x, cs[0]? = some x → x ≠ (.iface 127 (.agg #[.pointer (some ⟨1, 27, none⟩)]))) : n ≠ 0 := by
  rintro rfl
  unfold Laid at hl
  rw [h.cell] at hl
  exact hx _ hl rfl
end
/-- a table in memory: the struct is block tb; fb its frames, mb its memory, t its first frame -/
def Tb (w : World) (tb fb mb t : Nat) : Prop := Box w tb #[.pointer (some ⟨fb, 0, none⟩), .pointer (some ⟨mb, 0, none⟩), .int .i64 t] 81
/-- a table that was freed -/
def Tb0 (w : World) (tb : Nat) : Prop := Box w tb #[.pointer none, .pointer none, .int .i64 0] 81
section
variable {w : World} {tb fb rb mb qb t many : Nat} {rs bs : List Int}
theorem Tb.cells (h : Tb w tb fb mb t) : w.cell? ⟨tb, 0, none⟩ = some (.pointer (some ⟨fb, 0, none⟩)) ∧ w.cell? ⟨tb, 1, none⟩ = some (.pointer (some ⟨mb, 0, none⟩)) ∧ w.cell? ⟨tb, 2, none⟩ = some (.int .i64 t) := Box.three h
theorem Tb0.cells (h : Tb0 w tb) : w.cell? ⟨tb, 0, none⟩ = some (.pointer none) ∧ w.cell? ⟨tb, 1, none⟩ = some (.pointer none) ∧ w.cell? ⟨tb, 2, none⟩ = some (.int .i64 0) := Box.three h
theorem Tb.new {w' : World} (h : Tb w tb fb mb t) (k : New w w') : Tb w' tb fb mb t := Box.new h k
theorem Tb0.new {w' : World} (h : Tb0 w tb) (k : New w w') : Tb0 w' tb := Box.new h k
theorem Fr.boxes (h : Fr w fb rb rs) : Box w fb #[.slice (some ⟨rb, 0, none⟩) rs.length rs.length] 91 ∧ Box w rb (rs.map (Value.int .i64)).toArray 3 := ⟨h.2.2.1, h.2.2.2⟩
theorem Ph.boxes (h : Ph w mb qb many bs) : Box w mb #[.slice (some ⟨qb, 0, none⟩) many many] 94 ∧ Box w qb (cells8 bs).toArray 125 := ⟨h.2.2.2.2.2.1, h.2.2.2.2.2.2⟩
/-- no two of the blocks are one -/
def Ap (tb fb rb mb qb : Nat) : Prop := tb ≠ rb ∧ tb ≠ qb ∧ tb ≠ fb ∧ tb ≠ mb ∧ fb ≠ rb ∧ fb ≠ qb ∧ mb ≠ rb ∧ mb ≠ qb ∧ rb ≠ qb
theorem ap_of (h : Tb w tb fb mb t) (h1 : Fr w fb rb rs) (h2 : Ph w mb qb many bs) : Ap tb fb rb mb qb :=
  ⟨Box.ne h h1.boxes.2 (by decide), Box.ne h h2.boxes.2 (by decide), Box.ne h h1.boxes.1 (by decide), Box.ne h h2.boxes.1 (by decide), Box.ne h1.boxes.1 h1.boxes.2 (by decide), Box.ne h1.boxes.1 h2.boxes.2 (by decide),
    Box.ne h2.boxes.1 h1.boxes.2 (by decide), Box.ne h2.boxes.1 h2.boxes.2 (by decide), Box.ne h1.boxes.2 h2.boxes.2 (by decide)⟩
theorem cut4 (bs : List Int) (p : Nat) (h : p + 4 ≤ bs.length) : cut bs p 4 = [bs.getD p 0, bs.getD (p + 1) 0, bs.getD (p + 2) 0, bs.getD (p + 3) 0] := by
  apply ext_getD (by rw [cut_len _ _ _ h]; rfl)
  intro j hj
  rw [cut_len _ _ _ h] at hj
  rw [cut_get _ _ _ _ h hj]
  match j, hj with
  | 0, _ => rfl
  | 1, _ => rfl
  | 2, _ => rfl
  | 3, _ => rfl
/-- four bytes of a frame, read -/
theorem read4 (f p : Nat) (h : Ph w mb qb many bs) (hf : f < many) (hp : p < 64) :
    Calls Tryd.prog 45 #[.pointer (some ⟨mb, 0, none⟩), .int .i64 f, .int .i64 (4 * (p : Int)), .int .i64 4] w fun e w' => e = .returned (.tuple #[.slice (some ⟨w.heap.size, 0, none⟩) 4 4, .nilIface]) ∧ New w w' ∧
      w'.heap[w.heap.size]? = some (.cells #[.int .u8 (bs.getD (f * 256 + 4 * p) 0), .int .u8 (bs.getD (f * 256 + 4 * p + 1) 0), .int .u8 (bs.getD (f * 256 + 4 * p + 2) 0), .int .u8 (bs.getD (f * 256 + 4 * p + 3) 0)] 5 (0, 0)) := by
  have X := read_any f (4 * p) 4 h hf (by omega)
  have hf2 := frame_fits h.len hf
  rw [cut4 bs _ (by omega)] at X
  rw [show ((4 * p : Nat) : Int) = 4 * (p : Int) from by omega] at X
  refine X.mono ?_
  rintro e w' ⟨rfl, h1, h2⟩
  exact ⟨rfl, h2, h1⟩
theorem loadn (f p : Nat) (h : Ph w mb qb many bs) (b : Nat) (hb : w.heap[b]? = some (.cells #[.int .u8 (bs.getD (f * 256 + 4 * p) 0), .int .u8 (bs.getD (f * 256 + 4 * p + 1) 0), .int .u8 (bs.getD (f * 256 + 4 * p + 2) 0), .int .u8 (bs.getD (f * 256 + 4 * p + 3) 0)] 5 (0, 0))) :
    Calls Tryd.prog 46 #[.slice (some ⟨b, 0, none⟩) 4 4] w fun e w' => e = .returned (.tuple #[.int .u32 (nm bs f p), .nilIface]) ∧ w = w' := by
  have o := h.oct
  have hx : Box w b _ _ := hb
  have h4 := hx.four
  exact wload4 _ _ _ _ ⟨b, 0, none⟩ w (o.get _).1 (o.get _).2 (o.get _).1 (o.get _).2 (o.get _).1 (o.get _).2 (o.get _).1 (o.get _).2 h4.1 h4.2.1 h4.2.2.1 h4.2.2.2
end
end Go.Proofs.YtajhlmiobibhjaaDoor
