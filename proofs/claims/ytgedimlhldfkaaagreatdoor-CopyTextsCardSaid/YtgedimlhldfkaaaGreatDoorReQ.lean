/- The document's own answers on regions: whether they may be, in any world; and the list of pages that are used in some way, as plain lists. -/
import Derived.Test.YtgedimlhldfkaaaGreatDoorReK
import Derived.Test.YtgedimlhldfkaaaGreatDoorReL
import Derived.BigQuiet
import Derived.Deep.QuietTactic
import Derived.Deep.OwnRows
namespace Go.Proofs.YtgedimlhldfkaaaGreatDoor
open Go.RowKit
set_option linter.unusedVariables false
set_option maxRecDepth 100000
theorem dRange_any (w : World) (a b : Int) : Calls Tryz.prog 155 #[.int .i64 a, .int .i64 b] w fun e w' => e = .returned (.bool (okP a b)) ∧ w = w' := by
  unfold okP
  by_cases c0 : 0 ≤ a
  · have d0 : decide (0 ≤ a) = true := by simpa using c0
    rw [d0]
    by_cases c1 : a < b
    · have d1 : decide (a < b) = true := by simpa using c1
      rw [d1]
      generalize hd2 : decide (b ≤ 4096) = d2
      go_enter Tryz.func155, Tryz.ntmps155
      go_wp2
      go_ret
      exact ⟨by cases d2 <;> rfl, rfl⟩
    · have d1 : decide (a < b) = false := by simpa using c1
      rw [d1]
      go_enter Tryz.func155, Tryz.ntmps155
      go_wp2
      go_ret
      exact ⟨rfl, rfl⟩
  · have d0 : decide (0 ≤ a) = false := by simpa using c0
    rw [d0]
    go_enter Tryz.func155, Tryz.ntmps155
    go_wp2
    go_ret
    exact ⟨rfl, rfl⟩
theorem dOne_any (w : World) (r : Rg) : Calls Tryz.prog 152 #[.agg #[.int .i64 r.f, .int .i64 r.t, .int .u8 (r.p : Int)]] w (BoolN (okR r) w) := by
  obtain ⟨f, t, p⟩ := r
  unfold okR
  simp only
  have q := fun w => dRange_any w f t
  generalize okP f t = d at *
  cases d with
  | false =>
    go_enter Tryz.func152, Tryz.ntmps152
    go_wp2_with (go_at_call 155; (with_reducible refine (q _).mono ?_); rintro e w' ⟨rfl, rfl⟩)
    go_ret
    exact ⟨rfl, by repeat (first | exact New.refl _ | refine New.alloc ?_ _ _)⟩
  | true =>
    have e : decide ((p : Int) ≤ 7) = decide (p ≤ 7) := by
      by_cases h : p ≤ 7
      · rw [decide_eq_true h, decide_eq_true (by omega)]
      · rw [decide_eq_false h, decide_eq_false (by omega)]
    generalize decide (p ≤ 7) = d2 at *
    go_enter Tryz.func152, Tryz.ntmps152
    go_wp2_with (go_at_call 155; (with_reducible refine (q _).mono ?_); rintro e w' ⟨rfl, rfl⟩)
    go_ret
    exact ⟨rfl, by repeat (first | exact New.refl _ | refine New.alloc ?_ _ _)⟩
set_option maxHeartbeats 2000000 in
theorem dMay_any (w : World) (v : Value) (l : List Rg) (h : RgsA w v l) : Calls Tryz.prog 151 #[v] w (BoolN (rokb l) w) := by
  obtain ⟨p, cap, rfl⟩ := h.shape
  have hB := h.len
  have HR := Lib.hid h
  clear h
  have QR := fun w r => dOne_any w r
  go_enter Tryz.func151, Tryz.ntmps151
  go_wp2
  go_loopg [3] l.length (fun k i wr => ∃ j : Nat, j + k = l.length ∧ i = .int .i64 (j : Int) ∧ New w wr ∧ ∀ i (h : i < l.length), i < j → okR l[i] = true ∧ ∀ j, j + 1 = i → ∀ (hj : j < l.length), RFol l[j] l[i])
  case atStart => exact ⟨0, by omega, rfl, New.refl _, fun i _ h => absurd h (Nat.not_lt_zero _)⟩
  case round =>
    obtain ⟨j, hj, rfl, hn, hok⟩ := hrel
    by_cases c : j < l.length
    · have HO := Lib.hid hok
      have HN := Lib.hid hn
      have J := Lib.hid hj
      obtain ⟨x, rfl, hx⟩ := HR.out.at_ j c
      have cx := hx.new hn
      have qr := QR wr l[j]
      obtain ⟨r, hr⟩ : ∃ r, r = l[j] := ⟨_, rfl⟩
      have HRe := Lib.hid hr
      rw [← hr] at cx qr
      clear hok hn hj hr hx
      obtain ⟨c0, c1, c2⟩ := cx.cells
      cases hokr : okR r with
      | false =>
        rw [hokr] at qr
        have hb : rokb l = false := rokb_not.2 fun k => by
          have := RCh.mem k l[j] (List.getElem_mem c)
          rw [← HRe.out, hokr] at this; cases this
        have HB := Lib.hid hb
        clear hokr hb
        go_wp2_with (go_at_call 152; (with_reducible refine qr.mono ?_); rintro e w2 ⟨rfl, n2⟩)
        go_ret
        exact ⟨by rw [HB.out]; rfl, HN.out.trans n2⟩
      | true =>
        rw [hokr] at qr
        have HKr := Lib.hid hokr
        clear hokr
        by_cases c0j : j = 0
        · have HJ := Lib.hid c0j
          have g0 : decide (0 < j) = false := by simp; omega
          have g0' : decide (0 < (j : Int)) = false := by simp; omega
          clear c0j
          go_wp2_with (go_at_call 152; (with_reducible refine qr.mono ?_); rintro e w2 ⟨rfl, n2⟩)
          have N3 := Lib.hid (fun n => HN.out.trans (n2.drewN n))
          go_quiet (fail)
          go_wp2
          go_roundg (l.length - (j + 1))
          case measure => have := J.out; omega
          case rel =>
            refine ⟨j + 1, by have := J.out; omega, by go_num, N3.out _, fun q hq hqj => ?_⟩
            by_cases e : q < j
            · exact HO.out q hq e
            · obtain rfl : q = j := by omega
              exact ⟨by rw [← HRe.out]; exact HKr.out, fun z hz _ => by have := HJ.out; omega⟩
        · obtain ⟨i, hi⟩ : ∃ i, i + 1 = j := ⟨j - 1, by omega⟩
          have HJ := Lib.hid hi
          have hil : i < l.length := by omega
          have g0 : decide (0 < j) = true := by simp; omega
          have gs : IntKind.i64.wrap ((j : Int) - 1) = (i : Int) := by rw [IntWalk.i64_in _ (by omega)]; omega
          obtain ⟨x', ex, hxp⟩ := HR.out.at_ i hil
          cases ex
          have py := hxp.new HN.out
          obtain ⟨y, hy⟩ : ∃ y, y = l[i] := ⟨_, rfl⟩
          have HY := Lib.hid hy
          rw [← hy] at py
          clear c0j hi hy hxp
          by_cases t1 : r.f < y.t
          · have d1 : decide (r.f < y.t) = true := by simpa using t1
            have HF := Lib.hid (show rokb l = false from rokb_not.2 fun k => by
              have := ((rch_iff l).1 k j c).2 i HJ.out hil
              rw [← HRe.out, ← HY.out] at this
              have := folR_iff.1 this
              omega)
            clear t1
            go_wp2_with (go_at_call 152; (with_reducible refine qr.mono ?_); rintro e w2 ⟨rfl, n2⟩; obtain ⟨e0, e1, e2⟩ := cx.new n2; obtain ⟨p0, p1, p2⟩ := py.new n2)
            have N3 := Lib.hid (fun n => HN.out.trans (n2.drewN n))
            go_quiet (fail)
            go_wp2
            go_ret
            exact ⟨by rw [HF.out]; rfl, N3.out _⟩
          · have d1 : decide (r.f < y.t) = false := by simpa using t1
            by_cases t2 : y.t = r.f
            · have d2 : (y.t == r.f) = true := by simpa using t2
              by_cases t3 : y.p = r.p
              · have d3 : ((y.p : Int) == (r.p : Int)) = true := by simp [t3]
                have HF := Lib.hid (show rokb l = false from rokb_not.2 fun k => by
                  have := ((rch_iff l).1 k j c).2 i HJ.out hil
                  rw [← HRe.out, ← HY.out] at this
                  have := folR_iff.1 this
                  omega)
                clear t1 t2 t3
                go_wp2_with (go_at_call 152; (with_reducible refine qr.mono ?_); rintro e w2 ⟨rfl, n2⟩; obtain ⟨e0, e1, e2⟩ := cx.new n2; obtain ⟨p0, p1, p2⟩ := py.new n2)
                have N3 := Lib.hid (fun n => HN.out.trans (n2.drewN n))
                go_quiet (fail)
                go_wp2
                go_ret
                exact ⟨by rw [HF.out]; rfl, N3.out _⟩
              · have d3 : ((y.p : Int) == (r.p : Int)) = false := by simp; omega
                have HF := Lib.hid (show RFol y r from folR_iff.2 (by omega))
                clear t1 t2 t3
                go_wp2_with (go_at_call 152; (with_reducible refine qr.mono ?_); rintro e w2 ⟨rfl, n2⟩; obtain ⟨e0, e1, e2⟩ := cx.new n2; obtain ⟨p0, p1, p2⟩ := py.new n2)
                have N3 := Lib.hid (fun n => HN.out.trans (n2.drewN n))
                go_quiet (fail)
                go_wp2
                go_roundg (l.length - (j + 1))
                case measure => have := J.out; omega
                case rel =>
                  refine ⟨j + 1, by have := J.out; omega, by go_num, N3.out _, fun q hq hqj => ?_⟩
                  by_cases e : q < j
                  · exact HO.out q hq e
                  · obtain rfl : q = j := by omega
                    refine ⟨by rw [← HRe.out]; exact HKr.out, fun z hz hzl => ?_⟩
                    obtain rfl : z = i := by have := HJ.out; omega
                    rw [← HRe.out, ← HY.out]; exact HF.out
            · have d2 : (y.t == r.f) = false := by simpa using t2
              have HF := Lib.hid (show RFol y r from folR_iff.2 (by omega))
              clear t1 t2
              go_wp2_with (go_at_call 152; (with_reducible refine qr.mono ?_); rintro e w2 ⟨rfl, n2⟩; obtain ⟨e0, e1, e2⟩ := cx.new n2; obtain ⟨p0, p1, p2⟩ := py.new n2)
              have N3 := Lib.hid (fun n => HN.out.trans (n2.drewN n))
              go_quiet (fail)
              go_wp2
              go_roundg (l.length - (j + 1))
              case measure => have := J.out; omega
              case rel =>
                refine ⟨j + 1, by have := J.out; omega, by go_num, N3.out _, fun q hq hqj => ?_⟩
                by_cases e : q < j
                · exact HO.out q hq e
                · obtain rfl : q = j := by omega
                  refine ⟨by rw [← HRe.out]; exact HKr.out, fun z hz hzl => ?_⟩
                  obtain rfl : z = i := by have := HJ.out; omega
                  rw [← HRe.out, ← HY.out]; exact HF.out
    · obtain rfl : j = l.length := by omega
      have hb : rokb l = true := rokb_iff.2 ((rch_iff l).2 fun i hi => hok i hi hi)
      go_wp2
      go_ret
      exact ⟨by rw [hb]; rfl, hn⟩
end Go.Proofs.YtgedimlhldfkaaaGreatDoor
namespace Go.Proofs.YtgedimlhldfkaaaGreatDoor
open Go.RowKit Go.Joins
set_option linter.unusedVariables false
set_option maxRecDepth 100000
/-- how a page is used, as a number, and back -/
def mv : Option Nat → Int
  | none => -1
  | some p => p
def mp (x : Int) : Option Nat := if x < 0 then none else some x.toNat
theorem mp_mv (o : Option Nat) : mp (mv o) = o := by
  cases o with
  | none => rfl
  | some p => unfold mp mv; simp only; rw [if_neg (by omega)]; simp
theorem mv_neg (o : Option Nat) : mv o < 0 ↔ o = none := by
  cases o with
  | none => simp [mv]
  | some p => simp only [mv]; constructor <;> intro h; omega; cases h
/-- the last one's end -/
def setLast (l : List Rg) (t : Int) : List Rg := match l.getLast? with | some x => l.dropLast ++ [⟨x.f, t, x.p⟩] | none => []
theorem setLast_snoc (m : List Rg) (x : Rg) (t : Int) : setLast (m ++ [x]) t = m ++ [⟨x.f, t, x.p⟩] := by unfold setLast; rw [List.getLast?_concat]; simp
/-- the regions of pages -/
def dl (g : Nat → Int) : Nat → List Rg
  | 0 => []
  | n + 1 => if g n < 0 then dl g n else if 0 < n ∧ g (n - 1) = g n then setLast (dl g n) (n + 1) else dl g n ++ [⟨n, n + 1, (g n).toNat⟩]
structure DlOk (g : Nat → Int) (n : Nat) : Prop where
  ok : ROk (dl g n)
  pgs : ∀ q : Int, rpg (dl g n) q = if 0 ≤ q ∧ q < n then mp (g q.toNat) else none
  below : ∀ s ∈ dl g n, s.t ≤ n
  last : 0 < n → 0 ≤ g (n - 1) → ∃ (m : List Rg) (x : Rg), dl g n = m ++ [x] ∧ x.t = (n : Int) ∧ x.p = (g (n - 1)).toNat
  ends : ∀ (m : List Rg) (x : Rg), dl g n = m ++ [x] → x.t = (n : Int) → 0 < n ∧ g (n - 1) = x.p
  len : (dl g n).length ≤ n
theorem dl_ok (g : Nat → Int) (h7 : ∀ i, i < 4096 → g i ≤ 7) : ∀ n, n ≤ 4096 → DlOk g n
  | 0, _ => { ok := trivial, pgs := fun q => by rw [if_neg (by omega)]; rfl, below := fun s hs => absurd hs List.not_mem_nil, last := fun h => absurd h (Nat.lt_irrefl 0), ends := fun m x h _ => by have := congrArg List.length h; simp [dl] at this, len := Nat.le_refl _ }
  | n + 1, hn => by
    have ih := dl_ok g h7 n (by omega)
    have h7n := h7 n (by omega)
    have hpq : ∀ (q : Int) (A : Option Nat), A = mp (g n) → (if 0 ≤ q ∧ q < (n : Int) then mp (g q.toNat) else none).or (if q = n then A else none) = if 0 ≤ q ∧ q < ((n + 1 : Nat) : Int) then mp (g q.toNat) else none := by
      intro q A hA
      by_cases c : q = n
      · subst c
        rw [if_neg (by omega), if_pos rfl, if_pos (by omega), hA]; simp
      · rw [if_neg c]
        by_cases d : 0 ≤ q ∧ q < (n : Int)
        · rw [if_pos d, if_pos (by omega)]; simp
        · rw [if_neg d, if_neg (by omega)]; rfl
    by_cases c : g n < 0
    · have e : dl g (n + 1) = dl g n := by simp only [dl]; rw [if_pos c]
      have hm : mp (g n) = none := by unfold mp; rw [if_pos c]
      refine { ok := by rw [e]; exact ih.ok, pgs := fun q => ?_, below := fun s hs => by rw [e] at hs; have := ih.below s hs; omega, last := fun _ h => ?_, ends := fun m x h ht => ?_, len := by rw [e]; have := ih.len; omega }
      · rw [e, ih.pgs q, ← hpq q none hm.symm]; simp
      · simp only [Nat.add_sub_cancel] at h; omega
      · rw [e] at h
        have := ih.below x (by rw [h]; simp)
        omega
    · have hm : mp (g n) = some (g n).toNat := by unfold mp; rw [if_neg c]
      by_cases d : 0 < n ∧ g (n - 1) = g n
      · obtain ⟨m, x, hx, hxt, hxp⟩ := ih.last d.1 (by omega)
        have e : dl g (n + 1) = m ++ [⟨x.f, ((n : Int) + 1), x.p⟩] := by simp only [dl]; rw [if_neg c, if_pos d, hx, setLast_snoc]
        have hok := ih.ok
        rw [hx] at hok
        obtain ⟨k1, k2, k3⟩ := (rch_append _ _).1 hok
        have hxo := okR_iff.1 k2.1
        refine { ok := ?_, pgs := fun q => ?_, below := fun s hs => ?_, last := fun _ _ => ⟨m, _, e, by simp only; omega, by simp only [Nat.add_sub_cancel]; rw [hxp, d.2]⟩, ends := fun m' x' h ht => ?_, len := ?_ }
        · rw [e]
          refine (rch_append _ _).2 ⟨k1, ⟨okR_iff.2 (by simp only; omega), fun s hs => by simp at hs, trivial⟩, fun a b ha hb => ?_⟩
          simp at hb
          have := folR_iff.1 (k3 a x ha (by simp))
          subst hb
          exact folR_iff.2 this
        · have hp := ih.pgs q
          rw [hx, rpg_append, rpg_one] at hp
          rw [e, rpg_append, rpg_one, ← hpq q _ hm.symm, ← hp, Option.or_assoc]
          congr 1
          by_cases f1 : inR x q = true
          · rw [if_pos f1, if_pos]; rfl
            rw [inR_iff] at f1 ⊢; simp only; omega
          · rw [if_neg f1]
            by_cases f2 : q = n
            · rw [if_pos f2, if_pos]
              · simp [hxp, d.2]
              · rw [inR_iff]; simp only; omega
            · rw [if_neg f2, if_neg]; rfl
              rw [inR_iff] at f1 ⊢; simp only; omega
        · rw [e] at hs
          rcases List.mem_append.1 hs with hs | hs
          · have := ih.below s (by rw [hx]; exact List.mem_append_left _ hs); omega
          · rw [List.mem_singleton.1 hs]; simp only; omega
        · rw [e] at h
          have := (List.append_inj' h rfl).2
          simp at this
          subst this
          simp only [Nat.add_sub_cancel]
          exact ⟨by omega, by rw [hxp]; omega⟩
        · have := ih.len
          rw [hx] at this
          rw [e]; simp at this ⊢; omega
      · have e : dl g (n + 1) = dl g n ++ [⟨n, (n : Int) + 1, (g n).toNat⟩] := by simp only [dl]; rw [if_neg c, if_neg d]
        refine { ok := ?_, pgs := fun q => ?_, below := fun s hs => ?_, last := fun _ _ => ⟨_, _, e, by simp only; omega, by simp only [Nat.add_sub_cancel]⟩, ends := fun m' x' h ht => ?_, len := by rw [e]; have := ih.len; simp; omega }
        · rw [e]
          refine (rch_append _ _).2 ⟨ih.ok, ⟨okR_iff.2 (by simp only; omega), fun s hs => by simp at hs, trivial⟩, fun a b ha hb => ?_⟩
          simp at hb
          subst hb
          have h1 := ih.below a (rgetLast_mem ha)
          refine folR_iff.2 ⟨by simp only; omega, ?_⟩
          rintro ⟨h2, h3⟩
          simp only at h2 h3
          obtain ⟨m, hm2⟩ : ∃ m, dl g n = m ++ [a] := by
            rcases rsnoc_of (dl g n) with h | ⟨m, b, h⟩
            · rw [h] at ha; cases ha
            · rw [h] at ha; simp at ha; subst ha; exact ⟨m, h⟩
          have h4 := ih.ends m a hm2 h2
          exact d ⟨h4.1, by omega⟩
        · rw [e, rpg_append, rpg_one, ih.pgs q, ← hpq q _ hm.symm]
          congr 1
          by_cases f2 : q = n
          · rw [if_pos f2, if_pos]; rw [inR_iff]; simp only; omega
          · rw [if_neg f2, if_neg]; rw [inR_iff]; simp only; omega
        · rw [e] at hs
          rcases List.mem_append.1 hs with hs | hs
          · have := ih.below s hs; omega
          · rw [List.mem_singleton.1 hs]; simp only; omega
        · rw [e] at h
          have := (List.append_inj' h rfl).2
          simp at this
          subst this
          simp only [Nat.add_sub_cancel]
          exact ⟨by omega, by omega⟩
/-- the regions of the pages of a list that may be are that list -/
theorem dl_same {g : Nat → Int} {l : List Rg} (h7 : ∀ i, i < 4096 → g i ≤ 7) (hl : ROk l) (h : ∀ i, i < 4096 → mp (g i) = rpg l i) : dl g 4096 = l := by
  have k := dl_ok g h7 4096 (Nat.le_refl _)
  refine ROk.uniq k.ok hl fun q => ?_
  rw [k.pgs q]
  by_cases c : 0 ≤ q ∧ q < ((4096 : Nat) : Int)
  · rw [if_pos c, h q.toNat (by omega), show ((q.toNat : Nat) : Int) = q by omega]
  · rw [if_neg c, hl.asc.pg_out (by omega)]
end Go.Proofs.YtgedimlhldfkaaaGreatDoor
namespace Go.Proofs.YtgedimlhldfkaaaGreatDoor
open Go.RowKit Go.Joins
set_option linter.unusedVariables false
set_option maxRecDepth 100000
/-- pages in memory: a number each -/
def Mp (w : World) (g : Nat) (M : Nat → Int) : Prop := w.heap[g]? = some (.cells ((List.range 4096).map fun i => Value.int .i64 (M i)).toArray 3 (0, 0))
def upd (M : Nat → Int) (p : Nat) (v : Int) : Nat → Int := fun i => if i = p then v else M i
section
variable {w w' : World} {g : Nat} {M : Nat → Int}
theorem Mp.lt (h : Mp w g M) : g < w.heap.size := (Array.getElem?_eq_some_iff.1 h).1
theorem Mp.new (h : Mp w g M) (k : New w w') : Mp w' g M := by unfold Mp; rw [k.block h.lt]; exact h
theorem Mp.cell (h : Mp w g M) (p : Nat) (hp : p < 4096) : w.cell? ⟨g, p, none⟩ = some (.int .i64 (M p)) := by
  rw [cell_of_block h p]; simp [hp]
theorem Mp.unfrozen (h : Mp w g M) (p : Nat) : w.frozen? ⟨g, p, none⟩ = false := unfrozen_of_block h p
theorem Mp.set (h : Mp w g M) (p : Nat) (v : Int) : Mp (w.setCell ⟨g, p, none⟩ (.int .i64 v)) g (upd M p v) := by
  unfold Mp
  rw [block_setCell h]
  congr 2
  rw [List.setIfInBounds_toArray]
  congr 1
  apply List.ext_getElem
  · simp
  · intro i h1 h2
    rw [List.getElem_set]
    simp only [List.getElem_map, List.getElem_range, upd]
    by_cases e : p = i
    · rw [if_pos e, if_pos e.symm]
    · rw [if_neg e, if_neg (Ne.symm e)]
theorem Mp.other (h : Mp w g M) {b : Nat} (hb : b ≠ g) (i : Nat) (v : Value) : Mp (w.setCell ⟨b, i, none⟩ v) g M := by
  unfold Mp; rw [Below.heap_setCell _ _ _ _ (Ne.symm hb)]; exact h
end
theorem int_info13 : (Tryz.prog.info? 3).map (fun i => (i.zero, i.size, i.bytes)) = some (some (.int .i64 0), 1, 8) := by kernel_rfl
theorem refr_info : (Tryz.prog.info? 50).map (fun i => (i.zero, i.size, i.bytes)) = some (some (.agg #[.int .i64 0, .int .i64 0, .int .u8 0]), 3, 24) := by kernel_rfl
theorem made_zeros : ∃ Z : Array Value, Z = madeCells #[Value.int .i64 0] 4096 ∧ Z = ((List.range 4096).map fun _ => Value.int .i64 0).toArray := by
  refine ⟨_, rfl, ?_⟩
  apply Array.ext
  · simp [madeCells]
  · intro i h1 h2
    simp [madeCells, Nat.mod_one] at h1 ⊢
theorem take_dis {L : List Rg} (hO : ROk L) {j : Nat} (hj : j < L.length) {q : Int} (hq : inR L[j] q = true) : rpg (L.take j) q = none := by
  have hA : RAsc (L.take j ++ [L[j]]) := by
    rw [← List.take_succ_eq_append_getElem hj]
    have := hO.asc
    rw [← List.take_append_drop (j + 1) L] at this
    exact ((rch_append _ _).1 this).1
  refine rpg_none.2 fun s hs => ?_
  have := RAsc.below hA s hs
  have := inR_iff.1 hq
  rw [inR_not]; omega
set_option maxHeartbeats 4000000 in
theorem dMap_any (w : World) (v : Value) (L : List Rg) (h : RgsA w v L) (hO : ROk L) : Calls Tryz.prog 153 #[v] w fun e w' => ∃ g M, e = .returned (.slice (some ⟨g, 0, none⟩) 4096 4096) ∧ w.heap.size ≤ g ∧ Mp w' g M ∧ (∀ i, i < 4096 → M i = mv (rpg L i)) ∧ New w w' := by
  obtain ⟨Z, hZ, hZ2⟩ := made_zeros
  have hmk : ∀ W : World, (Instr.makeSlice 43 (.int .i64 4096) (.int .i64 4096)).run Tryz.prog W = .ok (.slice (some ⟨W.heap.size, 0, none⟩) 4096 4096) (W.alloc (.cells (madeCells #[Value.int .i64 0] 4096) 3)) :=
    run_make_row' (P := Tryz.prog) 43 3 (.int .i64 0) 8 Tryz.underlying43 int_info13 rfl .i64 .i64 4096 (by omega) (by omega)
  rw [← hZ] at hmk
  have M0 : Mp (w.alloc (.cells Z 3)) w.heap.size (fun _ => 0) := by rw [hZ2]; exact heap_alloc_new w _
  have N0 : New w (w.alloc (.cells Z 3)) := (New.refl w).alloc _ _
  obtain ⟨p, cap, rfl⟩ := h.shape
  have hB := h.len
  have HR := Lib.hid h
  have HO := Lib.hid hO
  clear h hO hZ hZ2
  go_enter Tryz.func153, Tryz.ntmps153
  go_wp2
  go_loopg [4] 4096 (fun k i wr => ∃ (j : Nat) (M : Nat → Int), j + k = 4096 ∧ i = .int .i64 (j : Int) ∧ Mp wr w.heap.size M ∧ (∀ i, i < j → M i = -1) ∧ New w wr)
  case atStart => exact ⟨0, _, by omega, rfl, M0, fun i hi => absurd hi (Nat.not_lt_zero _), N0⟩
  case round =>
    clear M0 N0
    obtain ⟨j, M, hj, rfl, hM, hm, hn⟩ := hrel
    have J := Lib.hid hj
    by_cases c : j < 4096
    · have c0 := hM.cell j c
      have f0 := hM.unfrozen j
      have hlt := hM.lt
      have HN := Lib.hid (hn.setCell (p := ⟨w.heap.size, j, none⟩) (Nat.le_refl _) (.int .i64 (-1)))
      have HM := Lib.hid (hM.set j (-1))
      have Hm := Lib.hid hm
      have g1 : decide ((j : Int) < 4096) = true := by simp; omega
      clear hj hM hm hn
      go_wp2
      go_roundg (4096 - (j + 1))
      case measure => have := J.out; omega
      case rel =>
        refine ⟨j + 1, _, by have := J.out; omega, by go_num, HM.out, fun i hi => ?_, HN.out⟩
        unfold upd
        by_cases e : i = j
        · rw [if_pos e]
        · rw [if_neg e]; exact Hm.out i (by omega)
    · obtain rfl : j = 4096 := by omega
      go_wp2
      go_loopg [5] L.length (fun k i wr => ∃ (j : Nat) (M : Nat → Int), j + k = L.length ∧ i = .int .i64 (j : Int) ∧ Mp wr w.heap.size M ∧ (∀ i, i < 4096 → M i = mv (rpg (L.take j) i)) ∧ New w wr)
      case atStart => exact ⟨0, _, by omega, rfl, hM, (fun i hi => by rw [hm i hi]; rfl), hn⟩
      case round =>
        clear hM hm hn hj J c
        obtain ⟨j, M, hj, rfl, hM, hm, hn⟩ := hrel
        have J := Lib.hid hj
        by_cases c : j < L.length
        · obtain ⟨x, rfl, hx⟩ := HR.out.at_ j c
          have hr := okR_iff.1 (RCh.mem HO.out _ (List.getElem_mem c))
          have HT := Lib.hid (show ∀ q : Int, rpg (L.take (j + 1)) q = if inR L[j] q = true then some (L[j]).p else rpg (L.take j) q from fun q => by
            rw [List.take_succ_eq_append_getElem c, rpg_append, rpg_one]
            by_cases e : inR L[j] q = true
            · rw [if_pos e, if_pos e, take_dis HO.out c e]; rfl
            · rw [if_neg e, if_neg e]; simp)
          generalize L[j] = r at *
          obtain ⟨f, t, pr⟩ := r
          simp only at hr HT
          obtain ⟨F, rfl⟩ := Int.eq_ofNat_of_zero_le hr.1
          obtain ⟨T, rfl⟩ := Int.eq_ofNat_of_zero_le (show 0 ≤ t by omega)
          obtain ⟨c0, c1, c2⟩ := hx.new hn
          simp only at c0 c1 c2
          have C0 := Lib.hid hx
          have hFT : F < T := by omega
          have hT4 : T ≤ 4096 := by omega
          have hp7 : pr ≤ 7 := hr.2.2.2
          have Hm := Lib.hid hm
          clear hj hr hx
          go_wp2
          have HN0 := Lib.hid hn
          have e0 : ∀ M2 : Nat → Int, (∀ i, i < 4096 → M2 i = M i) → ∀ i, i < 4096 → M2 i = if F ≤ i ∧ i < F + 0 then (pr : Int) else mv (rpg (L.take j) i) := fun M2 k i hi => by rw [if_neg (by omega), k i hi]; exact Hm.out i hi
          go_loopg [6] (T - F) (fun k i wr => ∃ (q : Nat) (M2 : Nat → Int), q + k = T - F ∧ i = .int .i64 ((F + q : Nat) : Int) ∧ Mp wr w.heap.size M2 ∧ (∀ i, i < 4096 → M2 i = if F ≤ i ∧ i < F + q then (pr : Int) else mv (rpg (L.take j) i)) ∧ New w wr)
          case atStart => exact ⟨0, M, by omega, rfl, hM, e0 M (fun _ _ => rfl), hn⟩
          case round =>
            clear hM hm hn e0
            obtain ⟨q, M2, hq, rfl, hM, hm, hn2⟩ := hrel
            have Q := Lib.hid hq
            have Hm2 := Lib.hid hm
            obtain ⟨d0, d1, d2⟩ := (C0.out).new hn2
            simp only at d0 d1 d2
            generalize hFq : F + q = m at *
            have HFq := Lib.hid hFq
            by_cases cq : m < T
            · have k0 := hM.cell m (by omega)
              have f0 := hM.unfrozen m
              have hlt := hM.lt
              have HN := Lib.hid (hn2.setCell (p := ⟨w.heap.size, m, none⟩) (Nat.le_refl _) (.int .i64 (pr : Int)))
              have HM := Lib.hid (hM.set m (pr : Int))
              clear hq hFq hM hm hn2 c0 c1 c2
              go_wp2
              go_roundg (T - F - (q + 1))
              case measure => have := Q.out; have := HFq.out; omega
              case rel =>
                refine ⟨q + 1, _, by have := Q.out; have := HFq.out; omega, by rw [show F + (q + 1) = m + 1 by have := HFq.out; omega]; go_num, HM.out, fun i hi => ?_, HN.out⟩
                unfold upd
                have := HFq.out
                by_cases e : i = m
                · rw [if_pos e, if_pos (by omega)]
                · rw [if_neg e, Hm2.out i hi]
                  by_cases e2 : F ≤ i ∧ i < F + q
                  · rw [if_pos (by omega), if_pos (by omega)]
                  · rw [if_neg (by omega), if_neg (by omega)]
            · have HM := Lib.hid hM
              have HN := Lib.hid hn2
              have hq2 : F + q = T := by omega
              have HQ2 := Lib.hid hq2
              clear hq hFq hM hm hn2 c0 c1 c2 hq2
              go_wp2
              go_roundg (L.length - (j + 1))
              case measure => have := J.out; omega
              case rel =>
                refine ⟨j + 1, M2, by have := J.out; omega, by go_num, HM.out, fun i hi => ?_, HN.out⟩
                have hz := Hm2.out i hi
                have hq3 := HQ2.out
                rw [hz, HT.out]
                by_cases e : F ≤ i ∧ i < m
                · rw [if_pos e, if_pos (inR_iff.2 (by simp only; have := HFq.out; omega))]; rfl
                · rw [if_neg e, if_neg (by rw [inR_iff]; simp only; have := HFq.out; omega)]
        · obtain rfl : j = L.length := by omega
          rw [List.take_length] at hm
          go_wp2
          go_ret
          exact ⟨_, M, rfl, Nat.le_refl _, hM, hm, hn⟩
set_option maxHeartbeats 4000000 in
theorem dList_any (w : World) (g : Nat) (M : Nat → Int) (h : Mp w g M) (h7 : ∀ i, i < 4096 → M i ≤ 7) : Calls Tryz.prog 154 #[.slice (some ⟨g, 0, none⟩) 4096 4096] w (MadeR 50 (dl M 4096) w) := by
  obtain ⟨i0, hi, hz0, hz1, hz2⟩ := info_parts3 refr_info
  have HM := Lib.hid h
  have H7 := Lib.hid h7
  have hg := h.lt
  clear h h7
  go_enter Tryz.func154, Tryz.ntmps154
  go_wp2
  go_loopg [3, 4] 4096 (fun k acc i wr => ∃ j : Nat, j + k = 4096 ∧ i = .int .i64 (j : Int) ∧ OwnR 50 w.heap.size wr acc (dl M j) ∧ New w wr)
  case atStart => exact ⟨0, by omega, rfl, OwnR.nil, New.refl _⟩
  case round =>
    obtain ⟨j, hj, rfl, ho, hn⟩ := hrel
    have J := Lib.hid hj
    by_cases c : j < 4096
    · have HN := Lib.hid hn
      have HO := Lib.hid ho
      have k := dl_ok M H7.out j (by omega)
      have c0 := (HM.out.new hn).cell j c
      have HLN := Lib.hid (show (dl M j).length ≤ 4096 by have := k.len; omega)
      have hd : dl M (j + 1) = if M j < 0 then dl M j else if 0 < j ∧ M (j - 1) = M j then setLast (dl M j) (j + 1) else dl M j ++ [⟨j, (j : Int) + 1, (M j).toNat⟩] := rfl
      have g1 : decide ((j : Int) < 4096) = true := by simp; omega
      have hx7 := H7.out j c
      by_cases s1 : M j < 0
      · have d1 : decide (M j < 0) = true := by simpa using s1
        have HD := Lib.hid (show dl M (j + 1) = dl M j by rw [hd, if_pos s1])
        obtain ⟨p3, c3, rfl⟩ := ho.shape
        clear hj ho hn k hd s1 hx7
        generalize M j = x at *
        go_wp2
        go_roundg (4096 - (j + 1))
        case measure => have := J.out; omega
        case rel => exact ⟨j + 1, by have := J.out; omega, by go_num, by rw [HD.out]; exact HO.out, HN.out⟩
      · have d1 : decide (M j < 0) = false := by simpa using s1
        rw [if_neg s1] at hd
        by_cases s2 : j = 0
        · have g0 : decide (0 < j) = false := by simp; omega
          have HD := Lib.hid (show dl M (j + 1) = dl M j ++ [⟨j, (j : Int) + 1, (M j).toNat⟩] by rw [hd, if_neg (by omega)])
          obtain ⟨p3, c3, rfl⟩ := ho.shape
          obtain ⟨Y, hY⟩ := Int.eq_ofNat_of_zero_le (show 0 ≤ M j by omega)
          rw [hY] at c0 d1 HD hx7
          simp only [Int.toNat_natCast] at HD
          have hw : IntKind.u8.wrap (Y : Int) = (Y : Int) := by rw [IntKind.wrap_u8]; omega
          have g2 : IntKind.i64.wrap ((j : Int) + 1) = (j : Int) + 1 := IntWalk.i64_in _ (by omega)
          clear hj ho hn k hd s1 s2
          go_upto_region 6 with fail
          go_quiet (fail)
          have hO := OwnR.new HO.out ((New.refl wr).drewN nq)
          have HN2 := Lib.hid (HN.out.trans ((New.refl wr).drewN nq))
          go_wp2_with (at_builtin; refine wpList_append_own _ rfl _ _ 69 rfl w.heap.size 50 i0 (.agg #[.int .i64 0, .int .i64 0, .int .u8 0]) 3 24 Tryz.underlying69 hi hz0 hz1 hz2 rfl (by decide) _ _ _ rfl (World.ownsRow.alloc hO _) ⟨wr.heap.size, 0, none⟩ 1 1 (rcell ⟨(j : Int), (j : Int) + 1, Y⟩) rfl rfl ?c1 ?c2 ?c3 ?c4 ?c5 ?_)
          case c1 => first | (intro j u hu; simpa [rcell] using hu; done) | exact rcell_new (wr.drewN nq) ⟨(j : Int), (j : Int) + 1, Y⟩ _
          case c2 => exact rcell_one _
          case c3 => have := HLN.out; unfold maxLen; omega
          case c4 => have := HLN.out; omega
          case c5 => have := HN.out.size; simp; omega
          intro v' w2 hown' hgrow _
          obtain ⟨o1, n2⟩ := OwnR.push HN2.out rfl hO hown' hgrow
          clear hown' hgrow hO
          rw [← HD.out] at o1
          obtain ⟨p4, c4, rfl⟩ := o1.shape
          have O1 := Lib.hid o1
          have N2 := Lib.hid n2
          clear o1 n2
          go_wp2
          go_roundg (4096 - (j + 1))
          case measure => have := J.out; omega
          case rel => exact ⟨j + 1, by have := J.out; omega, by go_num, O1.out, N2.out⟩
        · obtain ⟨i, hij⟩ : ∃ i, i + 1 = j := ⟨j - 1, by omega⟩
          have hil : i < 4096 := by omega
          have b0 := (HM.out.new hn).cell i hil
          have g0 : decide (0 < j) = true := by simp; omega
          have gs : IntKind.i64.wrap ((j : Int) - 1) = (i : Int) := by rw [IntWalk.i64_in _ (by omega)]; omega
          have hij2 : j - 1 = i := by omega
          rw [hij2] at hd
          by_cases s3 : M i = M j
          · have d3 : (M i == M j) = true := by simpa using s3
            obtain ⟨m, x, hmx, hxt, hxp⟩ := k.last (by omega) (by rw [hij2]; omega)
            have HD := Lib.hid (show dl M (j + 1) = m ++ [⟨x.f, ((j : Int) + 1), x.p⟩] by rw [hd, if_pos ⟨by omega, s3⟩, hmx, setLast_snoc])
            rw [hmx] at ho HO HLN
            obtain ⟨g', c3, kk, nA, hk, hA, hkA, rfl, hg1, hg2, hg3, hg4, x0, x1, x2⟩ := ho.last
            have HK := Lib.hid hk
            have f1 := hg4 (kk * 3 + 1)
            have gs2 : IntKind.i64.wrap ((nA : Int) - 1) = (kk : Int) := by
              have := HLN.out
              rw [IntWalk.i64_in _ (by omega)]; omega
            have gk : kk < nA := by omega
            have g2 : IntKind.i64.wrap ((j : Int) + 1) = (j : Int) + 1 := IntWalk.i64_in _ (by omega)
            have hn3 : nA ≤ 5000 := by have := HLN.out; omega
            have OS := Lib.hid (fun nq => OwnR.setTo (OwnR.new HO.out ((New.refl wr).drewN nq)) ((j : Int) + 1))
            have HW := Lib.hid (fun nq => (HN.out.trans ((New.refl wr).drewN nq)).setCell (p := ⟨g', kk * 3 + 1, none⟩) hg1 (.int .i64 ((j : Int) + 1)))
            clear hg4 hk hA hkA hj ho hn k hd s1 s2 hmx hxt hxp
            generalize M i = u at *
            generalize M j = z at *
            go_upto_region 6 with fail
            go_quiet (fail)
            go_wp2
            go_roundg (4096 - (j + 1))
            case measure => have := J.out; omega
            case rel =>
              have o5 := OS.out nq
              rw [HK.out] at o5
              exact ⟨j + 1, by have := J.out; omega, by go_num, by rw [HD.out]; exact o5, HW.out nq⟩
          · have d3 : (M i == M j) = false := by simpa using s3
            have HD := Lib.hid (show dl M (j + 1) = dl M j ++ [⟨j, (j : Int) + 1, (M j).toNat⟩] by rw [hd, if_neg (fun h => s3 h.2)])
            obtain ⟨p3, c3, rfl⟩ := ho.shape
            obtain ⟨Y, hY⟩ := Int.eq_ofNat_of_zero_le (show 0 ≤ M j by omega)
            rw [hY] at c0 d1 HD hx7 d3
            simp only [Int.toNat_natCast] at HD
            have hw : IntKind.u8.wrap (Y : Int) = (Y : Int) := by rw [IntKind.wrap_u8]; omega
            have g2 : IntKind.i64.wrap ((j : Int) + 1) = (j : Int) + 1 := IntWalk.i64_in _ (by omega)
            clear hj ho hn k hd s1 s2 s3
            generalize M i = u at *
            go_upto_region 6 with fail
            go_quiet (fail)
            have hO := OwnR.new HO.out ((New.refl wr).drewN nq)
            have HN2 := Lib.hid (HN.out.trans ((New.refl wr).drewN nq))
            go_wp2_with (at_builtin; refine wpList_append_own _ rfl _ _ 69 rfl w.heap.size 50 i0 (.agg #[.int .i64 0, .int .i64 0, .int .u8 0]) 3 24 Tryz.underlying69 hi hz0 hz1 hz2 rfl (by decide) _ _ _ rfl (World.ownsRow.alloc hO _) ⟨wr.heap.size, 0, none⟩ 1 1 (rcell ⟨(j : Int), (j : Int) + 1, Y⟩) rfl rfl ?c1 ?c2 ?c3 ?c4 ?c5 ?_)
            case c1 => first | (intro j u hu; simpa [rcell] using hu; done) | exact rcell_new (wr.drewN nq) ⟨(j : Int), (j : Int) + 1, Y⟩ _
            case c2 => exact rcell_one _
            case c3 => have := HLN.out; unfold maxLen; omega
            case c4 => have := HLN.out; omega
            case c5 => have := HN.out.size; simp; omega
            intro v' w2 hown' hgrow _
            obtain ⟨o1, n2⟩ := OwnR.push HN2.out rfl hO hown' hgrow
            clear hown' hgrow hO
            rw [← HD.out] at o1
            obtain ⟨p4, c4, rfl⟩ := o1.shape
            have O1 := Lib.hid o1
            have N2 := Lib.hid n2
            clear o1 n2
            go_wp2
            go_roundg (4096 - (j + 1))
            case measure => have := J.out; omega
            case rel => exact ⟨j + 1, by have := J.out; omega, by go_num, O1.out, N2.out⟩
    · obtain rfl : j = 4096 := by omega
      obtain ⟨p3, c3, rfl⟩ := ho.shape
      go_wp2
      go_ret
      exact ⟨_, rfl, ho, hn⟩
end Go.Proofs.YtgedimlhldfkaaaGreatDoor
namespace Go.Proofs.YtgedimlhldfkaaaGreatDoor
open Go.RowKit Go.Joins
set_option linter.unusedVariables false
set_option maxRecDepth 100000
/-- a slice of the call's own and a number -/
def MadeD (T : TypeId) (l : List Rg) (c : Int) (w : World) (e : Ending) (w' : World) : Prop := ∃ v, e = .returned (.tuple #[v, .int .i64 c]) ∧ OwnR T w.heap.size w' v l ∧ New w w'
theorem mv_le {L : List Rg} (h : ROk L) (q : Int) : mv (rpg L q) ≤ 7 := by
  cases e : rpg L q with
  | none => simp [mv]
  | some p =>
    obtain ⟨r, hr, _, hp⟩ := rpg_some e
    have := okR_iff.1 (RCh.mem h r hr)
    simp only [mv]; omega
theorem dl_cut {L : List Rg} (hO : ROk L) {F T : Nat} (hFT : F < T) {M : Nat → Int} (hm : ∀ i, i < 4096 → M i = if F ≤ i ∧ i < T then -1 else mv (rpg L i)) : dl M 4096 = cutL L F T ∧ ∀ i, i < 4096 → M i ≤ 7 := by
  have h7 : ∀ i, i < 4096 → M i ≤ 7 := fun i hi => by
    rw [hm i hi]; split
    · omega
    · exact mv_le hO i
  refine ⟨dl_same h7 (hO.cutL (by omega)) fun i hi => ?_, h7⟩
  rw [hm i hi, rpg_cutL hO (by omega)]
  by_cases c : F ≤ i ∧ i < T
  · rw [if_pos c, if_pos (by omega)]; rfl
  · rw [if_neg c, if_neg (by omega), mp_mv]
theorem dl_lay {L : List Rg} (hO : ROk L) {F T P : Nat} (hr : okR ⟨F, T, P⟩ = true) {M : Nat → Int} (hm : ∀ i, i < 4096 → M i = if F ≤ i ∧ i < T then (P : Int) else mv (rpg L i)) : dl M 4096 = layL L ⟨F, T, P⟩ ∧ ∀ i, i < 4096 → M i ≤ 7 := by
  have hp := okR_iff.1 hr
  simp only at hp
  have h7 : ∀ i, i < 4096 → M i ≤ 7 := fun i hi => by
    rw [hm i hi]; split
    · omega
    · exact mv_le hO i
  refine ⟨dl_same h7 (hO.layL hr) fun i hi => ?_, h7⟩
  rw [hm i hi, rpg_layL hO hr]
  by_cases c : F ≤ i ∧ i < T
  · rw [if_pos c, if_pos (inR_iff.2 (by simp only; omega))]; exact mp_mv (some P)
  · rw [if_neg c, if_neg (by rw [inR_iff]; simp only; omega), mp_mv]
section
variable (w : World) (v : Value) (L : List Rg)
set_option maxHeartbeats 4000000 in
theorem dcut_any (a b : Int) (h : RgsA w v L) : Calls Tryz.prog 115 #[v, .int .i64 a, .int .i64 b] w (MadeD 50 (ctL L a b) (ctE L a b) w) := by
  have q1 := dMay_any w v L h
  have q2 := fun W => dRange_any W a b
  obtain ⟨p, cap, rfl⟩ := h.shape
  cases ho : rokb L with
  | false =>
    have e1 : ctE L a b = 22 := by unfold ctE; rw [ho, if_neg (by simp)]
    have e2 : ctL L a b = [] := by unfold ctL; rw [e1, if_neg (by decide)]
    rw [e1, e2]
    rw [ho] at q1
    clear ho e1 e2
    go_enter Tryz.func115, Tryz.ntmps115
    go_wp2_with (go_at_call 151; (with_reducible refine q1.mono ?_); rintro e w1 ⟨rfl, n1⟩)
    go_ret2
    exact ⟨_, rfl, OwnR.nil, n1⟩
  | true =>
    have hO := rokb_iff.1 ho
    rw [ho] at q1
    cases hr : okP a b with
    | false =>
      have e1 : ctE L a b = 22 := by unfold ctE; rw [hr, if_neg (by simp)]
      have e2 : ctL L a b = [] := by unfold ctL; rw [e1, if_neg (by decide)]
      rw [e1, e2]
      rw [hr] at q2
      clear ho hr e1 e2 hO
      go_enter Tryz.func115, Tryz.ntmps115
      go_wp2_with (first
        | (go_at_call 151; (with_reducible refine q1.mono ?_); rintro e w1 ⟨rfl, n1⟩)
        | (go_at_call 155; (with_reducible refine (q2 _).mono ?_); rintro e w2 ⟨rfl, rfl⟩))
      go_ret2
      exact ⟨_, rfl, OwnR.nil, n1⟩
    | true =>
      obtain ⟨ce, cl⟩ := ct_ok hO hr
      rw [ce, cl]
      have hp := okP_iff.1 hr
      rw [hr] at q2
      obtain ⟨F, rfl⟩ := Int.eq_ofNat_of_zero_le hp.1
      obtain ⟨T, rfl⟩ := Int.eq_ofNat_of_zero_le (show 0 ≤ b by omega)
      have hFT : F < T := by omega
      have hT4 : T ≤ 4096 := by omega
      have HO := Lib.hid hO
      have qm := fun W (k : New w W) => dMap_any W _ L (h.new k) hO
      clear ho hr ce cl hp hO
      go_enter Tryz.func115, Tryz.ntmps115
      go_wp2_with (first
        | (go_at_call 151; (with_reducible refine q1.mono ?_); rintro e w1 ⟨rfl, n1⟩)
        | (go_at_call 155; (with_reducible refine (q2 _).mono ?_); rintro e w2 ⟨rfl, rfl⟩)
        | (go_at_call 153; (with_reducible refine (qm _ n1).mono ?_); rintro e w3 ⟨g, M, rfl, hg, hM1, hM2, n3⟩))
      have N3 := n1.trans n3
      have hgs : w.heap.size ≤ g := Nat.le_trans n1.size hg
      have ei : ∀ i, i < 4096 → M i = if F ≤ i ∧ i < F + 0 then (-1 : Int) else mv (rpg L i) := fun i hi => by rw [if_neg (by omega)]; exact hM2 i hi
      go_loopg [9] (T - F) (fun k i wr => ∃ (q : Nat) (M2 : Nat → Int), q + k = T - F ∧ i = .int .i64 ((F + q : Nat) : Int) ∧ Mp wr g M2 ∧ (∀ i, i < 4096 → M2 i = if F ≤ i ∧ i < F + q then (-1 : Int) else mv (rpg L i)) ∧ New w wr)
      case atStart => exact ⟨0, M, by omega, rfl, hM1, ei, N3⟩
      case round =>
        clear hM1 hM2 ei
        obtain ⟨q, M2, hq, rfl, hM, hm, hn⟩ := hrel
        have Q := Lib.hid hq
        have Hm := Lib.hid hm

        have hx := Lib.hid (show ∀ h : F + q < 4096, M2 (F + q) = mv (rpg L ((F + q : Nat) : Int)) from fun h => by rw [hm _ h, if_neg (by omega)])
        generalize hFq : F + q = m at *
        have HFq := Lib.hid hFq
        by_cases cq : m < T
        · have k0 := hM.cell m (by omega)
          have f0 := hM.unfrozen m
          have hlt := hM.lt
          have hx := hx.out (by omega)
          have HNs := Lib.hid (hn.setCell (p := ⟨g, m, none⟩) hgs (.int .i64 (-1 : Int)))
          have HM := Lib.hid (hM.set m (-1 : Int))
          have hn' := hn
          clear hx hq hFq hM hm hn
          go_wp2
          go_roundg (T - F - (q + 1))
          case measure => have := Q.out; have := HFq.out; omega
          case rel =>
            have := HFq.out
            refine ⟨q + 1, _, by have := Q.out; omega, by rw [show F + (q + 1) = m + 1 by omega]; go_num, HM.out, fun i hi => ?_, HNs.out⟩
            unfold upd
            by_cases e : i = m
            · rw [if_pos e, if_pos (by omega)]
            · rw [if_neg e, Hm.out i hi]
              by_cases e2 : F ≤ i ∧ i < m
              · rw [if_pos (by omega), if_pos (by omega)]
              · rw [if_neg (by omega), if_neg (by omega)]
        · have HM := Lib.hid hM
          have hq2 : m = T := by omega
          subst hq2
          obtain ⟨dc, d7⟩ := dl_cut HO.out hFT hm
          have ql := dList_any wr g M2 hM d7
          rw [dc] at ql
          have HNf := Lib.hid hn
          clear hx hq hM hm
          go_wp2_with (go_at_call 154; (with_reducible refine ql.mono ?_); rintro e w5 ⟨_, rfl, o5, n5⟩; obtain ⟨p5, c5, rfl⟩ := o5.shape)
          go_ret2
          exact ⟨_, rfl, OwnR.more o5 HNf.out.size, HNf.out.trans n5⟩
set_option maxHeartbeats 4000000 in
theorem dprot_any (r : Rg) (h : RgsA w v L) : Calls Tryz.prog 117 #[v, .int .i64 r.f, .int .i64 r.t, .int .u8 (r.p : Int)] w (MadeD 50 (prL L r) (prE L r) w) := by
  have q1 := dMay_any w v L h
  have q2 := fun W => dRange_any W r.f r.t
  obtain ⟨p, cap, rfl⟩ := h.shape
  have bad : ∀ (hb : ¬ (rokb L = true ∧ okR r = true)), prE L r = 22 ∧ prL L r = [] := fun hb => by
    have e1 : prE L r = 22 := by unfold prE; rw [if_neg hb]
    exact ⟨e1, by unfold prL; rw [e1, if_neg (by decide)]⟩
  cases ho : rokb L with
  | false =>
    obtain ⟨e1, e2⟩ := bad (by rw [ho]; simp)
    rw [e1, e2]
    rw [ho] at q1
    clear ho e1 e2 bad
    go_enter Tryz.func117, Tryz.ntmps117
    go_wp2_with (go_at_call 151; (with_reducible refine q1.mono ?_); rintro e w1 ⟨rfl, n1⟩)
    go_ret2
    exact ⟨_, rfl, OwnR.nil, n1⟩
  | true =>
    have hO := rokb_iff.1 ho
    rw [ho] at q1
    cases hr : okP r.f r.t with
    | false =>
      obtain ⟨e1, e2⟩ := bad (by unfold okR; rw [hr]; simp)
      rw [e1, e2]
      rw [hr] at q2
      clear ho hr e1 e2 hO bad
      go_enter Tryz.func117, Tryz.ntmps117
      go_wp2_with (first
        | (go_at_call 151; (with_reducible refine q1.mono ?_); rintro e w1 ⟨rfl, n1⟩)
        | (go_at_call 155; (with_reducible refine (q2 _).mono ?_); rintro e w2 ⟨rfl, rfl⟩))
      go_ret2
      exact ⟨_, rfl, OwnR.nil, n1⟩
    | true =>
      rw [hr] at q2
      by_cases h7 : 7 < r.p
      · obtain ⟨e1, e2⟩ := bad (fun k => by have := okR_iff.1 k.2; omega)
        rw [e1, e2]
        have d7 : decide (7 < (r.p : Int)) = true := by simp; omega
        have d7' : decide (7 < r.p) = true := by simp; omega
        clear ho hr e1 e2 hO bad h7
        go_enter Tryz.func117, Tryz.ntmps117
        go_wp2_with (first
          | (go_at_call 151; (with_reducible refine q1.mono ?_); rintro e w1 ⟨rfl, n1⟩)
          | (go_at_call 155; (with_reducible refine (q2 _).mono ?_); rintro e w2 ⟨rfl, rfl⟩))
        go_ret2
        exact ⟨_, rfl, OwnR.nil, n1⟩
      · have d7 : decide (7 < (r.p : Int)) = false := by simp; omega
        have d7' : decide (7 < r.p) = false := by simp; omega
        have hrr : okR r = true := by unfold okR; rw [hr]; simp; omega
        have hp := okP_iff.1 hr
        obtain ⟨f, t, P⟩ := r
        simp only at hp q2 d7 d7'
        obtain ⟨F, rfl⟩ := Int.eq_ofNat_of_zero_le hp.1
        obtain ⟨T, rfl⟩ := Int.eq_ofNat_of_zero_le (show 0 ≤ t by omega)
        have hFT : F < T := by omega
        have hT4 : T ≤ 4096 := by omega
        have hP7 : P ≤ 7 := by simp only at h7; omega
        have HO := Lib.hid hO
        have HRR := Lib.hid hrr
        have qm := fun W (k : New w W) => dMap_any W _ L (h.new k) hO
        clear ho hr hp hO bad h7 hrr
        go_enter Tryz.func117, Tryz.ntmps117
        go_wp2_with (first
          | (go_at_call 151; (with_reducible refine q1.mono ?_); rintro e w1 ⟨rfl, n1⟩)
          | (go_at_call 155; (with_reducible refine (q2 _).mono ?_); rintro e w2 ⟨rfl, rfl⟩)
          | (go_at_call 153; (with_reducible refine (qm _ n1).mono ?_); rintro e w3 ⟨g, M, rfl, hg, hM1, hM2, n3⟩))
        have N3 := n1.trans n3
        have hgs : w.heap.size ≤ g := Nat.le_trans n1.size hg
        have ei : ∀ i, i < 4096 → M i = if F ≤ i ∧ i < F + 0 then (P : Int) else mv (rpg L i) := fun i hi => by rw [if_neg (by omega)]; exact hM2 i hi
        go_loopg [11] (T - F) (fun k i wr => ∃ (q : Nat) (M2 : Nat → Int), q + k = T - F ∧ i = .int .i64 ((F + q : Nat) : Int) ∧ Mp wr g M2 ∧ (∀ i, i < 4096 → M2 i = if F ≤ i ∧ i < F + q then (P : Int) else mv (rpg L i)) ∧ (∀ i, F ≤ i → i < F + q → (rpg L (i : Int)).isSome = true) ∧ New w wr)
        case atStart => exact ⟨0, M, by omega, rfl, hM1, ei, (fun i h1 h2 => absurd h1 (by omega)), N3⟩
        case round =>
          clear hM1 hM2 ei
          obtain ⟨q, M2, hq, rfl, hM, hm, hc, hn⟩ := hrel
          have Q := Lib.hid hq
          have Hm := Lib.hid hm
          have HC := Lib.hid hc

          have hx := Lib.hid (show ∀ h : F + q < 4096, M2 (F + q) = mv (rpg L ((F + q : Nat) : Int)) from fun h => by rw [hm _ h, if_neg (by omega)])
          generalize hFq : F + q = m at *
          have HFq := Lib.hid hFq
          by_cases cq : m < T
          · have k0 := hM.cell m (by omega)
            have f0 := hM.unfrozen m
            have hlt := hM.lt
            have hx := hx.out (by omega)
            have HNs := Lib.hid (hn.setCell (p := ⟨g, m, none⟩) hgs (.int .i64 (P : Int)))
            have HM := Lib.hid (hM.set m (P : Int))
            have hn' := hn
            cases hpm : rpg L (m : Int) with
            | none =>
              rw [hpm] at hx
              have d1 : M2 m = -1 := hx
              rw [d1] at k0
              have HE := Lib.hid (show prE L ⟨F, T, P⟩ = 12 ∧ prL L ⟨F, T, P⟩ = [] by
                rcases prE_cases HO.out HRR.out with ⟨_, _, x3⟩ | ⟨x1, x2, _⟩
                · have := x3 (m : Int) (by simp only; omega) (by simp only; omega)
                  rw [hpm] at this; cases this
                · exact ⟨x1, x2⟩)
              clear hx hpm hq hFq hM hm hc d1
              go_wp2
              go_ret2
              exact ⟨_, by rw [HE.out.1]; rfl, by rw [HE.out.2]; exact OwnR.nil, hn'⟩
            | some pm =>
              rw [hpm] at hx
              have d1 : M2 m = (pm : Int) := hx
              rw [d1] at k0
              have HX := Lib.hid (show (rpg L (m : Int)).isSome = true by rw [hpm]; rfl)
              clear hx hpm hq hFq hM hm hc hn d1 hn'
              go_wp2
              go_roundg (T - F - (q + 1))
              case measure => have := Q.out; have := HFq.out; omega
              case rel =>
                have := HFq.out
                refine ⟨q + 1, _, by have := Q.out; omega, by rw [show F + (q + 1) = m + 1 by omega]; go_num, HM.out, fun i hi => ?_, (fun i h1 h2 => by
                  by_cases e : i = m
                  · rw [e]; exact HX.out
                  · exact HC.out i h1 (by omega)), HNs.out⟩
                unfold upd
                by_cases e : i = m
                · rw [if_pos e, if_pos (by omega)]
                · rw [if_neg e, Hm.out i hi]
                  by_cases e2 : F ≤ i ∧ i < m
                  · rw [if_pos (by omega), if_pos (by omega)]
                  · rw [if_neg (by omega), if_neg (by omega)]
          · have HM := Lib.hid hM
            have hq2 : m = T := by omega
            subst hq2
            have HE := Lib.hid (show prE L ⟨F, m, P⟩ = 0 ∧ prL L ⟨F, m, P⟩ = layL L ⟨F, m, P⟩ by
              rcases prE_cases HO.out HRR.out with ⟨x1, x2, _⟩ | ⟨_, _, x3⟩
              · exact ⟨x1, x2⟩
              · refine absurd (fun q h1 h2 => ?_) x3
                simp only at h1 h2
                have := hc q.toNat (by omega) (by omega)
                rwa [show ((q.toNat : Nat) : Int) = q by omega] at this)
            obtain ⟨dc, d7⟩ := dl_lay HO.out HRR.out hm
            have ql := dList_any wr g M2 hM d7
            rw [dc] at ql
            have HNf := Lib.hid hn
            clear hx hq hM hm hc
            go_wp2_with (go_at_call 154; (with_reducible refine ql.mono ?_); rintro e w5 ⟨_, rfl, o5, n5⟩; obtain ⟨p5, c5, rfl⟩ := o5.shape)
            go_ret2
            exact ⟨_, by rw [HE.out.1]; rfl, by rw [HE.out.2]; exact OwnR.more o5 HNf.out.size, HNf.out.trans n5⟩
set_option maxHeartbeats 4000000 in
theorem dadd_any (r : Rg) (h : RgsA w v L) : Calls Tryz.prog 114 #[v, .agg #[.int .i64 r.f, .int .i64 r.t, .int .u8 (r.p : Int)]] w (MadeD 50 (adL L r) (adE L r) w) := by
  have HN0 : New w (w.alloc (.cells #[.int .i64 r.f, .int .i64 r.t, .int .u8 (r.p : Int)] 50)) := (New.refl w).alloc _ _
  have BR : Box (w.alloc (.cells #[.int .i64 r.f, .int .i64 r.t, .int .u8 (r.p : Int)] 50)) w.heap.size #[.int .i64 r.f, .int .i64 r.t, .int .u8 (r.p : Int)] 50 := Box.here w _ _ _ rfl
  have q1 := dMay_any _ v L (h.new HN0)
  have q2 := fun W => dOne_any W r
  obtain ⟨p, cap, rfl⟩ := h.shape
  have bad : ∀ (hb : ¬ (rokb L = true ∧ okR r = true)), adE L r = 22 ∧ adL L r = [] := fun hb => by
    have e1 : adE L r = 22 := by unfold adE; rw [if_neg hb]
    exact ⟨e1, by unfold adL; rw [e1, if_neg (by decide)]⟩
  cases ho : rokb L with
  | false =>
    obtain ⟨e1, e2⟩ := bad (by rw [ho]; simp)
    rw [e1, e2]
    rw [ho] at q1
    clear ho e1 e2 bad
    go_enter Tryz.func114, Tryz.ntmps114
    go_wp2_with (go_at_call 151; (with_reducible refine q1.mono ?_); rintro e w1 ⟨rfl, n1⟩)
    go_ret2
    exact ⟨_, rfl, OwnR.nil, HN0.trans n1⟩
  | true =>
    have hO := rokb_iff.1 ho
    rw [ho] at q1
    cases hr : okR r with
    | false =>
      obtain ⟨e1, e2⟩ := bad (by rw [hr]; simp)
      rw [e1, e2]
      rw [hr] at q2
      clear ho hr e1 e2 hO bad
      go_enter Tryz.func114, Tryz.ntmps114
      go_wp2_with (first
        | (go_at_call 151; (with_reducible refine q1.mono ?_); rintro e w1 ⟨rfl, n1⟩; obtain ⟨b0, b1, b2⟩ := (BR.new n1).three)
        | (go_at_call 152; (with_reducible refine (q2 _).mono ?_); rintro e w2 ⟨rfl, n2⟩))
      go_ret2
      exact ⟨_, rfl, OwnR.nil, HN0.trans (n1.trans n2)⟩
    | true =>
      rw [hr] at q2
      have hp := okR_iff.1 hr
      have HRR := Lib.hid hr
      have HO := Lib.hid hO
      have qm := fun W (k : New w W) => dMap_any W _ L (h.new k) hO
      clear ho hO bad
      obtain ⟨f, t, P⟩ := r
      simp only at hp q2 BR HN0 q1
      obtain ⟨F, rfl⟩ := Int.eq_ofNat_of_zero_le hp.1
      obtain ⟨T, rfl⟩ := Int.eq_ofNat_of_zero_le (show 0 ≤ t by omega)
      have hFT : F < T := by omega
      have hT4 : T ≤ 4096 := by omega
      have hP7 : P ≤ 7 := hp.2.2.2
      clear hr hp
      go_enter Tryz.func114, Tryz.ntmps114
      go_wp2_with fail
      refine q1.mono ?_
      rintro e w1 ⟨rfl, n1⟩
      have B1 := BR.new n1
      have N1 := HN0.trans n1
      obtain ⟨b0, b1, b2⟩ := B1.three
      go_wp2_with fail
      refine (q2 _).mono ?_
      rintro e w2 ⟨rfl, n2⟩
      have B2 := B1.new n2
      have N2 := N1.trans n2
      clear b0 b1 b2
      go_wp2_with fail
      refine (qm _ N2).mono ?_
      rintro e w3 ⟨g, M, rfl, hg, hM1, hM2, n3⟩
      have B3 := B2.new n3
      have N3 := N2.trans n3
      have hgs : w2.heap.size ≤ g := hg
      have hbg : w.heap.size < w2.heap.size := B2.lt
      obtain ⟨b0, b1, b2⟩ := B3.three
      go_upto_if 23 with (fail)
      have ei : ∀ i, i < 4096 → M i = if F ≤ i ∧ i < F + 0 then (P : Int) else mv (rpg L i) := fun i hi => by rw [if_neg (by omega)]; exact hM2 i hi
      go_loopg [7] (T - F) (fun k i wr => ∃ (q : Nat) (M2 : Nat → Int), q + k = T - F ∧ i = .int .i64 ((F + q : Nat) : Int) ∧ Mp wr g M2 ∧ (∀ i, i < 4096 → M2 i = if F ≤ i ∧ i < F + q then (P : Int) else mv (rpg L i)) ∧ (∀ i, F ≤ i → i < F + q → rpg L (i : Int) = none) ∧ New w2 wr)
      case atStart => exact ⟨0, M, by omega, rfl, hM1, ei, (fun i h1 h2 => absurd h1 (by omega)), n3⟩
      case round =>
        clear hM1 hM2 ei
        obtain ⟨q, M2, hq, rfl, hM, hm, hc, hn⟩ := hrel
        have Q := Lib.hid hq
        have Hm := Lib.hid hm
        have HC := Lib.hid hc

        have hx := Lib.hid (show ∀ h : F + q < 4096, M2 (F + q) = mv (rpg L ((F + q : Nat) : Int)) from fun h => by rw [hm _ h, if_neg (by omega)])
        generalize hFq : F + q = m at *
        have HFq := Lib.hid hFq
        by_cases cq : m < T
        · have k0 := hM.cell m (by omega)
          have f0 := hM.unfrozen m
          have hlt := hM.lt
          have hx := hx.out (by omega)
          have HNs := Lib.hid (hn.setCell (p := ⟨g, m, none⟩) hgs (.int .i64 (P : Int)))
          have HM := Lib.hid (hM.set m (P : Int))
          have hn' := hn
          obtain ⟨b0, b1, b2⟩ := (B2.new hn).three
          cases hpm : rpg L (m : Int) with
          | some pm =>
            rw [hpm] at hx
            have d1 : M2 m = (pm : Int) := hx
            rw [d1] at k0
            have HE := Lib.hid (show adE L ⟨F, T, P⟩ = 17 ∧ adL L ⟨F, T, P⟩ = [] by
              rcases adE_cases HO.out HRR.out with ⟨_, _, x3⟩ | ⟨x1, x2, _⟩
              · have := x3 (m : Int) (by simp only; omega) (by simp only; omega)
                rw [hpm] at this; cases this
              · exact ⟨x1, x2⟩)
            clear hx hpm hq hFq hM hm hc d1
            go_wp2
            go_ret2
            exact ⟨_, by rw [HE.out.1]; rfl, by rw [HE.out.2]; exact OwnR.nil, N2.trans hn'⟩
          | none =>
            rw [hpm] at hx
            have d1 : M2 m = -1 := hx
            rw [d1] at k0
            have HX := Lib.hid (show rpg L (m : Int) = none from hpm)
            clear hx hpm hq hFq hM hm hc hn d1 hn'
            go_wp2
            go_roundg (T - F - (q + 1))
            case measure => have := Q.out; have := HFq.out; omega
            case rel =>
              have := HFq.out
              refine ⟨q + 1, _, by have := Q.out; omega, by rw [show F + (q + 1) = m + 1 by omega]; go_num, HM.out, fun i hi => ?_, (fun i h1 h2 => by
                by_cases e : i = m
                · rw [e]; exact HX.out
                · exact HC.out i h1 (by omega)), HNs.out⟩
              unfold upd
              by_cases e : i = m
              · rw [if_pos e, if_pos (by omega)]
              · rw [if_neg e, Hm.out i hi]
                by_cases e2 : F ≤ i ∧ i < m
                · rw [if_pos (by omega), if_pos (by omega)]
                · rw [if_neg (by omega), if_neg (by omega)]
        · have HM := Lib.hid hM
          have hq2 : m = T := by omega
          subst hq2
          have HE := Lib.hid (show adE L ⟨F, m, P⟩ = 0 ∧ adL L ⟨F, m, P⟩ = layL L ⟨F, m, P⟩ by
            rcases adE_cases HO.out HRR.out with ⟨x1, x2, _⟩ | ⟨_, _, x3⟩
            · exact ⟨x1, x2⟩
            · refine absurd (fun q h1 h2 => ?_) x3
              simp only at h1 h2
              have := hc q.toNat (by omega) (by omega)
              rwa [show ((q.toNat : Nat) : Int) = q by omega] at this)
          obtain ⟨dc, d7⟩ := dl_lay HO.out HRR.out hm
          have ql := dList_any wr g M2 hM d7
          rw [dc] at ql
          have HNf := Lib.hid (N2.trans hn)
          obtain ⟨b0, b1, b2⟩ := (B2.new hn).three
          clear hx hq hM hm hc
          go_wp2_with (go_at_call 154; (with_reducible refine ql.mono ?_); rintro e w5 ⟨_, rfl, o5, n5⟩; obtain ⟨p5, c5, rfl⟩ := o5.shape)
          go_ret2
          exact ⟨_, by rw [HE.out.1]; rfl, by rw [HE.out.2]; exact OwnR.more o5 HNf.out.size, HNf.out.trans n5⟩
end
end Go.Proofs.YtgedimlhldfkaaaGreatDoor
