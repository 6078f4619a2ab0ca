/- What loading and storing bytes does, in one form for right and wrong sizes: contracts, for all slices of bytes and all sizes; in any world, behind which there are only new blocks. -/
import Derived.Test.YtfchjlfpbfkdfaaDoorWordJ
namespace Go.Proofs.YtfchjlfpbfkdfaaDoor
open Go.RowKit
set_option linter.unusedVariables false
/-- a slice of bytes that came in -/
def ByteRow (w : World) (a : Option Addr) (len cap : Nat) (zs : List Int) : Prop :=
  (a = none ∧ len = 0 ∧ cap = 0 ∧ zs = []) ∨
  ∃ x, a = some x ∧ len ≤ cap ∧ cap ≤ maxLen ∧ zs.length = cap ∧ (∀ i, i < zs.length → w.cell? (x.add i) = some (.int .u8 (zs.getD i 0))) ∧ ∀ n ∈ zs, (Lit.int .u8 n).wf = true
theorem u8_bd {a : Int} (h : (Lit.int .u8 a).wf = true) : 0 ≤ a ∧ a ≤ 255 := by
  simp only [Lit.wf, Bool.and_eq_true, decide_eq_true_eq] at h
  have h1 : IntKind.u8.min = 0 := rfl
  have h2 : IntKind.u8.max = 255 := rfl
  omega
theorem getD_bd {zs : List Int} (h : ∀ n ∈ zs, (Lit.int .u8 n).wf = true) (i : Nat) : 0 ≤ zs.getD i 0 ∧ zs.getD i 0 ≤ 255 := by
  by_cases c : i < zs.length
  · rw [List.getD_eq_getElem?_getD, List.getElem?_eq_getElem c]; exact u8_bd (h _ (List.getElem_mem c))
  · rw [List.getD_eq_getElem?_getD, List.getElem?_eq_none (by omega)]; simp
theorem okSize_no (n : Int) (h1 : n ≠ 1) (h2 : n ≠ 2) (h4 : n ≠ 4) : okSize n = false := by
  unfold okSize; simp [h1, h2, h4]
theorem load_any (a : Option Addr) (n cap : Nat) (z : List Int) (w : World) (h : ByteRow w a n cap z) :
    Calls Tryd.prog 5 #[.slice a n cap] w fun e w' => e = .returned (.tuple #[.int .u32 (ldv n z), erOf (okSize n)]) ∧ w = w' := by
  have no : okSize n = false → n ≤ maxLen → Calls Tryd.prog 5 #[.slice a n cap] w fun e w' => e = .returned (.tuple #[.int .u32 (ldv n z), erOf (okSize n)]) ∧ w = w' := by
    intro hn hm
    have e : ldv n z = 0 := by
      unfold okSize at hn; unfold ldv
      rw [if_neg (by rintro rfl; simp at hn), if_neg (by rintro rfl; simp at hn), if_neg (by rintro rfl; simp at hn)]
    rw [e, hn]; exact load_no a n cap w hm hn
  rcases h with ⟨rfl, rfl, rfl, rfl⟩ | ⟨x, rfl, hl, hm, hz, hc, hw⟩
  · exact no rfl (by unfold maxLen; omega)
  · have hb := getD_bd hw
    by_cases c1 : n = 1
    · subst c1
      exact load_1 (z.getD 0 0) x cap w (hb 0).1 (hb 0).2 (hc 0 (by omega))
    · by_cases c2 : n = 2
      · subst c2
        exact load_2 (z.getD 0 0) (z.getD 1 0) x cap w (hb 0).1 (hb 0).2 (hb 1).1 (hb 1).2 (hc 0 (by omega)) (hc 1 (by omega))
      · by_cases c4 : n = 4
        · subst c4
          exact load_4 (z.getD 0 0) (z.getD 1 0) (z.getD 2 0) (z.getD 3 0) x cap w (hb 0).1 (hb 0).2 (hb 1).1 (hb 1).2 (hb 2).1 (hb 2).2 (hb 3).1 (hb 3).2 (hc 0 (by omega)) (hc 1 (by omega)) (hc 2 (by omega)) (hc 3 (by omega))
        · exact no (okSize_no n (by omega) (by omega) (by omega)) (by omega)
theorem rload_any (a : Option Addr) (n cap : Nat) (z : List Int) (w : World) (h : ByteRow w a n cap z) :
    Calls Tryd.prog 6 #[.slice a n cap] w fun e w' => e = .returned (.tuple #[.int .u32 (ldv n z), .int .i64 (ecOf (okSize n))]) ∧ w = w' := by
  have no : okSize n = false → n ≤ maxLen → Calls Tryd.prog 6 #[.slice a n cap] w fun e w' => e = .returned (.tuple #[.int .u32 (ldv n z), .int .i64 (ecOf (okSize n))]) ∧ w = w' := by
    intro hn hm
    have e : ldv n z = 0 := by
      unfold okSize at hn; unfold ldv
      rw [if_neg (by rintro rfl; simp at hn), if_neg (by rintro rfl; simp at hn), if_neg (by rintro rfl; simp at hn)]
    rw [e, hn]; exact rload_no a n cap w hm hn
  rcases h with ⟨rfl, rfl, rfl, rfl⟩ | ⟨x, rfl, hl, hm, hz, hc, hw⟩
  · exact no rfl (by unfold maxLen; omega)
  · have hb := getD_bd hw
    by_cases c1 : n = 1
    · subst c1
      exact rload_1 (z.getD 0 0) x cap w (hb 0).1 (hb 0).2 (hc 0 (by omega))
    · by_cases c2 : n = 2
      · subst c2
        exact rload_2 (z.getD 0 0) (z.getD 1 0) x cap w (hb 0).1 (hb 0).2 (hb 1).1 (hb 1).2 (hc 0 (by omega)) (hc 1 (by omega))
      · by_cases c4 : n = 4
        · subst c4
          exact rload_4 (z.getD 0 0) (z.getD 1 0) (z.getD 2 0) (z.getD 3 0) x cap w (hb 0).1 (hb 0).2 (hb 1).1 (hb 1).2 (hb 2).1 (hb 2).2 (hb 3).1 (hb 3).2 (hc 0 (by omega)) (hc 1 (by omega)) (hc 2 (by omega)) (hc 3 (by omega))
        · exact no (okSize_no n (by omega) (by omega) (by omega)) (by omega)
/-- the bytes of a number -/
def bsl (v n : Int) : List Int := if n = 1 then [v % 256] else if n = 2 then [v % 256, v / 256 % 256] else if n = 4 then [v % 256, v / 256 % 256, v / 65536 % 256, v / 16777216] else []
def bsv (v n : Int) : ByteArray := strOfNums (bsl v n)
/-- the value 'c' stands for these bytes from now on -/
def Reads (w : World) (c : Value) (s : ByteArray) : Prop := ∀ W, New w W → (convert 22 9 c).run Tryd.prog W = .ok (.string s) W
def Stored (w : World) (v n : Int) (er : Value) (e : Ending) (w' : World) : Prop := ∃ c, e = .returned (.tuple #[c, er]) ∧ New w w' ∧ Reads w' c (bsv v n)
theorem reads_nil (w : World) : Reads w (.slice none 0 0) (strOfNums []) := fun W _ => run_convert_bytes_nil W 22 5 Tryd.underlying22 Tryd.underlying5 0 0 9 Tryd.underlying9
theorem reads_new (w : World) (n : Nat) (xs : List Int) (hn : xs.length = n) : Reads (w.alloc (.cells (xs.map (Value.int .u8)).toArray 5)) (.slice (some ⟨w.heap.size, 0, none⟩) n n) (strOfNums xs) := by
  intro W hW
  refine run_convert_bytes_arg W 22 5 Tryd.underlying22 Tryd.underlying5 _ 0 n n xs hn ?_ 9 Tryd.underlying9
  intro i hi
  rw [hW.1.cell (p := ⟨w.heap.size, 0 + i, none⟩) (by simp)]
  have e : xs[i]? = some (xs.getD i 0) := by rw [List.getD_eq_getElem?_getD, List.getElem?_eq_getElem (by omega)]; rfl
  rw [World.cell?_alloc_at _ _ _ _ (by simp)]
  rw [Nat.zero_add, List.getElem?_toArray, List.getElem?_map, e]; rfl
theorem store_of {w w' : World} {v n : Int} {ok : Bool} (k : Nat) (xs : List Int) (hn : xs.length = k) (e : Ending) (he : e = .returned (.tuple #[.slice (some ⟨w.heap.size, 0, none⟩) k k, erOf ok])) (hw : w' = w.alloc (.cells (xs.map (Value.int .u8)).toArray 5)) (hb : bsl v n = xs) : Stored w v n (erOf ok) e w' := by
  subst hw
  refine ⟨_, he, (New.refl w).alloc _ _, ?_⟩
  unfold bsv; rw [hb]
  exact reads_new w k xs hn
set_option maxHeartbeats 400000 in
theorem store_any (v n : Int) (w : World) (h0 : 0 ≤ v) (h : v ≤ 4294967295) :
    Calls Tryd.prog 7 #[.int .u32 v, .int .i64 n] w (Stored w v n (erOf (okSize n))) := by
  have mk1 : ∀ w : World, (Instr.makeSlice 22 (.int .i64 1) (.int .i64 1)).run Tryd.prog w = .ok (.slice (some ⟨w.heap.size, 0, none⟩) 1 1) (w.alloc (.cells #[.int .u8 0] 5)) := fun _ => by kernel_rfl
  have mk2 : ∀ w : World, (Instr.makeSlice 22 (.int .i64 2) (.int .i64 2)).run Tryd.prog w = .ok (.slice (some ⟨w.heap.size, 0, none⟩) 2 2) (w.alloc (.cells #[.int .u8 0, .int .u8 0] 5)) := fun _ => by kernel_rfl
  have mk4 : ∀ w : World, (Instr.makeSlice 22 (.int .i64 4) (.int .i64 4)).run Tryd.prog w = .ok (.slice (some ⟨w.heap.size, 0, none⟩) 4 4) (w.alloc (.cells #[.int .u8 0, .int .u8 0, .int .u8 0, .int .u8 0] 5)) := fun _ => by kernel_rfl
  by_cases c1 : n = 1
  · subst c1
    have k : okSize 1 = true := rfl
    go_enter Tryd.func7, Tryd.ntmps7
    go_wp2_with (go_at_call 14; (with_reducible refine (issize_any _ _).mono ?_); rintro e w' ⟨rfl, rfl⟩)
    go_rounds 2
    go_ret2
    exact store_of 1 [v % 256] rfl _ rfl rfl rfl
  · by_cases c2 : n = 2
    · subst c2
      have k : okSize 2 = true := rfl
      go_enter Tryd.func7, Tryd.ntmps7
      go_wp2_with (go_at_call 14; (with_reducible refine (issize_any _ _).mono ?_); rintro e w' ⟨rfl, rfl⟩)
      go_rounds 3
      go_ret2
      exact store_of 2 [v % 256, v / 256 % 256] rfl _ rfl rfl rfl
    · by_cases c4 : n = 4
      · subst c4
        have k : okSize 4 = true := rfl
        go_enter Tryd.func7, Tryd.ntmps7
        go_wp2_with (go_at_call 14; (with_reducible refine (issize_any _ _).mono ?_); rintro e w' ⟨rfl, rfl⟩)
        go_rounds 5
        go_ret2
        exact store_of 4 [v % 256, v / 256 % 256, v / 65536 % 256, v / 16777216] rfl _ rfl rfl rfl
      · have k := okSize_no n c1 c2 c4
        have hb : bsl v n = [] := by unfold bsl; rw [if_neg c1, if_neg c2, if_neg c4]
        have HB := Lib.hid hb
        clear hb c1 c2 c4
        go_enter Tryd.func7, Tryd.ntmps7
        go_wp2_with (go_at_call 14; (with_reducible refine (issize_any _ _).mono ?_); rintro e w' ⟨rfl, rfl⟩)
        go_ret2
        rw [k]
        refine ⟨_, rfl, New.refl _, ?_⟩
        unfold bsv; rw [HB.out]; exact reads_nil _
theorem rstore_of {w w' : World} {v n : Int} {ok : Bool} (k : Nat) (xs : List Int) (hn : xs.length = k) (e : Ending) (he : e = .returned (.tuple #[.slice (some ⟨w.heap.size, 0, none⟩) k k, .int .i64 (ecOf ok)])) (hw : w' = w.alloc (.cells (xs.map (Value.int .u8)).toArray 5)) (hb : bsl v n = xs) : Stored w v n (.int .i64 (ecOf ok)) e w' := by
  subst hw
  refine ⟨_, he, (New.refl w).alloc _ _, ?_⟩
  unfold bsv; rw [hb]
  exact reads_new w k xs hn
set_option maxHeartbeats 400000 in
theorem rstore_any (v n : Int) (w : World) (h0 : 0 ≤ v) (h : v ≤ 4294967295) :
    Calls Tryd.prog 8 #[.int .u32 v, .int .i64 n] w (Stored w v n (.int .i64 (ecOf (okSize n)))) := by
  have mk1 : ∀ w : World, (Instr.makeSlice 22 (.int .i64 1) (.int .i64 1)).run Tryd.prog w = .ok (.slice (some ⟨w.heap.size, 0, none⟩) 1 1) (w.alloc (.cells #[.int .u8 0] 5)) := fun _ => by kernel_rfl
  have mk2 : ∀ w : World, (Instr.makeSlice 22 (.int .i64 2) (.int .i64 2)).run Tryd.prog w = .ok (.slice (some ⟨w.heap.size, 0, none⟩) 2 2) (w.alloc (.cells #[.int .u8 0, .int .u8 0] 5)) := fun _ => by kernel_rfl
  have mk4 : ∀ w : World, (Instr.makeSlice 22 (.int .i64 4) (.int .i64 4)).run Tryd.prog w = .ok (.slice (some ⟨w.heap.size, 0, none⟩) 4 4) (w.alloc (.cells #[.int .u8 0, .int .u8 0, .int .u8 0, .int .u8 0] 5)) := fun _ => by kernel_rfl
  by_cases c1 : n = 1
  · subst c1
    go_enter Tryd.func8, Tryd.ntmps8
    go_wp2
    go_rounds 2
    go_ret2
    exact rstore_of 1 [v % 256] rfl _ rfl rfl rfl
  · by_cases c2 : n = 2
    · subst c2
      go_enter Tryd.func8, Tryd.ntmps8
      go_wp2
      go_rounds 3
      go_ret2
      exact rstore_of 2 [v % 256, v / 256 % 256] rfl _ rfl rfl rfl
    · by_cases c4 : n = 4
      · subst c4
        have e5 : v / 65536 / 256 % 256 = v / 16777216 := by omega
        have e4 : v / 256 / 256 = v / 65536 := by omega
        go_enter Tryd.func8, Tryd.ntmps8
        go_wp2
        go_rounds 5
        go_ret2
        exact rstore_of 4 [v % 256, v / 256 % 256, v / 65536 % 256, v / 16777216] rfl _ rfl rfl rfl
      · have k := okSize_no n c1 c2 c4
        have hb : bsl v n = [] := by unfold bsl; rw [if_neg c1, if_neg c2, if_neg c4]
        have HB := Lib.hid hb
        have f1 : (n != 1) = true := by simpa using c1
        have f2 : (n != 2) = true := by simpa using c2
        have f4 : (n != 4) = true := by simpa using c4
        clear hb c1 c2 c4
        go_enter Tryd.func8, Tryd.ntmps8
        go_wp2
        go_ret2
        rw [k]
        refine ⟨_, rfl, New.refl _, ?_⟩
        unfold bsv; rw [HB.out]; exact reads_nil _
end Go.Proofs.YtfchjlfpbfkdfaaDoor
