/- What the world must hold for instructions as texts: the package's own table and the library's variables; and the package's functions Name, Needs, find, isBlank. -/
import Derived.Test.YtlpjegclpilaaaaGreatDoorBase
import Derived.Test.YtlpjegclpilaaaaGreatDoorAmLines
import Derived.Test.YtlpjegclpilaaaaGreatDoorAmTrim
import Derived.Shelf.Strings.FuncGrows
import Derived.Lib.LaidTab
namespace Go.Proofs.YtlpjegclpilaaaaGreatDoor
open Go.RowKit
set_option linter.unusedVariables false
/-- a text of bytes -/
def ba (l : List UInt8) : ByteArray := ⟨l.toArray⟩
theorem ba_data (l : List UInt8) : (ba l).data.toList = l := by unfold ba; simp
theorem ba_of (s : ByteArray) : ba s.data.toList = s := by unfold ba; cases s; simp
theorem ba_size (l : List UInt8) : (ba l).size = l.length := by rw [Lib.size_eq, ba_data]
theorem ba_inj {a b : List UInt8} : ba a = ba b ↔ a = b := ⟨fun h => by have := congrArg (fun s : ByteArray => s.data.toList) h; simpa only [ba_data] using this, fun h => by rw [h]⟩
theorem ba_list (l : List UInt8) : (ba l).toList = l := by rw [ByteArray.toList_eq, ba_data]
theorem ba_eq {a b : List UInt8} (h : a = b) : ((ba a).toList == (ba b).toList) = true := by rw [h]; exact beq_self_eq_true _
theorem ba_ne {a b : List UInt8} (h : a ≠ b) : ((ba a).toList == (ba b).toList) = false := by rw [ba_list, ba_list]; exact beq_eq_false_iff_ne.2 h
structure Env (w : World) : Prop where
  name : ∀ o, o < 42 → w.cell? ⟨0, o * 2, none⟩ = some (.string (ba (nm o)))
  need : ∀ o, o < 42 → w.cell? ⟨0, o * 2 + 1, none⟩ = some (.string (ba (nd o)))
  max : ∃ m, w.cell? ⟨2, 0, none⟩ = some (.int .i64 m)
  pow : Lib.TabIs Tryz.prog w "internal/strconv.uint64pow10" .u64 Lib.pow10Tab
  utf : Lib.Utf8Tabs 4 5 w
  syn : ∃ t p, w.cell? ⟨6, 0, none⟩ = some (.iface t p)
  rng : ∃ t p, w.cell? ⟨7, 0, none⟩ = some (.iface t p)
theorem lt_cell {w : World} {a : Addr} {v : Value} (h : w.cell? a = some v) : a.block < w.heap.size := by
  rcases Nat.lt_or_ge a.block w.heap.size with k | k
  · exact k
  · simp [World.cell?, Array.getElem?_eq_none k] at h
theorem New.cellv {w w' : World} (n : New w w') {a : Addr} {v : Value} (h : w.cell? a = some v) : w'.cell? a = some v := (n.cell (lt_cell h)).trans h
theorem tab_new {n : String} {g : Nat} {k : IntKind} {zs : List Int} {w w' : World} (hg : Tryz.prog.globalNamed n = some g) (h : Lib.TabIs Tryz.prog w n k zs) (hb : New w w') : Lib.TabIs Tryz.prog w' n k zs := by
  have e : ∀ v : World, v.var? Tryz.prog n = (match v.heap[g]? with | some (.cells cs _ _) => some cs | _ => none) := fun v => by
    unfold World.var?; rw [hg]; rfl
  unfold Lib.TabIs at h ⊢
  rw [e] at h ⊢
  have hlt : g < w.heap.size := by
    rcases Nat.lt_or_ge g w.heap.size with k | k
    · exact k
    · rw [Array.getElem?_eq_none k] at h; cases h
  rw [hb.block hlt]; exact h
theorem Env.new {w w' : World} (h : Env w) (n : New w w') : Env w' where
  name := fun o k => n.cellv (h.name o k)
  need := fun o k => n.cellv (h.need o k)
  max := let ⟨m, k⟩ := h.max; ⟨m, n.cellv k⟩
  pow := tab_new (g := 3) (by kernel_rfl) h.pow n
  utf := Utf8Tabs_below h.utf n
  syn := let ⟨t, p, k⟩ := h.syn; ⟨t, p, n.cellv k⟩
  rng := let ⟨t, p, k⟩ := h.rng; ⟨t, p, n.cellv k⟩

theorem ablank (x : Nat) (w : World) : Calls Tryz.prog 25 #[.int .i32 (x : Int)] w fun e w' => e = .returned (.bool (blkR x)) ∧ w' = w := by
  unfold blkR
  by_cases h1 : (x : Int) = 32
  · obtain rfl : x = 32 := by omega
    go_enter Tryz.func25, Tryz.ntmps25
    go_wp2
    go_ret
    exact ⟨rfl, rfl⟩
  · by_cases h2 : (x : Int) = 9
    · obtain rfl : x = 9 := by omega
      go_enter Tryz.func25, Tryz.ntmps25
      go_wp2
      go_ret
      exact ⟨rfl, rfl⟩
    · have e : (x == 32 || x == 9) = false := by simp; omega
      rw [e]
      go_enter Tryz.func25, Tryz.ntmps25
      go_wp2
      go_ret
      exact ⟨by simp [h1, h2], rfl⟩
theorem blank_grows (w : World) : PredGrows Tryz.prog 25 #[] blkR w := by
  intro W x hx hb
  refine (ablank x W).mono ?_
  rintro e w' ⟨rfl, rfl⟩
  exact ⟨rfl, Below.refl _ _⟩
theorem blank_enter : ∀ args w, (callFunc 25 args).run Tryz.prog w = .ok (.enter 25 args) w := enters_of Tryz.func25 (by kernel_rfl) rfl

theorem aname (k : Nat) (w : World) (h : Env w) (hk : k < 42) : Calls Tryz.prog 10 #[.int .i64 (k : Int)] w fun e w' => e = .returned (.string (ba (nm k))) ∧ w' = w := by
  have c := h.name k hk
  have h0 : (0 : Int) ≤ (k : Int) := by omega
  have h1 : (k : Int) < 42 := by omega
  clear h
  go_enter Tryz.func10, Tryz.ntmps10
  go_wp2
  go_ret
  exact ⟨rfl, rfl⟩
theorem aname_no (o : Int) (w : World) (h : o < 0 ∨ 42 ≤ o) : Calls Tryz.prog 10 #[.int .i64 o] w fun e w' => e = .returned (.string (ba [])) ∧ w' = w := by
  rcases h with h | h
  · go_enter Tryz.func10, Tryz.ntmps10
    go_wp2
    go_ret
    exact ⟨rfl, rfl⟩
  · have h0 : 0 ≤ o := by omega
    have h1 : ¬ o < 42 := by omega
    have h2 : decide (o < 42) = false := decide_eq_false h1
    go_enter Tryz.func10, Tryz.ntmps10
    go_wp2
    go_ret
    exact ⟨rfl, rfl⟩
theorem aneeds (k : Nat) (w : World) (h : Env w) (hk : k < 42) : Calls Tryz.prog 11 #[.int .i64 (k : Int)] w fun e w' => e = .returned (.string (ba (nd k))) ∧ w' = w := by
  have c := h.need k hk
  have h0 : (0 : Int) ≤ (k : Int) := by omega
  have h1 : (k : Int) < 42 := by omega
  clear h
  go_enter Tryz.func11, Tryz.ntmps11
  go_wp2
  go_ret
  exact ⟨rfl, rfl⟩
theorem aneeds_no (o : Int) (w : World) (h : o < 0 ∨ 42 ≤ o) : Calls Tryz.prog 11 #[.int .i64 o] w fun e w' => e = .returned (.string (ba [])) ∧ w' = w := by
  rcases h with h | h
  · go_enter Tryz.func11, Tryz.ntmps11
    go_wp2
    go_ret
    exact ⟨rfl, rfl⟩
  · have h0 : 0 ≤ o := by omega
    have h1 : ¬ o < 42 := by omega
    have h2 : decide (o < 42) = false := decide_eq_false h1
    go_enter Tryz.func11, Tryz.ntmps11
    go_wp2
    go_ret
    exact ⟨rfl, rfl⟩
/-- an operation's name and letters, of any number -/
def nmI (o : Int) : List UInt8 := if 0 ≤ o then nm o.toNat else []
def ndI (o : Int) : List UInt8 := if 0 ≤ o then nd o.toNat else []
theorem nmI_nat (k : Nat) : nmI (k : Int) = nm k := by unfold nmI; rw [if_pos (by omega), Int.toNat_natCast]
theorem ndI_nat (k : Nat) : ndI (k : Int) = nd k := by unfold ndI; rw [if_pos (by omega), Int.toNat_natCast]
theorem nmI_no {o : Int} (h : o < 0 ∨ 42 ≤ o) : nmI o = [] ∧ ndI o = [] := by
  unfold nmI ndI
  by_cases k : 0 ≤ o
  · rw [if_pos k, if_pos k]; exact ⟨nm_big (by omega), nd_big (by omega)⟩
  · rw [if_neg k, if_neg k]; exact ⟨rfl, rfl⟩
theorem name_any (o : Int) (w : World) (h : Env w) : Calls Tryz.prog 10 #[.int .i64 o] w fun e w' => e = .returned (.string (ba (nmI o))) ∧ w' = w := by
  by_cases k : 0 ≤ o ∧ o < 42
  · obtain ⟨n, rfl⟩ : ∃ n : Nat, o = (n : Int) := ⟨o.toNat, by omega⟩
    rw [nmI_nat]; exact aname n w h (by omega)
  · rw [(nmI_no (o := o) (by omega)).1]; exact aname_no o w (by omega)
theorem needs_any (o : Int) (w : World) (h : Env w) : Calls Tryz.prog 11 #[.int .i64 o] w fun e w' => e = .returned (.string (ba (ndI o))) ∧ w' = w := by
  by_cases k : 0 ≤ o ∧ o < 42
  · obtain ⟨n, rfl⟩ : ∃ n : Nat, o = (n : Int) := ⟨o.toNat, by omega⟩
    rw [ndI_nat]; exact aneeds n w h (by omega)
  · rw [(nmI_no (o := o) (by omega)).2]; exact aneeds_no o w (by omega)
set_option maxHeartbeats 1000000 in
theorem find_any (l : List UInt8) (w : World) (h : Env w) : Calls Tryz.prog 26 #[.string (ba l)] w fun e w' => e = .returned (.int .i64 (fnd l : Int)) ∧ w' = w := by
  have hle := fnd_le l
  go_enter Tryz.func26, Tryz.ntmps26
  go_wp2_with fail
  go_loopg [4] 42 (fun k s4 wr => ∃ j : Nat, j + k = 42 ∧ s4 = .int .i64 (j : Int) ∧ wr = w ∧ j ≤ fnd l)
  case atStart => exact ⟨0, rfl, rfl, rfl, Nat.zero_le _⟩
  case round =>
    obtain ⟨j, hj, rfl, rfl, hf⟩ := hrel
    by_cases hlt : j < 42
    · have hc := aname j wr h hlt
      have h1 : (j : Int) < 42 := by omega
      by_cases he : nm j = l
      · have e : fnd l = j := fnd_at hlt he
        rw [he] at hc
        go_wp2_with (go_at_call 10; refine hc.mono ?_; rintro e w' ⟨rfl, rfl⟩)
        go_ret
        exact ⟨ret_int (by rw [e]), rfl⟩
      · have hne := ba_ne he
        go_wp2_with (go_at_call 10; refine hc.mono ?_; rintro e w' ⟨rfl, rfl⟩)
        have : j ≠ fnd l := fun e => he (by rw [e]; exact nm_fnd (by omega))
        go_roundg (42 - (j + 1))
        case measure => omega
        case rel => exact ⟨j + 1, by omega, rfl, rfl, by omega⟩
    · obtain rfl : j = 42 := by omega
      have h1 : ¬ ((42 : Nat) : Int) < 42 := by omega
      have e : fnd l = 42 := by omega
      go_wp2
      go_ret
      exact ⟨ret_int (by first | rfl | omega), rfl⟩
end Go.Proofs.YtlpjegclpilaaaaGreatDoor
