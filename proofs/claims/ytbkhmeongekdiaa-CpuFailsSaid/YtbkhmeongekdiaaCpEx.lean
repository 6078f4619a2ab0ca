/- How an instruction is executed, whatever it is: one contract. -/
import Derived.Test.YtbkhmeongekdiaaCpP
import Derived.Test.YtbkhmeongekdiaaCpQ
import Derived.Test.YtbkhmeongekdiaaCpR
import Derived.Test.YtbkhmeongekdiaaCpS
import Derived.Test.YtbkhmeongekdiaaCpT
import Derived.Test.YtbkhmeongekdiaaCpU
import Derived.Test.YtbkhmeongekdiaaCpV
import Derived.Test.YtbkhmeongekdiaaCpY
import Derived.RegionTactic
namespace Go.Proofs.Ytbkhmeongekdiaa
open Go.RowKit Go.Joins
set_option linter.unusedVariables false
set_option maxRecDepth 100000
section
variable {w0 w w' : World} {cb db : Nat} {v : Value} {L : List Int} {x f : Nat → Int} {q a s : Int}
theorem ds_0 (hc : Co w cb db x f q) (h : Bd w db v L a s) (hx : Bx x) (hf : Bf f) (pc i j : Nat) (m : Int) (hpc : x 16 = pc) (hp : (pc : Int) % 4 = 0) (hh : hsn L pc 4) (hi : i < 16) (hj : j < 16) (m0 : -32768 ≤ m) (m1 : m ≤ 32767)
    (e1 : gtn L pc 4 / 16777216 = 0) (e2 : gtn L pc 4 / 1048576 % 16 = i) (e3 : gtn L pc 4 / 65536 % 16 = j) (e4 : imv (gtn L pc 4) = m) :
    Calls Try.prog 19 #[.pointer (some ⟨cb, 0, none⟩)] w (Came (.int .i64 (dsA 0 i j m x f L).k) (dsA 0 i j m x f L) w cb db v (wrap64 (a + 1)) s) := by
  rw [show dsA 0 i j m x f L = okA (nx x) f L from rfl]
  exact ex_0 hc h hx hf pc i j m hpc hp hh hi hj m0 m1  e1 e2 e3 e4
theorem ds_1 (hc : Co w cb db x f q) (h : Bd w db v L a s) (hx : Bx x) (hf : Bf f) (pc i j : Nat) (m : Int) (hpc : x 16 = pc) (hp : (pc : Int) % 4 = 0) (hh : hsn L pc 4) (hi : i < 16) (hj : j < 16) (m0 : -32768 ≤ m) (m1 : m ≤ 32767)
    (e1 : gtn L pc 4 / 16777216 = 1) (e2 : gtn L pc 4 / 1048576 % 16 = i) (e3 : gtn L pc 4 / 65536 % 16 = j) (e4 : imv (gtn L pc 4) = m) :
    Calls Try.prog 19 #[.pointer (some ⟨cb, 0, none⟩)] w (Came (.int .i64 (dsA 1 i j m x f L).k) (dsA 1 i j m x f L) w cb db v (wrap64 (a + 1)) s) := by
  rw [show dsA 1 i j m x f L = okA (upd (nx x) i (m32 m)) f L from rfl]
  exact ex_1 hc h hx hf pc i j m hpc hp hh hi hj m0 m1  e1 e2 e3 e4
theorem ds_2 (hc : Co w cb db x f q) (h : Bd w db v L a s) (hx : Bx x) (hf : Bf f) (pc i j : Nat) (m : Int) (hpc : x 16 = pc) (hp : (pc : Int) % 4 = 0) (hh : hsn L pc 4) (hi : i < 16) (hj : j < 16) (m0 : -32768 ≤ m) (m1 : m ≤ 32767)
    (e1 : gtn L pc 4 / 16777216 = 2) (e2 : gtn L pc 4 / 1048576 % 16 = i) (e3 : gtn L pc 4 / 65536 % 16 = j) (e4 : imv (gtn L pc 4) = m) :
    Calls Try.prog 19 #[.pointer (some ⟨cb, 0, none⟩)] w (Came (.int .i64 (dsA 2 i j m x f L).k) (dsA 2 i j m x f L) w cb db v (wrap64 (a + 1)) s) := by
  rw [show dsA 2 i j m x f L = okA (upd (nx x) i (m32 (65536 * m))) f L from rfl]
  exact ex_2 hc h hx hf pc i j m hpc hp hh hi hj m0 m1  e1 e2 e3 e4
theorem ds_3 (hc : Co w cb db x f q) (h : Bd w db v L a s) (hx : Bx x) (hf : Bf f) (pc i j : Nat) (m : Int) (hpc : x 16 = pc) (hp : (pc : Int) % 4 = 0) (hh : hsn L pc 4) (hi : i < 16) (hj : j < 16) (m0 : -32768 ≤ m) (m1 : m ≤ 32767)
    (e1 : gtn L pc 4 / 16777216 = 3) (e2 : gtn L pc 4 / 1048576 % 16 = i) (e3 : gtn L pc 4 / 65536 % 16 = j) (e4 : imv (gtn L pc 4) = m) :
    Calls Try.prog 19 #[.pointer (some ⟨cb, 0, none⟩)] w (Came (.int .i64 (dsA 3 i j m x f L).k) (dsA 3 i j m x f L) w cb db v (wrap64 (a + 1)) s) := by
  rw [show dsA 3 i j m x f L = okA (upd (nx x) i (x j)) f L from rfl]
  exact ex_3 hc h hx hf pc i j m hpc hp hh hi hj m0 m1  e1 e2 e3 e4
theorem ds_4 (hc : Co w cb db x f q) (h : Bd w db v L a s) (hx : Bx x) (hf : Bf f) (pc i j : Nat) (m : Int) (hpc : x 16 = pc) (hp : (pc : Int) % 4 = 0) (hh : hsn L pc 4) (hi : i < 16) (hj : j < 16) (m0 : -32768 ≤ m) (m1 : m ≤ 32767)
    (e1 : gtn L pc 4 / 16777216 = 4) (e2 : gtn L pc 4 / 1048576 % 16 = i) (e3 : gtn L pc 4 / 65536 % 16 = j) (e4 : imv (gtn L pc 4) = m) :
    Calls Try.prog 19 #[.pointer (some ⟨cb, 0, none⟩)] w (Came (.int .i64 (dsA 4 i j m x f L).k) (dsA 4 i j m x f L) w cb db v (wrap64 (a + 1)) s) := by
  rw [show dsA 4 i j m x f L = if doe 4 (x j) = 0 then okA (upd (upd (nx x) i (dov 4 (x i) (x j))) 17 (dof 4 (x i) (x j) (x 17))) f L else noA x f L 8 (x 16) from rfl]
  have c : doe 4 (x j) = 0 := rfl
  rw [if_pos c]
  exact ex_4 hc h hx hf pc i j m hpc hp hh hi hj m0 m1 c e1 e2 e3 e4
theorem ds_5 (hc : Co w cb db x f q) (h : Bd w db v L a s) (hx : Bx x) (hf : Bf f) (pc i j : Nat) (m : Int) (hpc : x 16 = pc) (hp : (pc : Int) % 4 = 0) (hh : hsn L pc 4) (hi : i < 16) (hj : j < 16) (m0 : -32768 ≤ m) (m1 : m ≤ 32767)
    (e1 : gtn L pc 4 / 16777216 = 5) (e2 : gtn L pc 4 / 1048576 % 16 = i) (e3 : gtn L pc 4 / 65536 % 16 = j) (e4 : imv (gtn L pc 4) = m) :
    Calls Try.prog 19 #[.pointer (some ⟨cb, 0, none⟩)] w (Came (.int .i64 (dsA 5 i j m x f L).k) (dsA 5 i j m x f L) w cb db v (wrap64 (a + 1)) s) := by
  rw [show dsA 5 i j m x f L = if doe 5 (x j) = 0 then okA (upd (upd (nx x) i (dov 5 (x i) (x j))) 17 (dof 5 (x i) (x j) (x 17))) f L else noA x f L 8 (x 16) from rfl]
  have c : doe 5 (x j) = 0 := rfl
  rw [if_pos c]
  exact ex_5 hc h hx hf pc i j m hpc hp hh hi hj m0 m1 c e1 e2 e3 e4
theorem ds_6 (hc : Co w cb db x f q) (h : Bd w db v L a s) (hx : Bx x) (hf : Bf f) (pc i j : Nat) (m : Int) (hpc : x 16 = pc) (hp : (pc : Int) % 4 = 0) (hh : hsn L pc 4) (hi : i < 16) (hj : j < 16) (m0 : -32768 ≤ m) (m1 : m ≤ 32767)
    (e1 : gtn L pc 4 / 16777216 = 6) (e2 : gtn L pc 4 / 1048576 % 16 = i) (e3 : gtn L pc 4 / 65536 % 16 = j) (e4 : imv (gtn L pc 4) = m) :
    Calls Try.prog 19 #[.pointer (some ⟨cb, 0, none⟩)] w (Came (.int .i64 (dsA 6 i j m x f L).k) (dsA 6 i j m x f L) w cb db v (wrap64 (a + 1)) s) := by
  rw [show dsA 6 i j m x f L = if doe 6 (x j) = 0 then okA (upd (upd (nx x) i (dov 6 (x i) (x j))) 17 (dof 6 (x i) (x j) (x 17))) f L else noA x f L 8 (x 16) from rfl]
  have c : doe 6 (x j) = 0 := rfl
  rw [if_pos c]
  exact ex_6 hc h hx hf pc i j m hpc hp hh hi hj m0 m1 c e1 e2 e3 e4
theorem ds_7 (hc : Co w cb db x f q) (h : Bd w db v L a s) (hx : Bx x) (hf : Bf f) (pc i j : Nat) (m : Int) (hpc : x 16 = pc) (hp : (pc : Int) % 4 = 0) (hh : hsn L pc 4) (hi : i < 16) (hj : j < 16) (m0 : -32768 ≤ m) (m1 : m ≤ 32767)
    (e1 : gtn L pc 4 / 16777216 = 7) (e2 : gtn L pc 4 / 1048576 % 16 = i) (e3 : gtn L pc 4 / 65536 % 16 = j) (e4 : imv (gtn L pc 4) = m) :
    Calls Try.prog 19 #[.pointer (some ⟨cb, 0, none⟩)] w (Came (.int .i64 (dsA 7 i j m x f L).k) (dsA 7 i j m x f L) w cb db v (wrap64 (a + 1)) s) := by
  rw [show dsA 7 i j m x f L = if doe 7 (x j) = 0 then okA (upd (upd (nx x) i (dov 7 (x i) (x j))) 17 (dof 7 (x i) (x j) (x 17))) f L else noA x f L 8 (x 16) from rfl]
  by_cases c : doe 7 (x j) = 0
  · rw [if_pos c]
    exact ex_7 hc h hx hf pc i j m hpc hp hh hi hj m0 m1 c e1 e2 e3 e4
  · rw [if_neg c]
    exact ex_7_no hc h hx hf pc i j m hpc hp hh hi hj m0 m1 c e1 e2 e3 e4
theorem ds_8 (hc : Co w cb db x f q) (h : Bd w db v L a s) (hx : Bx x) (hf : Bf f) (pc i j : Nat) (m : Int) (hpc : x 16 = pc) (hp : (pc : Int) % 4 = 0) (hh : hsn L pc 4) (hi : i < 16) (hj : j < 16) (m0 : -32768 ≤ m) (m1 : m ≤ 32767)
    (e1 : gtn L pc 4 / 16777216 = 8) (e2 : gtn L pc 4 / 1048576 % 16 = i) (e3 : gtn L pc 4 / 65536 % 16 = j) (e4 : imv (gtn L pc 4) = m) :
    Calls Try.prog 19 #[.pointer (some ⟨cb, 0, none⟩)] w (Came (.int .i64 (dsA 8 i j m x f L).k) (dsA 8 i j m x f L) w cb db v (wrap64 (a + 1)) s) := by
  rw [show dsA 8 i j m x f L = if doe 8 (x j) = 0 then okA (upd (upd (nx x) i (dov 8 (x i) (x j))) 17 (dof 8 (x i) (x j) (x 17))) f L else noA x f L 8 (x 16) from rfl]
  by_cases c : doe 8 (x j) = 0
  · rw [if_pos c]
    exact ex_8 hc h hx hf pc i j m hpc hp hh hi hj m0 m1 c e1 e2 e3 e4
  · rw [if_neg c]
    exact ex_8_no hc h hx hf pc i j m hpc hp hh hi hj m0 m1 c e1 e2 e3 e4
theorem ds_9 (hc : Co w cb db x f q) (h : Bd w db v L a s) (hx : Bx x) (hf : Bf f) (pc i j : Nat) (m : Int) (hpc : x 16 = pc) (hp : (pc : Int) % 4 = 0) (hh : hsn L pc 4) (hi : i < 16) (hj : j < 16) (m0 : -32768 ≤ m) (m1 : m ≤ 32767)
    (e1 : gtn L pc 4 / 16777216 = 9) (e2 : gtn L pc 4 / 1048576 % 16 = i) (e3 : gtn L pc 4 / 65536 % 16 = j) (e4 : imv (gtn L pc 4) = m) :
    Calls Try.prog 19 #[.pointer (some ⟨cb, 0, none⟩)] w (Came (.int .i64 (dsA 9 i j m x f L).k) (dsA 9 i j m x f L) w cb db v (wrap64 (a + 1)) s) := by
  rw [show dsA 9 i j m x f L = if doe 9 (x j) = 0 then okA (upd (upd (nx x) i (dov 9 (x i) (x j))) 17 (dof 9 (x i) (x j) (x 17))) f L else noA x f L 8 (x 16) from rfl]
  have c : doe 9 (x j) = 0 := rfl
  rw [if_pos c]
  exact ex_9 hc h hx hf pc i j m hpc hp hh hi hj m0 m1 c e1 e2 e3 e4
theorem ds_10 (hc : Co w cb db x f q) (h : Bd w db v L a s) (hx : Bx x) (hf : Bf f) (pc i j : Nat) (m : Int) (hpc : x 16 = pc) (hp : (pc : Int) % 4 = 0) (hh : hsn L pc 4) (hi : i < 16) (hj : j < 16) (m0 : -32768 ≤ m) (m1 : m ≤ 32767)
    (e1 : gtn L pc 4 / 16777216 = 10) (e2 : gtn L pc 4 / 1048576 % 16 = i) (e3 : gtn L pc 4 / 65536 % 16 = j) (e4 : imv (gtn L pc 4) = m) :
    Calls Try.prog 19 #[.pointer (some ⟨cb, 0, none⟩)] w (Came (.int .i64 (dsA 10 i j m x f L).k) (dsA 10 i j m x f L) w cb db v (wrap64 (a + 1)) s) := by
  rw [show dsA 10 i j m x f L = if doe 10 (x j) = 0 then okA (upd (upd (nx x) i (dov 10 (x i) (x j))) 17 (dof 10 (x i) (x j) (x 17))) f L else noA x f L 8 (x 16) from rfl]
  have c : doe 10 (x j) = 0 := rfl
  rw [if_pos c]
  exact ex_10 hc h hx hf pc i j m hpc hp hh hi hj m0 m1 c e1 e2 e3 e4
theorem ds_11 (hc : Co w cb db x f q) (h : Bd w db v L a s) (hx : Bx x) (hf : Bf f) (pc i j : Nat) (m : Int) (hpc : x 16 = pc) (hp : (pc : Int) % 4 = 0) (hh : hsn L pc 4) (hi : i < 16) (hj : j < 16) (m0 : -32768 ≤ m) (m1 : m ≤ 32767)
    (e1 : gtn L pc 4 / 16777216 = 11) (e2 : gtn L pc 4 / 1048576 % 16 = i) (e3 : gtn L pc 4 / 65536 % 16 = j) (e4 : imv (gtn L pc 4) = m) :
    Calls Try.prog 19 #[.pointer (some ⟨cb, 0, none⟩)] w (Came (.int .i64 (dsA 11 i j m x f L).k) (dsA 11 i j m x f L) w cb db v (wrap64 (a + 1)) s) := by
  rw [show dsA 11 i j m x f L = if doe 11 (x j) = 0 then okA (upd (upd (nx x) i (dov 11 (x i) (x j))) 17 (dof 11 (x i) (x j) (x 17))) f L else noA x f L 8 (x 16) from rfl]
  have c : doe 11 (x j) = 0 := rfl
  rw [if_pos c]
  exact ex_11 hc h hx hf pc i j m hpc hp hh hi hj m0 m1 c e1 e2 e3 e4
theorem ds_12 (hc : Co w cb db x f q) (h : Bd w db v L a s) (hx : Bx x) (hf : Bf f) (pc i j : Nat) (m : Int) (hpc : x 16 = pc) (hp : (pc : Int) % 4 = 0) (hh : hsn L pc 4) (hi : i < 16) (hj : j < 16) (m0 : -32768 ≤ m) (m1 : m ≤ 32767)
    (e1 : gtn L pc 4 / 16777216 = 12) (e2 : gtn L pc 4 / 1048576 % 16 = i) (e3 : gtn L pc 4 / 65536 % 16 = j) (e4 : imv (gtn L pc 4) = m) :
    Calls Try.prog 19 #[.pointer (some ⟨cb, 0, none⟩)] w (Came (.int .i64 (dsA 12 i j m x f L).k) (dsA 12 i j m x f L) w cb db v (wrap64 (a + 1)) s) := by
  rw [show dsA 12 i j m x f L = if doe 12 (x j) = 0 then okA (upd (upd (nx x) i (dov 12 (x i) (x j))) 17 (dof 12 (x i) (x j) (x 17))) f L else noA x f L 8 (x 16) from rfl]
  have c : doe 12 (x j) = 0 := rfl
  rw [if_pos c]
  exact ex_12 hc h hx hf pc i j m hpc hp hh hi hj m0 m1 c e1 e2 e3 e4
theorem ds_13 (hc : Co w cb db x f q) (h : Bd w db v L a s) (hx : Bx x) (hf : Bf f) (pc i j : Nat) (m : Int) (hpc : x 16 = pc) (hp : (pc : Int) % 4 = 0) (hh : hsn L pc 4) (hi : i < 16) (hj : j < 16) (m0 : -32768 ≤ m) (m1 : m ≤ 32767)
    (e1 : gtn L pc 4 / 16777216 = 13) (e2 : gtn L pc 4 / 1048576 % 16 = i) (e3 : gtn L pc 4 / 65536 % 16 = j) (e4 : imv (gtn L pc 4) = m) :
    Calls Try.prog 19 #[.pointer (some ⟨cb, 0, none⟩)] w (Came (.int .i64 (dsA 13 i j m x f L).k) (dsA 13 i j m x f L) w cb db v (wrap64 (a + 1)) s) := by
  rw [show dsA 13 i j m x f L = if doe 13 (x j) = 0 then okA (upd (upd (nx x) i (dov 13 (x i) (x j))) 17 (dof 13 (x i) (x j) (x 17))) f L else noA x f L 8 (x 16) from rfl]
  have c : doe 13 (x j) = 0 := rfl
  rw [if_pos c]
  exact ex_13 hc h hx hf pc i j m hpc hp hh hi hj m0 m1 c e1 e2 e3 e4
theorem ds_14 (hc : Co w cb db x f q) (h : Bd w db v L a s) (hx : Bx x) (hf : Bf f) (pc i j : Nat) (m : Int) (hpc : x 16 = pc) (hp : (pc : Int) % 4 = 0) (hh : hsn L pc 4) (hi : i < 16) (hj : j < 16) (m0 : -32768 ≤ m) (m1 : m ≤ 32767)
    (e1 : gtn L pc 4 / 16777216 = 14) (e2 : gtn L pc 4 / 1048576 % 16 = i) (e3 : gtn L pc 4 / 65536 % 16 = j) (e4 : imv (gtn L pc 4) = m) :
    Calls Try.prog 19 #[.pointer (some ⟨cb, 0, none⟩)] w (Came (.int .i64 (dsA 14 i j m x f L).k) (dsA 14 i j m x f L) w cb db v (wrap64 (a + 1)) s) := by
  rw [show dsA 14 i j m x f L = if doe 14 (x j) = 0 then okA (upd (upd (nx x) i (dov 14 (x i) (x j))) 17 (dof 14 (x i) (x j) (x 17))) f L else noA x f L 8 (x 16) from rfl]
  have c : doe 14 (x j) = 0 := rfl
  rw [if_pos c]
  exact ex_14 hc h hx hf pc i j m hpc hp hh hi hj m0 m1 c e1 e2 e3 e4
theorem ds_16 (hc : Co w cb db x f q) (h : Bd w db v L a s) (hx : Bx x) (hf : Bf f) (pc i j : Nat) (m : Int) (hpc : x 16 = pc) (hp : (pc : Int) % 4 = 0) (hh : hsn L pc 4) (hi : i < 16) (hj : j < 16) (m0 : -32768 ≤ m) (m1 : m ≤ 32767)
    (e1 : gtn L pc 4 / 16777216 = 16) (e2 : gtn L pc 4 / 1048576 % 16 = i) (e3 : gtn L pc 4 / 65536 % 16 = j) (e4 : imv (gtn L pc 4) = m) :
    Calls Try.prog 19 #[.pointer (some ⟨cb, 0, none⟩)] w (Came (.int .i64 (dsA 16 i j m x f L).k) (dsA 16 i j m x f L) w cb db v (wrap64 (a + 1)) s) := by
  rw [show dsA 16 i j m x f L = if doe 16 (x j) = 0 then okA (upd (upd (nx x) i (dov 16 (x i) (x j))) 17 (dof 16 (x i) (x j) (x 17))) f L else noA x f L 8 (x 16) from rfl]
  have c : doe 16 (x j) = 0 := rfl
  rw [if_pos c]
  exact ex_16 hc h hx hf pc i j m hpc hp hh hi hj m0 m1 c e1 e2 e3 e4
theorem ds_15 (hc : Co w cb db x f q) (h : Bd w db v L a s) (hx : Bx x) (hf : Bf f) (pc i j : Nat) (m : Int) (hpc : x 16 = pc) (hp : (pc : Int) % 4 = 0) (hh : hsn L pc 4) (hi : i < 16) (hj : j < 16) (m0 : -32768 ≤ m) (m1 : m ≤ 32767)
    (e1 : gtn L pc 4 / 16777216 = 15) (e2 : gtn L pc 4 / 1048576 % 16 = i) (e3 : gtn L pc 4 / 65536 % 16 = j) (e4 : imv (gtn L pc 4) = m) :
    Calls Try.prog 19 #[.pointer (some ⟨cb, 0, none⟩)] w (Came (.int .i64 (dsA 15 i j m x f L).k) (dsA 15 i j m x f L) w cb db v (wrap64 (a + 1)) s) := by
  rw [show dsA 15 i j m x f L = okA (upd (nx x) i (adr x j m)) f L from rfl]
  exact ex_15 hc h hx hf pc i j m hpc hp hh hi hj m0 m1  e1 e2 e3 e4
theorem ds_17 (hc : Co w cb db x f q) (h : Bd w db v L a s) (hx : Bx x) (hf : Bf f) (pc i j : Nat) (m : Int) (hpc : x 16 = pc) (hp : (pc : Int) % 4 = 0) (hh : hsn L pc 4) (hi : i < 16) (hj : j < 16) (m0 : -32768 ≤ m) (m1 : m ≤ 32767)
    (e1 : gtn L pc 4 / 16777216 = 17) (e2 : gtn L pc 4 / 1048576 % 16 = i) (e3 : gtn L pc 4 / 65536 % 16 = j) (e4 : imv (gtn L pc 4) = m) :
    Calls Try.prog 19 #[.pointer (some ⟨cb, 0, none⟩)] w (Came (.int .i64 (dsA 17 i j m x f L).k) (dsA 17 i j m x f L) w cb db v (wrap64 (a + 1)) s) := by
  rw [show dsA 17 i j m x f L = if adr x j m % (1 : Int) ≠ 0 then noA x f L 7 (adr x j m) else if ¬ hsn L (adr x j m) 1 then noA x f L 11 (adr x j m) else okA (upd (nx x) i (gtn L (adr x j m) 1)) f L from rfl]
  rw [if_neg (show ¬ (adr x j m % (1 : Int) ≠ 0) by omega)]
  by_cases c2 : hsn L (adr x j m) 1
  · rw [if_neg (not_not_intro c2)]
    exact ex_17 hc h hx hf pc i j m hpc hp hh hi hj m0 m1 c2 e1 e2 e3 e4
  · rw [if_pos c2]
    exact ex_17_no hc h hx hf pc i j m hpc hp hh hi hj m0 m1 c2 e1 e2 e3 e4
theorem ds_18 (hc : Co w cb db x f q) (h : Bd w db v L a s) (hx : Bx x) (hf : Bf f) (pc i j : Nat) (m : Int) (hpc : x 16 = pc) (hp : (pc : Int) % 4 = 0) (hh : hsn L pc 4) (hi : i < 16) (hj : j < 16) (m0 : -32768 ≤ m) (m1 : m ≤ 32767)
    (e1 : gtn L pc 4 / 16777216 = 18) (e2 : gtn L pc 4 / 1048576 % 16 = i) (e3 : gtn L pc 4 / 65536 % 16 = j) (e4 : imv (gtn L pc 4) = m) :
    Calls Try.prog 19 #[.pointer (some ⟨cb, 0, none⟩)] w (Came (.int .i64 (dsA 18 i j m x f L).k) (dsA 18 i j m x f L) w cb db v (wrap64 (a + 1)) s) := by
  rw [show dsA 18 i j m x f L = if adr x j m % (4 : Int) ≠ 0 then noA x f L 7 (adr x j m) else if ¬ hsn L (adr x j m) 4 then noA x f L 11 (adr x j m) else okA (upd (nx x) i (gtn L (adr x j m) 4)) f L from rfl]
  by_cases c1 : adr x j m % (4 : Int) ≠ 0
  · rw [if_pos c1]
    exact ex_18_odd hc h hx hf pc i j m hpc hp hh hi hj m0 m1 c1 e1 e2 e3 e4
  rw [if_neg c1]
  have c1 := Decidable.not_not.1 c1
  by_cases c2 : hsn L (adr x j m) 4
  · rw [if_neg (not_not_intro c2)]
    exact ex_18 hc h hx hf pc i j m hpc hp hh hi hj m0 m1 c1 c2 e1 e2 e3 e4
  · rw [if_pos c2]
    exact ex_18_no hc h hx hf pc i j m hpc hp hh hi hj m0 m1 c1 c2 e1 e2 e3 e4
theorem ds_19 (hc : Co w cb db x f q) (h : Bd w db v L a s) (hx : Bx x) (hf : Bf f) (pc i j : Nat) (m : Int) (hpc : x 16 = pc) (hp : (pc : Int) % 4 = 0) (hh : hsn L pc 4) (hi : i < 16) (hj : j < 16) (m0 : -32768 ≤ m) (m1 : m ≤ 32767)
    (e1 : gtn L pc 4 / 16777216 = 19) (e2 : gtn L pc 4 / 1048576 % 16 = i) (e3 : gtn L pc 4 / 65536 % 16 = j) (e4 : imv (gtn L pc 4) = m) :
    Calls Try.prog 19 #[.pointer (some ⟨cb, 0, none⟩)] w (Came (.int .i64 (dsA 19 i j m x f L).k) (dsA 19 i j m x f L) w cb db v (wrap64 (a + 1)) s) := by
  rw [show dsA 19 i j m x f L = if adr x j m % (1 : Int) ≠ 0 then noA x f L 7 (adr x j m) else if ¬ hsn L (adr x j m) 1 then noA x f L 11 (adr x j m) else (⟨nx x, f, ptn L (adr x j m) 1 (x i), 1, 0, 0, 0⟩ : Ans) from rfl]
  rw [if_neg (show ¬ (adr x j m % (1 : Int) ≠ 0) by omega)]
  by_cases c2 : hsn L (adr x j m) 1
  · rw [if_neg (not_not_intro c2)]
    exact ex_19 hc h hx hf pc i j m hpc hp hh hi hj m0 m1 c2 e1 e2 e3 e4
  · rw [if_pos c2]
    exact ex_19_no hc h hx hf pc i j m hpc hp hh hi hj m0 m1 c2 e1 e2 e3 e4
theorem ds_20 (hc : Co w cb db x f q) (h : Bd w db v L a s) (hx : Bx x) (hf : Bf f) (pc i j : Nat) (m : Int) (hpc : x 16 = pc) (hp : (pc : Int) % 4 = 0) (hh : hsn L pc 4) (hi : i < 16) (hj : j < 16) (m0 : -32768 ≤ m) (m1 : m ≤ 32767)
    (e1 : gtn L pc 4 / 16777216 = 20) (e2 : gtn L pc 4 / 1048576 % 16 = i) (e3 : gtn L pc 4 / 65536 % 16 = j) (e4 : imv (gtn L pc 4) = m) :
    Calls Try.prog 19 #[.pointer (some ⟨cb, 0, none⟩)] w (Came (.int .i64 (dsA 20 i j m x f L).k) (dsA 20 i j m x f L) w cb db v (wrap64 (a + 1)) s) := by
  rw [show dsA 20 i j m x f L = if adr x j m % (4 : Int) ≠ 0 then noA x f L 7 (adr x j m) else if ¬ hsn L (adr x j m) 4 then noA x f L 11 (adr x j m) else (⟨nx x, f, ptn L (adr x j m) 4 (x i), 1, 0, 0, 0⟩ : Ans) from rfl]
  by_cases c1 : adr x j m % (4 : Int) ≠ 0
  · rw [if_pos c1]
    exact ex_20_odd hc h hx hf pc i j m hpc hp hh hi hj m0 m1 c1 e1 e2 e3 e4
  rw [if_neg c1]
  have c1 := Decidable.not_not.1 c1
  by_cases c2 : hsn L (adr x j m) 4
  · rw [if_neg (not_not_intro c2)]
    exact ex_20 hc h hx hf pc i j m hpc hp hh hi hj m0 m1 c1 c2 e1 e2 e3 e4
  · rw [if_pos c2]
    exact ex_20_no hc h hx hf pc i j m hpc hp hh hi hj m0 m1 c1 c2 e1 e2 e3 e4
theorem ds_21 (hc : Co w cb db x f q) (h : Bd w db v L a s) (hx : Bx x) (hf : Bf f) (pc i j : Nat) (m : Int) (hpc : x 16 = pc) (hp : (pc : Int) % 4 = 0) (hh : hsn L pc 4) (hi : i < 16) (hj : j < 16) (m0 : -32768 ≤ m) (m1 : m ≤ 32767)
    (e1 : gtn L pc 4 / 16777216 = 21) (e2 : gtn L pc 4 / 1048576 % 16 = i) (e3 : gtn L pc 4 / 65536 % 16 = j) (e4 : imv (gtn L pc 4) = m) :
    Calls Try.prog 19 #[.pointer (some ⟨cb, 0, none⟩)] w (Came (.int .i64 (dsA 21 i j m x f L).k) (dsA 21 i j m x f L) w cb db v (wrap64 (a + 1)) s) := by
  rw [show dsA 21 i j m x f L = if tkv 21 (x 17) then okA (upd (nx x) 16 (frw x m)) f L else okA (nx x) f L from rfl]
  exact ex_21 hc h hx hf pc i j m hpc hp hh hi hj m0 m1  e1 e2 e3 e4
theorem ds_22 (hc : Co w cb db x f q) (h : Bd w db v L a s) (hx : Bx x) (hf : Bf f) (pc i j : Nat) (m : Int) (hpc : x 16 = pc) (hp : (pc : Int) % 4 = 0) (hh : hsn L pc 4) (hi : i < 16) (hj : j < 16) (m0 : -32768 ≤ m) (m1 : m ≤ 32767)
    (e1 : gtn L pc 4 / 16777216 = 22) (e2 : gtn L pc 4 / 1048576 % 16 = i) (e3 : gtn L pc 4 / 65536 % 16 = j) (e4 : imv (gtn L pc 4) = m) :
    Calls Try.prog 19 #[.pointer (some ⟨cb, 0, none⟩)] w (Came (.int .i64 (dsA 22 i j m x f L).k) (dsA 22 i j m x f L) w cb db v (wrap64 (a + 1)) s) := by
  rw [show dsA 22 i j m x f L = if tkv 22 (x 17) then okA (upd (nx x) 16 (frw x m)) f L else okA (nx x) f L from rfl]
  exact ex_22 hc h hx hf pc i j m hpc hp hh hi hj m0 m1  e1 e2 e3 e4
theorem ds_23 (hc : Co w cb db x f q) (h : Bd w db v L a s) (hx : Bx x) (hf : Bf f) (pc i j : Nat) (m : Int) (hpc : x 16 = pc) (hp : (pc : Int) % 4 = 0) (hh : hsn L pc 4) (hi : i < 16) (hj : j < 16) (m0 : -32768 ≤ m) (m1 : m ≤ 32767)
    (e1 : gtn L pc 4 / 16777216 = 23) (e2 : gtn L pc 4 / 1048576 % 16 = i) (e3 : gtn L pc 4 / 65536 % 16 = j) (e4 : imv (gtn L pc 4) = m) :
    Calls Try.prog 19 #[.pointer (some ⟨cb, 0, none⟩)] w (Came (.int .i64 (dsA 23 i j m x f L).k) (dsA 23 i j m x f L) w cb db v (wrap64 (a + 1)) s) := by
  rw [show dsA 23 i j m x f L = if tkv 23 (x 17) then okA (upd (nx x) 16 (frw x m)) f L else okA (nx x) f L from rfl]
  exact ex_23 hc h hx hf pc i j m hpc hp hh hi hj m0 m1  e1 e2 e3 e4
theorem ds_24 (hc : Co w cb db x f q) (h : Bd w db v L a s) (hx : Bx x) (hf : Bf f) (pc i j : Nat) (m : Int) (hpc : x 16 = pc) (hp : (pc : Int) % 4 = 0) (hh : hsn L pc 4) (hi : i < 16) (hj : j < 16) (m0 : -32768 ≤ m) (m1 : m ≤ 32767)
    (e1 : gtn L pc 4 / 16777216 = 24) (e2 : gtn L pc 4 / 1048576 % 16 = i) (e3 : gtn L pc 4 / 65536 % 16 = j) (e4 : imv (gtn L pc 4) = m) :
    Calls Try.prog 19 #[.pointer (some ⟨cb, 0, none⟩)] w (Came (.int .i64 (dsA 24 i j m x f L).k) (dsA 24 i j m x f L) w cb db v (wrap64 (a + 1)) s) := by
  rw [show dsA 24 i j m x f L = if tkv 24 (x 17) then okA (upd (nx x) 16 (frw x m)) f L else okA (nx x) f L from rfl]
  exact ex_24 hc h hx hf pc i j m hpc hp hh hi hj m0 m1  e1 e2 e3 e4
theorem ds_25 (hc : Co w cb db x f q) (h : Bd w db v L a s) (hx : Bx x) (hf : Bf f) (pc i j : Nat) (m : Int) (hpc : x 16 = pc) (hp : (pc : Int) % 4 = 0) (hh : hsn L pc 4) (hi : i < 16) (hj : j < 16) (m0 : -32768 ≤ m) (m1 : m ≤ 32767)
    (e1 : gtn L pc 4 / 16777216 = 25) (e2 : gtn L pc 4 / 1048576 % 16 = i) (e3 : gtn L pc 4 / 65536 % 16 = j) (e4 : imv (gtn L pc 4) = m) :
    Calls Try.prog 19 #[.pointer (some ⟨cb, 0, none⟩)] w (Came (.int .i64 (dsA 25 i j m x f L).k) (dsA 25 i j m x f L) w cb db v (wrap64 (a + 1)) s) := by
  rw [show dsA 25 i j m x f L = if tkv 25 (x 17) then okA (upd (nx x) 16 (frw x m)) f L else okA (nx x) f L from rfl]
  exact ex_25 hc h hx hf pc i j m hpc hp hh hi hj m0 m1  e1 e2 e3 e4
theorem ds_26 (hc : Co w cb db x f q) (h : Bd w db v L a s) (hx : Bx x) (hf : Bf f) (pc i j : Nat) (m : Int) (hpc : x 16 = pc) (hp : (pc : Int) % 4 = 0) (hh : hsn L pc 4) (hi : i < 16) (hj : j < 16) (m0 : -32768 ≤ m) (m1 : m ≤ 32767)
    (e1 : gtn L pc 4 / 16777216 = 26) (e2 : gtn L pc 4 / 1048576 % 16 = i) (e3 : gtn L pc 4 / 65536 % 16 = j) (e4 : imv (gtn L pc 4) = m) :
    Calls Try.prog 19 #[.pointer (some ⟨cb, 0, none⟩)] w (Came (.int .i64 (dsA 26 i j m x f L).k) (dsA 26 i j m x f L) w cb db v (wrap64 (a + 1)) s) := by
  rw [show dsA 26 i j m x f L = if tkv 26 (x 17) then okA (upd (nx x) 16 (frw x m)) f L else okA (nx x) f L from rfl]
  exact ex_26 hc h hx hf pc i j m hpc hp hh hi hj m0 m1  e1 e2 e3 e4
theorem ds_27 (hc : Co w cb db x f q) (h : Bd w db v L a s) (hx : Bx x) (hf : Bf f) (pc i j : Nat) (m : Int) (hpc : x 16 = pc) (hp : (pc : Int) % 4 = 0) (hh : hsn L pc 4) (hi : i < 16) (hj : j < 16) (m0 : -32768 ≤ m) (m1 : m ≤ 32767)
    (e1 : gtn L pc 4 / 16777216 = 27) (e2 : gtn L pc 4 / 1048576 % 16 = i) (e3 : gtn L pc 4 / 65536 % 16 = j) (e4 : imv (gtn L pc 4) = m) :
    Calls Try.prog 19 #[.pointer (some ⟨cb, 0, none⟩)] w (Came (.int .i64 (dsA 27 i j m x f L).k) (dsA 27 i j m x f L) w cb db v (wrap64 (a + 1)) s) := by
  rw [show dsA 27 i j m x f L = okA (upd (upd (nx x) 14 (m32 (x 16 + 4))) 16 (frw x m)) f L from rfl]
  exact ex_27 hc h hx hf pc i j m hpc hp hh hi hj m0 m1  e1 e2 e3 e4
theorem ds_28 (hc : Co w cb db x f q) (h : Bd w db v L a s) (hx : Bx x) (hf : Bf f) (pc i j : Nat) (m : Int) (hpc : x 16 = pc) (hp : (pc : Int) % 4 = 0) (hh : hsn L pc 4) (hi : i < 16) (hj : j < 16) (m0 : -32768 ≤ m) (m1 : m ≤ 32767)
    (e1 : gtn L pc 4 / 16777216 = 28) (e2 : gtn L pc 4 / 1048576 % 16 = i) (e3 : gtn L pc 4 / 65536 % 16 = j) (e4 : imv (gtn L pc 4) = m) :
    Calls Try.prog 19 #[.pointer (some ⟨cb, 0, none⟩)] w (Came (.int .i64 (dsA 28 i j m x f L).k) (dsA 28 i j m x f L) w cb db v (wrap64 (a + 1)) s) := by
  rw [show dsA 28 i j m x f L = okA (upd (nx x) 16 (x i)) f L from rfl]
  exact ex_28 hc h hx hf pc i j m hpc hp hh hi hj m0 m1  e1 e2 e3 e4
theorem ds_29 (hc : Co w cb db x f q) (h : Bd w db v L a s) (hx : Bx x) (hf : Bf f) (pc i j : Nat) (m : Int) (hpc : x 16 = pc) (hp : (pc : Int) % 4 = 0) (hh : hsn L pc 4) (hi : i < 16) (hj : j < 16) (m0 : -32768 ≤ m) (m1 : m ≤ 32767)
    (e1 : gtn L pc 4 / 16777216 = 29) (e2 : gtn L pc 4 / 1048576 % 16 = i) (e3 : gtn L pc 4 / 65536 % 16 = j) (e4 : imv (gtn L pc 4) = m) :
    Calls Try.prog 19 #[.pointer (some ⟨cb, 0, none⟩)] w (Came (.int .i64 (dsA 29 i j m x f L).k) (dsA 29 i j m x f L) w cb db v (wrap64 (a + 1)) s) := by
  rw [show dsA 29 i j m x f L = (⟨nx x, f, L, 0, 1, 0, 0⟩ : Ans) from rfl]
  exact ex_29 hc h hx hf pc i j m hpc hp hh hi hj m0 m1  e1 e2 e3 e4
theorem ds_30 (hc : Co w cb db x f q) (h : Bd w db v L a s) (hx : Bx x) (hf : Bf f) (pc i j : Nat) (m : Int) (hpc : x 16 = pc) (hp : (pc : Int) % 4 = 0) (hh : hsn L pc 4) (hi : i < 16) (hj : j < 16) (m0 : -32768 ≤ m) (m1 : m ≤ 32767)
    (e1 : gtn L pc 4 / 16777216 = 30) (e2 : gtn L pc 4 / 1048576 % 16 = i) (e3 : gtn L pc 4 / 65536 % 16 = j) (e4 : imv (gtn L pc 4) = m) :
    Calls Try.prog 19 #[.pointer (some ⟨cb, 0, none⟩)] w (Came (.int .i64 (dsA 30 i j m x f L).k) (dsA 30 i j m x f L) w cb db v (wrap64 (a + 1)) s) := by
  rw [show dsA 30 i j m x f L = (⟨nx x, f, L, 0, 2, 0, 0⟩ : Ans) from rfl]
  exact ex_30 hc h hx hf pc i j m hpc hp hh hi hj m0 m1  e1 e2 e3 e4
theorem ds_31 (hc : Co w cb db x f q) (h : Bd w db v L a s) (hx : Bx x) (hf : Bf f) (pc i j : Nat) (m : Int) (hpc : x 16 = pc) (hp : (pc : Int) % 4 = 0) (hh : hsn L pc 4) (hi : i < 16) (hj : j < 16) (m0 : -32768 ≤ m) (m1 : m ≤ 32767)
    (e1 : gtn L pc 4 / 16777216 = 31) (e2 : gtn L pc 4 / 1048576 % 16 = i) (e3 : gtn L pc 4 / 65536 % 16 = j) (e4 : imv (gtn L pc 4) = m) :
    Calls Try.prog 19 #[.pointer (some ⟨cb, 0, none⟩)] w (Came (.int .i64 (dsA 31 i j m x f L).k) (dsA 31 i j m x f L) w cb db v (wrap64 (a + 1)) s) := by
  rw [show dsA 31 i j m x f L = if nofl 31 i j then noA x f L 4 (x 16) else flA 31 i j x f L (adr x j m) from rfl]
  by_cases c : nofl 31 i j
  · rw [if_pos c]
    unfold nofl at c
    exact ex_31_ill hc h hx hf pc i j m hpc hp hh hi hj m0 m1 (by omega) e1 e2 e3 e4
  rw [if_neg c]
  unfold nofl at c
  have h4 : i < 4 := by omega
  rw [show flA 31 i j x f L (adr x j m) = if (adr x j m) % 8 ≠ 0 then noA x f L 7 (adr x j m) else if ¬ hsn L (adr x j m) 4 then noA x f L 11 (adr x j m) else if ¬ hsn L ((adr x j m) + 4) 4 then noA x f L 11 ((adr x j m) + 4) else okA (nx x) (upd f i (gtn L (adr x j m) 4 + gtn L ((adr x j m) + 4) 4 * 4294967296)) L from rfl]
  by_cases c1 : (adr x j m) % 8 ≠ 0
  · rw [if_pos c1]
    exact ex_31_odd hc h hx hf pc i j m hpc hp hh hi hj m0 m1 h4 c1 e1 e2 e3 e4
  rw [if_neg c1]
  have c1 := Decidable.not_not.1 c1
  by_cases c2 : hsn L (adr x j m) 4
  · rw [if_neg (not_not_intro c2)]
    by_cases c3 : hsn L ((adr x j m) + 4) 4
    · rw [if_neg (not_not_intro c3)]
      exact ex_31 hc h hx hf pc i j m hpc hp hh hi hj m0 m1 h4 c1 c2 c3 e1 e2 e3 e4
    · rw [if_pos c3]
      exact ex_31_no2 hc h hx hf pc i j m hpc hp hh hi hj m0 m1 h4 c1 c2 c3 e1 e2 e3 e4
  · rw [if_pos c2]
    exact ex_31_no hc h hx hf pc i j m hpc hp hh hi hj m0 m1 h4 c1 c2 e1 e2 e3 e4
theorem ds_32 (hc : Co w cb db x f q) (h : Bd w db v L a s) (hx : Bx x) (hf : Bf f) (pc i j : Nat) (m : Int) (hpc : x 16 = pc) (hp : (pc : Int) % 4 = 0) (hh : hsn L pc 4) (hi : i < 16) (hj : j < 16) (m0 : -32768 ≤ m) (m1 : m ≤ 32767)
    (e1 : gtn L pc 4 / 16777216 = 32) (e2 : gtn L pc 4 / 1048576 % 16 = i) (e3 : gtn L pc 4 / 65536 % 16 = j) (e4 : imv (gtn L pc 4) = m) :
    Calls Try.prog 19 #[.pointer (some ⟨cb, 0, none⟩)] w (Came (.int .i64 (dsA 32 i j m x f L).k) (dsA 32 i j m x f L) w cb db v (wrap64 (a + 1)) s) := by
  rw [show dsA 32 i j m x f L = if nofl 32 i j then noA x f L 4 (x 16) else flA 32 i j x f L (adr x j m) from rfl]
  by_cases c : nofl 32 i j
  · rw [if_pos c]
    unfold nofl at c
    exact ex_32_ill hc h hx hf pc i j m hpc hp hh hi hj m0 m1 (by omega) e1 e2 e3 e4
  rw [if_neg c]
  unfold nofl at c
  have h4 : i < 4 := by omega
  rw [show flA 32 i j x f L (adr x j m) = if (adr x j m) % 8 ≠ 0 then noA x f L 7 (adr x j m) else if ¬ hsn L (adr x j m) 4 then noA x f L 11 (adr x j m) else if ¬ hsn L ((adr x j m) + 4) 4 then (⟨x, f, ptn L (adr x j m) 4 (f i % 4294967296), 1, 4, 11, (adr x j m) + 4⟩ : Ans) else (⟨nx x, f, ptn (ptn L (adr x j m) 4 (f i % 4294967296)) ((adr x j m) + 4) 4 (f i / 4294967296), 2, 0, 0, 0⟩ : Ans) from rfl]
  by_cases c1 : (adr x j m) % 8 ≠ 0
  · rw [if_pos c1]
    exact ex_32_odd hc h hx hf pc i j m hpc hp hh hi hj m0 m1 h4 c1 e1 e2 e3 e4
  rw [if_neg c1]
  have c1 := Decidable.not_not.1 c1
  by_cases c2 : hsn L (adr x j m) 4
  · rw [if_neg (not_not_intro c2)]
    by_cases c3 : hsn L ((adr x j m) + 4) 4
    · rw [if_neg (not_not_intro c3)]
      exact ex_32 hc h hx hf pc i j m hpc hp hh hi hj m0 m1 h4 c1 c2 c3 e1 e2 e3 e4
    · rw [if_pos c3]
      exact ex_32_no2 hc h hx hf pc i j m hpc hp hh hi hj m0 m1 h4 c1 c2 c3 e1 e2 e3 e4
  · rw [if_pos c2]
    exact ex_32_no hc h hx hf pc i j m hpc hp hh hi hj m0 m1 h4 c1 c2 e1 e2 e3 e4
theorem ds_33 (hc : Co w cb db x f q) (h : Bd w db v L a s) (hx : Bx x) (hf : Bf f) (pc i j : Nat) (m : Int) (hpc : x 16 = pc) (hp : (pc : Int) % 4 = 0) (hh : hsn L pc 4) (hi : i < 16) (hj : j < 16) (m0 : -32768 ≤ m) (m1 : m ≤ 32767)
    (e1 : gtn L pc 4 / 16777216 = 33) (e2 : gtn L pc 4 / 1048576 % 16 = i) (e3 : gtn L pc 4 / 65536 % 16 = j) (e4 : imv (gtn L pc 4) = m) :
    Calls Try.prog 19 #[.pointer (some ⟨cb, 0, none⟩)] w (Came (.int .i64 (dsA 33 i j m x f L).k) (dsA 33 i j m x f L) w cb db v (wrap64 (a + 1)) s) := by
  rw [show dsA 33 i j m x f L = if nofl 33 i j then noA x f L 4 (x 16) else flA 33 i j x f L (adr x j m) from rfl]
  by_cases c : nofl 33 i j
  · rw [if_pos c]
    unfold nofl at c
    by_cases d : 4 ≤ i
    · exact ex_33_ill hc h hx hf pc i j m hpc hp hh hi hj m0 m1 d e1 e2 e3 e4
    · exact ex_33_ilb hc h hx hf pc i j m hpc hp hh hi hj m0 m1 (by omega) (by omega) e1 e2 e3 e4
  rw [if_neg c]
  unfold nofl at c
  rw [show flA 33 i j x f L (adr x j m) = okA (nx x) (upd f i (flv 33 (f i).toNat (f j).toNat)) L from rfl]
  exact ex_33 hc h hx hf pc i j m hpc hp hh hi hj m0 m1 (by omega) (by omega) e1 e2 e3 e4
theorem ds_34 (hc : Co w cb db x f q) (h : Bd w db v L a s) (hx : Bx x) (hf : Bf f) (pc i j : Nat) (m : Int) (hpc : x 16 = pc) (hp : (pc : Int) % 4 = 0) (hh : hsn L pc 4) (hi : i < 16) (hj : j < 16) (m0 : -32768 ≤ m) (m1 : m ≤ 32767)
    (e1 : gtn L pc 4 / 16777216 = 34) (e2 : gtn L pc 4 / 1048576 % 16 = i) (e3 : gtn L pc 4 / 65536 % 16 = j) (e4 : imv (gtn L pc 4) = m) :
    Calls Try.prog 19 #[.pointer (some ⟨cb, 0, none⟩)] w (Came (.int .i64 (dsA 34 i j m x f L).k) (dsA 34 i j m x f L) w cb db v (wrap64 (a + 1)) s) := by
  rw [show dsA 34 i j m x f L = if nofl 34 i j then noA x f L 4 (x 16) else flA 34 i j x f L (adr x j m) from rfl]
  by_cases c : nofl 34 i j
  · rw [if_pos c]
    unfold nofl at c
    by_cases d : 4 ≤ i
    · exact ex_34_ill hc h hx hf pc i j m hpc hp hh hi hj m0 m1 d e1 e2 e3 e4
    · exact ex_34_ilb hc h hx hf pc i j m hpc hp hh hi hj m0 m1 (by omega) (by omega) e1 e2 e3 e4
  rw [if_neg c]
  unfold nofl at c
  rw [show flA 34 i j x f L (adr x j m) = okA (nx x) (upd f i (flv 34 (f i).toNat (f j).toNat)) L from rfl]
  exact ex_34 hc h hx hf pc i j m hpc hp hh hi hj m0 m1 (by omega) (by omega) e1 e2 e3 e4
theorem ds_35 (hc : Co w cb db x f q) (h : Bd w db v L a s) (hx : Bx x) (hf : Bf f) (pc i j : Nat) (m : Int) (hpc : x 16 = pc) (hp : (pc : Int) % 4 = 0) (hh : hsn L pc 4) (hi : i < 16) (hj : j < 16) (m0 : -32768 ≤ m) (m1 : m ≤ 32767)
    (e1 : gtn L pc 4 / 16777216 = 35) (e2 : gtn L pc 4 / 1048576 % 16 = i) (e3 : gtn L pc 4 / 65536 % 16 = j) (e4 : imv (gtn L pc 4) = m) :
    Calls Try.prog 19 #[.pointer (some ⟨cb, 0, none⟩)] w (Came (.int .i64 (dsA 35 i j m x f L).k) (dsA 35 i j m x f L) w cb db v (wrap64 (a + 1)) s) := by
  rw [show dsA 35 i j m x f L = if nofl 35 i j then noA x f L 4 (x 16) else flA 35 i j x f L (adr x j m) from rfl]
  by_cases c : nofl 35 i j
  · rw [if_pos c]
    unfold nofl at c
    by_cases d : 4 ≤ i
    · exact ex_35_ill hc h hx hf pc i j m hpc hp hh hi hj m0 m1 d e1 e2 e3 e4
    · exact ex_35_ilb hc h hx hf pc i j m hpc hp hh hi hj m0 m1 (by omega) (by omega) e1 e2 e3 e4
  rw [if_neg c]
  unfold nofl at c
  rw [show flA 35 i j x f L (adr x j m) = okA (nx x) (upd f i (flv 35 (f i).toNat (f j).toNat)) L from rfl]
  exact ex_35 hc h hx hf pc i j m hpc hp hh hi hj m0 m1 (by omega) (by omega) e1 e2 e3 e4
theorem ds_36 (hc : Co w cb db x f q) (h : Bd w db v L a s) (hx : Bx x) (hf : Bf f) (pc i j : Nat) (m : Int) (hpc : x 16 = pc) (hp : (pc : Int) % 4 = 0) (hh : hsn L pc 4) (hi : i < 16) (hj : j < 16) (m0 : -32768 ≤ m) (m1 : m ≤ 32767)
    (e1 : gtn L pc 4 / 16777216 = 36) (e2 : gtn L pc 4 / 1048576 % 16 = i) (e3 : gtn L pc 4 / 65536 % 16 = j) (e4 : imv (gtn L pc 4) = m) :
    Calls Try.prog 19 #[.pointer (some ⟨cb, 0, none⟩)] w (Came (.int .i64 (dsA 36 i j m x f L).k) (dsA 36 i j m x f L) w cb db v (wrap64 (a + 1)) s) := by
  rw [show dsA 36 i j m x f L = if nofl 36 i j then noA x f L 4 (x 16) else flA 36 i j x f L (adr x j m) from rfl]
  by_cases c : nofl 36 i j
  · rw [if_pos c]
    unfold nofl at c
    by_cases d : 4 ≤ i
    · exact ex_36_ill hc h hx hf pc i j m hpc hp hh hi hj m0 m1 d e1 e2 e3 e4
    · exact ex_36_ilb hc h hx hf pc i j m hpc hp hh hi hj m0 m1 (by omega) (by omega) e1 e2 e3 e4
  rw [if_neg c]
  unfold nofl at c
  rw [show flA 36 i j x f L (adr x j m) = okA (nx x) (upd f i (flv 36 (f i).toNat (f j).toNat)) L from rfl]
  exact ex_36 hc h hx hf pc i j m hpc hp hh hi hj m0 m1 (by omega) (by omega) e1 e2 e3 e4
theorem ds_37 (hc : Co w cb db x f q) (h : Bd w db v L a s) (hx : Bx x) (hf : Bf f) (pc i j : Nat) (m : Int) (hpc : x 16 = pc) (hp : (pc : Int) % 4 = 0) (hh : hsn L pc 4) (hi : i < 16) (hj : j < 16) (m0 : -32768 ≤ m) (m1 : m ≤ 32767)
    (e1 : gtn L pc 4 / 16777216 = 37) (e2 : gtn L pc 4 / 1048576 % 16 = i) (e3 : gtn L pc 4 / 65536 % 16 = j) (e4 : imv (gtn L pc 4) = m) :
    Calls Try.prog 19 #[.pointer (some ⟨cb, 0, none⟩)] w (Came (.int .i64 (dsA 37 i j m x f L).k) (dsA 37 i j m x f L) w cb db v (wrap64 (a + 1)) s) := by
  rw [show dsA 37 i j m x f L = if nofl 37 i j then noA x f L 4 (x 16) else flA 37 i j x f L (adr x j m) from rfl]
  by_cases c : nofl 37 i j
  · rw [if_pos c]
    unfold nofl at c
    by_cases d : 4 ≤ i
    · exact ex_37_ill hc h hx hf pc i j m hpc hp hh hi hj m0 m1 d e1 e2 e3 e4
    · exact ex_37_ilb hc h hx hf pc i j m hpc hp hh hi hj m0 m1 (by omega) (by omega) e1 e2 e3 e4
  rw [if_neg c]
  unfold nofl at c
  rw [show flA 37 i j x f L (adr x j m) = okA (nx x) (upd f i (flv 37 (f i).toNat (f j).toNat)) L from rfl]
  exact ex_37 hc h hx hf pc i j m hpc hp hh hi hj m0 m1 (by omega) (by omega) e1 e2 e3 e4
theorem ds_38 (hc : Co w cb db x f q) (h : Bd w db v L a s) (hx : Bx x) (hf : Bf f) (pc i j : Nat) (m : Int) (hpc : x 16 = pc) (hp : (pc : Int) % 4 = 0) (hh : hsn L pc 4) (hi : i < 16) (hj : j < 16) (m0 : -32768 ≤ m) (m1 : m ≤ 32767)
    (e1 : gtn L pc 4 / 16777216 = 38) (e2 : gtn L pc 4 / 1048576 % 16 = i) (e3 : gtn L pc 4 / 65536 % 16 = j) (e4 : imv (gtn L pc 4) = m) :
    Calls Try.prog 19 #[.pointer (some ⟨cb, 0, none⟩)] w (Came (.int .i64 (dsA 38 i j m x f L).k) (dsA 38 i j m x f L) w cb db v (wrap64 (a + 1)) s) := by
  rw [show dsA 38 i j m x f L = if nofl 38 i j then noA x f L 4 (x 16) else flA 38 i j x f L (adr x j m) from rfl]
  by_cases c : nofl 38 i j
  · rw [if_pos c]
    unfold nofl at c
    by_cases d : 4 ≤ i
    · exact ex_38_ill hc h hx hf pc i j m hpc hp hh hi hj m0 m1 d e1 e2 e3 e4
    · exact ex_38_ilb hc h hx hf pc i j m hpc hp hh hi hj m0 m1 (by omega) (by omega) e1 e2 e3 e4
  rw [if_neg c]
  unfold nofl at c
  rw [show flA 38 i j x f L (adr x j m) = okA (upd (nx x) 17 (fcv (cmpv (f i).toNat (f j).toNat) (x 17))) f L from rfl]
  exact ex_38 hc h hx hf pc i j m hpc hp hh hi hj m0 m1 (by omega) (by omega) e1 e2 e3 e4
theorem ds_39 (hc : Co w cb db x f q) (h : Bd w db v L a s) (hx : Bx x) (hf : Bf f) (pc i j : Nat) (m : Int) (hpc : x 16 = pc) (hp : (pc : Int) % 4 = 0) (hh : hsn L pc 4) (hi : i < 16) (hj : j < 16) (m0 : -32768 ≤ m) (m1 : m ≤ 32767)
    (e1 : gtn L pc 4 / 16777216 = 39) (e2 : gtn L pc 4 / 1048576 % 16 = i) (e3 : gtn L pc 4 / 65536 % 16 = j) (e4 : imv (gtn L pc 4) = m) :
    Calls Try.prog 19 #[.pointer (some ⟨cb, 0, none⟩)] w (Came (.int .i64 (dsA 39 i j m x f L).k) (dsA 39 i j m x f L) w cb db v (wrap64 (a + 1)) s) := by
  rw [show dsA 39 i j m x f L = if nofl 39 i j then noA x f L 4 (x 16) else flA 39 i j x f L (adr x j m) from rfl]
  by_cases c : nofl 39 i j
  · rw [if_pos c]
    unfold nofl at c
    exact ex_39_ill hc h hx hf pc i j m hpc hp hh hi hj m0 m1 (by omega) e1 e2 e3 e4
  rw [if_neg c]
  unfold nofl at c
  rw [show flA 39 i j x f L (adr x j m) = okA (upd (nx x) i (toi (f j).toNat)) f L from rfl]
  exact ex_39 hc h hx hf pc i j m hpc hp hh hi hj m0 m1 (by omega) e1 e2 e3 e4
theorem ds_40 (hc : Co w cb db x f q) (h : Bd w db v L a s) (hx : Bx x) (hf : Bf f) (pc i j : Nat) (m : Int) (hpc : x 16 = pc) (hp : (pc : Int) % 4 = 0) (hh : hsn L pc 4) (hi : i < 16) (hj : j < 16) (m0 : -32768 ≤ m) (m1 : m ≤ 32767)
    (e1 : gtn L pc 4 / 16777216 = 40) (e2 : gtn L pc 4 / 1048576 % 16 = i) (e3 : gtn L pc 4 / 65536 % 16 = j) (e4 : imv (gtn L pc 4) = m) :
    Calls Try.prog 19 #[.pointer (some ⟨cb, 0, none⟩)] w (Came (.int .i64 (dsA 40 i j m x f L).k) (dsA 40 i j m x f L) w cb db v (wrap64 (a + 1)) s) := by
  rw [show dsA 40 i j m x f L = if nofl 40 i j then noA x f L 4 (x 16) else flA 40 i j x f L (adr x j m) from rfl]
  by_cases c : nofl 40 i j
  · rw [if_pos c]
    unfold nofl at c
    exact ex_40_ill hc h hx hf pc i j m hpc hp hh hi hj m0 m1 (by omega) e1 e2 e3 e4
  rw [if_neg c]
  unfold nofl at c
  rw [show flA 40 i j x f L (adr x j m) = okA (nx x) (upd f i (ofi (sg32 (x j).toNat))) L from rfl]
  exact ex_40 hc h hx hf pc i j m hpc hp hh hi hj m0 m1 (by omega) e1 e2 e3 e4
theorem ds_41 (hc : Co w cb db x f q) (h : Bd w db v L a s) (hx : Bx x) (hf : Bf f) (pc i j : Nat) (m : Int) (hpc : x 16 = pc) (hp : (pc : Int) % 4 = 0) (hh : hsn L pc 4) (hi : i < 16) (hj : j < 16) (m0 : -32768 ≤ m) (m1 : m ≤ 32767)
    (e1 : gtn L pc 4 / 16777216 = 41) (e2 : gtn L pc 4 / 1048576 % 16 = i) (e3 : gtn L pc 4 / 65536 % 16 = j) (e4 : imv (gtn L pc 4) = m) :
    Calls Try.prog 19 #[.pointer (some ⟨cb, 0, none⟩)] w (Came (.int .i64 (dsA 41 i j m x f L).k) (dsA 41 i j m x f L) w cb db v (wrap64 (a + 1)) s) := by
  rw [show dsA 41 i j m x f L = okA (upd (nx x) i (x 17 % 16)) f L from rfl]
  exact ex_41 hc h hx hf pc i j m hpc hp hh hi hj m0 m1  e1 e2 e3 e4
theorem ds_any (hc : Co w cb db x f q) (h : Bd w db v L a s) (hx : Bx x) (hf : Bf f) (pc i j : Nat) (m op : Int) (hpc : x 16 = pc) (hp : (pc : Int) % 4 = 0) (hh : hsn L pc 4) (hi : i < 16) (hj : j < 16) (m0 : -32768 ≤ m) (m1 : m ≤ 32767) (o0 : 0 ≤ op) (o1 : op ≤ 41)
    (e1 : gtn L pc 4 / 16777216 = op) (e2 : gtn L pc 4 / 1048576 % 16 = i) (e3 : gtn L pc 4 / 65536 % 16 = j) (e4 : imv (gtn L pc 4) = m) :
    Calls Try.prog 19 #[.pointer (some ⟨cb, 0, none⟩)] w (Came (.int .i64 (dsA op i j m x f L).k) (dsA op i j m x f L) w cb db v (wrap64 (a + 1)) s) := by
  have hop : op = 0 ∨ op = 1 ∨ op = 2 ∨ op = 3 ∨ op = 4 ∨ op = 5 ∨ op = 6 ∨ op = 7 ∨ op = 8 ∨ op = 9 ∨ op = 10 ∨ op = 11 ∨ op = 12 ∨ op = 13 ∨ op = 14 ∨ op = 15 ∨ op = 16 ∨ op = 17 ∨ op = 18 ∨ op = 19 ∨ op = 20 ∨ op = 21 ∨ op = 22 ∨ op = 23 ∨ op = 24 ∨ op = 25 ∨ op = 26 ∨ op = 27 ∨ op = 28 ∨ op = 29 ∨ op = 30 ∨ op = 31 ∨ op = 32 ∨ op = 33 ∨ op = 34 ∨ op = 35 ∨ op = 36 ∨ op = 37 ∨ op = 38 ∨ op = 39 ∨ op = 40 ∨ op = 41 := by omega
  rcases hop with rfl | rfl | rfl | rfl | rfl | rfl | rfl | rfl | rfl | rfl | rfl | rfl | rfl | rfl | rfl | rfl | rfl | rfl | rfl | rfl | rfl | rfl | rfl | rfl | rfl | rfl | rfl | rfl | rfl | rfl | rfl | rfl | rfl | rfl | rfl | rfl | rfl | rfl | rfl | rfl | rfl | rfl
  · exact ds_0 hc h hx hf pc i j m hpc hp hh hi hj m0 m1 e1 e2 e3 e4
  · exact ds_1 hc h hx hf pc i j m hpc hp hh hi hj m0 m1 e1 e2 e3 e4
  · exact ds_2 hc h hx hf pc i j m hpc hp hh hi hj m0 m1 e1 e2 e3 e4
  · exact ds_3 hc h hx hf pc i j m hpc hp hh hi hj m0 m1 e1 e2 e3 e4
  · exact ds_4 hc h hx hf pc i j m hpc hp hh hi hj m0 m1 e1 e2 e3 e4
  · exact ds_5 hc h hx hf pc i j m hpc hp hh hi hj m0 m1 e1 e2 e3 e4
  · exact ds_6 hc h hx hf pc i j m hpc hp hh hi hj m0 m1 e1 e2 e3 e4
  · exact ds_7 hc h hx hf pc i j m hpc hp hh hi hj m0 m1 e1 e2 e3 e4
  · exact ds_8 hc h hx hf pc i j m hpc hp hh hi hj m0 m1 e1 e2 e3 e4
  · exact ds_9 hc h hx hf pc i j m hpc hp hh hi hj m0 m1 e1 e2 e3 e4
  · exact ds_10 hc h hx hf pc i j m hpc hp hh hi hj m0 m1 e1 e2 e3 e4
  · exact ds_11 hc h hx hf pc i j m hpc hp hh hi hj m0 m1 e1 e2 e3 e4
  · exact ds_12 hc h hx hf pc i j m hpc hp hh hi hj m0 m1 e1 e2 e3 e4
  · exact ds_13 hc h hx hf pc i j m hpc hp hh hi hj m0 m1 e1 e2 e3 e4
  · exact ds_14 hc h hx hf pc i j m hpc hp hh hi hj m0 m1 e1 e2 e3 e4
  · exact ds_15 hc h hx hf pc i j m hpc hp hh hi hj m0 m1 e1 e2 e3 e4
  · exact ds_16 hc h hx hf pc i j m hpc hp hh hi hj m0 m1 e1 e2 e3 e4
  · exact ds_17 hc h hx hf pc i j m hpc hp hh hi hj m0 m1 e1 e2 e3 e4
  · exact ds_18 hc h hx hf pc i j m hpc hp hh hi hj m0 m1 e1 e2 e3 e4
  · exact ds_19 hc h hx hf pc i j m hpc hp hh hi hj m0 m1 e1 e2 e3 e4
  · exact ds_20 hc h hx hf pc i j m hpc hp hh hi hj m0 m1 e1 e2 e3 e4
  · exact ds_21 hc h hx hf pc i j m hpc hp hh hi hj m0 m1 e1 e2 e3 e4
  · exact ds_22 hc h hx hf pc i j m hpc hp hh hi hj m0 m1 e1 e2 e3 e4
  · exact ds_23 hc h hx hf pc i j m hpc hp hh hi hj m0 m1 e1 e2 e3 e4
  · exact ds_24 hc h hx hf pc i j m hpc hp hh hi hj m0 m1 e1 e2 e3 e4
  · exact ds_25 hc h hx hf pc i j m hpc hp hh hi hj m0 m1 e1 e2 e3 e4
  · exact ds_26 hc h hx hf pc i j m hpc hp hh hi hj m0 m1 e1 e2 e3 e4
  · exact ds_27 hc h hx hf pc i j m hpc hp hh hi hj m0 m1 e1 e2 e3 e4
  · exact ds_28 hc h hx hf pc i j m hpc hp hh hi hj m0 m1 e1 e2 e3 e4
  · exact ds_29 hc h hx hf pc i j m hpc hp hh hi hj m0 m1 e1 e2 e3 e4
  · exact ds_30 hc h hx hf pc i j m hpc hp hh hi hj m0 m1 e1 e2 e3 e4
  · exact ds_31 hc h hx hf pc i j m hpc hp hh hi hj m0 m1 e1 e2 e3 e4
  · exact ds_32 hc h hx hf pc i j m hpc hp hh hi hj m0 m1 e1 e2 e3 e4
  · exact ds_33 hc h hx hf pc i j m hpc hp hh hi hj m0 m1 e1 e2 e3 e4
  · exact ds_34 hc h hx hf pc i j m hpc hp hh hi hj m0 m1 e1 e2 e3 e4
  · exact ds_35 hc h hx hf pc i j m hpc hp hh hi hj m0 m1 e1 e2 e3 e4
  · exact ds_36 hc h hx hf pc i j m hpc hp hh hi hj m0 m1 e1 e2 e3 e4
  · exact ds_37 hc h hx hf pc i j m hpc hp hh hi hj m0 m1 e1 e2 e3 e4
  · exact ds_38 hc h hx hf pc i j m hpc hp hh hi hj m0 m1 e1 e2 e3 e4
  · exact ds_39 hc h hx hf pc i j m hpc hp hh hi hj m0 m1 e1 e2 e3 e4
  · exact ds_40 hc h hx hf pc i j m hpc hp hh hi hj m0 m1 e1 e2 e3 e4
  · exact ds_41 hc h hx hf pc i j m hpc hp hh hi hj m0 m1 e1 e2 e3 e4
/-- how often the bus was asked for an instruction, then -/
def fea (x : Nat → Int) (a : Int) : Int := if x 16 % 4 ≠ 0 then a else wrap64 (a + 1)
set_option maxHeartbeats 2000000 in
theorem ex_odd (hc : Co w cb db x f q) (h : Bd w db v L a s) (hx : Bx x) (pc : Nat) (hpc : x 16 = pc) (hp : (pc : Int) % 4 ≠ 0) :
    Calls Try.prog 19 #[.pointer (some ⟨cb, 0, none⟩)] w (Came (.int .i64 4) (noA x f L 7 (x 16)) w cb db v a s) := by
  have bp := hx 16 (by omega)
  rw [hpc] at bp
  have q1 := cfetch_odd hc h pc (by omega) hp
  have c16 := hc.rx 16 (by omega)
  rw [hpc] at c16
  clear h
  go_enter Try.func19, Try.ntmps19
  go_wp2_with fail
  refine q1.mono ?_
  rintro e W1 ⟨rfl, c1, b1, k1⟩
  go_wp2
  try rw [hpc]
  have hb := came_no (rv := .int .i64 4) (x1 := x) (f1 := f) (n := 0) (s1 := 7) (a1 := pc) (fun e => absurd e (by decide)) ⟨c1, b1, k1⟩
  exact ⟨rfl, hb⟩
set_option maxHeartbeats 2000000 in
theorem ex_none (hc : Co w cb db x f q) (h : Bd w db v L a s) (hx : Bx x) (pc : Nat) (hpc : x 16 = pc) (hp : (pc : Int) % 4 = 0) (hh : ¬ hsn L pc 4) :
    Calls Try.prog 19 #[.pointer (some ⟨cb, 0, none⟩)] w (Came (.int .i64 4) (noA x f L 11 (x 16)) w cb db v (wrap64 (a + 1)) s) := by
  have bp := hx 16 (by omega)
  rw [hpc] at bp
  have q1 := cfetch_no hc h pc (by omega) hp hh
  have c16 := hc.rx 16 (by omega)
  rw [hpc] at c16
  clear h
  go_enter Try.func19, Try.ntmps19
  go_wp2_with fail
  refine q1.mono ?_
  rintro e W1 ⟨rfl, c1, b1, k1⟩
  go_wp2
  try rw [hpc]
  have hb := came_no (rv := .int .i64 4) (x1 := x) (f1 := f) (n := 0) (s1 := 11) (a1 := pc) (fun _ => rfl) ⟨c1, b1, k1⟩
  exact ⟨rfl, hb⟩
set_option maxHeartbeats 2000000 in
theorem ex_ill (hc : Co w cb db x f q) (h : Bd w db v L a s) (hx : Bx x) (pc : Nat) (hpc : x 16 = pc) (hp : (pc : Int) % 4 = 0) (hh : hsn L pc 4) (hi : 41 < gtn L pc 4 / 16777216) :
    Calls Try.prog 19 #[.pointer (some ⟨cb, 0, none⟩)] w (Came (.int .i64 4) (noA x f L 4 (x 16)) w cb db v (wrap64 (a + 1)) s) := by
  have bp := hx 16 (by omega)
  rw [hpc] at bp
  have q1 := cfetch_ill hc h pc (by omega) hp hh hi
  have c16 := hc.rx 16 (by omega)
  rw [hpc] at c16
  clear h
  go_enter Try.func19, Try.ntmps19
  go_wp2_with fail
  refine q1.mono ?_
  rintro e W1 ⟨rfl, c1, b1, k1⟩
  go_wp2
  try rw [hpc]
  have hb := came_no (rv := .int .i64 4) (x1 := x) (f1 := f) (n := 0) (s1 := 4) (a1 := pc) (fun e => absurd e (by decide)) ⟨c1, b1, k1⟩
  exact ⟨rfl, hb⟩
theorem imv_in (n : Int) : -32768 ≤ imv n ∧ imv n ≤ 32767 := by unfold imv; omega
theorem exec (hc : Co w cb db x f q) (h : Bd w db v L a s) (hx : Bx x) (hf : Bf f) (hL : Oct L) :
    Calls Try.prog 19 #[.pointer (some ⟨cb, 0, none⟩)] w (Came (.int .i64 (exA x f L).k) (exA x f L) w cb db v (fea x a) s) := by
  have bp := hx 16 (by omega)
  obtain ⟨pc, hpc⟩ : ∃ n : Nat, x 16 = n := ⟨(x 16).toNat, by omega⟩
  unfold exA fea
  by_cases c1 : x 16 % 4 ≠ 0
  · rw [if_pos c1, if_pos c1]
    exact ex_odd hc h hx pc hpc (by rw [← hpc]; exact c1)
  rw [if_neg c1, if_neg c1]
  have c1 := Decidable.not_not.1 c1
  by_cases c2 : hsn L (x 16) 4
  · rw [if_neg (not_not_intro c2)]
    unfold inA
    have gb := gtn_bd hL (x 16) 4
    have g2 := imv_in (gtn L (x 16) 4)
    by_cases c3 : gtn L (x 16) 4 / 16777216 ≤ 41
    · rw [if_pos c3]
      have e2 : gtn L pc 4 / 1048576 % 16 = ((gtn L (x 16) 4 / 1048576 % 16).toNat : Int) := by rw [← hpc]; omega
      have e3 : gtn L pc 4 / 65536 % 16 = ((gtn L (x 16) 4 / 65536 % 16).toNat : Int) := by rw [← hpc]; omega
      exact ds_any hc h hx hf pc _ _ _ _ hpc (by rw [← hpc]; exact c1) (by rw [← hpc]; exact c2) (by omega) (by omega) g2.1 g2.2 (by omega) c3 (by rw [← hpc]) e2 e3 (by rw [← hpc])
    · rw [if_neg c3]
      exact ex_ill hc h hx pc hpc (by rw [← hpc]; exact c1) (by rw [← hpc]; exact c2) (by rw [← hpc]; omega)
  · rw [if_pos c2]
    exact ex_none hc h hx pc hpc (by rw [← hpc]; exact c1) (by rw [← hpc]; exact c2)
end
end Go.Proofs.Ytbkhmeongekdiaa
