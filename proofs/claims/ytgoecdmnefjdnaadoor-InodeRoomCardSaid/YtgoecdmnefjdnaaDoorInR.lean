/- So many nodes as there is room for. -/
import Derived.Test.YtgoecdmnefjdnaaDoorInG
namespace Go.Proofs.YtgoecdmnefjdnaaDoor
open Go.RowKit
set_option linter.unusedVariables false
set_option maxRecDepth 100000
/-- the letters -/
def abc : List UInt8 := [97, 98, 99, 100, 101, 102, 103, 104, 105, 106, 107, 108, 109, 110, 111, 112, 113, 114, 115, 116, 117, 118, 119, 120, 121, 122]
def abN (k : Nat) : UInt8 := abc.getD k 97
def zzN : List UInt8 := [122, 122]
/-- k nodes made in the root -/
def roomL (c : Int) : Nat → Pt
  | 0 => rootL
  | k + 1 => mkL (roomL c k) 1 [abN k] c
def rmK (b : Bool) : Int := if b then 1 else 0
theorem rm_ab : ∀ k : Fin 26, abc[(k : Nat)]? = some (abN k) := by decide +kernel
theorem rm_make : ∀ (b : Bool) (k : Fin 20), fdE (roomL (rmK b) k) 1 = 0 ∧ ckN [abN k] = 0 ∧ fnE (roomL (rmK b) k) 1 [abN k] ≠ 0 ∧ (nat (roomL (rmK b) k) 1).nam = true ∧ (roomL (rmK b) k).length = k + 1 ∧ frN (roomL (rmK b) k) = ((k : Nat) : Int) + 2 ∧ (nat (roomL (rmK b) k) 1).nms.length < 1000000 := by decide +kernel
theorem rm_full : ∀ (b : Bool) (k : Fin 20), fdE (roomL (rmK b) (k + 1)) 1 = 0 ∧ fnE (roomL (rmK b) (k + 1)) 1 zzN ≠ 0 ∧ (nat (roomL (rmK b) (k + 1)) 1).nam = true ∧ (roomL (rmK b) (k + 1)).length = k + 2 ∧ (nat (roomL (rmK b) (k + 1)) 1).nms.length < 1000000 ∧
    fnE (roomL (rmK b) (k + 1)) 1 [97] = 0 ∧ unE (roomL (rmK b) (k + 1)) 1 [97] = 0 ∧ (nget (roomL (rmK b) (k + 1)) (fnV (roomL (rmK b) (k + 1)) 1 [97])).isSome = true := by decide +kernel
theorem rm_again : ∀ (b : Bool) (k : Fin 20), fdE (unL (roomL (rmK b) (k + 1)) 1 [97]) 1 = 0 ∧ fnE (unL (roomL (rmK b) (k + 1)) 1 [97]) 1 zzN ≠ 0 ∧ (nat (unL (roomL (rmK b) (k + 1)) 1 [97]) 1).nam = true ∧ (unL (roomL (rmK b) (k + 1)) 1 [97]).length = k + 1 ∧
    frN (unL (roomL (rmK b) (k + 1)) 1 [97]) = 2 ∧ (nat (unL (roomL (rmK b) (k + 1)) 1 [97]) 1).nms.length < 1000000 := by decide +kernel
theorem rm_end : ∀ (b : Bool) (k : Fin 20), fdE (mkL (unL (roomL (rmK b) (k + 1)) 1 [97]) 1 zzN (rmK b)) 1 = 0 ∧ (nat (mkL (unL (roomL (rmK b) (k + 1)) 1 [97]) 1 zzN (rmK b)) 1).nms.length = k + 1 ∧ (mkL (unL (roomL (rmK b) (k + 1)) 1 [97]) 1 zzN (rmK b)).length = k + 2 := by decide +kernel
theorem rm_names : ∀ (b : Bool) (k : Fin 20), ∀ x ∈ (nat (mkL (unL (roomL (rmK b) (k + 1)) 1 [97]) 1 zzN (rmK b)) 1).nms, x.1.length ≤ 2 := by decide +kernel
theorem rm_zz : ckN zzN = 0 ∧ ckN [97] = 0 := by decide +kernel
end Go.Proofs.YtgoecdmnefjdnaaDoor
