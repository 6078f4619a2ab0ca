/-
  DERIVED. GIVEN WITH THE SEED: THE CARDS: each row of YtgedimlhldfkaaaGreatDoorRows.lean that lists a variable, with what it lists TIED to the program's text (the seventh form; the later family's looks); each row that meets fmt, with fmt's text TOLD by the authors' own Lean function (tested against real Go, not proved from fmt's source: count such statements apart). THE CARD IS WHAT COUNTS. Prove the row's statement (the work); the ties are given (YtgedimlhldfkaaaGreatDoorTie.lean); close each card by the builder's one call (the guide's Derived/Test/ToyasCard.lean, 'card_holds'). Laid BY PROGRAM, IN A SANDBOX (cutbox-door.mjs). By AI agents, Wed Nov 11 2026. No macro, syntax, notation, axiom, sorry.
-/
import Derived.Test.YtgedimlhldfkaaaGreatDoorRows
import GoSem.ClaimSeven
namespace Go.Proofs.YtgedimlhldfkaaaGreatDoor
namespace Rows

/-- THE TIED CARD OF 'halterlaw14.SpaceRuns'. -/
def spaceRunsCard : Claim7 := { stood := { row := spaceRunsRow, standIns := [], harness := (true, "0b150c20a06a29f2c12879c58b46acbc65d8815d7e0cd33c52fd7996ef247042"), looks := true }, kinds := [], alts := [], laidByText := true, laidKinds := [.handle], laidTests := true, laidLooks := .later }
def SpaceRunsCardSaid : Prop := Claim7.holds Tryz.pinned (.plain (OpenSpec.ofChange spaceRunsSpec)) spaceRunsCard

/-- THE TIED CARD OF 'halterlaw14.SpaceParts'. -/
def spacePartsCard : Claim7 := { stood := { row := spacePartsRow, standIns := [], harness := (true, "0b150c20a06a29f2c12879c58b46acbc65d8815d7e0cd33c52fd7996ef247042"), looks := true }, kinds := [], alts := [], laidByText := true, laidKinds := [.handle], laidTests := true, laidLooks := .later }
def SpacePartsCardSaid : Prop := Claim7.holds Tryz.pinned (.plain (OpenSpec.ofChange spacePartsSpec)) spacePartsCard

/-- THE TIED CARD OF 'halterlaw15.CopyRuns'. -/
def copyRunsCard : Claim7 := { stood := { row := copyRunsRow, standIns := [], harness := (true, "0b150c20a06a29f2c12879c58b46acbc65d8815d7e0cd33c52fd7996ef247042"), looks := true }, kinds := [], alts := [], laidByText := true, laidKinds := [.handle], laidTests := true, laidLooks := .later }
def CopyRunsCardSaid : Prop := Claim7.holds Tryz.pinned (.plain (OpenSpec.ofChange copyRunsSpec)) copyRunsCard

/-- THE TIED CARD OF 'halterlaw15.CopyBack'. -/
def copyBackCard : Claim7 := { stood := { row := copyBackRow, standIns := [], harness := (true, "0b150c20a06a29f2c12879c58b46acbc65d8815d7e0cd33c52fd7996ef247042"), looks := true }, kinds := [], alts := [], laidByText := true, laidKinds := [.handle], laidTests := true, laidLooks := .later }
def CopyBackCardSaid : Prop := Claim7.holds Tryz.pinned (.plain (OpenSpec.ofChange copyBackSpec)) copyBackCard

/-- THE TIED CARD OF 'halterlaw15.CopyTexts'. -/
def copyTextsCard : Claim7 := { stood := { row := copyTextsRow, standIns := [], harness := (true, "0b150c20a06a29f2c12879c58b46acbc65d8815d7e0cd33c52fd7996ef247042"), looks := true }, kinds := [], alts := [], laidByText := true, laidKinds := [.handle], laidTests := true, laidLooks := .later }
def CopyTextsCardSaid : Prop := Claim7.holds Tryz.pinned (.plain (OpenSpec.ofChange copyTextsSpec)) copyTextsCard

/-- THE SECOND FORM's CARD OF 'halterlaw14.SpaceRuns'. -/
def spaceRunsUptoCard : Claim7 := { stood := { row := spaceRunsUptoRow, standIns := [], harness := (true, "0b150c20a06a29f2c12879c58b46acbc65d8815d7e0cd33c52fd7996ef247042"), looks := true }, kinds := [], alts := [], laidByText := true, laidKinds := [.handle], laidTests := true, laidLooks := .later }
def SpaceRunsUptoCardSaid : Prop := Claim7.holds Tryz.pinned (.plain (OpenSpec.upto spaceRunsSpec)) spaceRunsUptoCard

/-- THE SECOND FORM's CARD OF 'halterlaw14.SpaceParts'. -/
def spacePartsUptoCard : Claim7 := { stood := { row := spacePartsUptoRow, standIns := [], harness := (true, "0b150c20a06a29f2c12879c58b46acbc65d8815d7e0cd33c52fd7996ef247042"), looks := true }, kinds := [], alts := [], laidByText := true, laidKinds := [.handle], laidTests := true, laidLooks := .later }
def SpacePartsUptoCardSaid : Prop := Claim7.holds Tryz.pinned (.plain (OpenSpec.upto spacePartsSpec)) spacePartsUptoCard

/-- THE SECOND FORM's CARD OF 'halterlaw15.CopyRuns'. -/
def copyRunsUptoCard : Claim7 := { stood := { row := copyRunsUptoRow, standIns := [], harness := (true, "0b150c20a06a29f2c12879c58b46acbc65d8815d7e0cd33c52fd7996ef247042"), looks := true }, kinds := [], alts := [], laidByText := true, laidKinds := [.handle], laidTests := true, laidLooks := .later }
def CopyRunsUptoCardSaid : Prop := Claim7.holds Tryz.pinned (.plain (OpenSpec.upto copyRunsSpec)) copyRunsUptoCard

/-- THE SECOND FORM's CARD OF 'halterlaw15.CopyBack'. -/
def copyBackUptoCard : Claim7 := { stood := { row := copyBackUptoRow, standIns := [], harness := (true, "0b150c20a06a29f2c12879c58b46acbc65d8815d7e0cd33c52fd7996ef247042"), looks := true }, kinds := [], alts := [], laidByText := true, laidKinds := [.handle], laidTests := true, laidLooks := .later }
def CopyBackUptoCardSaid : Prop := Claim7.holds Tryz.pinned (.plain (OpenSpec.upto copyBackSpec)) copyBackUptoCard

/-- THE SECOND FORM's CARD OF 'halterlaw15.CopyTexts'. -/
def copyTextsUptoCard : Claim7 := { stood := { row := copyTextsUptoRow, standIns := [], harness := (true, "0b150c20a06a29f2c12879c58b46acbc65d8815d7e0cd33c52fd7996ef247042"), looks := true }, kinds := [], alts := [], laidByText := true, laidKinds := [.handle], laidTests := true, laidLooks := .later }
def CopyTextsUptoCardSaid : Prop := Claim7.holds Tryz.pinned (.plain (OpenSpec.upto copyTextsSpec)) copyTextsUptoCard
end Rows
end Go.Proofs.YtgedimlhldfkaaaGreatDoor
