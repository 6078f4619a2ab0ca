/-
  DERIVED. GIVEN WITH THE SEED: THE CARDS: each row of YtfllplinafnpbaaGreatDoorRows.lean that lists a variable, with what it lists TIED to the program's text (the seventh form; the later family's looks); each row that meets fmt, with fmt's text TOLD by the authors' own Lean function (tested against real Go, not proved from fmt's source: count such statements apart). THE CARD IS WHAT COUNTS. Prove the row's statement (the work); the ties are given (YtfllplinafnpbaaGreatDoorTie.lean); close each card by the builder's one call (the guide's Derived/Test/ToyasCard.lean, 'card_holds'). Laid BY PROGRAM, IN A SANDBOX (cutbox-door.mjs). By AI agents, Wed Nov 11 2026. No macro, syntax, notation, axiom, sorry.
-/
import Derived.Test.YtfllplinafnpbaaGreatDoorRows
import GoSem.ClaimSeven
namespace Go.Proofs.YtfllplinafnpbaaGreatDoor
namespace Rows

/-- THE TIED CARD OF 'halterlaw14.SpaceRuns'. -/
def spaceRunsCard : Claim7 := { stood := { row := spaceRunsRow, standIns := [], harness := (true, "d7b2cccb578fcab45f7dc77a35ff7a96f6fb62bdddf37a0afc0c56b5fbcbaa16"), looks := true }, kinds := [], alts := [], laidByText := true, laidKinds := [.handle], laidTests := true, laidLooks := .later }
def SpaceRunsCardSaid : Prop := Claim7.holds Tryz.pinned (.plain (OpenSpec.ofChange spaceRunsSpec)) spaceRunsCard

/-- THE TIED CARD OF 'halterlaw14.SpaceParts'. -/
def spacePartsCard : Claim7 := { stood := { row := spacePartsRow, standIns := [], harness := (true, "d7b2cccb578fcab45f7dc77a35ff7a96f6fb62bdddf37a0afc0c56b5fbcbaa16"), looks := true }, kinds := [], alts := [], laidByText := true, laidKinds := [.handle], laidTests := true, laidLooks := .later }
def SpacePartsCardSaid : Prop := Claim7.holds Tryz.pinned (.plain (OpenSpec.ofChange spacePartsSpec)) spacePartsCard

/-- THE TIED CARD OF 'halterlaw14.SpaceForce'. -/
def spaceForceCard : Claim7 := { stood := { row := spaceForceRow, standIns := [], harness := (true, "d7b2cccb578fcab45f7dc77a35ff7a96f6fb62bdddf37a0afc0c56b5fbcbaa16"), looks := true }, kinds := [], alts := [], laidByText := true, laidKinds := [.handle], laidTests := true, laidLooks := .later }
def SpaceForceCardSaid : Prop := Claim7.holds Tryz.pinned (.plain (OpenSpec.ofChange spaceForceSpec)) spaceForceCard

/-- THE TIED CARD OF 'halterlaw14.SpaceFull'. -/
def spaceFullCard : Claim7 := { stood := { row := spaceFullRow, standIns := [], harness := (true, "d7b2cccb578fcab45f7dc77a35ff7a96f6fb62bdddf37a0afc0c56b5fbcbaa16"), looks := true }, kinds := [], alts := [], laidByText := true, laidKinds := [.handle], laidTests := true, laidLooks := .later }
def SpaceFullCardSaid : Prop := Claim7.holds Tryz.pinned (.plain (OpenSpec.ofChange spaceFullSpec)) spaceFullCard

/-- THE SECOND FORM's CARD OF 'halterlaw14.SpaceRuns'. -/
def spaceRunsUptoCard : Claim7 := { stood := { row := spaceRunsUptoRow, standIns := [], harness := (true, "d7b2cccb578fcab45f7dc77a35ff7a96f6fb62bdddf37a0afc0c56b5fbcbaa16"), looks := true }, kinds := [], alts := [], laidByText := true, laidKinds := [.handle], laidTests := true, laidLooks := .later }
def SpaceRunsUptoCardSaid : Prop := Claim7.holds Tryz.pinned (.plain (OpenSpec.upto spaceRunsSpec)) spaceRunsUptoCard

/-- THE SECOND FORM's CARD OF 'halterlaw14.SpaceParts'. -/
def spacePartsUptoCard : Claim7 := { stood := { row := spacePartsUptoRow, standIns := [], harness := (true, "d7b2cccb578fcab45f7dc77a35ff7a96f6fb62bdddf37a0afc0c56b5fbcbaa16"), looks := true }, kinds := [], alts := [], laidByText := true, laidKinds := [.handle], laidTests := true, laidLooks := .later }
def SpacePartsUptoCardSaid : Prop := Claim7.holds Tryz.pinned (.plain (OpenSpec.upto spacePartsSpec)) spacePartsUptoCard

/-- THE SECOND FORM's CARD OF 'halterlaw14.SpaceForce'. -/
def spaceForceUptoCard : Claim7 := { stood := { row := spaceForceUptoRow, standIns := [], harness := (true, "d7b2cccb578fcab45f7dc77a35ff7a96f6fb62bdddf37a0afc0c56b5fbcbaa16"), looks := true }, kinds := [], alts := [], laidByText := true, laidKinds := [.handle], laidTests := true, laidLooks := .later }
def SpaceForceUptoCardSaid : Prop := Claim7.holds Tryz.pinned (.plain (OpenSpec.upto spaceForceSpec)) spaceForceUptoCard

/-- THE SECOND FORM's CARD OF 'halterlaw14.SpaceFull'. -/
def spaceFullUptoCard : Claim7 := { stood := { row := spaceFullUptoRow, standIns := [], harness := (true, "d7b2cccb578fcab45f7dc77a35ff7a96f6fb62bdddf37a0afc0c56b5fbcbaa16"), looks := true }, kinds := [], alts := [], laidByText := true, laidKinds := [.handle], laidTests := true, laidLooks := .later }
def SpaceFullUptoCardSaid : Prop := Claim7.holds Tryz.pinned (.plain (OpenSpec.upto spaceFullSpec)) spaceFullUptoCard
end Rows
end Go.Proofs.YtfllplinafnpbaaGreatDoor
