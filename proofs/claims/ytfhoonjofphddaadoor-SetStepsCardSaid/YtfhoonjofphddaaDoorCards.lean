/-
  DERIVED. GIVEN WITH THE SEED: THE CARDS: each row of YtfhoonjofphddaaDoorRows.lean that lists a variable, with what it lists TIED to the program's text (the seventh form; the later family's looks); each row that meets fmt, with fmt's text TOLD by the authors' own Lean function (tested against real Go, not proved from fmt's source: count such statements apart). THE CARD IS WHAT COUNTS. Prove the row's statement (the work); the ties are given (YtfhoonjofphddaaDoorTie.lean); close each card by the builder's one call (the guide's Derived/Test/ToyasCard.lean, 'card_holds'). Laid BY PROGRAM, IN A SANDBOX (cutbox-door.mjs). By AI agents, Wed Nov 11 2026. No macro, syntax, notation, axiom, sorry.
-/
import Derived.Test.YtfhoonjofphddaaDoorRows
import GoSem.ClaimSeven
namespace Go.Proofs.YtfhoonjofphddaaDoor
namespace Rows

/-- THE TIED CARD OF 'halterlaw03.SetSteps'. -/
def setStepsCard : Claim7 := { stood := { row := setStepsRow, standIns := [], harness := (true, "d472cfed1dc6f6d31bee33ad8b9720d84f5ea8717b0184ffdaeed6d9bcf1b860"), looks := true }, kinds := [], alts := [], laidByText := true, laidKinds := [.data], laidTests := true, laidLooks := .later }
def SetStepsCardSaid : Prop := Claim7.holds Tryd.pinned (.plain (OpenSpec.ofChange setStepsSpec)) setStepsCard

/-- THE TIED CARD OF 'halterlaw03.SetTexts'. -/
def setTextsCard : Claim7 := { stood := { row := setTextsRow, standIns := [], harness := (true, "d472cfed1dc6f6d31bee33ad8b9720d84f5ea8717b0184ffdaeed6d9bcf1b860"), looks := true }, kinds := [], alts := [], laidByText := true, laidKinds := [.data, .handle], laidTests := true, laidLooks := .later }
def SetTextsCardSaid : Prop := Claim7.holds Tryd.pinned (.plain (OpenSpec.ofChange setTextsSpec)) setTextsCard

/-- THE TIED CARD OF 'halterlaw03.SetLaws'. -/
def setLawsCard : Claim7 := { stood := { row := setLawsRow, standIns := [], harness := (true, "d472cfed1dc6f6d31bee33ad8b9720d84f5ea8717b0184ffdaeed6d9bcf1b860"), looks := true }, kinds := [], alts := [], laidByText := true, laidKinds := [.data], laidTests := true, laidLooks := .later }
def SetLawsCardSaid : Prop := Claim7.holds Tryd.pinned (.plain (OpenSpec.ofChange setLawsSpec)) setLawsCard

/-- THE TIED CARD OF 'halterlaw03.SetGathers'. -/
def setGathersCard : Claim7 := { stood := { row := setGathersRow, standIns := [], harness := (true, "d472cfed1dc6f6d31bee33ad8b9720d84f5ea8717b0184ffdaeed6d9bcf1b860"), looks := true }, kinds := [], alts := [], laidByText := true, laidKinds := [.data], laidTests := true, laidLooks := .later }
def SetGathersCardSaid : Prop := Claim7.holds Tryd.pinned (.plain (OpenSpec.ofChange setGathersSpec)) setGathersCard

/-- THE SECOND FORM's CARD OF 'halterlaw03.SetSteps'. -/
def setStepsUptoCard : Claim7 := { stood := { row := setStepsUptoRow, standIns := [], harness := (true, "d472cfed1dc6f6d31bee33ad8b9720d84f5ea8717b0184ffdaeed6d9bcf1b860"), looks := true }, kinds := [], alts := [], laidByText := true, laidKinds := [.data], laidTests := true, laidLooks := .later }
def SetStepsUptoCardSaid : Prop := Claim7.holds Tryd.pinned (.plain (OpenSpec.upto setStepsSpec)) setStepsUptoCard

/-- THE SECOND FORM's CARD OF 'halterlaw03.SetTexts'. -/
def setTextsUptoCard : Claim7 := { stood := { row := setTextsUptoRow, standIns := [], harness := (true, "d472cfed1dc6f6d31bee33ad8b9720d84f5ea8717b0184ffdaeed6d9bcf1b860"), looks := true }, kinds := [], alts := [], laidByText := true, laidKinds := [.data, .handle], laidTests := true, laidLooks := .later }
def SetTextsUptoCardSaid : Prop := Claim7.holds Tryd.pinned (.plain (OpenSpec.upto setTextsSpec)) setTextsUptoCard

/-- THE SECOND FORM's CARD OF 'halterlaw03.SetLaws'. -/
def setLawsUptoCard : Claim7 := { stood := { row := setLawsUptoRow, standIns := [], harness := (true, "d472cfed1dc6f6d31bee33ad8b9720d84f5ea8717b0184ffdaeed6d9bcf1b860"), looks := true }, kinds := [], alts := [], laidByText := true, laidKinds := [.data], laidTests := true, laidLooks := .later }
def SetLawsUptoCardSaid : Prop := Claim7.holds Tryd.pinned (.plain (OpenSpec.upto setLawsSpec)) setLawsUptoCard

/-- THE SECOND FORM's CARD OF 'halterlaw03.SetGathers'. -/
def setGathersUptoCard : Claim7 := { stood := { row := setGathersUptoRow, standIns := [], harness := (true, "d472cfed1dc6f6d31bee33ad8b9720d84f5ea8717b0184ffdaeed6d9bcf1b860"), looks := true }, kinds := [], alts := [], laidByText := true, laidKinds := [.data], laidTests := true, laidLooks := .later }
def SetGathersUptoCardSaid : Prop := Claim7.holds Tryd.pinned (.plain (OpenSpec.upto setGathersSpec)) setGathersUptoCard
end Rows
end Go.Proofs.YtfhoonjofphddaaDoor
