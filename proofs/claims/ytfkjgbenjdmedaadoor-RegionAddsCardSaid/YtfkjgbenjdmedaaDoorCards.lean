/-
  DERIVED. GIVEN WITH THE SEED: THE CARDS: each row of YtfkjgbenjdmedaaDoorRows.lean that lists a variable, with what it lists TIED to the program's text (the seventh form; the later family's looks); each row that meets fmt, with fmt's text TOLD by the authors' own Lean function (tested against real Go, not proved from fmt's source: count such statements apart). THE CARD IS WHAT COUNTS. Prove the row's statement (the work); the ties are given (YtfkjgbenjdmedaaDoorTie.lean); close each card by the builder's one call (the guide's Derived/Test/ToyasCard.lean, 'card_holds'). Laid BY PROGRAM, IN A SANDBOX (cutbox-door.mjs). By AI agents, Wed Nov 11 2026. No macro, syntax, notation, axiom, sorry.
-/
import Derived.Test.YtfkjgbenjdmedaaDoorRows
import GoSem.ClaimSeven
namespace Go.Proofs.YtfkjgbenjdmedaaDoor
namespace Rows

/-- THE TIED CARD OF 'halterlaw13.RegionAdds'. -/
def regionAddsCard : Claim7 := { stood := { row := regionAddsRow, standIns := [], harness := (true, "e3df8fdff194a53b3cbee48b5b08da0a79fd8825e1a4a6547a17b4aada310e85"), looks := true }, kinds := [], alts := [], laidByText := true, laidKinds := [.handle], laidTests := true, laidLooks := .later }
def RegionAddsCardSaid : Prop := Claim7.holds Tryd.pinned (.plain (OpenSpec.ofChange regionAddsSpec)) regionAddsCard

/-- THE TIED CARD OF 'halterlaw13.RegionCuts'. -/
def regionCutsCard : Claim7 := { stood := { row := regionCutsRow, standIns := [], harness := (true, "e3df8fdff194a53b3cbee48b5b08da0a79fd8825e1a4a6547a17b4aada310e85"), looks := true }, kinds := [], alts := [], laidByText := true, laidKinds := [.handle], laidTests := true, laidLooks := .later }
def RegionCutsCardSaid : Prop := Claim7.holds Tryd.pinned (.plain (OpenSpec.ofChange regionCutsSpec)) regionCutsCard

/-- THE TIED CARD OF 'halterlaw13.RegionHoles'. -/
def regionHolesCard : Claim7 := { stood := { row := regionHolesRow, standIns := [], harness := (true, "e3df8fdff194a53b3cbee48b5b08da0a79fd8825e1a4a6547a17b4aada310e85"), looks := true }, kinds := [], alts := [], laidByText := true, laidKinds := [.handle], laidTests := true, laidLooks := .later }
def RegionHolesCardSaid : Prop := Claim7.holds Tryd.pinned (.plain (OpenSpec.ofChange regionHolesSpec)) regionHolesCard

/-- THE SECOND FORM's CARD OF 'halterlaw13.RegionAdds'. -/
def regionAddsUptoCard : Claim7 := { stood := { row := regionAddsUptoRow, standIns := [], harness := (true, "e3df8fdff194a53b3cbee48b5b08da0a79fd8825e1a4a6547a17b4aada310e85"), looks := true }, kinds := [], alts := [], laidByText := true, laidKinds := [.handle], laidTests := true, laidLooks := .later }
def RegionAddsUptoCardSaid : Prop := Claim7.holds Tryd.pinned (.plain (OpenSpec.upto regionAddsSpec)) regionAddsUptoCard

/-- THE SECOND FORM's CARD OF 'halterlaw13.RegionCuts'. -/
def regionCutsUptoCard : Claim7 := { stood := { row := regionCutsUptoRow, standIns := [], harness := (true, "e3df8fdff194a53b3cbee48b5b08da0a79fd8825e1a4a6547a17b4aada310e85"), looks := true }, kinds := [], alts := [], laidByText := true, laidKinds := [.handle], laidTests := true, laidLooks := .later }
def RegionCutsUptoCardSaid : Prop := Claim7.holds Tryd.pinned (.plain (OpenSpec.upto regionCutsSpec)) regionCutsUptoCard

/-- THE SECOND FORM's CARD OF 'halterlaw13.RegionHoles'. -/
def regionHolesUptoCard : Claim7 := { stood := { row := regionHolesUptoRow, standIns := [], harness := (true, "e3df8fdff194a53b3cbee48b5b08da0a79fd8825e1a4a6547a17b4aada310e85"), looks := true }, kinds := [], alts := [], laidByText := true, laidKinds := [.handle], laidTests := true, laidLooks := .later }
def RegionHolesUptoCardSaid : Prop := Claim7.holds Tryd.pinned (.plain (OpenSpec.upto regionHolesSpec)) regionHolesUptoCard
end Rows
end Go.Proofs.YtfkjgbenjdmedaaDoor
