/-
  DERIVED. GIVEN WITH THE SEED: THE CARDS: each row of YtnlmjjofpkpkaaaDoorRows.lean that lists a variable, with what it lists TIED to the program's text (the seventh form; the later family's looks); each row that meets fmt, with fmt's text TOLD by the authors' own Lean function (tested against real Go, not proved from fmt's source: count such statements apart). THE CARD IS WHAT COUNTS. Prove the row's statement (the work); the ties are given (YtnlmjjofpkpkaaaDoorTie.lean); close each card by the builder's one call (the guide's Derived/Test/ToyasCard.lean, 'card_holds'). Laid BY PROGRAM, IN A SANDBOX (cutbox-door.mjs). By AI agents, Wed Nov 11 2026. No macro, syntax, notation, axiom, sorry.
-/
import Derived.Test.YtnlmjjofpkpkaaaDoorRows
import GoSem.ClaimSeven
namespace Go.Proofs.YtnlmjjofpkpkaaaDoor
namespace Rows

/-- THE TIED CARD OF 'halterlaw05.PhysRuns'. -/
def physRunsCard : Claim7 := { stood := { row := physRunsRow, standIns := [], harness := (true, "50b6ce0e58cce5bc445f114f7c1e65a65e7b73ef9d31aac836e0e2edf81a856c"), looks := true }, kinds := [], alts := [], laidByText := true, laidKinds := [.handle], laidTests := true, laidLooks := .later }
def PhysRunsCardSaid : Prop := Claim7.holds Tryd.pinned (.plain (OpenSpec.ofChange physRunsSpec)) physRunsCard

/-- THE TIED CARD OF 'halterlaw05.PhysKeeps'. -/
def physKeepsCard : Claim7 := { stood := { row := physKeepsRow, standIns := [], harness := (true, "50b6ce0e58cce5bc445f114f7c1e65a65e7b73ef9d31aac836e0e2edf81a856c"), looks := true }, kinds := [], alts := [], laidByText := true, laidKinds := [.handle], laidTests := true, laidLooks := .later }
def PhysKeepsCardSaid : Prop := Claim7.holds Tryd.pinned (.plain (OpenSpec.ofChange physKeepsSpec)) physKeepsCard

/-- THE TIED CARD OF 'halterlaw05.PhysApart'. -/
def physApartCard : Claim7 := { stood := { row := physApartRow, standIns := [], harness := (true, "50b6ce0e58cce5bc445f114f7c1e65a65e7b73ef9d31aac836e0e2edf81a856c"), looks := true }, kinds := [], alts := [], laidByText := true, laidKinds := [.handle], laidTests := true, laidLooks := .later }
def PhysApartCardSaid : Prop := Claim7.holds Tryd.pinned (.plain (OpenSpec.ofChange physApartSpec)) physApartCard

/-- THE SECOND FORM's CARD OF 'halterlaw05.PhysRuns'. -/
def physRunsUptoCard : Claim7 := { stood := { row := physRunsUptoRow, standIns := [], harness := (true, "50b6ce0e58cce5bc445f114f7c1e65a65e7b73ef9d31aac836e0e2edf81a856c"), looks := true }, kinds := [], alts := [], laidByText := true, laidKinds := [.handle], laidTests := true, laidLooks := .later }
def PhysRunsUptoCardSaid : Prop := Claim7.holds Tryd.pinned (.plain (OpenSpec.upto physRunsSpec)) physRunsUptoCard

/-- THE SECOND FORM's CARD OF 'halterlaw05.PhysKeeps'. -/
def physKeepsUptoCard : Claim7 := { stood := { row := physKeepsUptoRow, standIns := [], harness := (true, "50b6ce0e58cce5bc445f114f7c1e65a65e7b73ef9d31aac836e0e2edf81a856c"), looks := true }, kinds := [], alts := [], laidByText := true, laidKinds := [.handle], laidTests := true, laidLooks := .later }
def PhysKeepsUptoCardSaid : Prop := Claim7.holds Tryd.pinned (.plain (OpenSpec.upto physKeepsSpec)) physKeepsUptoCard

/-- THE SECOND FORM's CARD OF 'halterlaw05.PhysApart'. -/
def physApartUptoCard : Claim7 := { stood := { row := physApartUptoRow, standIns := [], harness := (true, "50b6ce0e58cce5bc445f114f7c1e65a65e7b73ef9d31aac836e0e2edf81a856c"), looks := true }, kinds := [], alts := [], laidByText := true, laidKinds := [.handle], laidTests := true, laidLooks := .later }
def PhysApartUptoCardSaid : Prop := Claim7.holds Tryd.pinned (.plain (OpenSpec.upto physApartSpec)) physApartUptoCard
end Rows
end Go.Proofs.YtnlmjjofpkpkaaaDoor
