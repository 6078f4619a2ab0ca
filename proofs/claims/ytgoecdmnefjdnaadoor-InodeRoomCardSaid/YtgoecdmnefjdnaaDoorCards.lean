/-
  DERIVED. GIVEN WITH THE SEED: THE CARDS: each row of YtgoecdmnefjdnaaDoorRows.lean that lists a variable, with what it lists TIED to the program's text (the seventh form; the later family's looks); each row that meets fmt, with fmt's text TOLD by the authors' own Lean function (tested against real Go, not proved from fmt's source: count such statements apart). THE CARD IS WHAT COUNTS. Prove the row's statement (the work); the ties are given (YtgoecdmnefjdnaaDoorTie.lean); close each card by the builder's one call (the guide's Derived/Test/ToyasCard.lean, 'card_holds'). Laid BY PROGRAM, IN A SANDBOX (cutbox-door.mjs). By AI agents, Wed Nov 11 2026. No macro, syntax, notation, axiom, sorry.
-/
import Derived.Test.YtgoecdmnefjdnaaDoorRows
import GoSem.ClaimSeven
namespace Go.Proofs.YtgoecdmnefjdnaaDoor
namespace Rows

/-- THE TIED CARD OF 'halterlaw17.InodeKeeps'. -/
def inodeKeepsCard : Claim7 := { stood := { row := inodeKeepsRow, standIns := [], harness := (true, "4c681425a615979ab14c02aa115893ea6e32c4c0f9140b92fbbb3054b1627978"), looks := true }, kinds := [], alts := [], laidByText := true, laidKinds := [.handle], laidTests := true, laidLooks := .later }
def InodeKeepsCardSaid : Prop := Claim7.holds Tryd.pinned (.plain (OpenSpec.ofChange inodeKeepsSpec)) inodeKeepsCard

/-- THE TIED CARD OF 'halterlaw17.InodeRoom'. -/
def inodeRoomCard : Claim7 := { stood := { row := inodeRoomRow, standIns := [], harness := (true, "4c681425a615979ab14c02aa115893ea6e32c4c0f9140b92fbbb3054b1627978"), looks := true }, kinds := [], alts := [], laidByText := true, laidKinds := [.handle], laidTests := true, laidLooks := .later }
def InodeRoomCardSaid : Prop := Claim7.holds Tryd.pinned (.plain (OpenSpec.ofChange inodeRoomSpec)) inodeRoomCard

/-- THE TIED CARD OF 'halterlaw17.InodeDots'. -/
def inodeDotsCard : Claim7 := { stood := { row := inodeDotsRow, standIns := [], harness := (true, "4c681425a615979ab14c02aa115893ea6e32c4c0f9140b92fbbb3054b1627978"), looks := true }, kinds := [], alts := [], laidByText := true, laidKinds := [.handle], laidTests := true, laidLooks := .later }
def InodeDotsCardSaid : Prop := Claim7.holds Tryd.pinned (.plain (OpenSpec.ofChange inodeDotsSpec)) inodeDotsCard

/-- THE SECOND FORM's CARD OF 'halterlaw17.InodeKeeps'. -/
def inodeKeepsUptoCard : Claim7 := { stood := { row := inodeKeepsUptoRow, standIns := [], harness := (true, "4c681425a615979ab14c02aa115893ea6e32c4c0f9140b92fbbb3054b1627978"), looks := true }, kinds := [], alts := [], laidByText := true, laidKinds := [.handle], laidTests := true, laidLooks := .later }
def InodeKeepsUptoCardSaid : Prop := Claim7.holds Tryd.pinned (.plain (OpenSpec.upto inodeKeepsSpec)) inodeKeepsUptoCard

/-- THE SECOND FORM's CARD OF 'halterlaw17.InodeRoom'. -/
def inodeRoomUptoCard : Claim7 := { stood := { row := inodeRoomUptoRow, standIns := [], harness := (true, "4c681425a615979ab14c02aa115893ea6e32c4c0f9140b92fbbb3054b1627978"), looks := true }, kinds := [], alts := [], laidByText := true, laidKinds := [.handle], laidTests := true, laidLooks := .later }
def InodeRoomUptoCardSaid : Prop := Claim7.holds Tryd.pinned (.plain (OpenSpec.upto inodeRoomSpec)) inodeRoomUptoCard

/-- THE SECOND FORM's CARD OF 'halterlaw17.InodeDots'. -/
def inodeDotsUptoCard : Claim7 := { stood := { row := inodeDotsUptoRow, standIns := [], harness := (true, "4c681425a615979ab14c02aa115893ea6e32c4c0f9140b92fbbb3054b1627978"), looks := true }, kinds := [], alts := [], laidByText := true, laidKinds := [.handle], laidTests := true, laidLooks := .later }
def InodeDotsUptoCardSaid : Prop := Claim7.holds Tryd.pinned (.plain (OpenSpec.upto inodeDotsSpec)) inodeDotsUptoCard
end Rows
end Go.Proofs.YtgoecdmnefjdnaaDoor
