/-
  DERIVED. GIVEN WITH THE SEED: THE CARDS: each row of YtmaocaddoohfmaaDoorRows.lean that lists a variable, with what it lists TIED to the program's text (the seventh form; the later family's looks); each row that meets fmt, with fmt's text TOLD by the authors' own Lean function (tested against real Go, not proved from fmt's source: count such statements apart). THE CARD IS WHAT COUNTS. Prove the row's statement (the work); the ties are given (YtmaocaddoohfmaaDoorTie.lean); close each card by the builder's one call (the guide's Derived/Test/ToyasCard.lean, 'card_holds'). Laid BY PROGRAM, IN A SANDBOX (cutbox-door.mjs). By AI agents, Wed Nov 11 2026. No macro, syntax, notation, axiom, sorry.
-/
import Derived.Test.YtmaocaddoohfmaaDoorRows
import GoSem.ClaimSeven
namespace Go.Proofs.YtmaocaddoohfmaaDoor
namespace Rows

/-- THE TIED CARD OF 'halterlaw16.PathSplits'. -/
def pathSplitsCard : Claim7 := { stood := { row := pathSplitsRow, standIns := [], harness := (true, "c3b5d924254ec8fb1b88ac88a1f46e281da0fec48156f710e7dcf72e5cd9c417"), looks := true }, kinds := [], alts := [], laidByText := true, laidKinds := [.data, .handle, .pinned], laidTests := true, laidLooks := .later }
def PathSplitsCardSaid : Prop := Claim7.holds Tryd.pinned (.plain (OpenSpec.ofChange pathSplitsSpec)) pathSplitsCard

/-- THE TIED CARD OF 'halterlaw16.PathBack'. -/
def pathBackCard : Claim7 := { stood := { row := pathBackRow, standIns := [], harness := (true, "c3b5d924254ec8fb1b88ac88a1f46e281da0fec48156f710e7dcf72e5cd9c417"), looks := true }, kinds := [], alts := [], laidByText := true, laidKinds := [.data, .handle, .pinned], laidTests := true, laidLooks := .later }
def PathBackCardSaid : Prop := Claim7.holds Tryd.pinned (.plain (OpenSpec.ofChange pathBackSpec)) pathBackCard

/-- THE TIED CARD OF 'halterlaw16.PathLasts'. -/
def pathLastsCard : Claim7 := { stood := { row := pathLastsRow, standIns := [], harness := (true, "c3b5d924254ec8fb1b88ac88a1f46e281da0fec48156f710e7dcf72e5cd9c417"), looks := true }, kinds := [], alts := [], laidByText := true, laidKinds := [.data, .handle, .pinned], laidTests := true, laidLooks := .later }
def PathLastsCardSaid : Prop := Claim7.holds Tryd.pinned (.plain (OpenSpec.ofChange pathLastsSpec)) pathLastsCard

/-- THE SECOND FORM's CARD OF 'halterlaw16.PathSplits'. -/
def pathSplitsUptoCard : Claim7 := { stood := { row := pathSplitsUptoRow, standIns := [], harness := (true, "c3b5d924254ec8fb1b88ac88a1f46e281da0fec48156f710e7dcf72e5cd9c417"), looks := true }, kinds := [], alts := [], laidByText := true, laidKinds := [.data, .handle, .pinned], laidTests := true, laidLooks := .later }
def PathSplitsUptoCardSaid : Prop := Claim7.holds Tryd.pinned (.plain (OpenSpec.upto pathSplitsSpec)) pathSplitsUptoCard

/-- THE SECOND FORM's CARD OF 'halterlaw16.PathBack'. -/
def pathBackUptoCard : Claim7 := { stood := { row := pathBackUptoRow, standIns := [], harness := (true, "c3b5d924254ec8fb1b88ac88a1f46e281da0fec48156f710e7dcf72e5cd9c417"), looks := true }, kinds := [], alts := [], laidByText := true, laidKinds := [.data, .handle, .pinned], laidTests := true, laidLooks := .later }
def PathBackUptoCardSaid : Prop := Claim7.holds Tryd.pinned (.plain (OpenSpec.upto pathBackSpec)) pathBackUptoCard

/-- THE SECOND FORM's CARD OF 'halterlaw16.PathLasts'. -/
def pathLastsUptoCard : Claim7 := { stood := { row := pathLastsUptoRow, standIns := [], harness := (true, "c3b5d924254ec8fb1b88ac88a1f46e281da0fec48156f710e7dcf72e5cd9c417"), looks := true }, kinds := [], alts := [], laidByText := true, laidKinds := [.data, .handle, .pinned], laidTests := true, laidLooks := .later }
def PathLastsUptoCardSaid : Prop := Claim7.holds Tryd.pinned (.plain (OpenSpec.upto pathLastsSpec)) pathLastsUptoCard
end Rows
end Go.Proofs.YtmaocaddoohfmaaDoor
