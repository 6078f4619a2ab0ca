/-
  DERIVED. GIVEN WITH THE SEED: THE CARDS: each row of YtpapicnkhjcjoaaDoorRows.lean that lists a variable, with what it lists TIED to the program's text (the seventh form; the later family's looks); each row that meets fmt, with fmt's text TOLD by the authors' own Lean function (tested against real Go, not proved from fmt's source: count such statements apart). THE CARD IS WHAT COUNTS. Prove the row's statement (the work); the ties are given (YtpapicnkhjcjoaaDoorTie.lean); close each card by the builder's one call (the guide's Derived/Test/ToyasCard.lean, 'card_holds'). Laid BY PROGRAM, IN A SANDBOX (cutbox-door.mjs). By AI agents, Wed Nov 11 2026. No macro, syntax, notation, axiom, sorry.
-/
import Derived.Test.YtpapicnkhjcjoaaDoorRows
import GoSem.ClaimSeven
namespace Go.Proofs.YtpapicnkhjcjoaaDoor
namespace Rows

/-- THE TIED CARD OF 'halterlaw19.FileRuns'. -/
def fileRunsCard : Claim7 := { stood := { row := fileRunsRow, standIns := [], harness := (true, "7bc24a7015f1fe19dee02ef661ab66c3b7e5de9c17027ab3694f025ea610cbc2"), looks := true }, kinds := [], alts := [], laidByText := true, laidKinds := [.handle], laidTests := true, laidLooks := .later }
def FileRunsCardSaid : Prop := Claim7.holds Tryd.pinned (.plain (OpenSpec.ofChange fileRunsSpec)) fileRunsCard

/-- THE TIED CARD OF 'halterlaw19.FileSeeks'. -/
def fileSeeksCard : Claim7 := { stood := { row := fileSeeksRow, standIns := [], harness := (true, "7bc24a7015f1fe19dee02ef661ab66c3b7e5de9c17027ab3694f025ea610cbc2"), looks := true }, kinds := [], alts := [], laidByText := true, laidKinds := [.handle], laidTests := true, laidLooks := .later }
def FileSeeksCardSaid : Prop := Claim7.holds Tryd.pinned (.plain (OpenSpec.ofChange fileSeeksSpec)) fileSeeksCard

/-- THE TIED CARD OF 'halterlaw19.FileCounts'. -/
def fileCountsCard : Claim7 := { stood := { row := fileCountsRow, standIns := [], harness := (true, "7bc24a7015f1fe19dee02ef661ab66c3b7e5de9c17027ab3694f025ea610cbc2"), looks := true }, kinds := [], alts := [], laidByText := true, laidKinds := [.handle], laidTests := true, laidLooks := .later }
def FileCountsCardSaid : Prop := Claim7.holds Tryd.pinned (.plain (OpenSpec.ofChange fileCountsSpec)) fileCountsCard

/-- THE SECOND FORM's CARD OF 'halterlaw19.FileRuns'. -/
def fileRunsUptoCard : Claim7 := { stood := { row := fileRunsUptoRow, standIns := [], harness := (true, "7bc24a7015f1fe19dee02ef661ab66c3b7e5de9c17027ab3694f025ea610cbc2"), looks := true }, kinds := [], alts := [], laidByText := true, laidKinds := [.handle], laidTests := true, laidLooks := .later }
def FileRunsUptoCardSaid : Prop := Claim7.holds Tryd.pinned (.plain (OpenSpec.upto fileRunsSpec)) fileRunsUptoCard

/-- THE SECOND FORM's CARD OF 'halterlaw19.FileSeeks'. -/
def fileSeeksUptoCard : Claim7 := { stood := { row := fileSeeksUptoRow, standIns := [], harness := (true, "7bc24a7015f1fe19dee02ef661ab66c3b7e5de9c17027ab3694f025ea610cbc2"), looks := true }, kinds := [], alts := [], laidByText := true, laidKinds := [.handle], laidTests := true, laidLooks := .later }
def FileSeeksUptoCardSaid : Prop := Claim7.holds Tryd.pinned (.plain (OpenSpec.upto fileSeeksSpec)) fileSeeksUptoCard

/-- THE SECOND FORM's CARD OF 'halterlaw19.FileCounts'. -/
def fileCountsUptoCard : Claim7 := { stood := { row := fileCountsUptoRow, standIns := [], harness := (true, "7bc24a7015f1fe19dee02ef661ab66c3b7e5de9c17027ab3694f025ea610cbc2"), looks := true }, kinds := [], alts := [], laidByText := true, laidKinds := [.handle], laidTests := true, laidLooks := .later }
def FileCountsUptoCardSaid : Prop := Claim7.holds Tryd.pinned (.plain (OpenSpec.upto fileCountsSpec)) fileCountsUptoCard
end Rows
end Go.Proofs.YtpapicnkhjcjoaaDoor
