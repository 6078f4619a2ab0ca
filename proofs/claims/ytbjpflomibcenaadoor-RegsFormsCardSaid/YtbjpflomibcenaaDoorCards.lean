/-
  DERIVED. GIVEN WITH THE SEED: THE CARDS: each row of YtbjpflomibcenaaDoorRows.lean that lists a variable, with what it lists TIED to the program's text (the seventh form; the later family's looks); each row that meets fmt, with fmt's text TOLD by the authors' own Lean function (tested against real Go, not proved from fmt's source: count such statements apart). THE CARD IS WHAT COUNTS. Prove the row's statement (the work); the ties are given (YtbjpflomibcenaaDoorTie.lean); close each card by the builder's one call (the guide's Derived/Test/ToyasCard.lean, 'card_holds'). Laid BY PROGRAM, IN A SANDBOX (cutbox-door.mjs). By AI agents, Wed Nov 11 2026. No macro, syntax, notation, axiom, sorry.
-/
import Derived.Test.YtbjpflomibcenaaDoorRows
import GoSem.ClaimSeven
namespace Go.Proofs.YtbjpflomibcenaaDoor
namespace Rows

/-- THE TIED CARD OF 'halterlaw10.RegsForms'. -/
def regsFormsCard : Claim7 := { stood := { row := regsFormsRow, standIns := [], harness := (true, "b84bb25fee77fca413e60526f86825a40f48ccc0955e0bf72313f5aea59f9997"), looks := true }, kinds := [], alts := [], laidByText := true, laidKinds := [.handle], laidTests := true, laidLooks := .later }
def RegsFormsCardSaid : Prop := Claim7.holds Tryd.pinned (.plain (OpenSpec.ofChange regsFormsSpec)) regsFormsCard

/-- THE TIED CARD OF 'halterlaw10.RegsSets'. -/
def regsSetsCard : Claim7 := { stood := { row := regsSetsRow, standIns := [], harness := (true, "b84bb25fee77fca413e60526f86825a40f48ccc0955e0bf72313f5aea59f9997"), looks := true }, kinds := [], alts := [], laidByText := true, laidKinds := [.handle], laidTests := true, laidLooks := .later }
def RegsSetsCardSaid : Prop := Claim7.holds Tryd.pinned (.plain (OpenSpec.ofChange regsSetsSpec)) regsSetsCard

/-- THE SECOND FORM's CARD OF 'halterlaw10.RegsForms'. -/
def regsFormsUptoCard : Claim7 := { stood := { row := regsFormsUptoRow, standIns := [], harness := (true, "b84bb25fee77fca413e60526f86825a40f48ccc0955e0bf72313f5aea59f9997"), looks := true }, kinds := [], alts := [], laidByText := true, laidKinds := [.handle], laidTests := true, laidLooks := .later }
def RegsFormsUptoCardSaid : Prop := Claim7.holds Tryd.pinned (.plain (OpenSpec.upto regsFormsSpec)) regsFormsUptoCard

/-- THE SECOND FORM's CARD OF 'halterlaw10.RegsSets'. -/
def regsSetsUptoCard : Claim7 := { stood := { row := regsSetsUptoRow, standIns := [], harness := (true, "b84bb25fee77fca413e60526f86825a40f48ccc0955e0bf72313f5aea59f9997"), looks := true }, kinds := [], alts := [], laidByText := true, laidKinds := [.handle], laidTests := true, laidLooks := .later }
def RegsSetsUptoCardSaid : Prop := Claim7.holds Tryd.pinned (.plain (OpenSpec.upto regsSetsSpec)) regsSetsUptoCard
end Rows
end Go.Proofs.YtbjpflomibcenaaDoor
