/-
  DERIVED. GIVEN WITH THE SEED: THE CARDS: each row of YtmllcppndlcgnaaDoorRows.lean that lists a variable, with what it lists TIED to the program's text (the seventh form; the later family's looks); each row that meets fmt, with fmt's text TOLD by the authors' own Lean function (tested against real Go, not proved from fmt's source: count such statements apart). THE CARD IS WHAT COUNTS. Prove the row's statement (the work); the ties are given (YtmllcppndlcgnaaDoorTie.lean); close each card by the builder's one call (the guide's Derived/Test/ToyasCard.lean, 'card_holds'). Laid BY PROGRAM, IN A SANDBOX (cutbox-door.mjs). By AI agents, Wed Nov 11 2026. No macro, syntax, notation, axiom, sorry.
-/
import Derived.Test.YtmllcppndlcgnaaDoorRows
import GoSem.ClaimSeven
namespace Go.Proofs.YtmllcppndlcgnaaDoor
namespace Rows

/-- THE TIED CARD OF 'halterlaw08.IsaForms'. -/
def isaFormsCard : Claim7 := { stood := { row := isaFormsRow, standIns := [], harness := (true, "a34df0952d84456f2b781c03b908411d5d9cb3e52b1bd21a979c0bd4a12e62fd"), looks := true }, kinds := [], alts := [], laidByText := true, laidKinds := [.handle], laidTests := true, laidLooks := .later }
def IsaFormsCardSaid : Prop := Claim7.holds Tryd.pinned (.plain (OpenSpec.ofChange isaFormsSpec)) isaFormsCard

/-- THE TIED CARD OF 'halterlaw08.IsaBack'. -/
def isaBackCard : Claim7 := { stood := { row := isaBackRow, standIns := [], harness := (true, "a34df0952d84456f2b781c03b908411d5d9cb3e52b1bd21a979c0bd4a12e62fd"), looks := true }, kinds := [], alts := [], laidByText := true, laidKinds := [.handle], laidTests := true, laidLooks := .later }
def IsaBackCardSaid : Prop := Claim7.holds Tryd.pinned (.plain (OpenSpec.ofChange isaBackSpec)) isaBackCard

/-- THE SECOND FORM's CARD OF 'halterlaw08.IsaForms'. -/
def isaFormsUptoCard : Claim7 := { stood := { row := isaFormsUptoRow, standIns := [], harness := (true, "a34df0952d84456f2b781c03b908411d5d9cb3e52b1bd21a979c0bd4a12e62fd"), looks := true }, kinds := [], alts := [], laidByText := true, laidKinds := [.handle], laidTests := true, laidLooks := .later }
def IsaFormsUptoCardSaid : Prop := Claim7.holds Tryd.pinned (.plain (OpenSpec.upto isaFormsSpec)) isaFormsUptoCard

/-- THE SECOND FORM's CARD OF 'halterlaw08.IsaBack'. -/
def isaBackUptoCard : Claim7 := { stood := { row := isaBackUptoRow, standIns := [], harness := (true, "a34df0952d84456f2b781c03b908411d5d9cb3e52b1bd21a979c0bd4a12e62fd"), looks := true }, kinds := [], alts := [], laidByText := true, laidKinds := [.handle], laidTests := true, laidLooks := .later }
def IsaBackUptoCardSaid : Prop := Claim7.holds Tryd.pinned (.plain (OpenSpec.upto isaBackSpec)) isaBackUptoCard
end Rows
end Go.Proofs.YtmllcppndlcgnaaDoor
