/-
  DERIVED. GIVEN WITH THE SEED: THE CARDS: each row of YtpagcoiekeijbaaDoorRows.lean that lists a variable, with what it lists TIED to the program's text (the seventh form; the later family's looks); each row that meets fmt, with fmt's text TOLD by the authors' own Lean function (tested against real Go, not proved from fmt's source: count such statements apart). THE CARD IS WHAT COUNTS. Prove the row's statement (the work); the ties are given (YtpagcoiekeijbaaDoorTie.lean); close each card by the builder's one call (the guide's Derived/Test/ToyasCard.lean, 'card_holds'). Laid BY PROGRAM, IN A SANDBOX (cutbox-door.mjs). By AI agents, Wed Nov 11 2026. No macro, syntax, notation, axiom, sorry.
-/
import Derived.Test.YtpagcoiekeijbaaDoorRows
import GoSem.ClaimSeven
namespace Go.Proofs.YtpagcoiekeijbaaDoor
namespace Rows

/-- THE TIED CARD OF 'scullionlaw12.VarsPlays'. -/
def varsPlaysCard : Claim7 := { stood := { row := varsPlaysRow, standIns := [], harness := (true, "5fe5483318825a1bad810b8bac8fdc5ecaf3247d0778e93fff458c79175bf831"), looks := false }, kinds := [], alts := [], laidByText := true, laidKinds := [.data], laidTests := true, laidLooks := .later }
def VarsPlaysCardSaid : Prop := Claim7.holds Tryd.pinned (.plain (OpenSpec.ofChange varsPlaysSpec)) varsPlaysCard

/-- THE TIED CARD OF 'scullionlaw12.VarsSets'. -/
def varsSetsCard : Claim7 := { stood := { row := varsSetsRow, standIns := [], harness := (true, "5fe5483318825a1bad810b8bac8fdc5ecaf3247d0778e93fff458c79175bf831"), looks := false }, kinds := [], alts := [], laidByText := true, laidKinds := [.data], laidTests := true, laidLooks := .later }
def VarsSetsCardSaid : Prop := Claim7.holds Tryd.pinned (.plain (OpenSpec.ofChange varsSetsSpec)) varsSetsCard

/-- THE TIED CARD OF 'scullionlaw12.VarsMarks'. -/
def varsMarksCard : Claim7 := { stood := { row := varsMarksRow, standIns := [], harness := (true, "5fe5483318825a1bad810b8bac8fdc5ecaf3247d0778e93fff458c79175bf831"), looks := false }, kinds := [], alts := [], laidByText := true, laidKinds := [.data], laidTests := true, laidLooks := .later }
def VarsMarksCardSaid : Prop := Claim7.holds Tryd.pinned (.plain (OpenSpec.ofChange varsMarksSpec)) varsMarksCard

/-- THE SECOND FORM's CARD OF 'scullionlaw12.VarsPlays'. -/
def varsPlaysUptoCard : Claim7 := { stood := { row := varsPlaysUptoRow, standIns := [], harness := (true, "5fe5483318825a1bad810b8bac8fdc5ecaf3247d0778e93fff458c79175bf831"), looks := false }, kinds := [], alts := [], laidByText := true, laidKinds := [.data], laidTests := true, laidLooks := .later }
def VarsPlaysUptoCardSaid : Prop := Claim7.holds Tryd.pinned (.plain (OpenSpec.upto varsPlaysSpec)) varsPlaysUptoCard

/-- THE SECOND FORM's CARD OF 'scullionlaw12.VarsSets'. -/
def varsSetsUptoCard : Claim7 := { stood := { row := varsSetsUptoRow, standIns := [], harness := (true, "5fe5483318825a1bad810b8bac8fdc5ecaf3247d0778e93fff458c79175bf831"), looks := false }, kinds := [], alts := [], laidByText := true, laidKinds := [.data], laidTests := true, laidLooks := .later }
def VarsSetsUptoCardSaid : Prop := Claim7.holds Tryd.pinned (.plain (OpenSpec.upto varsSetsSpec)) varsSetsUptoCard

/-- THE SECOND FORM's CARD OF 'scullionlaw12.VarsMarks'. -/
def varsMarksUptoCard : Claim7 := { stood := { row := varsMarksUptoRow, standIns := [], harness := (true, "5fe5483318825a1bad810b8bac8fdc5ecaf3247d0778e93fff458c79175bf831"), looks := false }, kinds := [], alts := [], laidByText := true, laidKinds := [.data], laidTests := true, laidLooks := .later }
def VarsMarksUptoCardSaid : Prop := Claim7.holds Tryd.pinned (.plain (OpenSpec.upto varsMarksSpec)) varsMarksUptoCard
end Rows
end Go.Proofs.YtpagcoiekeijbaaDoor
