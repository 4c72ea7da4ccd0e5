/-
  DERIVED. GIVEN WITH THE SEED: THE CARDS: each row of YtnafecdionhnfaaDoorRows.lean that lists a variable, with what it lists TIED to the program's text (the seventh form; the later family's looks); each row that meets fmt, with fmt's text TOLD by the authors' own Lean function (tested against real Go, not proved from fmt's source: count such statements apart). THE CARD IS WHAT COUNTS. Prove the row's statement (the work); the ties are given (YtnafecdionhnfaaDoorTie.lean); close each card by the builder's one call (the guide's Derived/Test/ToyasCard.lean, 'card_holds'). Laid BY PROGRAM, IN A SANDBOX (cutbox-door.mjs). By AI agents, Wed Nov 11 2026. No macro, syntax, notation, axiom, sorry.
-/
import Derived.Test.YtnafecdionhnfaaDoorRows
import GoSem.ClaimSeven
namespace Go.Proofs.YtnafecdionhnfaaDoor
namespace Rows

/-- THE TIED CARD OF 'scullionlaw07.LexerSmall'. -/
def lexerSmallCard : Claim7 := { stood := { row := lexerSmallRow, standIns := [], harness := (true, "5355e091a8a5f3cddade6b01ea24be8130181aa9bc25b7257e16dddb42e19153"), looks := true }, kinds := [], alts := [], laidByText := true, laidKinds := [.data], laidTests := true, laidLooks := .later }
def LexerSmallCardSaid : Prop := Claim7.holds Tryd.pinned (.plain (OpenSpec.ofChange lexerSmallSpec)) lexerSmallCard

/-- THE TIED CARD OF 'scullionlaw07.LexerDeep'. -/
def lexerDeepCard : Claim7 := { stood := { row := lexerDeepRow, standIns := [], harness := (true, "5355e091a8a5f3cddade6b01ea24be8130181aa9bc25b7257e16dddb42e19153"), looks := true }, kinds := [], alts := [], laidByText := true, laidKinds := [.data], laidTests := true, laidLooks := .later }
def LexerDeepCardSaid : Prop := Claim7.holds Tryd.pinned (.plain (OpenSpec.ofChange lexerDeepSpec)) lexerDeepCard

/-- THE TIED CARD OF 'scullionlaw07.LexerAgain'. -/
def lexerAgainCard : Claim7 := { stood := { row := lexerAgainRow, standIns := [], harness := (true, "5355e091a8a5f3cddade6b01ea24be8130181aa9bc25b7257e16dddb42e19153"), looks := true }, kinds := [], alts := [], laidByText := true, laidKinds := [.data], laidTests := true, laidLooks := .later }
def LexerAgainCardSaid : Prop := Claim7.holds Tryd.pinned (.plain (OpenSpec.ofChange lexerAgainSpec)) lexerAgainCard

/-- THE TIED CARD OF 'scullionlaw07.LexerTwo'. -/
def lexerTwoCard : Claim7 := { stood := { row := lexerTwoRow, standIns := [], harness := (true, "5355e091a8a5f3cddade6b01ea24be8130181aa9bc25b7257e16dddb42e19153"), looks := true }, kinds := [], alts := [], laidByText := true, laidKinds := [.data], laidTests := true, laidLooks := .later }
def LexerTwoCardSaid : Prop := Claim7.holds Tryd.pinned (.plain (OpenSpec.ofChange lexerTwoSpec)) lexerTwoCard

/-- THE SECOND FORM's CARD OF 'scullionlaw07.LexerSmall'. -/
def lexerSmallUptoCard : Claim7 := { stood := { row := lexerSmallUptoRow, standIns := [], harness := (true, "5355e091a8a5f3cddade6b01ea24be8130181aa9bc25b7257e16dddb42e19153"), looks := true }, kinds := [], alts := [], laidByText := true, laidKinds := [.data], laidTests := true, laidLooks := .later }
def LexerSmallUptoCardSaid : Prop := Claim7.holds Tryd.pinned (.plain (OpenSpec.upto lexerSmallSpec)) lexerSmallUptoCard

/-- THE SECOND FORM's CARD OF 'scullionlaw07.LexerDeep'. -/
def lexerDeepUptoCard : Claim7 := { stood := { row := lexerDeepUptoRow, standIns := [], harness := (true, "5355e091a8a5f3cddade6b01ea24be8130181aa9bc25b7257e16dddb42e19153"), looks := true }, kinds := [], alts := [], laidByText := true, laidKinds := [.data], laidTests := true, laidLooks := .later }
def LexerDeepUptoCardSaid : Prop := Claim7.holds Tryd.pinned (.plain (OpenSpec.upto lexerDeepSpec)) lexerDeepUptoCard

/-- THE SECOND FORM's CARD OF 'scullionlaw07.LexerAgain'. -/
def lexerAgainUptoCard : Claim7 := { stood := { row := lexerAgainUptoRow, standIns := [], harness := (true, "5355e091a8a5f3cddade6b01ea24be8130181aa9bc25b7257e16dddb42e19153"), looks := true }, kinds := [], alts := [], laidByText := true, laidKinds := [.data], laidTests := true, laidLooks := .later }
def LexerAgainUptoCardSaid : Prop := Claim7.holds Tryd.pinned (.plain (OpenSpec.upto lexerAgainSpec)) lexerAgainUptoCard

/-- THE SECOND FORM's CARD OF 'scullionlaw07.LexerTwo'. -/
def lexerTwoUptoCard : Claim7 := { stood := { row := lexerTwoUptoRow, standIns := [], harness := (true, "5355e091a8a5f3cddade6b01ea24be8130181aa9bc25b7257e16dddb42e19153"), looks := true }, kinds := [], alts := [], laidByText := true, laidKinds := [.data], laidTests := true, laidLooks := .later }
def LexerTwoUptoCardSaid : Prop := Claim7.holds Tryd.pinned (.plain (OpenSpec.upto lexerTwoSpec)) lexerTwoUptoCard
end Rows
end Go.Proofs.YtnafecdionhnfaaDoor
