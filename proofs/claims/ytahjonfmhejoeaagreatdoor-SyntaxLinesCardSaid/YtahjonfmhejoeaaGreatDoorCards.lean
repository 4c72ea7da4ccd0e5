/-
  DERIVED. GIVEN WITH THE SEED: THE CARDS: each row of YtahjonfmhejoeaaGreatDoorRows.lean that lists a variable, with what it lists TIED to the program's text (the seventh form; the later family's looks); each row that meets fmt, with fmt's text TOLD by the authors' own Lean function (tested against real Go, not proved from fmt's source: count such statements apart). THE CARD IS WHAT COUNTS. Prove the row's statement (the work); the ties are given (YtahjonfmhejoeaaGreatDoorTie.lean); close each card by the builder's one call (the guide's Derived/Test/ToyasCard.lean, 'card_holds'). Laid BY PROGRAM, IN A SANDBOX (cutbox-door.mjs). By AI agents, Wed Nov 11 2026. No macro, syntax, notation, axiom, sorry.
-/
import Derived.Test.YtahjonfmhejoeaaGreatDoorRows
import GoSem.ClaimSeven
namespace Go.Proofs.YtahjonfmhejoeaaGreatDoor
namespace Rows

/-- THE TIED CARD OF 'scullionlaw09.SyntaxPhrases'. -/
def syntaxPhrasesCard : Claim7 := { stood := { row := syntaxPhrasesRow, standIns := [], harness := (true, "354a105cfab0c6d3fee6353d67583e7840f20fbdf30ca8c5580417ae6a67efc0"), looks := true }, kinds := [], alts := [], laidByText := true, laidKinds := [.data, .data], laidTests := true, laidLooks := .later }
def SyntaxPhrasesCardSaid : Prop := Claim7.holds Tryz.pinned (.plain (OpenSpec.ofChange syntaxPhrasesSpec)) syntaxPhrasesCard

/-- THE TIED CARD OF 'scullionlaw09.SyntaxDeep'. -/
def syntaxDeepCard : Claim7 := { stood := { row := syntaxDeepRow, standIns := [], harness := (true, "354a105cfab0c6d3fee6353d67583e7840f20fbdf30ca8c5580417ae6a67efc0"), looks := true }, kinds := [], alts := [], laidByText := true, laidKinds := [.data, .data], laidTests := true, laidLooks := .later }
def SyntaxDeepCardSaid : Prop := Claim7.holds Tryz.pinned (.plain (OpenSpec.ofChange syntaxDeepSpec)) syntaxDeepCard

/-- THE TIED CARD OF 'scullionlaw09.SyntaxTwo'. -/
def syntaxTwoCard : Claim7 := { stood := { row := syntaxTwoRow, standIns := [], harness := (true, "354a105cfab0c6d3fee6353d67583e7840f20fbdf30ca8c5580417ae6a67efc0"), looks := true }, kinds := [], alts := [], laidByText := true, laidKinds := [.data, .data], laidTests := true, laidLooks := .later }
def SyntaxTwoCardSaid : Prop := Claim7.holds Tryz.pinned (.plain (OpenSpec.ofChange syntaxTwoSpec)) syntaxTwoCard

/-- THE TIED CARD OF 'scullionlaw09.SyntaxLines'. -/
def syntaxLinesCard : Claim7 := { stood := { row := syntaxLinesRow, standIns := [], harness := (true, "354a105cfab0c6d3fee6353d67583e7840f20fbdf30ca8c5580417ae6a67efc0"), looks := true }, kinds := [], alts := [], laidByText := true, laidKinds := [.data, .data], laidTests := true, laidLooks := .later }
def SyntaxLinesCardSaid : Prop := Claim7.holds Tryz.pinned (.plain (OpenSpec.ofChange syntaxLinesSpec)) syntaxLinesCard

/-- THE TIED CARD OF 'scullionlaw10.UnparseAny'. -/
def unparseAnyCard : Claim7 := { stood := { row := unparseAnyRow, standIns := [], harness := (true, "354a105cfab0c6d3fee6353d67583e7840f20fbdf30ca8c5580417ae6a67efc0"), looks := true }, kinds := [], alts := [], laidByText := true, laidKinds := [.data, .pinned], laidTests := true, laidLooks := .later }
def UnparseAnyCardSaid : Prop := Claim7.holds Tryz.pinned (.plain (OpenSpec.ofChange unparseAnySpec)) unparseAnyCard

/-- THE TIED CARD OF 'scullionlaw10.UnparseParsed'. -/
def unparseParsedCard : Claim7 := { stood := { row := unparseParsedRow, standIns := [], harness := (true, "354a105cfab0c6d3fee6353d67583e7840f20fbdf30ca8c5580417ae6a67efc0"), looks := true }, kinds := [], alts := [], laidByText := true, laidKinds := [.data, .pinned], laidTests := true, laidLooks := .later }
def UnparseParsedCardSaid : Prop := Claim7.holds Tryz.pinned (.plain (OpenSpec.ofChange unparseParsedSpec)) unparseParsedCard

/-- THE TIED CARD OF 'scullionlaw10.UnparseBack'. -/
def unparseBackCard : Claim7 := { stood := { row := unparseBackRow, standIns := [], harness := (true, "354a105cfab0c6d3fee6353d67583e7840f20fbdf30ca8c5580417ae6a67efc0"), looks := true }, kinds := [], alts := [], laidByText := true, laidKinds := [.data, .pinned], laidTests := true, laidLooks := .later }
def UnparseBackCardSaid : Prop := Claim7.holds Tryz.pinned (.plain (OpenSpec.ofChange unparseBackSpec)) unparseBackCard

/-- THE TIED CARD OF 'scullionlaw10.UnparseApart'. -/
def unparseApartCard : Claim7 := { stood := { row := unparseApartRow, standIns := [], harness := (true, "354a105cfab0c6d3fee6353d67583e7840f20fbdf30ca8c5580417ae6a67efc0"), looks := true }, kinds := [], alts := [], laidByText := true, laidKinds := [.data, .pinned], laidTests := true, laidLooks := .later }
def UnparseApartCardSaid : Prop := Claim7.holds Tryz.pinned (.plain (OpenSpec.ofChange unparseApartSpec)) unparseApartCard

/-- THE SECOND FORM's CARD OF 'scullionlaw09.SyntaxPhrases'. -/
def syntaxPhrasesUptoCard : Claim7 := { stood := { row := syntaxPhrasesUptoRow, standIns := [], harness := (true, "354a105cfab0c6d3fee6353d67583e7840f20fbdf30ca8c5580417ae6a67efc0"), looks := true }, kinds := [], alts := [], laidByText := true, laidKinds := [.data, .data], laidTests := true, laidLooks := .later }
def SyntaxPhrasesUptoCardSaid : Prop := Claim7.holds Tryz.pinned (.plain (OpenSpec.upto syntaxPhrasesSpec)) syntaxPhrasesUptoCard

/-- THE SECOND FORM's CARD OF 'scullionlaw09.SyntaxDeep'. -/
def syntaxDeepUptoCard : Claim7 := { stood := { row := syntaxDeepUptoRow, standIns := [], harness := (true, "354a105cfab0c6d3fee6353d67583e7840f20fbdf30ca8c5580417ae6a67efc0"), looks := true }, kinds := [], alts := [], laidByText := true, laidKinds := [.data, .data], laidTests := true, laidLooks := .later }
def SyntaxDeepUptoCardSaid : Prop := Claim7.holds Tryz.pinned (.plain (OpenSpec.upto syntaxDeepSpec)) syntaxDeepUptoCard

/-- THE SECOND FORM's CARD OF 'scullionlaw09.SyntaxTwo'. -/
def syntaxTwoUptoCard : Claim7 := { stood := { row := syntaxTwoUptoRow, standIns := [], harness := (true, "354a105cfab0c6d3fee6353d67583e7840f20fbdf30ca8c5580417ae6a67efc0"), looks := true }, kinds := [], alts := [], laidByText := true, laidKinds := [.data, .data], laidTests := true, laidLooks := .later }
def SyntaxTwoUptoCardSaid : Prop := Claim7.holds Tryz.pinned (.plain (OpenSpec.upto syntaxTwoSpec)) syntaxTwoUptoCard

/-- THE SECOND FORM's CARD OF 'scullionlaw09.SyntaxLines'. -/
def syntaxLinesUptoCard : Claim7 := { stood := { row := syntaxLinesUptoRow, standIns := [], harness := (true, "354a105cfab0c6d3fee6353d67583e7840f20fbdf30ca8c5580417ae6a67efc0"), looks := true }, kinds := [], alts := [], laidByText := true, laidKinds := [.data, .data], laidTests := true, laidLooks := .later }
def SyntaxLinesUptoCardSaid : Prop := Claim7.holds Tryz.pinned (.plain (OpenSpec.upto syntaxLinesSpec)) syntaxLinesUptoCard

/-- THE SECOND FORM's CARD OF 'scullionlaw10.UnparseAny'. -/
def unparseAnyUptoCard : Claim7 := { stood := { row := unparseAnyUptoRow, standIns := [], harness := (true, "354a105cfab0c6d3fee6353d67583e7840f20fbdf30ca8c5580417ae6a67efc0"), looks := true }, kinds := [], alts := [], laidByText := true, laidKinds := [.data, .pinned], laidTests := true, laidLooks := .later }
def UnparseAnyUptoCardSaid : Prop := Claim7.holds Tryz.pinned (.plain (OpenSpec.upto unparseAnySpec)) unparseAnyUptoCard

/-- THE SECOND FORM's CARD OF 'scullionlaw10.UnparseParsed'. -/
def unparseParsedUptoCard : Claim7 := { stood := { row := unparseParsedUptoRow, standIns := [], harness := (true, "354a105cfab0c6d3fee6353d67583e7840f20fbdf30ca8c5580417ae6a67efc0"), looks := true }, kinds := [], alts := [], laidByText := true, laidKinds := [.data, .pinned], laidTests := true, laidLooks := .later }
def UnparseParsedUptoCardSaid : Prop := Claim7.holds Tryz.pinned (.plain (OpenSpec.upto unparseParsedSpec)) unparseParsedUptoCard

/-- THE SECOND FORM's CARD OF 'scullionlaw10.UnparseBack'. -/
def unparseBackUptoCard : Claim7 := { stood := { row := unparseBackUptoRow, standIns := [], harness := (true, "354a105cfab0c6d3fee6353d67583e7840f20fbdf30ca8c5580417ae6a67efc0"), looks := true }, kinds := [], alts := [], laidByText := true, laidKinds := [.data, .pinned], laidTests := true, laidLooks := .later }
def UnparseBackUptoCardSaid : Prop := Claim7.holds Tryz.pinned (.plain (OpenSpec.upto unparseBackSpec)) unparseBackUptoCard

/-- THE SECOND FORM's CARD OF 'scullionlaw10.UnparseApart'. -/
def unparseApartUptoCard : Claim7 := { stood := { row := unparseApartUptoRow, standIns := [], harness := (true, "354a105cfab0c6d3fee6353d67583e7840f20fbdf30ca8c5580417ae6a67efc0"), looks := true }, kinds := [], alts := [], laidByText := true, laidKinds := [.data, .pinned], laidTests := true, laidLooks := .later }
def UnparseApartUptoCardSaid : Prop := Claim7.holds Tryz.pinned (.plain (OpenSpec.upto unparseApartSpec)) unparseApartUptoCard
end Rows
end Go.Proofs.YtahjonfmhejoeaaGreatDoor
