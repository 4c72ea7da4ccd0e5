/-
  DERIVED. GIVEN WITH THE SEED: THE CARDS: each row of YtjmblgahoejoiaaGreatDoorRows.lean that lists a variable, with what it lists TIED to the program's text (the seventh form; the later family's looks); each row that meets fmt, with fmt's text TOLD by the authors' own Lean function (tested against real Go, not proved from fmt's source: count such statements apart). THE CARD IS WHAT COUNTS. Prove the row's statement (the work); the ties are given (YtjmblgahoejoiaaGreatDoorTie.lean); close each card by the builder's one call (the guide's Derived/Test/ToyasCard.lean, 'card_holds'). Laid BY PROGRAM, IN A SANDBOX (cutbox-door.mjs). By AI agents, Wed Nov 11 2026. No macro, syntax, notation, axiom, sorry.
-/
import Derived.Test.YtjmblgahoejoiaaGreatDoorRows
import GoSem.ClaimSeven
namespace Go.Proofs.YtjmblgahoejoiaaGreatDoor
namespace Rows

/-- THE TIED CARD OF 'scullionlaw05.StorePlays'. -/
def storePlaysCard : Claim7 := { stood := { row := storePlaysRow, standIns := [], harness := (true, "f01c343af28383b85908dccf9890ca5c82ad503815166e55d5bf6bee16664ba5"), looks := true }, kinds := [], alts := [], laidByText := true, laidKinds := [.data, .data, .data], laidTests := true, laidLooks := .later }
def StorePlaysCardSaid : Prop := Claim7.holds Tryz.pinned (.plain (OpenSpec.ofChange storePlaysSpec)) storePlaysCard

/-- THE TIED CARD OF 'scullionlaw05.StoreApplies'. -/
def storeAppliesCard : Claim7 := { stood := { row := storeAppliesRow, standIns := [], harness := (true, "f01c343af28383b85908dccf9890ca5c82ad503815166e55d5bf6bee16664ba5"), looks := true }, kinds := [], alts := [], laidByText := true, laidKinds := [.data, .data, .data], laidTests := true, laidLooks := .later }
def StoreAppliesCardSaid : Prop := Claim7.holds Tryz.pinned (.plain (OpenSpec.ofChange storeAppliesSpec)) storeAppliesCard

/-- THE SECOND FORM's CARD OF 'scullionlaw05.StorePlays'. -/
def storePlaysUptoCard : Claim7 := { stood := { row := storePlaysUptoRow, standIns := [], harness := (true, "f01c343af28383b85908dccf9890ca5c82ad503815166e55d5bf6bee16664ba5"), looks := true }, kinds := [], alts := [], laidByText := true, laidKinds := [.data, .data, .data], laidTests := true, laidLooks := .later }
def StorePlaysUptoCardSaid : Prop := Claim7.holds Tryz.pinned (.plain (OpenSpec.upto storePlaysSpec)) storePlaysUptoCard

/-- THE SECOND FORM's CARD OF 'scullionlaw05.StoreApplies'. -/
def storeAppliesUptoCard : Claim7 := { stood := { row := storeAppliesUptoRow, standIns := [], harness := (true, "f01c343af28383b85908dccf9890ca5c82ad503815166e55d5bf6bee16664ba5"), looks := true }, kinds := [], alts := [], laidByText := true, laidKinds := [.data, .data, .data], laidTests := true, laidLooks := .later }
def StoreAppliesUptoCardSaid : Prop := Claim7.holds Tryz.pinned (.plain (OpenSpec.upto storeAppliesSpec)) storeAppliesUptoCard
end Rows
end Go.Proofs.YtjmblgahoejoiaaGreatDoor
