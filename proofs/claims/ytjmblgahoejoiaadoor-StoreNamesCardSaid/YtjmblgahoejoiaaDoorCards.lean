/-
  DERIVED. GIVEN WITH THE SEED: THE CARDS: each row of YtjmblgahoejoiaaDoorRows.lean that lists a variable, with what it lists TIED to the program's text (the seventh form; the later family's looks); each row that meets fmt, with fmt's text TOLD by the authors' own Lean function (tested against real Go, not proved from fmt's source: count such statements apart). THE CARD IS WHAT COUNTS. Prove the row's statement (the work); the ties are given (YtjmblgahoejoiaaDoorTie.lean); close each card by the builder's one call (the guide's Derived/Test/ToyasCard.lean, 'card_holds'). Laid BY PROGRAM, IN A SANDBOX (cutbox-door.mjs). By AI agents, Wed Nov 11 2026. No macro, syntax, notation, axiom, sorry.
-/
import Derived.Test.YtjmblgahoejoiaaDoorRows
import GoSem.ClaimSeven
namespace Go.Proofs.YtjmblgahoejoiaaDoor
namespace Rows

/-- THE TIED CARD OF 'scullionlaw05.StoreValues'. -/
def storeValuesCard : Claim7 := { stood := { row := storeValuesRow, standIns := [], harness := (true, "f8ea2da3b98b2ab195ed7a3450ec67b94321342e67305ac386b598b87995f2fe"), looks := false }, kinds := [], alts := [], laidByText := true, laidKinds := [.data, .data, .data], laidTests := true, laidLooks := .later }
def StoreValuesCardSaid : Prop := Claim7.holds Tryd.pinned (.plain (OpenSpec.ofChange storeValuesSpec)) storeValuesCard

/-- THE TIED CARD OF 'scullionlaw05.StoreBack'. -/
def storeBackCard : Claim7 := { stood := { row := storeBackRow, standIns := [], harness := (true, "f8ea2da3b98b2ab195ed7a3450ec67b94321342e67305ac386b598b87995f2fe"), looks := false }, kinds := [], alts := [], laidByText := true, laidKinds := [.data, .data, .data], laidTests := true, laidLooks := .later }
def StoreBackCardSaid : Prop := Claim7.holds Tryd.pinned (.plain (OpenSpec.ofChange storeBackSpec)) storeBackCard

/-- THE TIED CARD OF 'scullionlaw05.StorePuts'. -/
def storePutsCard : Claim7 := { stood := { row := storePutsRow, standIns := [], harness := (true, "f8ea2da3b98b2ab195ed7a3450ec67b94321342e67305ac386b598b87995f2fe"), looks := false }, kinds := [], alts := [], laidByText := true, laidKinds := [.data, .data, .data], laidTests := true, laidLooks := .later }
def StorePutsCardSaid : Prop := Claim7.holds Tryd.pinned (.plain (OpenSpec.ofChange storePutsSpec)) storePutsCard

/-- THE TIED CARD OF 'scullionlaw05.StoreNames'. -/
def storeNamesCard : Claim7 := { stood := { row := storeNamesRow, standIns := [], harness := (true, "f8ea2da3b98b2ab195ed7a3450ec67b94321342e67305ac386b598b87995f2fe"), looks := false }, kinds := [], alts := [], laidByText := true, laidKinds := [.data, .data, .data], laidTests := true, laidLooks := .later }
def StoreNamesCardSaid : Prop := Claim7.holds Tryd.pinned (.plain (OpenSpec.ofChange storeNamesSpec)) storeNamesCard

/-- THE SECOND FORM's CARD OF 'scullionlaw05.StoreValues'. -/
def storeValuesUptoCard : Claim7 := { stood := { row := storeValuesUptoRow, standIns := [], harness := (true, "f8ea2da3b98b2ab195ed7a3450ec67b94321342e67305ac386b598b87995f2fe"), looks := false }, kinds := [], alts := [], laidByText := true, laidKinds := [.data, .data, .data], laidTests := true, laidLooks := .later }
def StoreValuesUptoCardSaid : Prop := Claim7.holds Tryd.pinned (.plain (OpenSpec.upto storeValuesSpec)) storeValuesUptoCard

/-- THE SECOND FORM's CARD OF 'scullionlaw05.StoreBack'. -/
def storeBackUptoCard : Claim7 := { stood := { row := storeBackUptoRow, standIns := [], harness := (true, "f8ea2da3b98b2ab195ed7a3450ec67b94321342e67305ac386b598b87995f2fe"), looks := false }, kinds := [], alts := [], laidByText := true, laidKinds := [.data, .data, .data], laidTests := true, laidLooks := .later }
def StoreBackUptoCardSaid : Prop := Claim7.holds Tryd.pinned (.plain (OpenSpec.upto storeBackSpec)) storeBackUptoCard

/-- THE SECOND FORM's CARD OF 'scullionlaw05.StorePuts'. -/
def storePutsUptoCard : Claim7 := { stood := { row := storePutsUptoRow, standIns := [], harness := (true, "f8ea2da3b98b2ab195ed7a3450ec67b94321342e67305ac386b598b87995f2fe"), looks := false }, kinds := [], alts := [], laidByText := true, laidKinds := [.data, .data, .data], laidTests := true, laidLooks := .later }
def StorePutsUptoCardSaid : Prop := Claim7.holds Tryd.pinned (.plain (OpenSpec.upto storePutsSpec)) storePutsUptoCard

/-- THE SECOND FORM's CARD OF 'scullionlaw05.StoreNames'. -/
def storeNamesUptoCard : Claim7 := { stood := { row := storeNamesUptoRow, standIns := [], harness := (true, "f8ea2da3b98b2ab195ed7a3450ec67b94321342e67305ac386b598b87995f2fe"), looks := false }, kinds := [], alts := [], laidByText := true, laidKinds := [.data, .data, .data], laidTests := true, laidLooks := .later }
def StoreNamesUptoCardSaid : Prop := Claim7.holds Tryd.pinned (.plain (OpenSpec.upto storeNamesSpec)) storeNamesUptoCard
end Rows
end Go.Proofs.YtjmblgahoejoiaaDoor
