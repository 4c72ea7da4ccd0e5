/-
  The program's device lies in cells; its journal, as the laws ask for it.
-/
import Derived.Test.YtmkpkmkhnphogaaGreatDoorJlaidM
import Derived.Test.YtmkpkmkhnphogaaGreatDoorPjmM
import Derived.Test.YtmkpkmkhnphogaaGreatDoorGdp
import Derived.Test.YtmkpkmkhnphogaaGreatDoorJlawM
namespace Go.Proofs.YtmkpkmkhnphogaaGreatDoor
open Go.RowKit Tx Dv
namespace Jl

theorem inCells : Pj.InCells Pd.Dev := by
  rintro w B p D ⟨g, r, lim, pw, rfl, hB, h, hp⟩ k hk
  rcases (hB k).1 hk with rfl | rfl
  · exact cells_of_cell h.c0
  · exact cells_of_cell (h.cells 0 0 hp (by decide))
theorem jourM : Jr.Jour4 Pj.JK 18 13 20 Pd.Dev (Pj.Pp Pd.Dev) := Pj.jour Pd.means inCells
end Jl
end Go.Proofs.YtmkpkmkhnphogaaGreatDoor
