/-
  All that the laws on both journals ask of the program's.
-/
import Derived.Test.YtmkpkmkhnphogaaGreatDoorJloreM
import Derived.Test.YtmkpkmkhnphogaaGreatDoorJdoesaM
namespace Go.Proofs.YtmkpkmkhnphogaaGreatDoor
open Go.RowKit Tx Dv
namespace Jl

theorem lore {W : World} (h : Pj.JK W) : Jr.Lore (K := Pj.JK) (Dev := Pd.Dev) (Pp := Pj.Pp Pd.Dev) W := ⟨Pd.means, jourM, Pj.jourC Pd.means, fun _ hb => h.below hb⟩
end Jl
end Go.Proofs.YtmkpkmkhnphogaaGreatDoor
