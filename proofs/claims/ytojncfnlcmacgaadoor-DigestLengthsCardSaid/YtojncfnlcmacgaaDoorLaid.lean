/-
  The table of constants, as the rows list it, and a world in which it lies.
-/
import Derived.Test.YtojncfnlcmacgaaDoorCards
import Derived.Test.YtojncfnlcmacgaaDoorTie
import Derived.Test.YtojncfnlcmacgaaDoorComp
import Derived.Test.YtojncfnlcmacgaaDoorLawPost
import Derived.OpenShut
import Derived.ChangeMaps5
import Derived.Deep.DeepHandedRow
import Derived.Lib.LaidTab
namespace Go.Proofs.YtojncfnlcmacgaaDoor
open Go.ChangeShapes Go.WideShapes Go.ChangeAt Go.RowKit
namespace Sha

theorem own : ownKnob Tryd.prog.godebug = none := by kernel_rfl
theorem laidOut : laidOutB Tryd.prog = true := by kernel_rfl
theorem gTab : Tryd.prog.globalNamed "scullion/digest.roundConstants" = some 0 := by kernel_rfl
theorem gTabType : (Tryd.prog.globals[0]?).map (·.type) = some 39 := by kernel_rfl
theorem cells39 : Tryd.prog.cellsOf 39 = 64 := by kernel_rfl
theorem cells27 : Tryd.prog.cellsOf 27 = 1 := by kernel_rfl

def laid : List (String × DataW Unit) := [("scullion/digest.roundConstants", Rows.laid_scullion_digest_roundConstants)]
/-- What the rows' list gives: the table's cells hold its numbers. -/
theorem table {W : World} (h : laidMetH Tryd.prog laid W) : Lib.TabIs Tryd.prog W "scullion/digest.roundConstants" .u32 (ks.map fun x => (x.toNat : Int)) :=
  Lib.tabIs_of_head (rest := []) gTab gTabType Tryd.underlying39 Tryd.underlying27 cells27 cells39 h
theorem tab_of {W : World} (h : laidMetH Tryd.prog laid W) : Tab W := by
  have ht := table h
  have hc : ∀ i, i < 64 → W.cell? ⟨0, i, none⟩ = some (.int .u32 (ks.getD i 0).toNat) := by
    intro i hi
    rw [ht.cell gTab i (by simpa [ks] using hi)]
    have : i < ks.length := hi
    simp [this]
  exact ⟨World.block_lt_of_cell? W _ (hc 0 (by omega)), hc⟩

/-- A world for the witness: the settled one, the table holding what its initialiser lays. -/
noncomputable def laidWorld (os : Os) : World :=
  { World.holding Tryd.prog os ⟨#[], #[], []⟩ with heap := (World.holding Tryd.prog os ⟨#[], #[], []⟩).heap.modify 0 fun
      | .cells _ t frozen => .cells (cellsOf ks) t frozen
      | o => o }
end Sha
end Go.Proofs.YtojncfnlcmacgaaDoor
