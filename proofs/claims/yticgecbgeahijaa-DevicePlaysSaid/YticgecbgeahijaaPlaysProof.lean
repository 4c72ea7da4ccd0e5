/-
  PROVED: whatever is done with a device of any size, each answer, and all sectors, are what the document says (the law DevicePlays answers true, and leaves its arguments as they were).
  Conditions: none.
-/
import Derived.Test.YticgecbgeahijaaDpost
import Derived.Test.YticgecbgeahijaaPnew
import Derived.LaidLaws
namespace Go.Proofs.Yticgecbgeahijaa
open Go.ChangeShapes Go.WideShapes Go.ChangeAt Go.RowKit
namespace Pd

theorem plays_own : ownKnob Try.prog.godebug = none := by kernel_rfl
noncomputable def plays_world (os : Os) : World := World.holding Try.prog os ⟨#[], #[], []⟩
theorem plays_met (os : Os) : laidMet Try.prog Rows.devicePlaysRow.laid ((plays_world os).forCall (fun _ _ => 0) ⟨#[], #[Value.int .i64 0, Value.slice none 0 0], []⟩).memory :=
  laidMet_of_run' 8 (by kernel_rfl) (by kernel_rfl)
theorem plays_reads (os : Os) {H : Type} (enc : TypeId × Value → H) : ∃ places, DataW.whole enc Try.prog ((plays_world os).forCall (fun _ _ => 0) ⟨#[], #[Value.int .i64 0, Value.slice none 0 0], []⟩).memory Try.f3.params.toList Rows.devicePlaysSpec.vars false #[Value.int .i64 0, Value.slice none 0 0].toList 8 = some ([.lit (.int .i64 0), .nil], [], places) :=
  ⟨[], by kernel_rfl⟩

set_option maxRecDepth 100000 in
theorem plays_lifted (os : Os) (started : os.Started) (H : Type) (enc : TypeId × Value → H) (F : Stop.Interp) :
    ReturnsInHanded {} Try.checked os 3 .any ((OpenSpec.ofChange Rows.devicePlaysSpec).preRow enc Try.prog Try.f3 Rows.devicePlaysRow.domain false Rows.devicePlaysRow.laid)
      (((OpenSpec.ofChange Rows.devicePlaysSpec).at F).post enc Try.prog Try.f3 false true false false) := by
  obtain ⟨places, hx⟩ := plays_reads os enc
  refine returnsInHanded_of_row (C := Try.checked) (s := OpenSpec.ofChange Rows.devicePlaysSpec) plays_own started (by kernel_rfl) Try.func3
    (witness_row_at (enc := enc) (C := Try.checked) false (plays_world os) #[Value.int .i64 0, Value.slice none 0 0] rfl (by kernel_rfl) (by kernel_rfl) (by kernel_rfl)
      (OpenSpec.preRow_of_cond 8 hx (by kernel_rfl) (fun k hk => by cases hk) (by kernel_rfl) (plays_met os))) ?_
  intro W base args ds gs before hval hW _ _ hsz _ _ _
  exact Dv.plays_contract means H enc W base args ds gs before hval hW hsz

theorem plays_said : Rows.DevicePlaysSaid :=
  OpenClaim.holds_of_cond 3 Try.f3 rfl rfl rfl rfl rfl rfl rfl ⟨rfl, rfl, rfl, rfl, rfl⟩ rfl rfl rfl rfl rfl (by kernel_rfl) Try.func3 (by kernel_rfl)
    (of_decide_eq_true (by kernel_rfl)) (by unfold Func.isWrapper; first | (rw [if_pos (by decide +kernel)]; kernel_rfl) | (rw [if_neg (by decide +kernel)]; exact ⟨rfl, rfl⟩))
    (fun os started H enc _ F => by rw [OpenClaim.pre_eq_preRow]; exact plays_lifted os started H enc F)
end Pd
end Go.Proofs.Yticgecbgeahijaa
