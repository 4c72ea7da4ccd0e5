/-
  PROVED: whatever is done with a device of few sectors, each answer, and all sectors, are what the document says (the law DeviceSmall answers true, and leaves its arguments as they were).
  Conditions: none.
-/
import Derived.Test.YticgecbgeahijaaDpost
import Derived.Test.YticgecbgeahijaaPnew
import Derived.LaidLaws
namespace Go.Proofs.Yticgecbgeahijaa
open Go.ChangeShapes Go.WideShapes Go.ChangeAt Go.RowKit
namespace Pd

theorem small_own : ownKnob Try.prog.godebug = none := by kernel_rfl
noncomputable def small_world (os : Os) : World := World.holding Try.prog os ⟨#[], #[], []⟩
theorem small_met (os : Os) : laidMet Try.prog Rows.deviceSmallRow.laid ((small_world os).forCall (fun _ _ => 0) ⟨#[], #[Value.int .u8 0, Value.slice none 0 0], []⟩).memory :=
  laidMet_of_run' 8 (by kernel_rfl) (by kernel_rfl)
theorem small_reads (os : Os) {H : Type} (enc : TypeId × Value → H) : ∃ places, DataW.whole enc Try.prog ((small_world os).forCall (fun _ _ => 0) ⟨#[], #[Value.int .u8 0, Value.slice none 0 0], []⟩).memory Try.f4.params.toList Rows.deviceSmallSpec.vars false #[Value.int .u8 0, Value.slice none 0 0].toList 8 = some ([.lit (.int .u8 0), .nil], [], places) :=
  ⟨[], by kernel_rfl⟩

set_option maxRecDepth 100000 in
theorem small_lifted (os : Os) (started : os.Started) (H : Type) (enc : TypeId × Value → H) (F : Stop.Interp) :
    ReturnsInHanded {} Try.checked os 4 .any ((OpenSpec.ofChange Rows.deviceSmallSpec).preRow enc Try.prog Try.f4 Rows.deviceSmallRow.domain false Rows.deviceSmallRow.laid)
      (((OpenSpec.ofChange Rows.deviceSmallSpec).at F).post enc Try.prog Try.f4 false true false false) := by
  obtain ⟨places, hx⟩ := small_reads os enc
  refine returnsInHanded_of_row (C := Try.checked) (s := OpenSpec.ofChange Rows.deviceSmallSpec) small_own started (by kernel_rfl) Try.func4
    (witness_row_at (enc := enc) (C := Try.checked) false (small_world os) #[Value.int .u8 0, Value.slice none 0 0] rfl (by kernel_rfl) (by kernel_rfl) (by kernel_rfl)
      (OpenSpec.preRow_of_cond 8 hx (by kernel_rfl) (fun k hk => by cases hk) (by kernel_rfl) (small_met os))) ?_
  intro W base args ds gs before hval hW _ _ hsz _ _ _
  exact Dv.small_contract means H enc W base args ds gs before hval hW hsz

theorem small_said : Rows.DeviceSmallSaid :=
  OpenClaim.holds_of_cond 4 Try.f4 rfl rfl rfl rfl rfl rfl rfl ⟨rfl, rfl, rfl, rfl, rfl⟩ rfl rfl rfl rfl rfl (by kernel_rfl) Try.func4 (by kernel_rfl)
    (of_decide_eq_true (by kernel_rfl)) (by unfold Func.isWrapper; first | (rw [if_pos (by decide +kernel)]; kernel_rfl) | (rw [if_neg (by decide +kernel)]; exact ⟨rfl, rfl⟩))
    (fun os started H enc _ F => by rw [OpenClaim.pre_eq_preRow]; exact small_lifted os started H enc F)
end Pd
end Go.Proofs.Yticgecbgeahijaa
