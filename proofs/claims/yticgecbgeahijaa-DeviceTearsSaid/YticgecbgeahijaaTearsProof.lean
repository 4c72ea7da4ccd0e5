/-
  PROVED: a write touches no other sector, a torn sector has of each byte the old one or the new one, and nothing changes behind that until a restart (the law DeviceTears answers true, and leaves its arguments as they were).
  Conditions: none.
-/
import Derived.Test.YticgecbgeahijaaDpost
import Derived.Test.YticgecbgeahijaaPnew
import Derived.LaidLaws
namespace Go.Proofs.Yticgecbgeahijaa
open Go.ChangeShapes Go.WideShapes Go.ChangeAt Go.RowKit
namespace Pd

theorem tears_own : ownKnob Try.prog.godebug = none := by kernel_rfl
noncomputable def tears_world (os : Os) : World := World.holding Try.prog os ⟨#[], #[], []⟩
theorem tears_met (os : Os) : laidMet Try.prog Rows.deviceTearsRow.laid ((tears_world os).forCall (fun _ _ => 0) ⟨#[], #[Value.string ⟨#[]⟩, Value.string ⟨#[]⟩, Value.string ⟨#[]⟩, Value.int .u64 0, Value.int .u8 0], []⟩).memory :=
  laidMet_of_run' 8 (by kernel_rfl) (by kernel_rfl)
theorem tears_reads (os : Os) {H : Type} (enc : TypeId × Value → H) : ∃ places, DataW.whole enc Try.prog ((tears_world os).forCall (fun _ _ => 0) ⟨#[], #[Value.string ⟨#[]⟩, Value.string ⟨#[]⟩, Value.string ⟨#[]⟩, Value.int .u64 0, Value.int .u8 0], []⟩).memory Try.f5.params.toList Rows.deviceTearsSpec.vars false #[Value.string ⟨#[]⟩, Value.string ⟨#[]⟩, Value.string ⟨#[]⟩, Value.int .u64 0, Value.int .u8 0].toList 8 = some ([.lit (.string []), .lit (.string []), .lit (.string []), .lit (.int .u64 0), .lit (.int .u8 0)], [], places) :=
  ⟨[], by kernel_rfl⟩

set_option maxRecDepth 100000 in
theorem tears_lifted (os : Os) (started : os.Started) (H : Type) (enc : TypeId × Value → H) (F : Stop.Interp) :
    ReturnsInHanded {} Try.checked os 5 .any ((OpenSpec.ofChange Rows.deviceTearsSpec).preRow enc Try.prog Try.f5 Rows.deviceTearsRow.domain false Rows.deviceTearsRow.laid)
      (((OpenSpec.ofChange Rows.deviceTearsSpec).at F).post enc Try.prog Try.f5 false true false false) := by
  obtain ⟨places, hx⟩ := tears_reads os enc
  refine returnsInHanded_of_row (C := Try.checked) (s := OpenSpec.ofChange Rows.deviceTearsSpec) tears_own started (by kernel_rfl) Try.func5
    (witness_row_at (enc := enc) (C := Try.checked) false (tears_world os) #[Value.string ⟨#[]⟩, Value.string ⟨#[]⟩, Value.string ⟨#[]⟩, Value.int .u64 0, Value.int .u8 0] rfl (by kernel_rfl) (by kernel_rfl) (by kernel_rfl)
      (OpenSpec.preRow_of_cond 8 hx (by kernel_rfl) (fun k hk => by cases hk) (by kernel_rfl) (tears_met os))) ?_
  intro W base args ds gs before hval hW _ _ hsz _ _ _
  exact Dv.tears_contract means H enc W base args ds gs before hval hW

theorem tears_said : Rows.DeviceTearsSaid :=
  OpenClaim.holds_of_cond 5 Try.f5 rfl rfl rfl rfl rfl rfl rfl ⟨rfl, rfl, rfl, rfl, rfl⟩ rfl rfl rfl rfl rfl (by kernel_rfl) Try.func5 (by kernel_rfl)
    (of_decide_eq_true (by kernel_rfl)) (by unfold Func.isWrapper; first | (rw [if_pos (by decide +kernel)]; kernel_rfl) | (rw [if_neg (by decide +kernel)]; exact ⟨rfl, rfl⟩))
    (fun os started H enc _ F => by rw [OpenClaim.pre_eq_preRow]; exact tears_lifted os started H enc F)
end Pd
end Go.Proofs.Yticgecbgeahijaa
