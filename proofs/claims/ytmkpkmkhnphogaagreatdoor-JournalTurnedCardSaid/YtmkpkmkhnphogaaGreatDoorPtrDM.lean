/-
  The program's pointers against nil.
-/
import Derived.Test.YtmkpkmkhnphogaaGreatDoorProg
import Derived.WalkKit
import Derived.Laws.Pointers
import Derived.Laws.Strings3
import Derived.Laws.Slices
namespace Go.Proofs.YtmkpkmkhnphogaaGreatDoor
open Go.RowKit
namespace Dv
theorem eqD (a : Addr) (W : World) : (binOp .eql 33 (.pointer (some a)) (.pointer none)).run Tryz.prog W = .ok (.bool false) W := by
  have h : Tryz.prog.underlying 33 = some (.pointer (Tryz.prog.pointee 33)) := by kernel_rfl
  rw [run_eql_pointer_nil W _ _ h]
  rfl
theorem neqD (a : Addr) (W : World) : (binOp .neq 33 (.pointer (some a)) (.pointer none)).run Tryz.prog W = .ok (.bool true) W := by
  have h : Tryz.prog.underlying 33 = some (.pointer (Tryz.prog.pointee 33)) := by kernel_rfl
  rw [run_neq_pointer_nil W _ _ h]
  rfl
theorem eqJ (a : Addr) (W : World) : (binOp .eql 34 (.pointer (some a)) (.pointer none)).run Tryz.prog W = .ok (.bool false) W := by
  have h : Tryz.prog.underlying 34 = some (.pointer (Tryz.prog.pointee 34)) := by kernel_rfl
  rw [run_eql_pointer_nil W _ _ h]
  rfl
theorem neqJ (a : Addr) (W : World) : (binOp .neq 34 (.pointer (some a)) (.pointer none)).run Tryz.prog W = .ok (.bool true) W := by
  have h : Tryz.prog.underlying 34 = some (.pointer (Tryz.prog.pointee 34)) := by kernel_rfl
  rw [run_neq_pointer_nil W _ _ h]
  rfl
end Dv
end Go.Proofs.YtmkpkmkhnphogaaGreatDoor
