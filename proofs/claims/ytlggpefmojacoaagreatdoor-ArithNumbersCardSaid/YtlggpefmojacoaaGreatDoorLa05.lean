/-
  Parts of the proof, merged.
-/
import Derived.BigCall
import Derived.BigGuardPart
import Derived.BigQuiet
import Derived.BigRegion
import Derived.Deep.QuietTactic
import Derived.Laws.Concat
import Derived.Laws.Pointers
import Derived.Laws.Small
import Derived.Laws.Strings
import Derived.Laws.Unary
import Derived.Lib.IndexMore
import Derived.StillTail
import Derived.StillTailTactics
import Derived.Test.YtlggpefmojacoaaGreatDoorLa01
import Derived.Test.YtlggpefmojacoaaGreatDoorLa03
import Derived.Test.YtlggpefmojacoaaGreatDoorLa04
import Derived.Test.YtlggpefmojacoaaGreatDoorProg
import Derived.WalkKit
namespace Go.Proofs.YtlggpefmojacoaaGreatDoor
section
open Go.RowKit Tx
namespace Ar
theorem alpha_iff (c : UInt8) : alpha c = true ↔ ((c.toNat : Int) = 95 ∨ (65 ≤ (c.toNat : Int) ∧ (c.toNat : Int) ≤ 90)) ∨ (97 ≤ (c.toNat : Int) ∧ (c.toNat : Int) ≤ 122) := by
 have h : c = 95 ↔ (c.toNat : Int) = 95 := by rw [← UInt8.toNat_inj]; simp; omega
 simp only [alpha, Bool.or_eq_true, Bool.and_eq_true, beq_iff_eq, decide_eq_true_eq, h, UInt8.le_iff_toNat_le]
 simp
 omega
theorem dig_iff (c : UInt8) : dig c = true ↔ 48 ≤ (c.toNat : Int) ∧ (c.toNat : Int) ≤ 57 := by
 simp only [dig, Bool.and_eq_true, decide_eq_true_eq, UInt8.le_iff_toNat_le]
 simp
 omega
theorem bool_of {b : Bool} {p : Prop} (h : b = true ↔ p) (hn : ¬ p) : b = false := by cases b <;> simp_all
set_option maxRecDepth 100000 in
theorem begins_any (c : UInt8) (w : World) : Calls Tryz.prog 83 #[.int .u8 (c.toNat : Int)] w fun e w' => e = .returned (.bool (alpha c)) ∧ w = w' := by
 have HA := Kept.mk (alpha_iff c)
 by_cases h9 : (c.toNat : Int) ≤ 122
 all_goals go_enter Tryz.func83, Tryz.ntmps83
 all_goals go_wp2_with fail
 all_goals go_ret
 all_goals refine ⟨?_, rfl⟩
 all_goals first
   | (rw [show alpha c = true from HA.out.2 (by omega)]; rfl)
   | (rw [show alpha c = false from bool_of HA.out (by omega)]; rfl)
theorem tl (x : ByteArray) : x.toList = toL x := ByteArray.toList_eq x
set_option maxRecDepth 100000 in
theorem assigns_any (x : ByteArray) (w : World) : Calls Tryz.prog 62 #[.string x] w fun e w' => e = .returned (.bool (assigns (toL x))) ∧ w = w' := by
 go_enter Tryz.func62, Tryz.ntmps62
 go_wp2_with fail
 all_goals go_ret
 all_goals refine ⟨?_, rfl⟩
 all_goals simp_all [tl, assigns]
set_option maxRecDepth 100000 in
theorem prefix_any (x : ByteArray) (w : World) : Calls Tryz.prog 124 #[.string x] w fun e w' => e = .returned (.bool (isPre (toL x))) ∧ w = w' := by
 go_enter Tryz.func124, Tryz.ntmps124
 go_wp2_with fail
 all_goals go_ret
 all_goals refine ⟨?_, rfl⟩
 all_goals simp_all [tl, isPre]
set_option maxRecDepth 100000 in
theorem long_any (x : ByteArray) (w : World) : Calls Tryz.prog 95 #[.string x] w fun e w' => e = .returned (.bool (isLong (toL x))) ∧ w = w' := by
 go_enter Tryz.func95, Tryz.ntmps95
 go_wp2_with (go_at_call 62; refine (assigns_any _ _).mono ?_; rintro e w1 ⟨rfl, rfl⟩)
 all_goals go_ret
 all_goals refine ⟨?_, rfl⟩
 all_goals simp_all [tl, isLong, longs]
set_option maxHeartbeats 4000000 in
set_option maxRecDepth 100000 in
theorem levelOf_any (x : ByteArray) (w : World) : Calls Tryz.prog 107 #[.string x] w fun e w' => e = .returned (.int .i64 (levelOf (toL x) : Int)) ∧ w = w' := by
 go_enter Tryz.func107, Tryz.ntmps107
 go_wp2_with fail
 all_goals go_ret
 all_goals refine ⟨?_, rfl⟩
 all_goals simp_all [tl, levelOf]
end Ar
end
end Go.Proofs.YtlggpefmojacoaaGreatDoor
