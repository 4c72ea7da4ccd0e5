/-
  The functions on single words: what each returns; each leaves the world as it is.
-/
import Derived.Test.YtojncfnlcmacgaaDoorChecked
import Derived.Test.YtojncfnlcmacgaaDoorSha
import Derived.WalkKit
import Derived.WalkLawsBesides
import Derived.Lib.Hide
namespace Go.Proofs.YtojncfnlcmacgaaDoor
open Go.RowKit
namespace Sha

theorem ret_eq {k : IntKind} {a b : Int} (h : a = b) : Ending.returned (.int k a) = .returned (.int k b) := by rw [h]

theorem rot_any (x m : UInt32) (n : Int) (w : World) (h : (m = 2 ∧ n = 2) ∨ (m = 6 ∧ n = 6) ∨ (m = 7 ∧ n = 7) ∨ (m = 11 ∧ n = 11) ∨ (m = 13 ∧ n = 13) ∨ (m = 17 ∧ n = 17) ∨ (m = 18 ∧ n = 18) ∨ (m = 19 ∧ n = 19) ∨ (m = 22 ∧ n = 22) ∨ (m = 25 ∧ n = 25)) :
    Calls Tryd.prog 28 #[.int .u32 x.toNat, .int .i64 (-n)] w fun e w' => e = .returned (.int .u32 (rotr x m).toNat) ∧ w = w' := by
  rcases h with ⟨rfl, rfl⟩ | ⟨rfl, rfl⟩ | ⟨rfl, rfl⟩ | ⟨rfl, rfl⟩ | ⟨rfl, rfl⟩ | ⟨rfl, rfl⟩ | ⟨rfl, rfl⟩ | ⟨rfl, rfl⟩ | ⟨rfl, rfl⟩ | ⟨rfl, rfl⟩
  · have e : bits BinOp.and IntKind.u64 (IntKind.u64.wrap (-2)) 31 = 30 := by decide +kernel
    go_enter Tryd.func28, Tryd.ntmps28
    go_wp2
    go_ret
    exact ⟨ret_eq (b_rot x 2 1073741824 4 (by decide) (by decide)), rfl⟩
  · have e : bits BinOp.and IntKind.u64 (IntKind.u64.wrap (-6)) 31 = 26 := by decide +kernel
    go_enter Tryd.func28, Tryd.ntmps28
    go_wp2
    go_ret
    exact ⟨ret_eq (b_rot x 6 67108864 64 (by decide) (by decide)), rfl⟩
  · have e : bits BinOp.and IntKind.u64 (IntKind.u64.wrap (-7)) 31 = 25 := by decide +kernel
    go_enter Tryd.func28, Tryd.ntmps28
    go_wp2
    go_ret
    exact ⟨ret_eq (b_rot x 7 33554432 128 (by decide) (by decide)), rfl⟩
  · have e : bits BinOp.and IntKind.u64 (IntKind.u64.wrap (-11)) 31 = 21 := by decide +kernel
    go_enter Tryd.func28, Tryd.ntmps28
    go_wp2
    go_ret
    exact ⟨ret_eq (b_rot x 11 2097152 2048 (by decide) (by decide)), rfl⟩
  · have e : bits BinOp.and IntKind.u64 (IntKind.u64.wrap (-13)) 31 = 19 := by decide +kernel
    go_enter Tryd.func28, Tryd.ntmps28
    go_wp2
    go_ret
    exact ⟨ret_eq (b_rot x 13 524288 8192 (by decide) (by decide)), rfl⟩
  · have e : bits BinOp.and IntKind.u64 (IntKind.u64.wrap (-17)) 31 = 15 := by decide +kernel
    go_enter Tryd.func28, Tryd.ntmps28
    go_wp2
    go_ret
    exact ⟨ret_eq (b_rot x 17 32768 131072 (by decide) (by decide)), rfl⟩
  · have e : bits BinOp.and IntKind.u64 (IntKind.u64.wrap (-18)) 31 = 14 := by decide +kernel
    go_enter Tryd.func28, Tryd.ntmps28
    go_wp2
    go_ret
    exact ⟨ret_eq (b_rot x 18 16384 262144 (by decide) (by decide)), rfl⟩
  · have e : bits BinOp.and IntKind.u64 (IntKind.u64.wrap (-19)) 31 = 13 := by decide +kernel
    go_enter Tryd.func28, Tryd.ntmps28
    go_wp2
    go_ret
    exact ⟨ret_eq (b_rot x 19 8192 524288 (by decide) (by decide)), rfl⟩
  · have e : bits BinOp.and IntKind.u64 (IntKind.u64.wrap (-22)) 31 = 10 := by decide +kernel
    go_enter Tryd.func28, Tryd.ntmps28
    go_wp2
    go_ret
    exact ⟨ret_eq (b_rot x 22 1024 4194304 (by decide) (by decide)), rfl⟩
  · have e : bits BinOp.and IntKind.u64 (IntKind.u64.wrap (-25)) 31 = 7 := by decide +kernel
    go_enter Tryd.func28, Tryd.ntmps28
    go_wp2
    go_ret
    exact ⟨ret_eq (b_rot x 25 128 33554432 (by decide) (by decide)), rfl⟩

def Turns (n : Int) : Prop := n = 2 ∨ n = 6 ∨ n = 7 ∨ n = 11 ∨ n = 13 ∨ n = 17 ∨ n = 18 ∨ n = 19 ∨ n = 22 ∨ n = 25
theorem right_any (x : UInt32) (n : Int) (w : World) (h : Turns n) :
    Calls Tryd.prog 27 #[.int .u32 x.toNat, .int .i64 n] w fun e w' => e = .returned (.int .u32 (rotr x (UInt32.ofNat n.toNat)).toNat) ∧ w = w' := by
  have hr : (UInt32.ofNat n.toNat = 2 ∧ n = 2) ∨ (UInt32.ofNat n.toNat = 6 ∧ n = 6) ∨ (UInt32.ofNat n.toNat = 7 ∧ n = 7) ∨ (UInt32.ofNat n.toNat = 11 ∧ n = 11) ∨ (UInt32.ofNat n.toNat = 13 ∧ n = 13) ∨ (UInt32.ofNat n.toNat = 17 ∧ n = 17) ∨ (UInt32.ofNat n.toNat = 18 ∧ n = 18) ∨ (UInt32.ofNat n.toNat = 19 ∧ n = 19) ∨ (UInt32.ofNat n.toNat = 22 ∧ n = 22) ∨ (UInt32.ofNat n.toNat = 25 ∧ n = 25) := by
    rcases h with rfl | rfl | rfl | rfl | rfl | rfl | rfl | rfl | rfl | rfl <;> decide
  have H := Lib.hid hr
  have hb : 0 ≤ n ∧ n ≤ 25 := by rcases h with rfl | rfl | rfl | rfl | rfl | rfl | rfl | rfl | rfl | rfl <;> decide
  obtain ⟨hb0, hb1⟩ := hb
  clear h hr
  go_enter Tryd.func27, Tryd.ntmps27
  go_wp2_with (go_at_call 28; refine (rot_any x _ n _ H.out).mono ?_; rintro e w' ⟨rfl, rfl⟩)
  go_ret
  exact ⟨rfl, rfl⟩

theorem mixA_any (x : UInt32) (w : World) :
    Calls Tryd.prog 22 #[.int .u32 x.toNat] w fun e w' => e = .returned (.int .u32 (mixA x).toNat) ∧ w = w' := by
  go_enter Tryd.func22, Tryd.ntmps22
  go_wp2_with (go_at_call 27; refine (right_any x _ _ (by unfold Turns; simp)).mono ?_; rintro e w' ⟨rfl, rfl⟩)
  go_ret
  exact ⟨ret_eq (by rw [b_xor, b_xor]; rfl), rfl⟩

theorem mixE_any (x : UInt32) (w : World) :
    Calls Tryd.prog 20 #[.int .u32 x.toNat] w fun e w' => e = .returned (.int .u32 (mixE x).toNat) ∧ w = w' := by
  go_enter Tryd.func20, Tryd.ntmps20
  go_wp2_with (go_at_call 27; refine (right_any x _ _ (by unfold Turns; simp)).mono ?_; rintro e w' ⟨rfl, rfl⟩)
  go_ret
  exact ⟨ret_eq (by rw [b_xor, b_xor]; rfl), rfl⟩

theorem near_any (x : UInt32) (w : World) :
    Calls Tryd.prog 25 #[.int .u32 x.toNat] w fun e w' => e = .returned (.int .u32 (near x).toNat) ∧ w = w' := by
  go_enter Tryd.func25, Tryd.ntmps25
  go_wp2_with (go_at_call 27; refine (right_any x _ _ (by unfold Turns; simp)).mono ?_; rintro e w' ⟨rfl, rfl⟩)
  go_ret
  exact ⟨ret_eq ((congrArg _ (b_shr x 3 8 (by decide))).trans (by rw [b_xor, b_xor]; rfl)), rfl⟩

theorem far_any (x : UInt32) (w : World) :
    Calls Tryd.prog 26 #[.int .u32 x.toNat] w fun e w' => e = .returned (.int .u32 (far x).toNat) ∧ w = w' := by
  go_enter Tryd.func26, Tryd.ntmps26
  go_wp2_with (go_at_call 27; refine (right_any x _ _ (by unfold Turns; simp)).mono ?_; rintro e w' ⟨rfl, rfl⟩)
  go_ret
  exact ⟨ret_eq ((congrArg _ (b_shr x 10 1024 (by decide))).trans (by rw [b_xor, b_xor]; rfl)), rfl⟩

theorem b_not (x : UInt32) : bits .xor .u32 IntKind.u32.max (x.toNat : Int) = ((~~~x).toNat : Int) := by
  have h : IntKind.u32.max = ((4294967295 : UInt32).toNat : Int) := by decide +kernel
  rw [h, b_xor]
  rw [show (4294967295 : UInt32) ^^^ x = ~~~x from ?_]
  apply UInt32.toBitVec_inj.mp
  simp only [UInt32.toBitVec_xor, UInt32.toBitVec_not]
  exact BitVec.allOnes_xor
theorem ch_any (x y z : UInt32) (w : World) :
    Calls Tryd.prog 21 #[.int .u32 x.toNat, .int .u32 y.toNat, .int .u32 z.toNat] w fun e w' => e = .returned (.int .u32 (ch x y z).toNat) ∧ w = w' := by
  go_enter Tryd.func21, Tryd.ntmps21
  go_wp2
  go_ret
  exact ⟨ret_eq (by rw [b_not, b_and, b_and, b_xor]; rfl), rfl⟩

theorem maj_any (x y z : UInt32) (w : World) :
    Calls Tryd.prog 23 #[.int .u32 x.toNat, .int .u32 y.toNat, .int .u32 z.toNat] w fun e w' => e = .returned (.int .u32 (maj x y z).toNat) ∧ w = w' := by
  go_enter Tryd.func23, Tryd.ntmps23
  go_wp2
  go_ret
  exact ⟨ret_eq (by rw [b_and, b_and, b_and, b_xor, b_xor]; rfl), rfl⟩

end Sha
end Go.Proofs.YtojncfnlcmacgaaDoor
