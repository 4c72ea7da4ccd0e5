/-
  The document's side: a word turned; the first state; the constants.
-/
import Derived.Test.YtojncfnlcmacgaaDoorScal
import Derived.Test.YtojncfnlcmacgaaDoorMem
import Derived.Test.YtojncfnlcmacgaaDoorOwn
import Derived.Deep.QuietTactic
import Derived.BigQuiet
import Derived.IntWalk
namespace Go.Proofs.YtojncfnlcmacgaaDoor
open Go.RowKit
namespace Sha

theorem b_rot2 (x n : UInt32) (p q : Nat) (hp : p = 2 ^ ((32 - n).toNat % 32)) (hq : q = 2 ^ (n.toNat % 32)) :
    bits .or .u32 ((x.toNat : Int) / (q : Int)) ((x.toNat : Int) * (p : Int) % 4294967296) = ((rotr x n).toNat : Int) := by
  rw [b_shl x (32 - n) p hp, b_shr x n q hq, b_or]
  unfold rotr
  rw [UInt32.or_comm]

theorem turn_one (x m : UInt32) (n : Int) (w : World) (h : (m = 2 ∧ n = 2) ∨ (m = 6 ∧ n = 6) ∨ (m = 7 ∧ n = 7) ∨ (m = 11 ∧ n = 11) ∨ (m = 13 ∧ n = 13) ∨ (m = 17 ∧ n = 17) ∨ (m = 18 ∧ n = 18) ∨ (m = 19 ∧ n = 19) ∨ (m = 22 ∧ n = 22) ∨ (m = 25 ∧ n = 25)) :
    Calls Tryd.prog 18 #[.int .u32 x.toNat, .int .i64 n] w fun e w' => e = .returned (.int .u32 (rotr x m).toNat) ∧ ∃ k, w' = w.drewN k := by
  rcases h with ⟨rfl, rfl⟩ | ⟨rfl, rfl⟩ | ⟨rfl, rfl⟩ | ⟨rfl, rfl⟩ | ⟨rfl, rfl⟩ | ⟨rfl, rfl⟩ | ⟨rfl, rfl⟩ | ⟨rfl, rfl⟩ | ⟨rfl, rfl⟩ | ⟨rfl, rfl⟩
  · go_enter Tryd.func18, Tryd.ntmps18
    go_wp2
    go_quiet (fail)
    go_wp2
    go_ret
    exact ⟨ret_eq (b_rot2 x 2 1073741824 4 (by decide) (by decide)), _, rfl⟩
  · go_enter Tryd.func18, Tryd.ntmps18
    go_wp2
    go_quiet (fail)
    go_wp2
    go_ret
    exact ⟨ret_eq (b_rot2 x 6 67108864 64 (by decide) (by decide)), _, rfl⟩
  · go_enter Tryd.func18, Tryd.ntmps18
    go_wp2
    go_quiet (fail)
    go_wp2
    go_ret
    exact ⟨ret_eq (b_rot2 x 7 33554432 128 (by decide) (by decide)), _, rfl⟩
  · go_enter Tryd.func18, Tryd.ntmps18
    go_wp2
    go_quiet (fail)
    go_wp2
    go_ret
    exact ⟨ret_eq (b_rot2 x 11 2097152 2048 (by decide) (by decide)), _, rfl⟩
  · go_enter Tryd.func18, Tryd.ntmps18
    go_wp2
    go_quiet (fail)
    go_wp2
    go_ret
    exact ⟨ret_eq (b_rot2 x 13 524288 8192 (by decide) (by decide)), _, rfl⟩
  · go_enter Tryd.func18, Tryd.ntmps18
    go_wp2
    go_quiet (fail)
    go_wp2
    go_ret
    exact ⟨ret_eq (b_rot2 x 17 32768 131072 (by decide) (by decide)), _, rfl⟩
  · go_enter Tryd.func18, Tryd.ntmps18
    go_wp2
    go_quiet (fail)
    go_wp2
    go_ret
    exact ⟨ret_eq (b_rot2 x 18 16384 262144 (by decide) (by decide)), _, rfl⟩
  · go_enter Tryd.func18, Tryd.ntmps18
    go_wp2
    go_quiet (fail)
    go_wp2
    go_ret
    exact ⟨ret_eq (b_rot2 x 19 8192 524288 (by decide) (by decide)), _, rfl⟩
  · go_enter Tryd.func18, Tryd.ntmps18
    go_wp2
    go_quiet (fail)
    go_wp2
    go_ret
    exact ⟨ret_eq (b_rot2 x 22 1024 4194304 (by decide) (by decide)), _, rfl⟩
  · go_enter Tryd.func18, Tryd.ntmps18
    go_wp2
    go_quiet (fail)
    go_wp2
    go_ret
    exact ⟨ret_eq (b_rot2 x 25 128 33554432 (by decide) (by decide)), _, rfl⟩

theorem turn_any (x : UInt32) (n : Int) (w : World) (h : Turns n) :
    Calls Tryd.prog 18 #[.int .u32 x.toNat, .int .i64 n] w fun e w' => e = .returned (.int .u32 (rotr x (UInt32.ofNat n.toNat)).toNat) ∧ ∃ k, w' = w.drewN k :=
  turn_one x _ n w (by rcases h with rfl | rfl | rfl | rfl | rfl | rfl | rfl | rfl | rfl | rfl <;> decide)

theorem val_one : ∀ x, (val x).oneCell' = true := fun _ => rfl
theorem wordTy : Own.Ty Tryd.prog 32 27 (.int .u32 0) 4 := ⟨Tryd.underlying32, by kernel_rfl, rfl⟩

theorem initial_any (w : World) :
    Calls Tryd.prog 12 #[] w fun e w' => ∃ g, e = .returned (.slice (some ⟨g, 0, none⟩) 8 8) ∧ w.heap.size ≤ g ∧ Own.At val w' g 0 init.list ∧ Below w.heap.size w w' := by
  go_enter Tryd.func12, Tryd.ntmps12
  go_wp2
  go_ret
  exact ⟨w.heap.size, rfl, Nat.le_refl _, Own.At.fresh w _ _ _ (by kernel_rfl), (Below.refl _ _).alloc (Nat.le_refl _) _⟩

set_option maxRecDepth 100000 in
theorem rounds_any (w : World) :
    Calls Tryd.prog 17 #[] w fun e w' => ∃ g, e = .returned (.slice (some ⟨g, 0, none⟩) 64 64) ∧ w.heap.size ≤ g ∧ Own.At val w' g 0 ks ∧ Below w.heap.size w w' := by
  go_enter Tryd.func17, Tryd.ntmps17
  go_wp2
  go_ret
  exact ⟨w.heap.size, rfl, Nat.le_refl _, Own.At.fresh w _ _ _ (by kernel_rfl), (Below.refl _ _).alloc (Nat.le_refl _) _⟩
end Sha
end Go.Proofs.YtojncfnlcmacgaaDoor
