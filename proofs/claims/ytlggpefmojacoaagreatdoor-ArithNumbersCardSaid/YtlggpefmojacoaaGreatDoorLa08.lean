/-
  Parts of the proof, merged.
-/
import Derived.BigGuard
import Derived.Laws.Closers25
import Derived.Laws.Closers25b
import Derived.Laws.Strings3
import Derived.Lib.ConvBytes
import Derived.Lib.Walk
import Derived.Test.YtlggpefmojacoaaGreatDoorLa06
namespace Go.Proofs.YtlggpefmojacoaaGreatDoor
section
open Go.RowKit Tx
namespace Ar
set_option maxRecDepth 100000 in
theorem lower_any (c : Int) (w : World) : Calls Tryz.prog 130 #[.int .u8 c] w fun e w' => e = .returned (.int .u8 (bits .or .u8 c 32)) ∧ w = w' := by
 go_enter Tryz.func130, Tryz.ntmps130
 go_wp2
 go_ret
 exact ⟨rfl, rfl⟩
theorem lower_fin : ∀ n : Fin 256, ((97 ≤ bits .or .u8 (n.val : Int) 32 ∧ bits .or .u8 (n.val : Int) 32 ≤ 122) → (¬ (n.val : Int) = 95) ∧ (if bits .or .u8 (n.val : Int) 32 ≤ 102 then ((digV (UInt8.ofNat n.val) : Nat) : Int) = bits .or .u8 (n.val : Int) 32 - 87 else digV (UInt8.ofNat n.val) = 99)) ∧ (¬ (97 ≤ bits .or .u8 (n.val : Int) 32 ∧ bits .or .u8 (n.val : Int) 32 ≤ 122) → ¬ (48 ≤ n.val ∧ n.val ≤ 57) → digV (UInt8.ofNat n.val) = 99) := by decide +kernel
theorem lower_of (c : UInt8) : ((97 ≤ bits .or .u8 (c.toNat : Int) 32 ∧ bits .or .u8 (c.toNat : Int) 32 ≤ 122) → (if bits .or .u8 (c.toNat : Int) 32 ≤ 102 then ((digV c : Nat) : Int) = bits .or .u8 (c.toNat : Int) 32 - 87 else digV c = 99)) ∧ (¬ (97 ≤ bits .or .u8 (c.toNat : Int) 32 ∧ bits .or .u8 (c.toNat : Int) 32 ≤ 122) → ¬ (48 ≤ c.toNat ∧ c.toNat ≤ 57) → digV c = 99) := by
 have h := lower_fin ⟨c.toNat, c.toNat_lt⟩
 have hc : UInt8.ofNat c.toNat = c := by simp
 rw [hc] at h
 exact ⟨fun e => (h.1 e).2, h.2⟩
theorem lower_95 (c : UInt8) (h : 97 ≤ bits .or .u8 (c.toNat : Int) 32 ∧ bits .or .u8 (c.toNat : Int) 32 ≤ 122) : ¬ (c.toNat : Int) = 95 := ((lower_fin ⟨c.toNat, c.toNat_lt⟩).1 h).1
theorem digit_of {c : UInt8} (h : 48 ≤ c.toNat ∧ c.toNat ≤ 57) : digV c = c.toNat - 48 := by
 unfold digV
 rw [if_pos ⟨UInt8.le_iff_toNat_le.2 h.1, UInt8.le_iff_toNat_le.2 h.2⟩]
theorem numF_no {b : Nat} {c : UInt8} {r : List UInt8} {n : Nat} (h : ¬ (digV c < b ∧ n * b + digV c ≤ 9223372036854775807)) : numF b (c :: r) n = none := by rw [numF, if_neg h]
theorem numF_yes {b : Nat} {c : UInt8} {r : List UInt8} {n : Nat} (h : digV c < b ∧ n * b + digV c ≤ 9223372036854775807) : numF b (c :: r) n = numF b r (n * b + digV c) := by rw [numF, if_pos h]
theorem bytes_below (w : World) (e : TypeId) (s : ByteArray) : Below w.heap.size w (Lib.bytesWorld w e s) := by
 have hb : Below w.heap.size w (w.drew.alloc (.cells (Lib.bytesCells w e s) e)) := (Below.refl _ _).drew.alloc (Nat.le_refl _) _
 exact ⟨hb.os, hb.tape, hb.output, by rw [Lib.bytesWorld_size]; omega, fun k hk => Lib.bytesWorld_at_old w e s k hk⟩
def NumE (o : Option Nat) (e : Ending) : Prop := match o with
 | some n => e = .returned (.tuple #[.int .u64 (n : Int), .nilIface])
 | none => ∃ m k : Int, e = .returned (.tuple #[.int .u64 m, .iface 143 (.int .i64 k)]) ∧ (k = 1 ∨ k = 2)
theorem NumE.err {o : Option Nat} (h : o = none) (m : Int) (k : Int) (hk : k = 1 ∨ k = 2) : NumE o (.returned (.tuple #[.int .u64 m, .iface 143 (.int .i64 k)])) := by subst h; exact ⟨m, k, rfl, hk⟩
end Ar
end
end Go.Proofs.YtlggpefmojacoaaGreatDoor
