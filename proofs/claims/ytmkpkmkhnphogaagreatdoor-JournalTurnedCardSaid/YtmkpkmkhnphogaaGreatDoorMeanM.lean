/-
  What is asked of the program's device (Means).
-/
import Derived.Test.YtmkpkmkhnphogaaGreatDoorProg
import Derived.Test.YtmkpkmkhnphogaaGreatDoorGdk
namespace Go.Proofs.YtmkpkmkhnphogaaGreatDoor
open Go.RowKit Tx
namespace Dv

/-- The program's device: 'Dev w B p D' says that p is a device that holds D and lies in the blocks B. -/
structure Means (Dev : World → (Nat → Prop) → Value → Disk → Prop) : Prop where
  lt : ∀ {w B p D}, Dev w B p D → ∀ k, B k → k < w.heap.size
  keep : ∀ {w w' B p D}, Dev w B p D → (∀ k, B k → w'.heap[k]? = w.heap[k]?) → w.heap.size ≤ w'.heap.size → Dev w' B p D
  ptr : ∀ {w B p D}, Dev w B p D → ∃ a, p = .pointer (some a)
  ok : ∀ {w B p D}, Dev w B p D → D.Ok ∧ 0 < D.S.length
  newBad : ∀ (n : Int) (w : World), -9223372036854775808 ≤ n → n ≤ 9223372036854775807 → (n < 1 ∨ 4096 < n) → Calls Tryz.prog 23 #[.int .i64 n] w fun e w' => e = .returned (.tuple #[.pointer none, .int .i64 1]) ∧ Below w.heap.size w w'
  newOk : ∀ (n : Nat) (w : World), 1 ≤ n → n ≤ 4096 → Calls Tryz.prog 23 #[.int .i64 n] w fun e w' => ∃ B p, e = .returned (.tuple #[p, .int .i64 0]) ∧ Dev w' B p (fresh n) ∧ (∀ k, B k → w.heap.size ≤ k) ∧ Below w.heap.size w w'
  size : ∀ {w B p D}, Dev w B p D → Calls Tryz.prog 32 #[p] w fun e w' => e = .returned (.int .i64 D.S.length) ∧ Below w.heap.size w w'
  read : ∀ {w B p D}, Dev w B p D → ∀ k : Int, -9223372036854775808 ≤ k → k ≤ 9223372036854775807 → Calls Tryz.prog 28 #[p, .int .i64 k] w fun e w' => ∃ t : ByteArray, e = .returned (.tuple #[.string t, .int .i64 (D.read k).2]) ∧ Kept (t = bs (D.read k).1) ∧ Below w.heap.size w w'
  write : ∀ {w B p D}, Dev w B p D → ∀ (k : Int) (s : ByteArray), -9223372036854775808 ≤ k → k ≤ 9223372036854775807 → s.size ≤ 9223372036854775807 → Calls Tryz.prog 16 #[p, .int .i64 k, .string s] w fun e w' => ∃ B', e = .returned (.int .i64 (D.write k (toL s)).1) ∧ Dev w' B' p (D.write k (toL s)).2 ∧ Only B w w' ∧ ∀ i, B' i → B i ∨ w.heap.size ≤ i
  limit : ∀ {w B p D}, Dev w B p D → ∀ (n : Int) (m : Nat), -9223372036854775808 ≤ n → n ≤ 9223372036854775807 → m < 18446744073709551616 → Calls Tryz.prog 24 #[p, .int .i64 n, .int .u64 m] w fun e w' => ∃ B', e = .returned (.tuple #[]) ∧ Dev w' B' p (D.limit n m) ∧ Only B w w' ∧ ∀ i, B' i → B i ∨ w.heap.size ≤ i
  restart : ∀ {w B p D}, Dev w B p D → Calls Tryz.prog 25 #[p] w fun e w' => ∃ B', e = .returned (.tuple #[]) ∧ Dev w' B' p D.restart ∧ Only B w w' ∧ ∀ i, B' i → B i ∨ w.heap.size ≤ i
end Dv
end Go.Proofs.YtmkpkmkhnphogaaGreatDoor
