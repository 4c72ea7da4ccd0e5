/-
  Parts of the proof, merged.
-/
import Derived.Test.YtlggpefmojacoaaGreatDoorLa15
import Derived.Test.YtlggpefmojacoaaGreatDoorLa27
namespace Go.Proofs.YtlggpefmojacoaaGreatDoor
section
open Go.RowKit Tx
namespace Va
def outL : Except Int (List Vr) → List Vr
 | .ok l => l
 | .error _ => []
def outE : Except Int (List Vr) → Int
 | .ok _ => 0
 | .error e => e
def SEnd (w : World) (r : Except Int (List Vr)) (e : Ending) (w' : World) : Prop :=
 ∃ A n k, e = .returned (.tuple #[.slice A n k, .int .i64 (outE r)]) ∧ n = (outL r).length ∧ Kept (VS w' A k (outL r)) ∧ Below w.heap.size w w'
theorem put_cut (l : List Vr) (n : ByteArray) (m : List Vr) : put l n m = l.take (pos l n) ++ m ++ l.drop (pos l n + if found l n then 1 else 0) := rfl
structure Cut (l : List Vr) (ln p q : Nat) (n : ByteArray) (b : Bool) : Prop where
 len : l.length = ln
 pos : pos l n = p
 fnd : found l n = b
 qq : q = p + if b then 1 else 0
 le : q ≤ ln
theorem Cut.of (l : List Vr) (n : ByteArray) : Cut l l.length (Va.pos l n) (Va.pos l n + if found l n then 1 else 0) n (found l n) :=
 ⟨rfl, rfl, rfl, rfl, by
   have := pos_le l n
   cases h : found l n with
   | true => have := found_lt h; simp; omega
   | false => simpa using this⟩
end Va
end
end Go.Proofs.YtlggpefmojacoaaGreatDoor
