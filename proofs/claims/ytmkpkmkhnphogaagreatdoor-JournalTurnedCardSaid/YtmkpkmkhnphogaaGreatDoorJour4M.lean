/-
  What is asked of a journal on a device (Jour4), whoever's it is.
-/
import Derived.Test.YtmkpkmkhnphogaaGreatDoorMeanM
import Derived.Test.YtmkpkmkhnphogaaGreatDoorGjm
import Derived.Test.YtmkpkmkhnphogaaGreatDoorGtup
namespace Go.Proofs.YtmkpkmkhnphogaaGreatDoor
open Go.RowKit Tx Dv
namespace Jr

/-- A journal on a device: 'Pr w U d p D J' says that d is a device that holds D, p a journal on it with J, and both lie in the blocks U. 'fO fR fA' are Open, Records, Append; K is what they ask of the world (tables that lie as laid). -/
structure Jour4 (K : World → Prop) (fO fR fA : FuncId) (Dev : World → (Nat → Prop) → Value → Disk → Prop) (Pr : World → (Nat → Prop) → Value → Value → Disk → Jn.Jour → Prop) : Prop where
  lt : ∀ {w U d p D J}, Pr w U d p D J → ∀ k, U k → k < w.heap.size
  keep : ∀ {w w' U d p D J}, Pr w U d p D J → (∀ k, U k → w'.heap[k]? = w.heap[k]?) → w.heap.size ≤ w'.heap.size → Pr w' U d p D J
  ptr : ∀ {w U d p D J}, Pr w U d p D J → ∃ a, p = .pointer (some a)
  dev : ∀ {w U d p D J}, Pr w U d p D J → ∃ B, (∀ k, B k → U k) ∧ Dev w B d D ∧ ∀ w' B' D', Dev w' B' d D' → D'.S.length = D.S.length → Only B w w' → (∀ i, B' i → B i ∨ w.heap.size ≤ i) → ∃ U', Pr w' U' d p D' J ∧ ∀ i, U' i → U i ∨ w.heap.size ≤ i
  few : ∀ {w U d p D J}, Pr w U d p D J → D.Ok ∧ 0 < D.S.length ∧ J.L.length ≤ J.pos ∧ J.pos ≤ D.S.length
  opens : ∀ {w B d D}, K w → Dev w B d D → Calls Tryz.prog fO #[d] w fun e w' => ∃ U p L a, e = .returned p ∧ Pr w' U d p D ⟨L, a⟩ ∧ Jn.Opened D L a ∧ (∀ i, U i → B i ∨ w.heap.size ≤ i) ∧ Below w.heap.size w w'
  records : ∀ {w U d p D J}, Pr w U d p D J → Calls Tryz.prog fR #[p] w fun e w' => ∃ v, e = .returned v ∧ Own.Es Value.string w' w.heap.size v (J.L.map bs) ∧ Below w.heap.size w w'
  append : ∀ {w U d p D J}, (∀ w', Only U w w' → K w') → Pr w U d p D J → ∀ s : ByteArray, s.size ≤ 9223372036854775807 → Calls Tryz.prog fA #[p, .string s] w fun e w' => e = .returned (.int .i64 (Jn.append D J (toL s)).1) ∧ ∃ U', Pr w' U' d p (Jn.append D J (toL s)).2.1 (Jn.append D J (toL s)).2.2 ∧ Only U w w' ∧ ∀ i, U' i → U i ∨ w.heap.size ≤ i
/-- Clear, likewise. -/
structure JourC (fC : FuncId) (Pr : World → (Nat → Prop) → Value → Value → Disk → Jn.Jour → Prop) : Prop where
  clear : ∀ {w U d p D J}, Pr w U d p D J → Calls Tryz.prog fC #[p] w fun e w' => e = .returned (.int .i64 (Jn.clear D J).1) ∧ ∃ U', Pr w' U' d p (Jn.clear D J).2.1 (Jn.clear D J).2.2 ∧ Only U w w' ∧ ∀ i, U' i → U i ∨ w.heap.size ≤ i
end Jr
end Go.Proofs.YtmkpkmkhnphogaaGreatDoor
