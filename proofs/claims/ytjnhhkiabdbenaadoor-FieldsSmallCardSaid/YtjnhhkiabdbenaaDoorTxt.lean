/-
  Texts as lists of bytes; facts that are hidden from the walk; what a call may have written. Nothing of the program stands here.
-/
import Derived.Test.YtjnhhkiabdbenaaDoorOwn
import Derived.Deep.Draws
import Derived.Deep.DrawnRows
import Derived.LoopTactic
import Derived.Still
import Derived.Laws.Strings
import Derived.Laws.Concat
import Derived.Laws.Small
import Derived.Laws.Cover1
import Derived.IntWalk
namespace Go.Proofs.YtjnhhkiabdbenaaDoor
open Go.RowKit
namespace Tx

/-- A fact that no tactic looks into. -/
structure Kept (p : Prop) : Prop where
  out : p
theorem below_drewN {B : Nat} {a w : World} (h : Below B a w) (n : Nat) : Below B a (w.drewN n) := ⟨h.os, h.tape, h.output, h.size, h.block⟩

def toL (s : ByteArray) : List UInt8 := s.data.toList
def bs (l : List UInt8) : ByteArray := ⟨l.toArray⟩
theorem toL_bs (l : List UInt8) : toL (bs l) = l := by simp [toL, bs]
theorem bs_toL (s : ByteArray) : bs (toL s) = s := by cases s; simp [toL, bs]
theorem toL_length (s : ByteArray) : (toL s).length = s.size := by simp [toL]
theorem bs_size (l : List UInt8) : (bs l).size = l.length := by
  show (l.toArray).size = _
  simp
theorem toL_inj {a b : ByteArray} (h : toL a = toL b) : a = b := by rw [← bs_toL a, h, bs_toL]
theorem bs_inj {a b : List UInt8} (h : bs a = bs b) : a = b := by rw [← toL_bs a, h, toL_bs]
theorem bs_append (a b : List UInt8) : bs a ++ bs b = bs (a ++ b) := by
  apply toL_inj
  rw [toL_bs]
  unfold toL bs
  simp
theorem toL_extract (s : ByteArray) (a b : Nat) : toL (s.extract a b) = ((toL s).drop a).take (b - a) := by
  unfold toL
  rw [ByteArray.data_extract, Array.toList_extract]
theorem at_toL (s : ByteArray) (j : Nat) (h : j < s.size) : (toL s)[j]'(by rw [toL_length]; exact h) = s[j]'h := rfl
theorem beq_str (a b : ByteArray) : (a.toList == b.toList) = decide (a = b) := by
  rw [ByteArray.toList_eq, ByteArray.toList_eq]
  by_cases h : a = b
  · subst h; simp
  · rw [decide_eq_false h, beq_eq_false_iff_ne]
    intro e
    apply h
    cases a; cases b
    simpa using e

/-- Of what was there when the call began only blocks in B were written. -/
structure Only (B : Nat → Prop) (w w' : World) : Prop where
  os : w'.os = w.os
  tape : w'.tape = w.tape
  output : w'.output = w.output
  size : w.heap.size ≤ w'.heap.size
  block : ∀ k, k < w.heap.size → ¬ B k → w'.heap[k]? = w.heap[k]?
section
variable {B C : Nat → Prop} {w w' w2 : World}
theorem Only.refl (B : Nat → Prop) (w : World) : Only B w w := ⟨rfl, rfl, rfl, Nat.le_refl _, fun _ _ _ => rfl⟩
theorem Only.trans (h : Only B w w') (k : Only C w' w2) (hC : ∀ i, i < w.heap.size → C i → B i) : Only B w w2 :=
  ⟨k.os.trans h.os, k.tape.trans h.tape, k.output.trans h.output, Nat.le_trans h.size k.size, fun i hi hn => (k.block i (Nat.lt_of_lt_of_le hi h.size) (fun c => hn (hC i hi c))).trans (h.block i hi hn)⟩
theorem Only.mono (h : Only B w w') (hC : ∀ i, i < w.heap.size → B i → C i) : Only C w w' := ⟨h.os, h.tape, h.output, h.size, fun i hi hn => h.block i hi (fun c => hn (hC i hi c))⟩
theorem Only.drew (h : Only B w w') : Only B w w'.drew := ⟨h.os, h.tape, h.output, h.size, h.block⟩
theorem Only.drewN (h : Only B w w') (n : Nat) : Only B w (w'.drewN n) := ⟨h.os, h.tape, h.output, h.size, h.block⟩
theorem Only.alloc (h : Only B w w') (o : Obj) : Only B w (w'.alloc o) :=
  ⟨h.os, h.tape, h.output, by have := h.size; simp; omega, fun k hk hn => (heap_alloc_old w' o k (by have := h.size; omega)).trans (h.block k hk hn)⟩
theorem Only.setCell (h : Only B w w') (a : Addr) (v : Value) (ha : a.block < w.heap.size → B a.block) : Only B w (w'.setCell a v) :=
  ⟨h.os, h.tape, h.output, by have := h.size; simpa [World.setCell] using this, fun k hk hn => (Below.heap_setCell w' a v k (fun e => hn (by subst e; exact ha hk))).trans (h.block k hk hn)⟩
theorem Only.below (h : Only B w w') (hb : Below w'.heap.size w' w2) : Only B w w2 :=
  ⟨hb.os.trans h.os, hb.tape.trans h.tape, hb.output.trans h.output, Nat.le_trans h.size hb.size, fun k hk hn => (hb.block k (Nat.lt_of_lt_of_le hk h.size)).trans (h.block k hk hn)⟩
theorem Only.grown {row : Option Nat} (h : Only B w w') (hg : w'.grownBy w2 row) (hr : ∀ k, row = some k → k < w.heap.size → B k) : Only B w w2 :=
  ⟨hg.os.trans h.os, hg.tape.trans h.tape, hg.output.trans h.output, Nat.le_trans h.size hg.size, fun k hk hn => (hg.block k (Nat.lt_of_lt_of_le hk h.size) (fun e => hn (hr k e.symm hk))).trans (h.block k hk hn)⟩
theorem Only.toBelow {n : Nat} (h : Only B w w') (hB : ∀ k, k < n → ¬ B k) (hn : n ≤ w.heap.size) : Below n w w' :=
  ⟨h.os, h.tape, h.output, h.size, fun k hk => h.block k (by omega) (hB k hk)⟩
end
end Tx
end Go.Proofs.YtjnhhkiabdbenaaDoor
