/-
  Decode: the list of a text.
-/
import Derived.Test.YtjmblgahoejoiaaGreatDoorNum
namespace Go.Proofs.YtjmblgahoejoiaaGreatDoor
open Go.RowKit Net
namespace Tup

theorem strTy : Own.Ty Tryz.prog 43 9 (.string ⟨#[]⟩) 16 := ⟨Tryz.underlying43, by kernel_rfl, rfl⟩
theorem str_one (s : ByteArray) : (Value.string s).oneCell' = true := rfl

/-- What Decode answers. -/
def DecIs (s : ByteArray) (w : World) (w' : World) (v : Value) (k : Int) : Prop :=
  (dec (toL s) = none ∧ v = .slice none 0 0 ∧ k = 20) ∨ ∃ l : List ByteArray, dec (toL s) = some (l.map toL) ∧ Own.Es Value.string w' w.heap.size v l ∧ k = 0

structure DecIn (w wr : World) (s r : ByteArray) (v : Value) (l : List ByteArray) : Prop where
  below : Below w.heap.size w wr
  es : Own.Es Value.string wr w.heap.size v l
  left : Net.Left (toL s) (l.map toL) (toL r)

theorem DecIn.on {w wr w2 : World} {s r : ByteArray} {v : Value} {l : List ByteArray} (h : DecIn w wr s r v l) (hb : Below wr.heap.size wr w2) : DecIn w w2 s r v l :=
  ⟨h.below.trans (hb.mono h.below.size), h.es.below hb, h.left⟩
theorem DecIn.push {w wr w2 : World} {s t x r : ByteArray} {v v2 : Value} {l : List ByteArray} (h : DecIn w wr s t v l) (ht : toL t ≠ []) (hc : cut (toL t) = some (toL x, toL r)) (he : Own.Es Value.string w2 w.heap.size v2 (l ++ [x])) (hg : wr.grownBy w2 v.ownBlock) : DecIn w w2 s r v2 (l ++ [x]) :=
  ⟨h.below.grown hg h.below.size (fun k hk => (h.es.lt k hk).1), he, by rw [List.map_append]; exact h.left.go ht hc⟩
theorem empty_iff (s : ByteArray) : s.toList.isEmpty = decide (toL s = []) := by
  rw [ByteArray.toList_eq]
  unfold toL
  cases s.data.toList <;> rfl
theorem DecIn.few {w wr : World} {s r : ByteArray} {v : Value} {l : List ByteArray} (h : DecIn w wr s r v l) : r.size ≤ s.size ∧ 3 * l.length ≤ s.size := by
  have := h.left.2
  rw [toL_length, toL_length, List.length_map] at this
  omega
end Tup
end Go.Proofs.YtjmblgahoejoiaaGreatDoor
