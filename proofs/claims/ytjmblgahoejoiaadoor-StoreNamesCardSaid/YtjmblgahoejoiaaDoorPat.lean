/-
  The program's store: At, where nothing is recorded.
-/
import Derived.Test.YtjmblgahoejoiaaDoorPput
namespace Go.Proofs.YtjmblgahoejoiaaDoor
open Go.RowKit Go.Maps Tx
namespace St

set_option maxRecDepth 100000 in
theorem at_none (g b n : Nat) (t : Tree) (s : ByteArray) (w : World) (h : PSto w g b n lvNone t) (hs : s.size ≤ maxLen) :
    Calls Tryd.prog 16 #[.pointer (some ⟨g, 0, none⟩), .string s] w fun e w' => e = .returned (entV (get t s)) ∧ Below w.heap.size w w' := by
  have H := Kept.mk (h.alloc (.cells #[.int .i64 0, .int .i64 0, .string ⟨#[]⟩] 23))
  have c0 := H.out.c0
  have c1 := H.out.c1
  have hl := H.out.look s hs
  unfold entV at hl
  clear h
  go_enter Tryd.func16, Tryd.ntmps16
  go_wp2
  refine bodyPost_ret (results_cell_row rfl _ _ w.heap.size _ _ (0, 0) _ rfl (heap_alloc_new w _) Tryd.underlying23 rfl (by kernel_rfl)) rfl ?_
  exact ⟨rfl, (Below.refl _ _).alloc (Nat.le_refl _) _⟩
end St
end Go.Proofs.YtjmblgahoejoiaaDoor
