/-
  The program's store: At, where nothing is recorded.
-/
import Derived.Test.YtjmblgahoejoiaaGreatDoorPput
namespace Go.Proofs.YtjmblgahoejoiaaGreatDoor
open Go.RowKit Go.Maps Tx
namespace St

set_option maxRecDepth 100000 in
theorem at_none (g b n : Nat) (t : Tree) (s : ByteArray) (w : World) (h : PSto w g b n lvNone t) (hs : s.size ≤ maxLen) :
    Calls Tryz.prog 15 #[.pointer (some ⟨g, 0, none⟩), .string s] w fun e w' => e = .returned (entV (get t s)) ∧ Below w.heap.size w w' := by
  have H := Kept.mk (h.alloc (.cells #[.int .i64 0, .int .i64 0, .string ⟨#[]⟩] 37))
  have c0 := H.out.c0
  have c1 := H.out.c1
  have hl := H.out.look s hs
  unfold entV at hl
  clear h
  go_enter Tryz.func15, Tryz.ntmps15
  go_wp2
  refine bodyPost_ret (results_cell_row rfl _ _ w.heap.size _ _ (0, 0) _ rfl (heap_alloc_new w _) Tryz.underlying37 rfl (by kernel_rfl)) rfl ?_
  exact ⟨rfl, (Below.refl _ _).alloc (Nat.le_refl _) _⟩
end St
end Go.Proofs.YtjmblgahoejoiaaGreatDoor
