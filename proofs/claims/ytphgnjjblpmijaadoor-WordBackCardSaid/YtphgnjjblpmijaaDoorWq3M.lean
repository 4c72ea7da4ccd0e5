/-
  strings.ReplaceAll of a quote, by the quote in words that a shell reads.
-/
import Derived.Test.YtphgnjjblpmijaaDoorWq2M
import Derived.Test.YtphgnjjblpmijaaDoorGx
import Derived.Test.YtphgnjjblpmijaaDoorShelfM
import Derived.Lib.MakeNoZero
import Derived.Lib.Builder
import Derived.LoopTactic
import Derived.Laws.DeepStrings4
namespace Go.Proofs.YtphgnjjblpmijaaDoor
open Go.RowKit Tx
namespace Bl
theorem At.of {B b : Nat} {p : Value} {w : World} (h : Lib.BuilderAt 48 5 B b p [] w) : ∃ v, At 48 [] B b p v [] w := by
  obtain ⟨_, v, hb, hown, _⟩ := h
  exact ⟨v, hb, World.ownsRowF_of hown, by decide⟩
theorem byteSize : (Tryd.prog.info? 5).map (·.size) = some 1 := by kernel_rfl
set_option maxHeartbeats 2000000 in
set_option maxRecDepth 100000 in
theorem grow_fresh (B b n : Nat) (w : World) (hB : B ≤ b) (hbk : w.heap[b]? = some (.cells #[.pointer (some ⟨b, 0, none⟩), .slice none 0 0] 48 (0, 0))) (hBw : B ≤ w.heap.size) (hn : n ≤ 281474976710656) :
    Calls Tryd.prog 68 #[.pointer (some ⟨b, 0, none⟩), .int .i64 n] w fun e w' => e = .returned (.tuple #[]) ∧ (∃ v, At 48 [] B b (.pointer (some ⟨b, 0, none⟩)) v [] w') ∧ Below B w w' := by
  obtain ⟨cs, hrun, hle, hmax⟩ := Lib.run_makeNoZero (P := Tryd.prog) w.drew #[3] 22 5 Tryd.underlying22 n hn
  have hw : IntKind.i64.wrap (IntKind.i64.wrap 0 + (n : Int)) = n := by
    rw [IntKind.wrap_i64, IntKind.wrap_i64]
    omega
  have hcall : (callFunc 86 #[.int .i64 (IntKind.i64.wrap (IntKind.i64.wrap 0 + (n : Int)))]).run Tryd.prog w.drew = .ok (.value (.slice (some ⟨w.drew.heap.size, 0, none⟩) n cs.size)) (w.drew.drew.drew.alloc (.cells cs 5)) := by
    rw [hw, run_callFunc_extern Tryd.func86 (by kernel_rfl) (by kernel_rfl) (by kernel_rfl) (e := Extern.BytealgMakeNoZero.makeNoZero #[3] #[22]) (by kernel_rfl), hrun]
    rfl
  have hlt : b < w.heap.size := (Array.getElem?_eq_some_iff.1 hbk).1
  have hbk2 : (w.alloc (.cells cs 5)).heap[b]? = some (.cells #[.pointer (some ⟨b, 0, none⟩), .slice none 0 0] 48 (0, 0)) := (Below.heap_alloc w _ b hlt).trans hbk
  have c1 : w.drew.cell? ⟨b, 1, none⟩ = some (.slice none 0 0) := cell_of_row _ _ 1 _ _ _ hbk
  have c2 : (w.alloc (.cells cs 5)).cell? ⟨b, 1, none⟩ = some (.slice none 0 0) := cell_of_row _ _ 1 _ _ _ hbk2
  have f2 : (w.alloc (.cells cs 5)).frozen? ⟨b, 1, none⟩ = false := frozen_of_row _ _ 1 _ _ hbk2
  have hcopy : ∀ W : World, (Builtin.copy_ #[22, 22] 3 #[.slice (some ⟨w.heap.size, 0, none⟩) 0 cs.size, .slice none 0 0]).run Tryd.prog W = .ok (goInt 0) W :=
    fun W => run_copy_none W 22 22 3 5 _ _ 0 cs.size 0 0 Tryd.underlying22 byteSize rfl
  have hfin := Lib.grown_fresh (T := 48) (e := 5) (cs := cs) hB hbk hBw (hmax (by unfold maxLen; omega)) (by decide)
  have HF : Kept ((∃ v, At 48 [] B b (.pointer (some ⟨b, 0, none⟩)) v [] ((w.alloc (.cells cs 5)).setCell ⟨b, 1, none⟩ (.slice (some ⟨w.heap.size, 0, none⟩) 0 cs.size)).drew.drew.drew) ∧ Below B w ((w.alloc (.cells cs 5)).setCell ⟨b, 1, none⟩ (.slice (some ⟨w.heap.size, 0, none⟩) 0 cs.size)).drew.drew.drew) := ⟨At.of hfin.1, hfin.2⟩
  clear hw hfin hmax hbk2
  go_enter Tryd.func68, Tryd.ntmps68
  go_wp2_with fail
  go_region
  all_goals (go_wp2_with fail; go_end0; refine ⟨rfl, ?_⟩; have h := HF.out; rw [World.setCell_alloc_past _ _ _ _ hlt] at h; exact h)
set_option maxHeartbeats 2000000 in
set_option maxRecDepth 100000 in
theorem Grow_fresh (B b n : Nat) (w : World) (hB : B ≤ b) (hbk : w.heap[b]? = some (.cells #[.pointer none, .slice none 0 0] 48 (0, 0))) (hBw : B ≤ w.heap.size) (hn : n ≤ 281474976710656) :
    Calls Tryd.prog 52 #[.pointer (some ⟨b, 0, none⟩), .int .i64 n] w fun e w' => e = .returned (.tuple #[]) ∧ (∃ v, At 48 [] B b (.pointer (some ⟨b, 0, none⟩)) v [] w') ∧ Below B w w' := by
  have h0 : At 48 [] B b (.pointer none) (.slice none 0 0) [] w := ⟨hbk, World.ownsRowF_nil _ _ _ _, by decide⟩
  have h1 : (w.setCell ⟨b, 0, none⟩ (.pointer (some ⟨b, 0, none⟩))).heap[b]? = some (.cells #[.pointer (some ⟨b, 0, none⟩), .slice none 0 0] 48 (0, 0)) := by
    have := heap_setCell_same w b 0 _ _ (.pointer (some ⟨b, 0, none⟩)) hbk
    simpa using this
  have c1 : (w.setCell ⟨b, 0, none⟩ (.pointer (some ⟨b, 0, none⟩))).drew.cell? ⟨b, 1, none⟩ = some (.slice none 0 0) := cell_of_row _ _ 1 _ _ _ h1
  have HU : Kept ((∃ v, At 48 [] B b (.pointer (some ⟨b, 0, none⟩)) v [] (w.setCell ⟨b, 0, none⟩ (.pointer (some ⟨b, 0, none⟩))).drew)) := ⟨_, h1, World.ownsRowF_nil _ _ _ _, by decide⟩
  have HB1 : Kept (Below B w (w.setCell ⟨b, 0, none⟩ (.pointer (some ⟨b, 0, none⟩))).drew) := ⟨((Below.refl B w).setCell (p := ⟨b, 0, none⟩) hB _).drew⟩
  have HG := Kept.mk (grow_fresh B b n (w.setCell ⟨b, 0, none⟩ (.pointer (some ⟨b, 0, none⟩))).drew hB h1 (by simpa [World.setCell] using hBw) hn)
  have c0 := h0.c0
  have hsh := h0.shape
  have hfz := h0.fz 0
  clear h0 h1 hbk
  go_enter Tryd.func52, Tryd.ntmps52
  go_wp2_with (go_at_call 39; refine (copyCheck_fresh 48 [] lies_builder b w c0 hsh hfz).mono ?_; rintro e w' ⟨rfl, rfl⟩)
  go_region
  all_goals go_wp2_with (go_at_call 68; refine HG.out.mono ?_; rintro e w' ⟨rfl, h1, h2⟩)
  all_goals first
    | (go_end0; exact ⟨rfl, h1, HB1.out.trans h2⟩)
    | (go_end0; exact ⟨rfl, HU.out, HB1.out⟩)
end Bl
end Go.Proofs.YtphgnjjblpmijaaDoor
