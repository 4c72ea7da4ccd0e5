/-
  A strings.Builder's String, of one that stands at the head of a struct's block.
-/
import Derived.Test.YtphgnjjblpmijaaDoorWq1M
namespace Go.Proofs.YtphgnjjblpmijaaDoor
open Go.RowKit Tx
namespace Bl
theorem cells_byte : Tryd.prog.cellsOf 5 = 1 := by kernel_rfl
set_option maxHeartbeats 2000000 in
set_option maxRecDepth 100000 in
theorem string_nil (B b : Nat) (w : World) (c1 : w.cell? ⟨b, 1, none⟩ = some (.slice none 0 0)) :
    Calls Tryd.prog 20 #[.pointer (some ⟨b, 0, none⟩)] w fun e w' => e = .returned (.string ⟨#[]⟩) ∧ Below B w w' := by
  have hUS : ∀ W : World, (Builtin.unsafeString_ #[69, 3] 9 #[.pointer none, .int .i64 0]).run Tryd.prog W = .ok (.string .empty) W := fun W => Lib.run_unsafeString_none W _ _ _ _
  have hSD : ∀ W : World, (Builtin.unsafeSliceData_ #[22] 69 #[.slice none 0 0]).run Tryd.prog W = .ok (.pointer none) W := fun W => rfl
  have c2 : w.drew.cell? ⟨b, 1, none⟩ = some (.slice none 0 0) := c1
  go_enter Tryd.func20, Tryd.ntmps20
  go_wp2_with fail
  go_region
  all_goals (go_wp2_with fail; go_ret; exact ⟨rfl, Below.drew (Below.refl B w)⟩)
set_option maxHeartbeats 2000000 in
set_option maxRecDepth 100000 in
theorem string_zero (B b g : Nat) (cur : Array Value) (fz : Nat × Nat) (w : World) (hBw : B ≤ w.heap.size) (hg : w.heap[g]? = some (.cells cur 5 fz)) (c1 : w.cell? ⟨b, 1, none⟩ = some (.slice (some ⟨g, 0, none⟩) 0 0)) (hb : b < w.heap.size) :
    Calls Tryd.prog 20 #[.pointer (some ⟨b, 0, none⟩)] w fun e w' => e = .returned (.string ⟨#[]⟩) ∧ Below B w w' := by
  have hUS : ∀ (W : World) (q : Addr), (Builtin.unsafeString_ #[69, 3] 9 #[.pointer (some q), .int .i64 0]).run Tryd.prog W = .ok (.string .empty) W := fun W q => Lib.run_unsafeString_none W _ _ _ _
  have hSD : (Builtin.unsafeSliceData_ #[22] 69 #[.slice (some ⟨g, 0, none⟩) 0 0]).run Tryd.prog w.drew = .ok (.pointer (some ⟨w.drew.heap.size, 0, none⟩)) (w.drew.alloc (.view ⟨g, 0, none⟩ 5)) :=
    Lib.run_unsafeSliceData_zero w.drew _ _ 5 Tryd.underlying69 ⟨g, 0, none⟩ 0 (5, cur.size) (by have hg' : w.drew.heap[g]? = some (.cells cur 5 fz) := hg; simp [World.shape?, hg'])
  have c2 : w.drew.cell? ⟨b, 1, none⟩ = some (.slice (some ⟨g, 0, none⟩) 0 0) := c1
  have c3 : (w.drew.alloc (.view ⟨g, 0, none⟩ 5)).cell? ⟨b, 1, none⟩ = some (.slice (some ⟨g, 0, none⟩) 0 0) := (World.cell?_of_block (a := ⟨b, 1, none⟩) (Below.heap_alloc w.drew _ b hb)).trans c1
  have c4 : (w.alloc (.view ⟨g, 0, none⟩ 5)).drew.cell? ⟨b, 1, none⟩ = some (.slice (some ⟨g, 0, none⟩) 0 0) := c3
  go_enter Tryd.func20, Tryd.ntmps20
  go_wp2_with fail
  go_region
  all_goals (go_wp2_with fail; go_ret; exact ⟨rfl, (Below.drew (Below.refl B w)).alloc hBw _⟩)
set_option maxHeartbeats 2000000 in
set_option maxRecDepth 100000 in
theorem string_room (B b g cap : Nat) (w : World) (hc0 : cap ≠ 0) (c1 : w.cell? ⟨b, 1, none⟩ = some (.slice (some ⟨g, 0, none⟩) 0 cap)) :
    Calls Tryd.prog 20 #[.pointer (some ⟨b, 0, none⟩)] w fun e w' => e = .returned (.string ⟨#[]⟩) ∧ Below B w w' := by
  have hUS : ∀ (W : World) (q : Addr), (Builtin.unsafeString_ #[69, 3] 9 #[.pointer (some q), .int .i64 0]).run Tryd.prog W = .ok (.string .empty) W := fun W q => Lib.run_unsafeString_none W _ _ _ _
  have hSD : ∀ W : World, (Builtin.unsafeSliceData_ #[22] 69 #[.slice (some ⟨g, 0, none⟩) 0 cap]).run Tryd.prog W = .ok (.pointer (some ⟨g, 0, none⟩)) W := fun W => Lib.run_unsafeSliceData_row W _ _ _ _ _ hc0
  have c2 : w.drew.cell? ⟨b, 1, none⟩ = some (.slice (some ⟨g, 0, none⟩) 0 cap) := c1
  clear hc0
  go_enter Tryd.func20, Tryd.ntmps20
  go_wp2_with fail
  go_region
  all_goals (go_wp2_with fail; go_ret; exact ⟨rfl, Below.drew (Below.refl B w)⟩)
set_option maxHeartbeats 2000000 in
set_option maxRecDepth 100000 in
theorem string_some (B b g cap n : Nat) (x : ByteArray) (w : World) (hB : B ≤ g) (hc0 : cap ≠ 0) (c1 : w.cell? ⟨b, 1, none⟩ = some (.slice (some ⟨g, 0, none⟩) n cap))
    (hU : ∀ W : World, W.heap = w.heap → (Builtin.unsafeString_ #[69, 3] 9 #[.pointer (some ⟨g, 0, none⟩), .int .i64 (n : Int)]).run Tryd.prog W = .ok (.string x) (W.freeze ⟨g, 0, none⟩ n)) :
    Calls Tryd.prog 20 #[.pointer (some ⟨b, 0, none⟩)] w fun e w' => e = .returned (.string x) ∧ Below B w w' := by
  have hU1 := hU w rfl
  have hU2 := hU w.drew rfl
  have hSD : ∀ W : World, (Builtin.unsafeSliceData_ #[22] 69 #[.slice (some ⟨g, 0, none⟩) n cap]).run Tryd.prog W = .ok (.pointer (some ⟨g, 0, none⟩)) W := fun W => Lib.run_unsafeSliceData_row W _ _ _ _ _ hc0
  have c2 : w.drew.cell? ⟨b, 1, none⟩ = some (.slice (some ⟨g, 0, none⟩) n cap) := c1
  clear hc0 hU
  go_enter Tryd.func20, Tryd.ntmps20
  go_wp2_with fail
  go_region
  all_goals (go_wp2_with fail; go_ret; exact ⟨rfl, Lib.below_freeze (Below.drew (Below.refl B w)) hB _⟩)
theorem string_any (T : TypeId) (r : List Value) (B b : Nat) (p v : Value) (l : List UInt8) (w : World) (h : At T r B b p v l w) (hBw : B ≤ w.heap.size) :
    Calls Tryd.prog 20 #[.pointer (some ⟨b, 0, none⟩)] w fun e w' => e = .returned (.string (bs l)) ∧ Below B w w' := by
  have c1 := h.c1
  by_cases hl : l = []
  · subst hl
    rcases h.own.2 with ⟨rfl, _⟩ | ⟨g, cap, cur, fz, rfl, hbg, hg, _⟩
    · exact string_nil B b w c1
    · by_cases hc : cap = 0
      · subst hc
        exact string_zero B b g cur fz w hBw hg c1 h.lt
      · exact string_room B b g cap w hc c1
  · have hn : l.length ≠ 0 := fun e => hl (List.eq_nil_of_length_eq_zero e)
    rcases h.own.2 with ⟨_, h0⟩ | ⟨g, cap, cur, fz, rfl, hbg, hg, _, hnc, hcm, hcs, htake⟩
    · exact absurd h0 hn
    · refine string_some B b g cap l.length (bs l) w hbg (by omega) c1 fun W hW => ?_
      have := Lib.run_unsafeString_row (P := Tryd.prog) W 69 3 9 5 Tryd.underlying69 cells_byte g cur.size (by simp [World.shape?, hW, hg]) l hl (by omega) (by unfold maxLen at hcm; omega) (fun j x hx => ?_)
      · exact this
      · have hgW : W.heap[g]? = some (.cells cur 5 fz) := by rw [hW]; exact hg
        have hadd : (⟨g, 0, none⟩ : Addr).add j = ⟨g, j, none⟩ := by unfold Addr.add; split <;> simp_all
        rw [hadd, cell_of_row W g j cur _ fz hgW]
        have h2 : (By.cells l)[j]? = some (By.cell x) := by simp [By.cells, hx]
        rw [← htake, List.getElem?_take] at h2
        split at h2
        · simpa [By.cell] using h2
        · cases h2
end Bl
end Go.Proofs.YtphgnjjblpmijaaDoor
