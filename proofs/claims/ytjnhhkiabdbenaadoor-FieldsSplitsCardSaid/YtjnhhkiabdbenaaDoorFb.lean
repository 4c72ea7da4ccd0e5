/-
  A strings.Builder that a call has made itself: its copy check, WriteByte, WriteString, String; the program's Escape.
-/
import Derived.Test.YtjnhhkiabdbenaaDoorPr1
import Derived.Test.YtjnhhkiabdbenaaDoorRow
import Derived.BigGuardPart
import Derived.Lib.FrozenHead
import Derived.Lib.UnsafeStr
import Derived.Laws.Small
import Derived.Laws.AppendOwn
import Derived.OwnWalk
import Derived.Deep.LoopGhost
namespace Go.Proofs.YtjnhhkiabdbenaaDoor
open Go.RowKit Tx
namespace Pm
theorem own_stays {w w' : World} {B n size : Nat} {e : TypeId} {v : Value} {xs : List Value} (h : w.ownsRow B e size v n xs) (hb : ∀ g, B ≤ g → g < w.heap.size → w'.heap[g]? = w.heap[g]?) : w'.ownsRow B e size v n xs := by
  refine ⟨h.1, ?_⟩
  rcases h.2 with h0 | ⟨g, cap, cur, rfl, hB, hg, r⟩
  · exact .inl h0
  · exact .inr ⟨g, cap, cur, rfl, hB, (hb g hB (Array.getElem?_eq_some_iff.1 hg).1).trans hg, r⟩
theorem own_shape {w : World} {B n size : Nat} {e : TypeId} {v : Value} {xs : List Value} (h : w.ownsRow B e size v n xs) : ∃ A k, v = .slice A n k := by
  rcases h.2 with ⟨rfl, rfl⟩ | ⟨g, cap, cur, rfl, _⟩
  · exact ⟨_, _, rfl⟩
  · exact ⟨_, _, rfl⟩
theorem own_by {w w' : World} {B n size : Nat} {e : TypeId} {v : Value} {xs : List Value} (h : w.ownsRow B e size v n xs) (hb : ∀ (g : Nat) (cs : Array Value), w.heap[g]? = some (Obj.cells cs e (0, 0)) → w'.heap[g]? = w.heap[g]?) : w'.ownsRow B e size v n xs := by
  refine ⟨h.1, ?_⟩
  rcases h.2 with h0 | ⟨g, cap, cur, rfl, hB, hg, r⟩
  · exact .inl h0
  · exact .inr ⟨g, cap, cur, rfl, hB, (hb g _ hg).trans hg, r⟩
theorem own_row {w : World} {B n size : Nat} {e : TypeId} {v : Value} {xs : List Value} (h : w.ownsRow B e size v n xs) {g : Nat} (hg : v.ownBlock = some g) : B ≤ g ∧ ∃ cs, w.heap[g]? = some (Obj.cells cs e (0, 0)) := by
  rcases h.2 with ⟨rfl, _⟩ | ⟨g', cap, cur, rfl, hB, hg', _⟩
  · cases hg
  · injection hg with hg
    have hg : g' = g := hg
    subst hg
    exact ⟨hB, cur, hg'⟩
theorem type_ne {w : World} {g b : Nat} {cs ds : Array Value} {T U : TypeId} {y z : Nat × Nat} (h : w.heap[g]? = some (Obj.cells cs T y)) (k : w.heap[b]? = some (Obj.cells ds U z)) (hT : T ≠ U) : g ≠ b := by
  rintro rfl
  rw [h] at k
  injection k with k
  injection k with _ k _
  exact hT k
end Pm
namespace Pb

theorem size_builder : (Tryd.prog.info? 53).map (·.size) = some 2 := by kernel_rfl
theorem info_byte : (Tryd.prog.info? 5).map (fun i => (i.zero, i.size, i.bytes)) = some (some (.int .u8 0), 1, 1) := by kernel_rfl
/-- The block b holds a builder, with the buffer v of the bytes l. -/
structure At (B b : Nat) (p v : Value) (l : List UInt8) (w : World) : Prop where
  row : w.heap[b]? = some (.cells #[p, v] 53 (0, 0))
  own : w.ownsRow B 5 1 v l.length (By.cells l)
section
variable {B b : Nat} {p v : Value} {l : List UInt8} {w : World}
theorem At.c0 (h : At B b p v l w) : w.cell? ⟨b, 0, none⟩ = some p := cell_of_row _ _ 0 _ _ _ h.row
theorem At.c1 (h : At B b p v l w) : w.cell? ⟨b, 1, none⟩ = some v := cell_of_row _ _ 1 _ _ _ h.row
theorem At.fz (h : At B b p v l w) (j : Nat) : w.frozen? ⟨b, j, none⟩ = false := frozen_of_row _ _ j _ _ h.row
theorem At.shape (h : At B b p v l w) : w.shape? b = some (53, 2) := by simp [World.shape?, h.row]
theorem At.lt (h : At B b p v l w) : b < w.heap.size := (Array.getElem?_eq_some_iff.1 h.row).1
end
theorem lies_builder : liesAt Tryd.prog Tryd.prog.depth 53 (2 / Tryd.prog.cellsOf 53) 0 53 1 = true := by kernel_rfl
set_option maxRecDepth 100000 in
theorem copyCheck_used (b : Nat) (w : World) (h0 : w.cell? ⟨b, 0, none⟩ = some (.pointer (some ⟨b, 0, none⟩))) :
    Calls Tryd.prog 31 #[.pointer (some ⟨b, 0, none⟩)] w fun e w' => e = .returned (.tuple #[]) ∧ w' = w := by
  obtain ⟨j, hj, _⟩ := Option.map_eq_some_iff.1 size_builder
  have hn : ∀ W : World, (binOp .neq 51 (.pointer (some ⟨b, 0, none⟩)) (.pointer (some ⟨b, 0, none⟩))).run Tryd.prog W = .ok (.bool false) W := fun W => Lib.run_neq_ptr_same W _ Tryd.underlying51 hj
  have he : ∀ W : World, (binOp .eql 51 (.pointer (some ⟨b, 0, none⟩)) (.pointer none)).run Tryd.prog W = .ok (.bool false) W := fun W => by
    rw [run_eql_pointer_nil W _ _ Tryd.underlying51]; rfl
  clear hj
  go_enter Tryd.func31, Tryd.ntmps31
  go_wp2
  go_end0
  exact ⟨rfl, rfl⟩

set_option maxRecDepth 100000 in
theorem copyCheck_fresh (b : Nat) (w : World) (h0 : w.cell? ⟨b, 0, none⟩ = some (.pointer none)) (hsh : w.shape? b = some (53, 2)) (hfz : w.frozen? ⟨b, 0, none⟩ = false) :
    Calls Tryd.prog 31 #[.pointer (some ⟨b, 0, none⟩)] w fun e w' => e = .returned (.tuple #[]) ∧ w' = w.setCell ⟨b, 0, none⟩ (.pointer (some ⟨b, 0, none⟩)) := by
  obtain ⟨j, hj, hjs⟩ := Option.map_eq_some_iff.1 size_builder
  have he : ∀ W : World, (binOp .eql 51 (.pointer none) (.pointer none)).run Tryd.prog W = .ok (.bool true) W := fun W => by
    rw [run_eql_pointer_nil W _ _ Tryd.underlying51]; rfl
  have h1 : (convert 51 65 (.pointer (some ⟨b, 0, none⟩))).run Tryd.prog w = .ok (.pointer (some ⟨b, 0, none⟩)) w := Lib.run_to_unsafe w ⟨b, 0, none⟩ Tryd.underlying51 Tryd.underlying65 hj (by rw [hjs]; decide) hsh (Nat.zero_lt_succ 1)
  have h2 : (callFunc 33 #[.pointer (some ⟨b, 0, none⟩)]).run Tryd.prog w = .ok (.value (.pointer (some ⟨b, 0, none⟩))) w := by
    rw [run_callFunc_extern Tryd.func33 (by kernel_rfl) (by kernel_rfl) (by kernel_rfl) (e := Extern.AbiNoEscape.same) (by kernel_rfl), Lib.run_noEscape]; rfl
  have h3 : (convert 65 51 (.pointer (some ⟨b, 0, none⟩))).run Tryd.prog w = .ok (.pointer (some ⟨b, 0, none⟩)) w := Lib.run_from_unsafe w ⟨b, 0, none⟩ Tryd.underlying65 Tryd.underlying51 hj hsh lies_builder
  clear hj hjs
  go_enter Tryd.func31, Tryd.ntmps31
  go_wp2
  go_end0
  exact ⟨rfl, rfl⟩
theorem own_ty {w : World} {B n : Nat} {v : Value} {xs : List Value} (h : w.ownsRow B 5 1 v n xs) {b : Nat} {cs : Array Value} (hb : w.heap[b]? = some (.cells cs 53 (0, 0))) : v.ownBlock ≠ some b := by
  intro e
  obtain ⟨_, ds, hd⟩ := Pm.own_row h e
  exact Pm.type_ne hd hb (by decide) rfl
theorem copyCheck_any (B b : Nat) (p v : Value) (l : List UInt8) (w : World) (h : At B b p v l w) (hp : p = .pointer none ∨ p = .pointer (some ⟨b, 0, none⟩)) :
    Calls Tryd.prog 31 #[.pointer (some ⟨b, 0, none⟩)] w fun e w' => e = .returned (.tuple #[]) ∧ At B b (.pointer (some ⟨b, 0, none⟩)) v l w' ∧ Only (fun i => i = b ∨ B ≤ i) w w' := by
  rcases hp with rfl | rfl
  · refine (copyCheck_fresh b w h.c0 h.shape (h.fz 0)).mono ?_
    rintro e w' ⟨rfl, rfl⟩
    refine ⟨rfl, ⟨?_, ?_⟩, (Only.refl _ _).setCell ⟨b, 0, none⟩ _ (fun _ => .inl rfl)⟩
    · have := heap_setCell_same w b 0 _ _ (.pointer (some ⟨b, 0, none⟩)) h.row
      simpa using this
    · exact Pm.own_by h.own fun g cs hg => Below.heap_setCell _ _ _ g (Pm.type_ne hg h.row (by decide))
  · refine (copyCheck_used b w h.c0).mono ?_
    rintro e w' ⟨rfl, rfl⟩
    exact ⟨rfl, h, Only.refl _ _⟩
theorem byte_new (w : World) (c : UInt8) (ty : TypeId) : ∀ j u, [By.cell c][j]? = some u → (w.alloc (.cells #[.int .u8 (c.toNat : Int)] ty)).cell? ((⟨w.heap.size, 0, none⟩ : Addr).add j) = some u := by
  intro j u hu
  rw [By.add_at, cell_of_row _ _ j _ _ (0, 0) (heap_alloc_new w _)]
  simpa [By.cell] using hu
theorem At.grow {B b : Nat} {p v v2 : Value} {l : List UInt8} {c : UInt8} {w1 w2 : World} {o : Obj} (h : At B b p v l w1) (hg : (w1.alloc o).grownBy w2 v.ownBlock) (ho : w2.ownsRow B 5 1 v2 (l.length + 1) (By.cells l ++ [By.cell c])) :
    w2.heap[b]? = some (.cells #[p, v] 53 (0, 0)) ∧ At B b p v2 (l ++ [c]) (w2.setCell ⟨b, 1, none⟩ v2) ∧ Only (fun i => i = b ∨ B ≤ i) w1 (w2.setCell ⟨b, 1, none⟩ v2) := by
  have hlt := h.lt
  have hr : w2.heap[b]? = some (.cells #[p, v] 53 (0, 0)) := ((hg.block b (by simp; omega) (fun e => own_ty h.own h.row e.symm)).trans (Below.heap_alloc w1 o b hlt)).trans h.row
  refine ⟨hr, ⟨?_, ?_⟩, ?_⟩
  · have := heap_setCell_same w2 b 1 _ _ v2 hr
    simpa using this
  · rw [List.length_append, show By.cells (l ++ [c]) = By.cells l ++ [By.cell c] by simp [By.cells]]
    exact Pm.own_by ho fun g cs hg2 => Below.heap_setCell _ _ _ g (Pm.type_ne hg2 hr (by decide))
  · have h1 : Only (fun i => i = b ∨ B ≤ i) w1 w2 := ⟨hg.os, hg.tape, hg.output, Nat.le_trans (by simp) hg.size, fun i hi hn => (hg.block i (by simp; omega) (fun e => hn (Or.inr (Pm.own_row h.own e.symm).1))).trans (Below.heap_alloc w1 o i hi)⟩
    exact h1.setCell ⟨b, 1, none⟩ v2 (fun _ => Or.inl rfl)
set_option maxHeartbeats 2000000 in
set_option maxRecDepth 100000 in
theorem writeByte_any (B b : Nat) (p v : Value) (l : List UInt8) (c : UInt8) (w : World) (h : At B b p v l w) (hp : p = .pointer none ∨ p = .pointer (some ⟨b, 0, none⟩)) (hBw : B ≤ w.heap.size) (hlen : l.length ≤ 100000) :
    Calls Tryd.prog 22 #[.pointer (some ⟨b, 0, none⟩), .int .u8 (c.toNat : Int)] w fun e w' => e = .returned .nilIface ∧ ∃ v', Kept (At B b (.pointer (some ⟨b, 0, none⟩)) v' (l ++ [c]) w') ∧ Kept (Only (fun i => i = b ∨ B ≤ i) w w') := by
  obtain ⟨i0, hi, hz0, hz1, hz2⟩ := info_parts info_byte
  go_enter Tryd.func22, Tryd.ntmps22
  go_wp2_with (go_at_call 31; refine (copyCheck_any B b p v l _ h hp).mono ?_)
  rintro e w1 ⟨rfl, h1, hb1⟩
  have HB1 := Kept.mk hb1
  have H1 := Kept.mk h1
  have hlt := h1.lt
  have c1 := h1.c1
  have c1a : (w1.alloc (.cells #[.int .u8 (c.toNat : Int)] 5)).cell? ⟨b, 1, none⟩ = some v := (World.cell?_of_block (a := ⟨b, 1, none⟩) (Below.heap_alloc w1 _ b hlt)).trans c1
  have HL := Kept.mk hlen
  have HBw : Kept (B ≤ w1.heap.size) := ⟨Nat.le_trans hBw hb1.size⟩
  obtain ⟨A0, q0, rfl⟩ := Pm.own_shape h1.own
  clear h hb1 h1 hp hlen hBw
  go_wp2_with (at_builtin; refine wpList_append_own _ rfl _ _ 36 rfl B 5 i0 _ 1 1 Tryd.underlying36 hi hz0 hz1 hz2 rfl (by decide) _ _ _ rfl (Pm.own_by H1.out.own fun g cs h2 => Below.heap_alloc w1 _ g (Array.getElem?_eq_some_iff.1 h2).1) ⟨w1.heap.size, 0, none⟩ 1 1 [By.cell c] rfl rfl (by exact byte_new w1 c _) (By.one_cells [c]) (by unfold maxLen; have := HL.out; omega) (by have := HL.out; omega) (by have := HBw.out; simp; omega) ?_; intro v2 w2 ho2 hg2 hnn; clear hnn; obtain ⟨A9, q9, rfl⟩ := Pm.own_shape ho2; have HG2 := Kept.mk (H1.out.grow hg2 ho2); have d1 := cell_of_row _ _ 1 _ _ _ HG2.out.1; have f1 := frozen_of_row _ _ 1 _ _ HG2.out.1; clear ho2 hg2)
  go_ret
  exact ⟨rfl, _, ⟨HG2.out.2.1⟩, ⟨HB1.out.trans HG2.out.2.2 (fun _ _ h => h)⟩⟩
theorem cells_byte : Tryd.prog.cellsOf 5 = 1 := by kernel_rfl
set_option maxHeartbeats 2000000 in
set_option maxRecDepth 100000 in
theorem string_nil (B b : Nat) (w : World) (c1 : w.cell? ⟨b, 1, none⟩ = some (.slice none 0 0)) :
    Calls Tryd.prog 25 #[.pointer (some ⟨b, 0, none⟩)] w fun e w' => e = .returned (.string ⟨#[]⟩) ∧ Below B w w' := by
  have hUS : ∀ W : World, (Builtin.unsafeString_ #[63, 3] 9 #[.pointer none, .int .i64 0]).run Tryd.prog W = .ok (.string .empty) W := fun W => Lib.run_unsafeString_none W _ _ _ _
  have hSD : ∀ W : World, (Builtin.unsafeSliceData_ #[36] 63 #[.slice none 0 0]).run Tryd.prog W = .ok (.pointer none) W := fun W => rfl
  have c2 : w.drew.cell? ⟨b, 1, none⟩ = some (.slice none 0 0) := c1
  go_enter Tryd.func25, Tryd.ntmps25
  go_wp2_with fail
  go_region
  all_goals (go_wp2_with fail; go_ret; exact ⟨rfl, Below.drew (Below.refl B w)⟩)
set_option maxHeartbeats 2000000 in
set_option maxRecDepth 100000 in
theorem string_zero (B b g : Nat) (cur : Array Value) (fz : Nat × Nat) (w : World) (hBw : B ≤ w.heap.size) (hg : w.heap[g]? = some (.cells cur 5 fz)) (c1 : w.cell? ⟨b, 1, none⟩ = some (.slice (some ⟨g, 0, none⟩) 0 0)) (hb : b < w.heap.size) :
    Calls Tryd.prog 25 #[.pointer (some ⟨b, 0, none⟩)] w fun e w' => e = .returned (.string ⟨#[]⟩) ∧ Below B w w' := by
  have hUS : ∀ (W : World) (q : Addr), (Builtin.unsafeString_ #[63, 3] 9 #[.pointer (some q), .int .i64 0]).run Tryd.prog W = .ok (.string .empty) W := fun W q => Lib.run_unsafeString_none W _ _ _ _
  have hSD : (Builtin.unsafeSliceData_ #[36] 63 #[.slice (some ⟨g, 0, none⟩) 0 0]).run Tryd.prog w.drew = .ok (.pointer (some ⟨w.drew.heap.size, 0, none⟩)) (w.drew.alloc (.view ⟨g, 0, none⟩ 5)) :=
    Lib.run_unsafeSliceData_zero w.drew _ _ 5 Tryd.underlying63 ⟨g, 0, none⟩ 0 (5, cur.size) (by have hg' : w.drew.heap[g]? = some (.cells cur 5 fz) := hg; simp [World.shape?, hg'])
  have c2 : w.drew.cell? ⟨b, 1, none⟩ = some (.slice (some ⟨g, 0, none⟩) 0 0) := c1
  have c3 : (w.drew.alloc (.view ⟨g, 0, none⟩ 5)).cell? ⟨b, 1, none⟩ = some (.slice (some ⟨g, 0, none⟩) 0 0) := (World.cell?_of_block (a := ⟨b, 1, none⟩) (Below.heap_alloc w.drew _ b hb)).trans c1
  have c4 : (w.alloc (.view ⟨g, 0, none⟩ 5)).drew.cell? ⟨b, 1, none⟩ = some (.slice (some ⟨g, 0, none⟩) 0 0) := c3
  go_enter Tryd.func25, Tryd.ntmps25
  go_wp2_with fail
  go_region
  all_goals (go_wp2_with fail; go_ret; exact ⟨rfl, (Below.drew (Below.refl B w)).alloc hBw _⟩)
set_option maxHeartbeats 2000000 in
set_option maxRecDepth 100000 in
theorem string_room (B b g cap : Nat) (w : World) (hc0 : cap ≠ 0) (c1 : w.cell? ⟨b, 1, none⟩ = some (.slice (some ⟨g, 0, none⟩) 0 cap)) :
    Calls Tryd.prog 25 #[.pointer (some ⟨b, 0, none⟩)] w fun e w' => e = .returned (.string ⟨#[]⟩) ∧ Below B w w' := by
  have hUS : ∀ (W : World) (q : Addr), (Builtin.unsafeString_ #[63, 3] 9 #[.pointer (some q), .int .i64 0]).run Tryd.prog W = .ok (.string .empty) W := fun W q => Lib.run_unsafeString_none W _ _ _ _
  have hSD : ∀ W : World, (Builtin.unsafeSliceData_ #[36] 63 #[.slice (some ⟨g, 0, none⟩) 0 cap]).run Tryd.prog W = .ok (.pointer (some ⟨g, 0, none⟩)) W := fun W => Lib.run_unsafeSliceData_row W _ _ _ _ _ hc0
  have c2 : w.drew.cell? ⟨b, 1, none⟩ = some (.slice (some ⟨g, 0, none⟩) 0 cap) := c1
  clear hc0
  go_enter Tryd.func25, Tryd.ntmps25
  go_wp2_with fail
  go_region
  all_goals (go_wp2_with fail; go_ret; exact ⟨rfl, Below.drew (Below.refl B w)⟩)
set_option maxHeartbeats 2000000 in
set_option maxRecDepth 100000 in
theorem string_some (B b g cap n : Nat) (x : ByteArray) (w : World) (hB : B ≤ g) (hc0 : cap ≠ 0) (c1 : w.cell? ⟨b, 1, none⟩ = some (.slice (some ⟨g, 0, none⟩) n cap))
    (hU : ∀ W : World, W.heap = w.heap → (Builtin.unsafeString_ #[63, 3] 9 #[.pointer (some ⟨g, 0, none⟩), .int .i64 (n : Int)]).run Tryd.prog W = .ok (.string x) (W.freeze ⟨g, 0, none⟩ n)) :
    Calls Tryd.prog 25 #[.pointer (some ⟨b, 0, none⟩)] w fun e w' => e = .returned (.string x) ∧ Below B w w' := by
  have hU1 := hU w rfl
  have hU2 := hU w.drew rfl
  have hSD : ∀ W : World, (Builtin.unsafeSliceData_ #[36] 63 #[.slice (some ⟨g, 0, none⟩) n cap]).run Tryd.prog W = .ok (.pointer (some ⟨g, 0, none⟩)) W := fun W => Lib.run_unsafeSliceData_row W _ _ _ _ _ hc0
  have c2 : w.drew.cell? ⟨b, 1, none⟩ = some (.slice (some ⟨g, 0, none⟩) n cap) := c1
  clear hc0 hU
  go_enter Tryd.func25, Tryd.ntmps25
  go_wp2_with fail
  go_region
  all_goals (go_wp2_with fail; go_ret; exact ⟨rfl, Lib.below_freeze (Below.drew (Below.refl B w)) hB _⟩)
theorem string_any (B b : Nat) (p v : Value) (l : List UInt8) (w : World) (h : At B b p v l w) (hBw : B ≤ w.heap.size) :
    Calls Tryd.prog 25 #[.pointer (some ⟨b, 0, none⟩)] w fun e w' => e = .returned (.string (bs l)) ∧ Below B w w' := by
  have c1 := h.c1
  by_cases hl : l = []
  · subst hl
    rcases (World.ownsRowF_of h.own).2 with ⟨rfl, _⟩ | ⟨g, cap, cur, fz, rfl, hbg, hg, _⟩
    · exact string_nil B b w c1
    · by_cases hc : cap = 0
      · subst hc
        exact string_zero B b g cur fz w hBw hg c1 h.lt
      · exact string_room B b g cap w hc c1
  · have hn : l.length ≠ 0 := fun e => hl (List.eq_nil_of_length_eq_zero e)
    rcases (World.ownsRowF_of h.own).2 with ⟨_, h0⟩ | ⟨g, cap, cur, fz, rfl, hbg, hg, _, hnc, hcm, hcs, htake⟩
    · exact absurd h0 hn
    · refine string_some B b g cap l.length (bs l) w hbg (by omega) c1 fun W hW => ?_
      have := Lib.run_unsafeString_row (P := Tryd.prog) W 63 3 9 5 Tryd.underlying63 cells_byte g cur.size (by simp [World.shape?, hW, hg]) l hl (by omega) (by unfold maxLen at hcm; omega) (fun j x hx => ?_)
      · exact this
      · have hgW : W.heap[g]? = some (.cells cur 5 fz) := by rw [hW]; exact hg
        have hadd : (⟨g, 0, none⟩ : Addr).add j = ⟨g, j, none⟩ := by unfold Addr.add; split <;> simp_all
        rw [hadd, cell_of_row W g j cur _ fz hgW]
        have h2 : (By.cells l)[j]? = some (By.cell x) := by simp [By.cells, hx]
        rw [← htake, List.getElem?_take] at h2
        split at h2
        · simpa [By.cell] using h2
        · cases h2
end Pb
namespace Pm
theorem esc_snoc (s : List UInt8) (c : UInt8) : esc (s ++ [c]) = esc s ++ [92, c] := by simp [esc]
theorem bs_of_toL {s : ByteArray} {l : List UInt8} (h : l = toL s) : bs l = s := by rw [h, bs_toL]
/-- A builder in a block of this call's own, its bytes beyond B. -/
structure BIn (w wr : World) (B b : Nat) (l : List UInt8) : Prop where
  at' : ∃ p v, Pb.At B b p v l wr ∧ (p = .pointer none ∨ p = .pointer (some ⟨b, 0, none⟩))
  bel : Below w.heap.size w wr
  hb : w.heap.size ≤ b
  hB : w.heap.size ≤ B
  hs : B ≤ wr.heap.size
theorem BIn.start (w : World) : BIn w (w.alloc (.cells #[.pointer none, .slice none 0 0] 53)) w.heap.size w.heap.size [] :=
  ⟨⟨_, _, ⟨heap_alloc_new w _, World.ownsRow_nil _ _ _ _⟩, .inl rfl⟩, (Below.refl _ _).alloc (Nat.le_refl _) _, Nat.le_refl _, Nat.le_refl _, by simp⟩
theorem BIn.write {w wr : World} {B b : Nat} {l : List UInt8} (h : BIn w wr B b l) (c : UInt8) (hl : l.length ≤ 100000) :
    Calls Tryd.prog 22 #[.pointer (some ⟨b, 0, none⟩), .int .u8 (c.toNat : Int)] wr fun e w' => e = .returned .nilIface ∧ Kept (BIn w w' B b (l ++ [c])) ∧ Kept (Only (fun i => i = b ∨ B ≤ i) wr w') := by
  obtain ⟨p, v, ha, hp⟩ := h.at'
  refine (Pb.writeByte_any B b p v l c wr ha hp h.hs hl).mono ?_
  rintro e w' ⟨rfl, v', ⟨h1⟩, ⟨h2⟩⟩
  refine ⟨rfl, ⟨⟨⟨_, v', h1, .inr rfl⟩, h.bel.trans ?_, h.hb, h.hB, Nat.le_trans h.hs h2.size⟩⟩, ⟨h2⟩⟩
  exact h2.toBelow (fun k hk e => by have := h.hb; have := h.hB; have : k = b ∨ B ≤ k := e; omega) h.bel.size
theorem BIn.text {w wr : World} {B b : Nat} {l : List UInt8} (h : BIn w wr B b l) :
    Calls Tryd.prog 25 #[.pointer (some ⟨b, 0, none⟩)] wr fun e w' => e = .returned (.string (bs l)) ∧ Below w.heap.size w w' := by
  obtain ⟨p, v, ha, hp⟩ := h.at'
  refine (Pb.string_any B b p v l wr ha h.hs).mono ?_
  rintro e w' ⟨rfl, h2⟩
  exact ⟨rfl, h.bel.trans (h2.mono h.hB)⟩
theorem BIn.below {w wr w2 : World} {B b : Nat} {l : List UInt8} (h : BIn w wr B b l) (hb : Below wr.heap.size wr w2) : BIn w w2 B b l := by
  obtain ⟨p, v, ha, hp⟩ := h.at'
  exact ⟨⟨p, v, ⟨(hb.block b ha.lt).trans ha.row, own_stays ha.own fun g _ hg => hb.block g hg⟩, hp⟩, h.bel.trans (hb.mono h.bel.size), h.hb, h.hB, Nat.le_trans h.hs hb.size⟩
/-- Nothing was written yet: its bytes will lie beyond what is there. -/
theorem BIn.later {w wr : World} {b : Nat} (hr : wr.heap[b]? = some (.cells #[.pointer none, .slice none 0 0] 53 (0, 0))) (hb : w.heap.size ≤ b) (h : Below w.heap.size w wr) : BIn w wr wr.heap.size b [] :=
  ⟨⟨_, _, ⟨hr, World.ownsRow_nil _ _ _ _⟩, .inl rfl⟩, h, hb, h.size, Nat.le_refl _⟩
set_option maxHeartbeats 2000000 in
set_option maxRecDepth 100000 in
theorem escape_any (s : ByteArray) (w : World) (hs : s.size ≤ 2000) : Calls Tryd.prog 28 #[.string s] w fun e w' => e = .returned (.string (bs (esc (toL s)))) ∧ Below w.heap.size w w' := by
  have HB0 := Kept.mk (BIn.start w)
  have HS := Kept.mk hs
  obtain ⟨b, hb⟩ : ∃ b, b = w.heap.size := ⟨_, rfl⟩
  have Hb := Kept.mk hb
  replace HB0 : Kept (BIn w (w.alloc (.cells #[.pointer none, .slice none 0 0] 53)) w.heap.size b []) := ⟨by rw [hb]; exact HB0.out⟩
  clear hs hb
  go_enter Tryd.func28, Tryd.ntmps28
  go_wp2_with fail
  rw [← Hb.out]
  generalize World.alloc _ _ = W at *
  go_loopw [7] (fun i wr => ∃ j : Nat, j ≤ s.size ∧ i = .int .i64 (j : Int) ∧ Kept (BIn w wr w.heap.size b (esc ((toL s).take j)))) (fun i _ => s.size - (intOf i).toNat)
  case atStart => exact ⟨0, by omega, rfl, HB0⟩
  case round =>
    clear HB0
    obtain ⟨j, hj, rfl, HB⟩ := hrel
    by_cases hlt : j < s.size
    · have hl2 : (j : Int) < (s.size : Int) := by omega
      have hj5 : (j : Int) ≤ 2000 := by have := HS.out; omega
      have HL : Kept ((esc ((toL s).take j)).length + 1 ≤ 100000) := ⟨by rw [esc_length, List.length_take, toL_length]; have := HS.out; omega⟩
      have HX : Kept (esc ((toL s).take j) ++ [92] ++ [s[j]'hlt] = esc ((toL s).take (j + 1))) := ⟨by
        have hj2 : j < (toL s).length := by rw [toL_length]; exact hlt
        rw [List.take_succ_eq_append_getElem hj2, esc_snoc, List.append_assoc]; rfl⟩
      go_wp2_with fail
      go_at_call 22
      refine (HB.out.write 92 (by have := HL.out; omega)).mono ?_
      rintro e w2 ⟨rfl, HB2, _⟩
      go_wp2_with fail
      go_at_call 22
      refine (HB2.out.write (s[j]'hlt) (by rw [List.length_append]; exact HL.out)).mono ?_
      rintro e w3 ⟨rfl, HB3, _⟩
      rw [HX.out] at HB3
      go_wp2_with fail
      go_roundw
      case rel => exact ⟨j + 1, by omega, by go_num, HB3⟩
      case measure => simp [intOf]; omega
    · obtain rfl : j = s.size := by omega
      have HT : Kept (BIn w wr w.heap.size b (esc (toL s))) := ⟨by
        have := HB.out
        rwa [List.take_of_length_le (by rw [toL_length]; exact Nat.le_refl _)] at this⟩
      clear HB hlt
      go_wp2_with fail
      go_at_call 25
      refine HT.out.text.mono ?_
      rintro e w3 ⟨rfl, hb⟩
      have HBl := Kept.mk hb
      clear hb
      go_wp2_with fail
      go_ret
      exact ⟨rfl, HBl.out⟩
end Pm
end Go.Proofs.YtjnhhkiabdbenaaDoor
