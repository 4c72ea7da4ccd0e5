/-
  A strings.Builder at the head of a struct's block: its copy check, WriteString, String.
-/
import Derived.Test.YtphgnjjblpmijaaDoorWr3M
import Derived.Lib.FrozenHead
import Derived.Lib.UnsafeStr
import Derived.Laws.Small
import Derived.Laws.Pointers
import Derived.Deep.QuietTactic
namespace Go.Proofs.YtphgnjjblpmijaaDoor
open Go.RowKit Tx
namespace Bl

theorem size_builder : (Tryd.prog.info? 48).map (·.size) = some 2 := by kernel_rfl
theorem info_byte : (Tryd.prog.info? 5).map (fun i => (i.zero, i.size, i.bytes)) = some (some (.int .u8 0), 1, 1) := by kernel_rfl
/-- The block b holds a builder, with the buffer v of the bytes l, and r behind it. -/
structure At (T : TypeId) (r : List Value) (B b : Nat) (p v : Value) (l : List UInt8) (w : World) : Prop where
  row : w.heap[b]? = some (.cells (p :: v :: r).toArray T (0, 0))
  own : w.ownsRowF B 5 1 v l.length (By.cells l)
  ty : T ≠ 5
def Lies (T : TypeId) (r : List Value) : Prop := liesAt Tryd.prog Tryd.prog.depth T ((r.length + 1 + 1) / Tryd.prog.cellsOf T) 0 48 1 = true
section
variable {T : TypeId} {r : List Value} {B b : Nat} {p v : Value} {l : List UInt8} {w : World}
theorem At.c0 (h : At T r B b p v l w) : w.cell? ⟨b, 0, none⟩ = some p := cell_of_row _ _ 0 _ _ _ h.row
theorem At.c1 (h : At T r B b p v l w) : w.cell? ⟨b, 1, none⟩ = some v := cell_of_row _ _ 1 _ _ _ h.row
theorem At.fz (h : At T r B b p v l w) (j : Nat) : w.frozen? ⟨b, j, none⟩ = false := frozen_of_row _ _ j _ _ h.row
theorem At.shape (h : At T r B b p v l w) : w.shape? b = some (T, r.length + 1 + 1) := by simp [World.shape?, h.row]
theorem At.lt (h : At T r B b p v l w) : b < w.heap.size := (Array.getElem?_eq_some_iff.1 h.row).1
theorem At.ne (h : At T r B b p v l w) : v.ownBlock ≠ some b := Lib.ownBlock_neF h.own h.row h.ty
end

set_option maxRecDepth 100000 in
theorem copyCheck_used (b : Nat) (w : World) (h0 : w.cell? ⟨b, 0, none⟩ = some (.pointer (some ⟨b, 0, none⟩))) :
    Calls Tryd.prog 39 #[.pointer (some ⟨b, 0, none⟩)] w fun e w' => e = .returned (.tuple #[]) ∧ w' = w := by
  obtain ⟨j, hj, _⟩ := Option.map_eq_some_iff.1 size_builder
  have hn : ∀ W : World, (binOp .neq 46 (.pointer (some ⟨b, 0, none⟩)) (.pointer (some ⟨b, 0, none⟩))).run Tryd.prog W = .ok (.bool false) W := fun W => Lib.run_neq_ptr_same W _ Tryd.underlying46 hj
  have he : ∀ W : World, (binOp .eql 46 (.pointer (some ⟨b, 0, none⟩)) (.pointer none)).run Tryd.prog W = .ok (.bool false) W := fun W => by
    rw [run_eql_pointer_nil W _ _ Tryd.underlying46]; rfl
  clear hj
  go_enter Tryd.func39, Tryd.ntmps39
  go_wp2
  go_end0
  exact ⟨rfl, rfl⟩

set_option maxRecDepth 100000 in
theorem copyCheck_fresh (T : TypeId) (r : List Value) (hL : Lies T r) (b : Nat) (w : World) (h0 : w.cell? ⟨b, 0, none⟩ = some (.pointer none)) (hsh : w.shape? b = some (T, r.length + 1 + 1)) (hfz : w.frozen? ⟨b, 0, none⟩ = false) :
    Calls Tryd.prog 39 #[.pointer (some ⟨b, 0, none⟩)] w fun e w' => e = .returned (.tuple #[]) ∧ w' = w.setCell ⟨b, 0, none⟩ (.pointer (some ⟨b, 0, none⟩)) := by
  obtain ⟨j, hj, hjs⟩ := Option.map_eq_some_iff.1 size_builder
  have he : ∀ W : World, (binOp .eql 46 (.pointer none) (.pointer none)).run Tryd.prog W = .ok (.bool true) W := fun W => by
    rw [run_eql_pointer_nil W _ _ Tryd.underlying46]; rfl
  have h1 : (convert 46 85 (.pointer (some ⟨b, 0, none⟩))).run Tryd.prog w = .ok (.pointer (some ⟨b, 0, none⟩)) w := Lib.run_to_unsafe w ⟨b, 0, none⟩ Tryd.underlying46 Tryd.underlying85 hj (by rw [hjs]; decide) hsh (Nat.zero_lt_succ _)
  have h2 : (callFunc 50 #[.pointer (some ⟨b, 0, none⟩)]).run Tryd.prog w = .ok (.value (.pointer (some ⟨b, 0, none⟩))) w := by
    rw [run_callFunc_extern Tryd.func50 (by kernel_rfl) (by kernel_rfl) (by kernel_rfl) (e := Extern.AbiNoEscape.same) (by kernel_rfl), Lib.run_noEscape]; rfl
  have h3 : (convert 85 46 (.pointer (some ⟨b, 0, none⟩))).run Tryd.prog w = .ok (.pointer (some ⟨b, 0, none⟩)) w := Lib.run_from_unsafe w ⟨b, 0, none⟩ Tryd.underlying85 Tryd.underlying46 hj hsh hL
  clear hj hjs
  go_enter Tryd.func39, Tryd.ntmps39
  go_wp2
  go_end0
  exact ⟨rfl, rfl⟩
/-- No row of bytes. -/
def NoBy : Obj → Prop
  | .cells _ t _ => t ≠ 5
  | _ => True
/-- What a builder's call leaves: what lies below B, and other blocks that hold no bytes. -/
structure Left (B b : Nat) (w w' : World) : Prop where
  bl : Below B w w'
  oth : ∀ g o, w.heap[g]? = some o → g ≠ b → NoBy o → w'.heap[g]? = some o
theorem Left.refl (B b : Nat) (w : World) : Left B b w w := ⟨Below.refl _ _, fun _ _ h _ _ => h⟩
theorem Left.trans {B b : Nat} {w w2 w3 : World} (h : Left B b w w2) (k : Left B b w2 w3) : Left B b w w3 :=
  ⟨h.bl.trans k.bl, fun g o hg hb hn => k.oth g o (h.oth g o hg hb hn) hb hn⟩
theorem Left.self {B b : Nat} {w : World} (u : Value) (k : Nat) (hB : B ≤ b) : Left B b w (w.setCell ⟨b, k, none⟩ u) :=
  ⟨(Below.refl _ _).setCell hB _, fun g _ hg hb _ => (Below.heap_setCell w _ _ g hb).trans hg⟩
theorem cells_app (l m : List UInt8) : By.cells (l ++ m) = By.cells l ++ By.cells m := by simp [By.cells]

theorem cells_str (s : ByteArray) : Lib.strCells s = By.cells (toL s) := rfl
theorem copyCheck_any (T : TypeId) (r : List Value) (hL : Lies T r) (B b : Nat) (p v : Value) (l : List UInt8) (w : World) (h : At T r B b p v l w) (hp : p = .pointer none ∨ p = .pointer (some ⟨b, 0, none⟩)) (hB : B ≤ b) :
    Calls Tryd.prog 39 #[.pointer (some ⟨b, 0, none⟩)] w fun e w' => e = .returned (.tuple #[]) ∧ At T r B b (.pointer (some ⟨b, 0, none⟩)) v l w' ∧ Left B b w w' := by
  rcases hp with rfl | rfl
  · refine (copyCheck_fresh T r hL b w h.c0 h.shape (h.fz 0)).mono ?_
    rintro e w' ⟨rfl, rfl⟩
    refine ⟨rfl, ⟨?_, ?_, h.ty⟩, Left.self _ 0 hB⟩
    · have := heap_setCell_same w b 0 _ _ (.pointer (some ⟨b, 0, none⟩)) h.row
      simpa using this
    · exact h.own.kept (row := some b) ⟨rfl, rfl, rfl, by simp [World.setCell], fun k _ hk => Below.heap_setCell _ _ _ _ (fun e => hk (by simp [e]))⟩ (.inr h.ne)
  · refine (copyCheck_used b w h.c0).mono ?_
    rintro e w' ⟨rfl, rfl⟩
    exact ⟨rfl, h, Left.refl _ _ _⟩

set_option maxHeartbeats 2000000 in
set_option maxRecDepth 100000 in
theorem writeString_any (T : TypeId) (r : List Value) (hL : Lies T r) (B b : Nat) (p v : Value) (l : List UInt8) (s : ByteArray) (w : World) (h : At T r B b p v l w) (hp : p = .pointer none ∨ p = .pointer (some ⟨b, 0, none⟩)) (hB : B ≤ b) (hlen : l.length + s.size ≤ 140737488355328) (hBw : B ≤ w.heap.size) :
    Calls Tryd.prog 28 #[.pointer (some ⟨b, 0, none⟩), .string s] w fun e w' => e = .returned (.tuple #[.int .i64 s.size, .nilIface]) ∧ ∃ v', At T r B b (.pointer (some ⟨b, 0, none⟩)) v' (l ++ toL s) w' ∧ Left B b w w' := by
  obtain ⟨i0, hi, hz0, hz1, hz2⟩ := info_parts info_byte
  go_enter Tryd.func28, Tryd.ntmps28
  go_wp2_with (go_at_call 39; refine (copyCheck_any T r hL B b p v l _ h hp hB).mono ?_)
  rintro e w1 ⟨rfl, h1, hb1⟩
  have c1 := h1.c1
  have hown := h1.own
  have HB1 := Kept.mk hb1
  have H1 := Kept.mk h1
  have hsz := hb1.bl.size
  clear h hb1 h1
  go_wp2_with (at_builtin; refine Lib.wpList_append_own_stringF _ rfl _ _ 22 9 rfl B 5 i0 Tryd.underlying22 Tryd.underlying9 hi hz0 hz1 hz2 _ _ _ rfl hown s rfl ?c3 ?c4 ?c5 ?_)
  case c3 => unfold maxLen; omega
  case c4 => omega
  case c5 => omega
  intro v' w2 hown' hgrow _
  have hb2 : w2.heap[b]? = some (.cells (.pointer (some ⟨b, 0, none⟩) :: v :: r).toArray T (0, 0)) := (hgrow.block b H1.out.lt H1.out.ne.symm).trans H1.out.row
  have d1 : w2.cell? ⟨b, 1, none⟩ = some v := cell_of_row _ _ 1 _ _ _ hb2
  have f1 : w2.frozen? ⟨b, 1, none⟩ = false := frozen_of_row _ _ 1 _ _ hb2
  have hne2 : v'.ownBlock ≠ some b := Lib.ownBlock_neF hown' hb2 H1.out.ty
  have hrow : (w2.setCell ⟨b, 1, none⟩ v').heap[b]? = some (.cells (.pointer (some ⟨b, 0, none⟩) :: v' :: r).toArray T (0, 0)) := by
    have := heap_setCell_same w2 b 1 _ _ v' hb2
    simpa using this
  have HW : Kept (At T r B b (.pointer (some ⟨b, 0, none⟩)) v' (l ++ toL s) (w2.setCell ⟨b, 1, none⟩ v')) := ⟨hrow, by
    have : (w2.setCell ⟨b, 1, none⟩ v').ownsRowF B 5 1 v' (l.length + s.size) (By.cells l ++ Lib.strCells s) := hown'.kept (row := some b) ⟨rfl, rfl, rfl, by simp [World.setCell], fun k _ hk => Below.heap_setCell _ _ _ _ (fun e => hk (by simp [e]))⟩ (.inr hne2)
    rw [cells_str, ← cells_app] at this
    rwa [List.length_append, toL_length], H1.out.ty⟩
  have hby : ∀ g o, w1.heap[g]? = some o → NoBy o → some g ≠ v.ownBlock := fun g o hg hn e => by
    rcases H1.out.own.2 with ⟨hv, _⟩ | ⟨g2, cap, cur, fz, hv, _, hg2, _⟩
    · rw [hv] at e; cases e
    · rw [hv] at e
      injection e with e
      have e2 : g = g2 := e
      rw [e2, hg2] at hg
      cases hg
      exact hn rfl
  have HL2 : Kept (Left B b w1 (w2.setCell ⟨b, 1, none⟩ v')) := ⟨⟨(((Below.refl B w1).grown hgrow (by omega) (fun k hk => (H1.out.own.lt k hk).1))).setCell (p := ⟨b, 1, none⟩) hB _, fun g o hg hb hn => (Below.heap_setCell _ _ _ g hb).trans ((hgrow.block g (Array.getElem?_eq_some_iff.1 hg).1 (hby g o hg hn)).trans hg)⟩⟩
  obtain ⟨ao, n', cap, rfl⟩ : ∃ ao n' cap, v' = .slice ao n' cap := by
    rcases hown'.2 with ⟨hv, _⟩ | ⟨g, cap, cur, fz, hv, _⟩
    · exact ⟨_, _, _, hv⟩
    · exact ⟨_, _, _, hv⟩
  clear hrow hne2 hown' hby
  go_wp2
  go_ret2
  exact ⟨rfl, _, HW.out, HB1.out.trans HL2.out⟩
theorem lies_printer (x : Value) : Lies 50 [x] := by unfold Lies; kernel_rfl
theorem lies_builder : Lies 48 [] := by unfold Lies; kernel_rfl
end Bl
end Go.Proofs.YtphgnjjblpmijaaDoor
