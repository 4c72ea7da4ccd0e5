/-
  does, a write: at both devices.
-/
import Derived.Test.YticgecbgeahijaaIf
import Derived.Deep.RegionHeld3
namespace Go.Proofs.Yticgecbgeahijaa
open Go.RowKit Tx
namespace Dv

/-- An act's fields at block g. -/
structure ActAt (w : World) (g : Nat) (what k p : Int) (s : ByteArray) (m : Nat) : Prop where
  lt : g < w.heap.size
  c0 : w.cell? ⟨g, 0, none⟩ = some (.int .i64 what)
  c1 : w.cell? ⟨g, 1, none⟩ = some (.int .i64 k)
  c2 : w.cell? ⟨g, 2, none⟩ = some (.int .i64 p)
  c3 : w.cell? ⟨g, 3, none⟩ = some (.string s)
  c4 : w.cell? ⟨g, 4, none⟩ = some (.int .u64 m)
theorem ActAt.new (w : World) (t : TypeId) (what k p : Int) (s : ByteArray) (m : Nat) : ActAt (w.alloc (.cells #[.int .i64 what, .int .i64 k, .int .i64 p, .string s, .int .u64 m] t)) w.heap.size what k p s m := by
  have hc : ∀ j, (w.alloc (.cells #[.int .i64 what, .int .i64 k, .int .i64 p, .string s, .int .u64 m] t)).cell? ⟨w.heap.size, j, none⟩ = (#[Value.int .i64 what, .int .i64 k, .int .i64 p, .string s, .int .u64 m] : Array Value)[j]? := fun j => cell_of_row _ _ j _ _ (0, 0) (heap_alloc_new w _)
  exact ⟨by simp, hc 0, hc 1, hc 2, hc 3, hc 4⟩
theorem ActAt.keep {w w' : World} {g : Nat} {what k p : Int} {s : ByteArray} {m : Nat} (h : ActAt w g what k p s m) (hb : w'.heap[g]? = w.heap[g]?) (hs : w.heap.size ≤ w'.heap.size) : ActAt w' g what k p s m :=
  ⟨Nat.lt_of_lt_of_le h.lt hs, (World.cell?_of_block (w := w) (a := ⟨g, 0, none⟩) hb).trans h.c0, (World.cell?_of_block (w := w) (a := ⟨g, 1, none⟩) hb).trans h.c1, (World.cell?_of_block (w := w) (a := ⟨g, 2, none⟩) hb).trans h.c2, (World.cell?_of_block (w := w) (a := ⟨g, 3, none⟩) hb).trans h.c3, (World.cell?_of_block (w := w) (a := ⟨g, 4, none⟩) hb).trans h.c4⟩

/-- Both devices, an act in a block of its own. -/
structure DoesIn (Dev : World → (Nat → Prop) → Value → Disk → Prop) (n : Nat) (w0 w : World) (d r : Value) (D E : Disk) (B C : Nat → Prop) (g : Nat) (what k p : Int) (s : ByteArray) (m : Nat) : Prop where
  two : Two Dev n w d r D E B C
  act : ActAt w g what k p s m
  offB : ¬ B g
  offC : ¬ C g
  below : Below n w0 w
  big : n ≤ w.heap.size
section
variable {Dev : World → (Nat → Prop) → Value → Disk → Prop} {M : Means Dev} {n : Nat} {w0 w w' : World} {d r : Value} {D E F : Disk} {B C B' : Nat → Prop} {g : Nat} {what k p : Int} {s : ByteArray} {m : Nat}
theorem DoesIn.start (h : Two Dev n w d r D E B C) (M : Means Dev) (hn : n ≤ w.heap.size) (t : TypeId) : DoesIn Dev n w (w.alloc (.cells #[.int .i64 what, .int .i64 k, .int .i64 p, .string s, .int .u64 m] t)) d r D E B C w.heap.size what k p s m :=
  ⟨h.below M ((Below.refl _ _).alloc (Nat.le_refl _) _), ActAt.new w t what k p s m, fun b => by have := M.lt h.dev _ b; omega, fun c => by have := h.ref.lt _ c; omega, (Below.refl _ _).alloc hn _, by simp; omega⟩
theorem DoesIn.byDev (h : DoesIn Dev n w0 w d r D E B C g what k p s m) (hd : Dev w' B' d F) (ho : Only B w w') (hB : ∀ i, B' i → B i ∨ w.heap.size ≤ i) : DoesIn Dev n w0 w' d r F E B' C g what k p s m :=
  ⟨h.two.dev' hd ho hB h.big, h.act.keep (ho.block g h.act.lt h.offB) ho.size, fun b => (hB g b).elim h.offB (fun x => by have := h.act.lt; omega), h.offC, h.below.trans (h.two.belowB ho h.big), Nat.le_trans h.big ho.size⟩
theorem DoesIn.byRef (h : DoesIn Dev n w0 w d r D E B C g what k p s m) (M : Means Dev) (hd : Ref w' C r F) (ho : Only C w w') : DoesIn Dev n w0 w' d r D F B C g what k p s m :=
  ⟨h.two.ref' M hd ho, h.act.keep (ho.block g h.act.lt h.offC) ho.size, h.offB, h.offC, h.below.trans (h.two.belowC ho h.big), Nat.le_trans h.big ho.size⟩
theorem DoesIn.byBelow (h : DoesIn Dev n w0 w d r D E B C g what k p s m) (M : Means Dev) (hb : Below w.heap.size w w') : DoesIn Dev n w0 w' d r D E B C g what k p s m :=
  ⟨h.two.below M hb, h.act.keep (hb.block g h.act.lt) hb.size, h.offB, h.offC, h.below.trans (hb.mono h.big), Nat.le_trans h.big hb.size⟩
end

set_option maxHeartbeats 1000000 in
set_option maxRecDepth 100000 in
theorem does_write {Dev : World → (Nat → Prop) → Value → Disk → Prop} (MM : Kept (Means Dev)) (n : Nat) (w : World) (d r : Value) (D : Disk) (B C : Nat → Prop)
    (what k p : Int) (s : ByteArray) (m : Nat) (H0 : Kept (DoesIn Dev n w (w.alloc (.cells #[.int .i64 what, .int .i64 k, .int .i64 p, .string s, .int .u64 m] 33)) d r D D B C w.heap.size what k p s m))
    (HSs : Kept (s.size ≤ 1000000)) (HK0 : Kept (-9223372036854775808 ≤ k)) (HK1 : Kept (k ≤ 9223372036854775807)) (c : Int) (hc : bits .and .i64 what 7 = c) (h5 : c ≠ 5) (h6 : c ≠ 6) (h7 : c ≠ 7) :
    Calls Try.prog 9 #[d, r, .agg #[.int .i64 what, .int .i64 k, .int .i64 p, .string s, .int .u64 m]] w fun e w' => e = .returned (.bool true) ∧ (∃ B' C' D', Two Dev n w' d r D' D' B' C') ∧ Below n w w' := by
  have g5 : (c == 5) = false := by simpa using h5
  have g6 : (c == 6) = false := by simpa using h6
  have g7 : (c == 7) = false := by simpa using h7
  clear h5 h6 h7
  obtain ⟨x, hx⟩ : ∃ x, D.write k (toL s) = x := ⟨_, rfl⟩
  obtain ⟨x1, x2⟩ := x
  have HX := Kept.mk hx
  clear hx
  go_enter Try.func9, Try.ntmps9
  go_wp2
  have A0 := H0.out.act
  generalize w.alloc (.cells #[.int .i64 what, .int .i64 k, .int .i64 p, .string s, .int .u64 m] 33) = w0 at H0 A0 ⊢
  have HA := Kept.mk A0
  clear A0 hc g5 g6 g7
  have a1 := HA.out.c1
  have a3 := HA.out.c3
  generalize w.heap.size = g at *
  go_region_held3 (fun w' => w'.cell? ⟨g, 1, none⟩ = some (.int .i64 k) ∧ w'.cell? ⟨g, 3, none⟩ = some (.string s))
    (first
      | go_keep
      | exact ⟨d1, d3⟩
      | exact ⟨e1, e3⟩)
    (first
      | (go_at_call 11
         refine (MM.out.write (H0.out.byBelow MM.out (Below.refl _ _).drew).two.dev k s HK0.out HK1.out HSs.out).mono ?_
         rintro e w1 ⟨B1, rfl, hd, ho, hB⟩
         rw [HX.out] at hd ⊢
         have H1 := Kept.mk ((H0.out.byBelow MM.out (Below.refl _ _).drew).byDev hd ho hB)
         obtain ⟨_, _, d1, _, d3, _⟩ := H1.out.act
         clear hd ho hB)
      | (go_at_call 20
         refine (H1.out.two.ref.write k s HK0.out HK1.out HSs.out).mono ?_
         rintro e w2 ⟨rfl, hd, ho⟩
         rw [HX.out] at hd ⊢
         have H2 := Kept.mk (H1.out.byRef MM.out hd ho)
         obtain ⟨_, _, e1, _, e3, _⟩ := H2.out.act
         clear hd ho))
  all_goals
    go_wp2
    go_ret
    exact ⟨rfl, ⟨_, _, _, H2.out.two⟩, H2.out.below⟩

end Dv
end Go.Proofs.Yticgecbgeahijaa
