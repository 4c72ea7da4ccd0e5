/-
  A journal and the document's, side by side, in the law's own pair.
-/
import Derived.Test.YtmkpkmkhnphogaaGreatDoorJlawM
import Derived.Test.YtmkpkmkhnphogaaGreatDoorJmeansM
import Derived.Test.YtmkpkmkhnphogaaGreatDoorDsameM
import Derived.Deep.RegionHeld3
import Derived.Deep.DeepCutAuto
namespace Go.Proofs.YtmkpkmkhnphogaaGreatDoor
open Go.RowKit Tx Dv
namespace Jr

/-- Both, each on a device of its own. -/
structure Four (Pp : World → (Nat → Prop) → Value → Value → Disk → Jn.Jour → Prop) (n : Nat) (w0 w : World) (U V : Nat → Prop) (d p r q : Value) (D : Disk) (J : Jn.Jour) (E : Disk) (I : Jn.Jour) : Prop where
  pr : Pp w U d p D J
  rp : Rp w V r q E I
  apart : ∀ k, U k → ¬ V k
  high : ∀ k, U k ∨ V k → n ≤ k
  below : Below n w0 w
  big : n ≤ w.heap.size
/-- The pair at block x. -/
structure PairAt (w : World) (x : Nat) (d p r q : Value) : Prop where
  lt : x < w.heap.size
  c0 : w.cell? ⟨x, 0, none⟩ = some d
  c1 : w.cell? ⟨x, 1, none⟩ = some p
  c2 : w.cell? ⟨x, 2, none⟩ = some r
  c3 : w.cell? ⟨x, 3, none⟩ = some q
  free : ∀ j, j < 4 → w.frozen? ⟨x, j, none⟩ = false
/-- All of it; cp and cq are the journals that the pair holds; Z are blocks that stand as in w1. -/
structure Duo (Pp : World → (Nat → Prop) → Value → Value → Disk → Jn.Jour → Prop) (n : Nat) (w0 w1 : World) (Z : Nat → Prop) (w : World) (x : Nat) (U V : Nat → Prop) (d p r q cp cq : Value) (D : Disk) (J : Jn.Jour) (E : Disk) (I : Jn.Jour) : Prop where
  four : Four Pp n w0 w U V d p r q D J E I
  at' : PairAt w x d cp r cq
  offU : ¬ U x
  offV : ¬ V x
  lo : n ≤ x
  side : ∀ g, Z g → g < w.heap.size ∧ ¬ U g ∧ ¬ V g ∧ g ≠ x ∧ w.heap[g]? = w1.heap[g]?
section
variable {K : World → Prop} {fO fR fA : FuncId} {Dev : World → (Nat → Prop) → Value → Disk → Prop} {Pp : World → (Nat → Prop) → Value → Value → Disk → Jn.Jour → Prop} {n x : Nat} {w0 w1 w w' : World} {Z U U' V V' : Nat → Prop} {d p r q p' q' cp cq : Value} {D D' E E' : Disk} {J J' I I' : Jn.Jour}
theorem PairAt.keep (h : PairAt w x d p r q) (hb : w'.heap[x]? = w.heap[x]?) (hs : w.heap.size ≤ w'.heap.size) : PairAt w' x d p r q :=
  ⟨Nat.lt_of_lt_of_le h.lt hs, (World.cell?_of_block (w := w) (a := ⟨x, 0, none⟩) hb).trans h.c0, (World.cell?_of_block (w := w) (a := ⟨x, 1, none⟩) hb).trans h.c1, (World.cell?_of_block (w := w) (a := ⟨x, 2, none⟩) hb).trans h.c2, (World.cell?_of_block (w := w) (a := ⟨x, 3, none⟩) hb).trans h.c3,
    fun j hj => (World.frozen?_of_block (w := w) (a := ⟨x, j, none⟩) hb).trans (h.free j hj)⟩
theorem PairAt.new (w : World) (t : TypeId) (d p r q : Value) : PairAt (w.alloc (.cells #[d, p, r, q] t)) w.heap.size d p r q := by
  have hc : ∀ j, (w.alloc (.cells #[d, p, r, q] t)).cell? ⟨w.heap.size, j, none⟩ = (#[d, p, r, q] : Array Value)[j]? := fun j => cell_of_row _ _ j _ _ (0, 0) (heap_alloc_new w _)
  exact ⟨by simp, hc 0, hc 1, hc 2, hc 3, fun j _ => frozen_of_row _ _ j _ _ (heap_alloc_new w _)⟩
theorem Four.byBelow (h : Four Pp n w0 w U V d p r q D J E I) (M4 : Jour4 K fO fR fA Dev Pp) (hb : Below w.heap.size w w') : Four Pp n w0 w' U V d p r q D J E I :=
  ⟨M4.keep h.pr (fun k hk => hb.block k (M4.lt h.pr k hk)) hb.size, refJour.keep h.rp (fun k hk => hb.block k (refJour.lt h.rp k hk)) hb.size, h.apart, h.high, h.below.trans (hb.mono h.big), Nat.le_trans h.big hb.size⟩
theorem Duo.byBelow (h : Duo Pp n w0 w1 Z w x U V d p r q cp cq D J E I) (M4 : Jour4 K fO fR fA Dev Pp) (hb : Below w.heap.size w w') : Duo Pp n w0 w1 Z w' x U V d p r q cp cq D J E I :=
  ⟨h.four.byBelow M4 hb, h.at'.keep (hb.block x h.at'.lt) hb.size, h.offU, h.offV, h.lo, fun g hg => by obtain ⟨a1, a2, a3, a4, a5⟩ := h.side g hg; exact ⟨Nat.lt_of_lt_of_le a1 hb.size, a2, a3, a4, (hb.block g a1).trans a5⟩⟩
/-- The program's side has turned. -/
theorem Duo.byP (h : Duo Pp n w0 w1 Z w x U V d p r q cp cq D J E I) (hp : Pp w' U' d p' D' J') (ho : Only U w w') (hU : ∀ i, U' i → U i ∨ w.heap.size ≤ i) : Duo Pp n w0 w1 Z w' x U' V d p' r q cp cq D' J' E I := by
  refine ⟨⟨hp, refJour.keep h.four.rp (fun k hk => ho.block k (refJour.lt h.four.rp k hk) (fun u => h.four.apart k u hk)) ho.size, fun k hk hv => ?_, fun k hk => ?_, h.four.below.trans (ho.toBelow (fun k hk b => by have := h.four.high k (.inl b); omega) h.four.big), Nat.le_trans h.four.big ho.size⟩, h.at'.keep (ho.block x h.at'.lt h.offU) ho.size, fun hx => ?_, h.offV, h.lo, fun g hg => by obtain ⟨a1, a2, a3, a4, a5⟩ := h.side g hg; exact ⟨Nat.lt_of_lt_of_le a1 ho.size, fun u => (hU g u).elim a2 (fun y => by omega), a3, a4, (ho.block g a1 a2).trans a5⟩⟩
  · rcases hU k hk with h1 | h1
    · exact h.four.apart k h1 hv
    · have := refJour.lt h.four.rp k hv; omega
  · rcases hk with h1 | h1
    · rcases hU k h1 with h2 | h2
      · exact h.four.high k (.inl h2)
      · have := h.four.big; omega
    · exact h.four.high k (.inr h1)
  · rcases hU x hx with h1 | h1
    · exact h.offU h1
    · have := h.at'.lt; omega
/-- The document's side has turned. -/
theorem Duo.byR (h : Duo Pp n w0 w1 Z w x U V d p r q cp cq D J E I) (M4 : Jour4 K fO fR fA Dev Pp) (hp : Rp w' V' r q' E' I') (ho : Only V w w') (hV : ∀ i, V' i → V i ∨ w.heap.size ≤ i) : Duo Pp n w0 w1 Z w' x U V' d p r q' cp cq D J E' I' := by
  refine ⟨⟨M4.keep h.four.pr (fun k hk => ho.block k (M4.lt h.four.pr k hk) (fun v => h.four.apart k hk v)) ho.size, hp, fun k hk hv => ?_, fun k hk => ?_, h.four.below.trans (ho.toBelow (fun k hk b => by have := h.four.high k (.inr b); omega) h.four.big), Nat.le_trans h.four.big ho.size⟩, h.at'.keep (ho.block x h.at'.lt h.offV) ho.size, h.offU, fun hx => ?_, h.lo, fun g hg => by obtain ⟨a1, a2, a3, a4, a5⟩ := h.side g hg; exact ⟨Nat.lt_of_lt_of_le a1 ho.size, a2, fun u => (hV g u).elim a3 (fun y => by omega), a4, (ho.block g a1 a3).trans a5⟩⟩
  · rcases hV k hv with h1 | h1
    · exact h.four.apart k hk h1
    · have := M4.lt h.four.pr k hk; omega
  · rcases hk with h1 | h1
    · exact h.four.high k (.inl h1)
    · rcases hV k h1 with h2 | h2
      · exact h.four.high k (.inr h2)
      · have := h.four.big; omega
  · rcases hV x hx with h1 | h1
    · exact h.offV h1
    · have := h.at'.lt; omega
/-- Other blocks are watched. -/
theorem Duo.watch (h : Duo Pp n w0 w1 Z w x U V d p r q cp cq D J E I) (w2 : World) (Y : Nat → Prop) (hY : ∀ g, Y g → g < w.heap.size ∧ ¬ U g ∧ ¬ V g ∧ g ≠ x ∧ w.heap[g]? = w2.heap[g]?) : Duo Pp n w0 w2 Y w x U V d p r q cp cq D J E I :=
  ⟨h.four, h.at', h.offU, h.offV, h.lo, hY⟩
theorem Duo.blind (h : Duo Pp n w0 w1 Z w x U V d p r q cp cq D J E I) : Duo Pp n w0 w0 (fun _ => False) w x U V d p r q cp cq D J E I := h.watch _ _ (fun _ f => f.elim)
/-- Something is done with the program's device. -/
theorem Duo.devP (h : Duo Pp n w0 w1 Z w x U V d p r q cp cq D J E I) (M4 : Jour4 K fO fR fA Dev Pp) : ∃ B, Dev w B d D ∧ ∀ w' B' D', Dev w' B' d D' → D'.S.length = D.S.length → Only B w w' → (∀ i, B' i → B i ∨ w.heap.size ≤ i) → ∃ U', Duo Pp n w0 w1 Z w' x U' V d p r q cp cq D' J E I := by
  obtain ⟨B, hBU, hd, hc⟩ := M4.dev h.four.pr
  refine ⟨B, hd, fun w' B' D' hd' hl ho hB => ?_⟩
  obtain ⟨U', hp, hU⟩ := hc w' B' D' hd' hl ho hB
  exact ⟨U', h.byP hp (ho.mono fun i _ hi => hBU i hi) hU⟩
theorem Duo.devR (h : Duo Pp n w0 w1 Z w x U V d p r q cp cq D J E I) (M4 : Jour4 K fO fR fA Dev Pp) : ∃ B, Ref w B r E ∧ ∀ w' B' E', Ref w' B' r E' → E'.S.length = E.S.length → Only B w w' → (∀ i, B' i → B i ∨ w.heap.size ≤ i) → ∃ V', Duo Pp n w0 w1 Z w' x U V' d p r q cp cq D J E' I := by
  obtain ⟨B, hBV, hd, hc⟩ := refJour.dev h.four.rp
  refine ⟨B, hd, fun w' B' E' hd' hl ho hB => ?_⟩
  obtain ⟨V', hp, hV⟩ := hc w' B' E' hd' hl ho hB
  exact ⟨V', h.byR M4 hp (ho.mono fun i _ hi => hBV i hi) hV⟩
theorem Duo.two (h : Duo Pp n w0 w1 Z w x U V d p r q cp cq D J D I) (M4 : Jour4 K fO fR fA Dev Pp) : ∃ B C, Two Dev n w d r D D B C := by
  obtain ⟨B, hBU, hd, -⟩ := M4.dev h.four.pr
  obtain ⟨C, hCV, hr, -⟩ := refJour.dev h.four.rp
  exact ⟨B, C, hd, hr, fun k hb hc => h.four.apart k (hBU k hb) (hCV k hc), fun k hk => h.four.high k (hk.imp (hBU k) (hCV k))⟩
theorem Duo.ptrs (h : Duo Pp n w0 w1 Z w x U V d p r q cp cq D J E I) (M : Means Dev) (M4 : Jour4 K fO fR fA Dev Pp) : ∃ a b c e, d = .pointer (some a) ∧ p = .pointer (some b) ∧ r = .pointer (some c) ∧ q = .pointer (some e) := by
  obtain ⟨B, _, hd, -⟩ := M4.dev h.four.pr
  obtain ⟨C, _, hr, -⟩ := refJour.dev h.four.rp
  obtain ⟨a, ha⟩ := M.ptr hd
  obtain ⟨b, hb⟩ := M4.ptr h.four.pr
  obtain ⟨c, hc⟩ := hr.ptr
  obtain ⟨e, he⟩ := refJour.ptr h.four.rp
  exact ⟨a, b, c, e, ha, hb, hc, he⟩
end
end Jr
end Go.Proofs.YtmkpkmkhnphogaaGreatDoor
