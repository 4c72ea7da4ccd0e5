/-
  begun: a journal and the document's, each on a new device.
-/
import Derived.Test.YtmkpkmkhnphogaaGreatDoorPairM
import Derived.WalkKit
import Derived.BigCall
namespace Go.Proofs.YtmkpkmkhnphogaaGreatDoor
open Go.RowKit Tx Dv
namespace Jr

/-- The program's journal, and the document's device. -/
structure Three (Pp : World → (Nat → Prop) → Value → Value → Disk → Jn.Jour → Prop) (n : Nat) (w0 w : World) (U C : Nat → Prop) (d p r : Value) (D : Disk) (J : Jn.Jour) (E : Disk) : Prop where
  pr : Pp w U d p D J
  ref : Ref w C r E
  apart : ∀ k, U k → ¬ C k
  high : ∀ k, U k ∨ C k → n ≤ k
  below : Below n w0 w
  big : n ≤ w.heap.size
section
variable {K : World → Prop} {fO fR fA : FuncId} {Dev : World → (Nat → Prop) → Value → Disk → Prop} {Pp : World → (Nat → Prop) → Value → Value → Disk → Jn.Jour → Prop} {n x : Nat} {w0 w w' : World} {U V B C : Nat → Prop} {d p r q : Value} {D E : Disk} {J I : Jn.Jour}
/-- The program's device is opened. -/
theorem Two.opens (h : Two Dev n w d r D E B C) (hb : Below n w0 w) (hn : n ≤ w.heap.size) (hp : Pp w' U d p D J) (hU : ∀ i, U i → B i ∨ w.heap.size ≤ i) (hw : Below w.heap.size w w') : Three Pp n w0 w' U C d p r D J E := by
  refine ⟨hp, h.ref.keep (fun k hk => hw.block k (h.ref.lt k hk)) hw.size, fun k hk hc => ?_, fun k hk => ?_, hb.trans (hw.mono hn), Nat.le_trans hn hw.size⟩
  · rcases hU k hk with h1 | h1
    · exact h.apart k h1 hc
    · have := h.ref.lt k hc; omega
  · rcases hk with h1 | h1
    · rcases hU k h1 with h2 | h2
      · exact h.high k (.inl h2)
      · omega
    · exact h.high k (.inr h1)
/-- Then the document's. -/
theorem Three.opens (h : Three Pp n w0 w U C d p r D J E) (M4 : Jour4 K fO fR fA Dev Pp) (hp : Rp w' V r q E I) (hV : ∀ i, V i → C i ∨ w.heap.size ≤ i) (hw : Below w.heap.size w w') : Four Pp n w0 w' U V d p r q D J E I := by
  refine ⟨M4.keep h.pr (fun k hk => hw.block k (M4.lt h.pr k hk)) hw.size, hp, fun k hk hc => ?_, fun k hk => ?_, h.below.trans (hw.mono h.big), Nat.le_trans h.big hw.size⟩
  · rcases hV k hc with h1 | h1
    · exact h.apart k hk h1
    · have := M4.lt h.pr k hk; omega
  · rcases hk with h1 | h1
    · exact h.high k (.inl h1)
    · rcases hV k h1 with h2 | h2
      · exact h.high k (.inr h2)
      · have := h.big; omega
/-- Both, and the pair in a block of its own. -/
theorem Four.duo (h : Four Pp n w0 w U V d p r q D J E I) (M4 : Jour4 K fO fR fA Dev Pp) (t : TypeId) : Duo Pp n w0 w0 (fun _ => False) (w.alloc (.cells #[d, p, r, q] t)) w.heap.size U V d p r q p q D J E I :=
  ⟨h.byBelow M4 ((Below.refl _ _).alloc (Nat.le_refl _) _), PairAt.new w t d p r q, fun u => by have := M4.lt h.pr _ u; omega, fun v => by have := refJour.lt h.rp _ v; omega, h.big, fun _ f => f.elim⟩
end

set_option maxHeartbeats 2000000 in
set_option maxRecDepth 100000 in
theorem begun_any {K : World → Prop} {Dev : World → (Nat → Prop) → Value → Disk → Prop} {Pp : World → (Nat → Prop) → Value → Value → Disk → Jn.Jour → Prop} (M : Means Dev)
    (M4 : Jour4 K 18 13 20 Dev Pp) (w0 w : World) (hK : ∀ w', Below w0.heap.size w0 w' → K w') (hb0 : Below w0.heap.size w0 w) (n : Nat) (h1 : 1 ≤ n) (h2 : n ≤ 4096) :
    Calls Tryz.prog 10 #[.int .i64 n] w fun e w' => ∃ x U V d p r q, e = .returned (.tuple #[.pointer (some ⟨x, 0, none⟩), .bool true]) ∧ Duo Pp w0.heap.size w0 w0 (fun _ => False) w' x U V d p r q p q (fresh n) ⟨[], 0⟩ (fresh n) ⟨[], 0⟩ := by
  have HD : Kept (Calls Tryz.prog 23 #[.int .i64 n] w fun e w' => ∃ B a, e = .returned (.tuple #[.pointer (some a), .int .i64 0]) ∧ DvIn Dev w0.heap.size w0 w' B (.pointer (some a)) (fresh n)) := ⟨(M.newOk n w h1 h2).mono (by
    rintro e w' ⟨B, p, rfl, hd, hB, hb2⟩
    obtain ⟨a, rfl⟩ := M.ptr hd
    exact ⟨B, a, rfl, hd, hb0.trans (hb2.mono hb0.size), fun k hk => Nat.le_trans hb0.size (hB k hk), Nat.le_trans hb0.size hb2.size⟩)⟩
  have HE : Kept (∀ w1 B d, DvIn Dev w0.heap.size w0 w1 B d (fresh n) → Calls Tryz.prog 29 #[.int .i64 n] w1 fun e w' => ∃ C c, e = .returned (.tuple #[.pointer (some c), .int .i64 0]) ∧ (Two Dev w0.heap.size w' d (.pointer (some c)) (fresh n) (fresh n) B C ∧ Below w0.heap.size w0 w' ∧ w0.heap.size ≤ w'.heap.size)) := ⟨fun w1 B d h => (Ref.new n w1 h1 h2).mono (by
    rintro e w' ⟨C, p, rfl, hd, hC, hb2⟩
    obtain ⟨c, rfl⟩ := hd.ptr
    refine ⟨C, c, rfl, ⟨M.keep h.dev (fun k hk => hb2.block k (M.lt h.dev k hk)) hb2.size, hd, fun k hk hc => ?_, fun k hk => ?_⟩, h.below.trans (hb2.mono h.big), Nat.le_trans h.big hb2.size⟩
    · have := M.lt h.dev k hk
      have := hC k hc
      omega
    · rcases hk with hk | hk
      · exact h.high k hk
      · exact Nat.le_trans h.big (hC k hk))⟩
  have HJ : Kept (∀ w1 d r B C, (Two Dev w0.heap.size w1 d r (fresh n) (fresh n) B C ∧ Below w0.heap.size w0 w1 ∧ w0.heap.size ≤ w1.heap.size) → Calls Tryz.prog 18 #[d] w1 fun e w' => ∃ U a, e = .returned (.pointer (some a)) ∧ Three Pp w0.heap.size w0 w' U C d (.pointer (some a)) r (fresh n) ⟨[], 0⟩ (fresh n)) := ⟨fun w1 d r B C h => (M4.opens (hK w1 h.2.1) h.1.dev).mono (by
    rintro e w' ⟨U, p, L, a, rfl, hp, ho, hU, hb2⟩
    obtain ⟨rfl, rfl⟩ := opened_fresh_is h1 h2 ho
    obtain ⟨x, rfl⟩ := M4.ptr hp
    exact ⟨U, x, rfl, Two.opens h.1 h.2.1 h.2.2 hp hU hb2⟩)⟩
  have HR : Kept (∀ w1 U C d p r, Three Pp w0.heap.size w0 w1 U C d p r (fresh n) ⟨[], 0⟩ (fresh n) → Calls Tryz.prog 19 #[r] w1 fun e w' => ∃ V c, e = .returned (.pointer (some c)) ∧ Four Pp w0.heap.size w0 w' U V d p r (.pointer (some c)) (fresh n) ⟨[], 0⟩ (fresh n) ⟨[], 0⟩) := ⟨fun w1 U C d p r h => (refJour.opens trivial h.ref).mono (by
    rintro e w' ⟨V, q, L, a, rfl, hp, ho, hV, hb2⟩
    obtain ⟨rfl, rfl⟩ := opened_fresh_is h1 h2 ho
    obtain ⟨x, rfl⟩ := refJour.ptr hp
    exact ⟨V, x, rfl, h.opens M4 hp hV hb2⟩)⟩
  have HF : Kept (∀ w1 U V d p r q, Four Pp w0.heap.size w0 w1 U V d p r q (fresh n) ⟨[], 0⟩ (fresh n) ⟨[], 0⟩ → Duo Pp w0.heap.size w0 w0 (fun _ => False) (w1.alloc (.cells #[d, p, r, q] 38)) w1.heap.size U V d p r q p q (fresh n) ⟨[], 0⟩ (fresh n) ⟨[], 0⟩) := ⟨fun w1 U V d p r q h => h.duo M4 _⟩
  have HDr : Kept (∀ w1 x U V d p r q, Duo Pp w0.heap.size w0 w0 (fun _ => False) w1 x U V d p r q p q (fresh n) ⟨[], 0⟩ (fresh n) ⟨[], 0⟩ → ∀ w2, Below w1.heap.size w1 w2 → Duo Pp w0.heap.size w0 w0 (fun _ => False) w2 x U V d p r q p q (fresh n) ⟨[], 0⟩ (fresh n) ⟨[], 0⟩) := ⟨fun w1 x U V d p r q h w2 hb => h.byBelow M4 hb⟩
  have hpd := eqD
  have hpr := eqR
  have hpj := neqJ
  clear M M4 hK hb0 h1 h2
  go_enter Tryz.func10, Tryz.ntmps10
  go_wp2_with (first
    | (go_at_call 23; refine HD.out.mono ?_; rintro e w1 ⟨B, a, rfl, h⟩; have K0 := Kept.mk h; clear h)
    | (go_at_call 29; refine (HE.out _ _ _ K0.out).mono ?_; rintro e w2 ⟨C, c, rfl, h⟩; have K1 := Kept.mk h; clear h)
    | (go_at_call 18; refine (HJ.out _ _ _ _ _ K1.out).mono ?_; rintro e w3 ⟨U, b, rfl, h⟩; have K2 := Kept.mk h; clear h)
    | (go_at_call 19; refine (HR.out _ _ _ _ _ _ K2.out).mono ?_; rintro e w4 ⟨V, k, rfl, h⟩; have K3 := Kept.mk (HF.out _ _ _ _ _ _ _ h); have hc1 := K3.out.at'.c1; clear h))
  generalize w4.heap.size = x at *
  generalize w4.alloc _ = w5 at *
  go_quiet (fail)
  go_wp2
  go_ret2
  exact ⟨_, U, V, _, _, _, _, rfl, HDr.out _ _ _ _ _ _ _ _ K3.out _ (below_drewN (Below.refl _ _) _)⟩
end Jr
end Go.Proofs.YtmkpkmkhnphogaaGreatDoor
