/-
  The two devices have the same sectors: the law's own look (Same), and pointers against nil.
-/
import Derived.Test.YtmkpkmkhnphogaaGreatDoorIfM
import Derived.Test.YtmkpkmkhnphogaaGreatDoorPtrDM
import Derived.Laws.Pointers
import Derived.Laws.Strings3
import Derived.Laws.Slices
namespace Go.Proofs.YtmkpkmkhnphogaaGreatDoor
open Go.RowKit Tx
namespace Dv
theorem eqR (a : Addr) (W : World) : (binOp .eql 35 (.pointer (some a)) (.pointer none)).run Tryz.prog W = .ok (.bool false) W := by
  have h : Tryz.prog.underlying 35 = some (.pointer (Tryz.prog.pointee 35)) := by kernel_rfl
  rw [run_eql_pointer_nil W _ _ h]
  rfl

/-- Same's loop. -/
structure SameIn (Dev : World → (Nat → Prop) → Value → Disk → Prop) (n : Nat) (w0 w : World) (d r : Value) (D : Disk) (B C : Nat → Prop) : Prop where
  two : Two Dev n w d r D D B C
  below : Below w0.heap.size w0 w
theorem SameIn.on {Dev : World → (Nat → Prop) → Value → Disk → Prop} {n : Nat} {w0 w w' : World} {d r : Value} {D : Disk} {B C : Nat → Prop} (h : SameIn Dev n w0 w d r D B C) (M : Means Dev) (hb : Below w.heap.size w w') : SameIn Dev n w0 w' d r D B C :=
  ⟨h.two.below M hb, h.below.trans (hb.mono h.below.size)⟩

set_option maxHeartbeats 1000000 in
set_option maxRecDepth 100000 in
theorem same_any {Dev : World → (Nat → Prop) → Value → Disk → Prop} (M : Means Dev) (n : Nat) (w : World) (d r : Value) (D : Disk) (B C : Nat → Prop) (h : Two Dev n w d r D D B C) :
    Calls Tryz.prog 15 #[d, r] w fun e w' => e = .returned (.bool true) ∧ Below w.heap.size w w' := by
  have hf := (M.ok h.dev).1.few
  have H0 : Kept (SameIn Dev n w w d r D B C) := ⟨⟨h, Below.refl _ _⟩⟩
  have MM := Kept.mk M
  obtain ⟨len, hl⟩ : ∃ x, D.S.length = x := ⟨_, rfl⟩
  rw [hl] at hf
  have HL := Kept.mk hl
  clear M h hl
  go_enter Tryz.func15, Tryz.ntmps15
  go_wp2_with (first
    | (go_at_call 32; refine (MM.out.size H0.out.two.dev).mono ?_; rintro e w1 ⟨rfl, hb⟩; have H1 := Kept.mk (H0.out.on MM.out hb); clear hb; rw [HL.out])
    | (go_at_call 33; refine (H1.out.two.ref.size).mono ?_; rintro e w2 ⟨rfl, rfl⟩; rw [HL.out]))
  go_loopw [5] (fun x wr => ∃ j : Nat, j ≤ len ∧ x = .int .i64 j ∧ Kept (SameIn Dev n w wr d r D B C)) (fun x _ => len - (intOf x).toNat)
  case atStart => exact ⟨0, by omega, rfl, H1⟩
  case round =>
    obtain ⟨j, hj, rfl, HI⟩ := hrel
    have HSz : Kept (Calls Tryz.prog 33 #[r] wr fun e w' => e = .returned (.int .i64 len) ∧ w' = wr) := ⟨HI.out.two.ref.size.mono fun e w' ⟨he, hw⟩ => ⟨by rw [he, HL.out], hw⟩⟩
    by_cases hlt : j < len
    · go_wp2_with (first
        | (go_at_call 33; refine HSz.out.mono ?_; rintro e w2 ⟨rfl, rfl⟩)
        | (go_at_call 28; refine (MM.out.read HI.out.two.dev j (by omega) (by omega)).mono ?_; rintro e w3 ⟨t, rfl, ht, hb⟩; have H3 := Kept.mk (HI.out.on MM.out hb); clear hb; generalize (D.read j).2 = z1)
        | (go_at_call 22; refine (H3.out.two.ref.read j (by omega) (by omega)).mono ?_; rintro e w4 ⟨u, rfl, hu, rfl⟩; generalize (D.read j).2 = z2; have hE : (t.toList == u.toList) = true := by rw [beq_str, decide_eq_true (ht.out.trans hu.out.symm)]))
      go_roundw
      case rel => exact ⟨j + 1, by omega, by go_num, H3⟩
      case measure => simp [intOf]; omega
    · go_wp2_with (go_at_call 33; refine HSz.out.mono ?_; rintro e w2 ⟨rfl, rfl⟩)
      go_ret
      exact ⟨rfl, HI.out.below⟩
end Dv
end Go.Proofs.YtmkpkmkhnphogaaGreatDoor
