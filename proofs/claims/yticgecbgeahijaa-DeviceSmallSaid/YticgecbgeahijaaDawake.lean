/-
  What any right program answers; have both devices the same sectors.
-/
import Derived.Test.YticgecbgeahijaaIf
import Derived.Laws.Pointers
import Derived.Laws.Strings3
import Derived.Laws.Slices
namespace Go.Proofs.Yticgecbgeahijaa
open Go.RowKit Tx
namespace Dv

theorem eqD (a : Addr) (W : World) : (binOp .eql 23 (.pointer (some a)) (.pointer none)).run Try.prog W = .ok (.bool false) W := by
  have h : Try.prog.underlying 23 = some (.pointer (Try.prog.pointee 23)) := by kernel_rfl
  rw [run_eql_pointer_nil W _ _ h]
  rfl
theorem eqR (a : Addr) (W : World) : (binOp .eql 27 (.pointer (some a)) (.pointer none)).run Try.prog W = .ok (.bool false) W := by
  have h : Try.prog.underlying 27 = some (.pointer (Try.prog.pointee 27)) := by kernel_rfl
  rw [run_eql_pointer_nil W _ _ h]
  rfl
/-- The program's device alone, in blocks from n on. -/
structure One (Dev : World → (Nat → Prop) → Value → Disk → Prop) (n : Nat) (w0 w : World) (d : Value) (D : Disk) (B : Nat → Prop) : Prop where
  dev : Dev w B d D
  high : ∀ k, B k → n ≤ k
  below : Below n w0 w
  big : n ≤ w.heap.size
section
variable {Dev : World → (Nat → Prop) → Value → Disk → Prop} {n : Nat} {w0 w w' : World} {d : Value} {D F : Disk} {B B' : Nat → Prop}
theorem One.byDev (h : One Dev n w0 w d D B) (hd : Dev w' B' d F) (ho : Only B w w') (hB : ∀ i, B' i → B i ∨ w.heap.size ≤ i) : One Dev n w0 w' d F B' :=
  ⟨hd, fun k hk => (hB k hk).elim (h.high k) (fun x => Nat.le_trans h.big x), h.below.trans (ho.toBelow (fun k hk b => by have := h.high k b; omega) h.big), Nat.le_trans h.big ho.size⟩
theorem One.byBelow (h : One Dev n w0 w d D B) (M : Means Dev) (hb : Below w.heap.size w w') : One Dev n w0 w' d D B :=
  ⟨M.keep h.dev (fun k hk => hb.block k (M.lt h.dev k hk)) hb.size, h.high, h.below.trans (hb.mono h.big), Nat.le_trans h.big hb.size⟩
end

def dA : Disk := (fresh 2).limit 1 1
def dB : Disk := (dA.write 0 [97, 98]).2
def dC : Disk := (dB.write 0 [99, 100]).2
theorem a1 : (dA.write 0 [97, 98]).1 = 0 := by decide +kernel
theorem a2 : (dB.write 0 [99, 100]).1 = 13 := by decide +kernel
theorem a3 : (dC.read 0).2 = 0 := by decide +kernel
theorem a4 : (dC.read 0).1.length = 64 := by decide +kernel
theorem a5 : (dC.read 0).1.take 3 = [99, 98, 0] := by decide +kernel
theorem a6 : dC.S.length = 2 := by decide +kernel

set_option maxHeartbeats 1000000 in
set_option maxRecDepth 100000 in
theorem awake_any {Dev : World → (Nat → Prop) → Value → Disk → Prop} (M : Means Dev) (w : World) :
    Calls Try.prog 8 #[] w fun e w' => e = .returned (.bool true) ∧ Below w.heap.size w w' := by
  have H0 : Kept (∀ w, Calls Try.prog 6 #[.int .i64 2] w fun e w' => ∃ B a, e = .returned (.tuple #[.pointer (some a), .int .i64 0]) ∧ One Dev w.heap.size w w' (.pointer (some a)) (fresh 2) B) := ⟨fun w => (M.newOk 2 w (by omega) (by omega)).mono (by
    rintro e w' ⟨B, p, rfl, hd, hB, hb⟩
    obtain ⟨a, rfl⟩ := M.ptr hd
    exact ⟨B, a, rfl, hd, hB, hb, hb.size⟩)⟩
  have H1 : Kept (∀ w0 w d B n, One Dev n w0 w d (fresh 2) B → Calls Try.prog 13 #[d, .int .i64 1, .int .u64 1] w fun e w' => ∃ B', e = .returned (.tuple #[]) ∧ One Dev n w0 w' d dA B') := ⟨fun w0 w d B n h => (M.limit h.dev 1 1 (by decide) (by decide) (by decide)).mono (by
    rintro e w' ⟨B', rfl, hd, ho, hB⟩
    exact ⟨B', rfl, h.byDev hd ho hB⟩)⟩
  have H2 : Kept (∀ w0 w d B n, One Dev n w0 w d dA B → Calls Try.prog 11 #[d, .int .i64 0, .string ⟨#[97, 98]⟩] w fun e w' => ∃ B', e = .returned (.int .i64 0) ∧ One Dev n w0 w' d dB B') := ⟨fun w0 w d B n h => (M.write h.dev 0 ⟨#[97, 98]⟩ (by decide) (by decide) (by decide)).mono (by
    rintro e w' ⟨B', rfl, hd, ho, hB⟩
    exact ⟨B', by rw [show (dA.write 0 (toL ⟨#[97, 98]⟩)).1 = 0 from a1], h.byDev hd ho hB⟩)⟩
  have H3 : Kept (∀ w0 w d B n, One Dev n w0 w d dB B → Calls Try.prog 11 #[d, .int .i64 0, .string ⟨#[99, 100]⟩] w fun e w' => ∃ B', e = .returned (.int .i64 13) ∧ One Dev n w0 w' d dC B') := ⟨fun w0 w d B n h => (M.write h.dev 0 ⟨#[99, 100]⟩ (by decide) (by decide) (by decide)).mono (by
    rintro e w' ⟨B', rfl, hd, ho, hB⟩
    exact ⟨B', by rw [show (dB.write 0 (toL ⟨#[99, 100]⟩)).1 = 13 from a2], h.byDev hd ho hB⟩)⟩
  have H4 : Kept (∀ w0 w d B n, One Dev n w0 w d dC B → Calls Try.prog 12 #[d, .int .i64 0] w fun e w' => ∃ t : ByteArray, e = .returned (.tuple #[.string t, .int .i64 0]) ∧ One Dev n w0 w' d dC B ∧ Kept (t.size = 64) ∧ Kept (((t.extract 0 3).toList == [99, 98, 0]) = true)) := ⟨fun w0 w d B n h => (M.read h.dev 0 (by decide) (by decide)).mono (by
    rintro e w' ⟨t, rfl, ht, hb⟩
    refine ⟨t, by rw [a3], h.byBelow M hb, ⟨by rw [ht.out, bs_size]; exact a4⟩, ⟨?_⟩⟩
    have e : (t.extract 0 3).toList = [99, 98, 0] := by
      rw [ByteArray.toList_eq]
      show toL (t.extract 0 3) = _
      rw [toL_extract, ht.out, toL_bs]
      exact a5
    rw [e]
    rfl)⟩
  have H5 : Kept (∀ w0 w d B n, One Dev n w0 w d dC B → Calls Try.prog 16 #[d] w fun e w' => e = .returned (.int .i64 2) ∧ Below n w0 w') := ⟨fun w0 w d B n h => (M.size h.dev).mono (by
    rintro e w' ⟨rfl, hb⟩
    exact ⟨by rw [a6]; rfl, h.below.trans (hb.mono h.big)⟩)⟩
  clear M
  have hpd := eqD
  go_enter Try.func8, Try.ntmps8
  go_wp2_with (first
    | (go_at_call 6; refine (H0.out w).mono ?_; rintro e w1 ⟨B0, a, rfl, h⟩; have K0 := Kept.mk h; clear h)
    | (go_at_call 13; refine (H1.out _ _ _ _ _ K0.out).mono ?_; rintro e w2 ⟨B1, rfl, h⟩; have K1 := Kept.mk h; clear h)
    | (have := H2; go_at_call 11; refine (H2.out _ _ _ _ _ K1.out).mono ?_; rintro e w3 ⟨B2, rfl, h⟩; have K2 := Kept.mk h; clear h H2)
    | (go_at_call 11; refine (H3.out _ _ _ _ _ K2.out).mono ?_; rintro e w4 ⟨B3, rfl, h⟩; have K3 := Kept.mk h; clear h)
    | (go_at_call 12
       refine (H4.out _ _ _ _ _ K3.out).mono ?_
       rintro e w5 ⟨t, rfl, h, ht, hE⟩
       have K4 := Kept.mk h
       have hs := ht.out
       have hz2 : (t.size : Int) = 64 := by omega
       have hto : ∀ W : World, (Instr.slice 9 (.string t) none (some (.int .i64 3)) none).run Try.prog W = .ok (.string (t.extract 0 3)) W := fun W => by
         rw [run_slice_string_to_if W 9 t .i64 _ Try.underlying9, if_pos ⟨by omega, by omega⟩]
         rfl
       have hEE := hE.out
       clear h)
    | (go_at_call 16; refine (H5.out _ _ _ _ _ K4.out).mono ?_; rintro e w6 ⟨rfl, h⟩; have K5 := Kept.mk h; clear h))
  go_ret
  exact ⟨rfl, K5.out⟩

/-- Same's loop. -/
structure SameIn (Dev : World → (Nat → Prop) → Value → Disk → Prop) (n : Nat) (w0 w : World) (d r : Value) (D : Disk) (B C : Nat → Prop) : Prop where
  two : Two Dev n w d r D D B C
  below : Below w0.heap.size w0 w
theorem SameIn.on {Dev : World → (Nat → Prop) → Value → Disk → Prop} {n : Nat} {w0 w w' : World} {d r : Value} {D : Disk} {B C : Nat → Prop} (h : SameIn Dev n w0 w d r D B C) (M : Means Dev) (hb : Below w.heap.size w w') : SameIn Dev n w0 w' d r D B C :=
  ⟨h.two.below M hb, h.below.trans (hb.mono h.below.size)⟩

set_option maxHeartbeats 1000000 in
set_option maxRecDepth 100000 in
theorem same_any {Dev : World → (Nat → Prop) → Value → Disk → Prop} (M : Means Dev) (n : Nat) (w : World) (d r : Value) (D : Disk) (B C : Nat → Prop) (h : Two Dev n w d r D D B C) :
    Calls Try.prog 10 #[d, r] w fun e w' => e = .returned (.bool true) ∧ Below w.heap.size w w' := by
  have hf := (M.ok h.dev).1.few
  have H0 : Kept (SameIn Dev n w w d r D B C) := ⟨⟨h, Below.refl _ _⟩⟩
  have MM := Kept.mk M
  obtain ⟨len, hl⟩ : ∃ x, D.S.length = x := ⟨_, rfl⟩
  rw [hl] at hf
  have HL := Kept.mk hl
  clear M h hl
  go_enter Try.func10, Try.ntmps10
  go_wp2_with (first
    | (go_at_call 16; refine (MM.out.size H0.out.two.dev).mono ?_; rintro e w1 ⟨rfl, hb⟩; have H1 := Kept.mk (H0.out.on MM.out hb); clear hb; rw [HL.out])
    | (go_at_call 21; refine (H1.out.two.ref.size).mono ?_; rintro e w2 ⟨rfl, rfl⟩; rw [HL.out]))
  go_loopw [5] (fun x wr => ∃ j : Nat, j ≤ len ∧ x = .int .i64 j ∧ Kept (SameIn Dev n w wr d r D B C)) (fun x _ => len - (intOf x).toNat)
  case atStart => exact ⟨0, by omega, rfl, H1⟩
  case round =>
    obtain ⟨j, hj, rfl, HI⟩ := hrel
    have HSz : Kept (Calls Try.prog 21 #[r] wr fun e w' => e = .returned (.int .i64 len) ∧ w' = wr) := ⟨HI.out.two.ref.size.mono fun e w' ⟨he, hw⟩ => ⟨by rw [he, HL.out], hw⟩⟩
    by_cases hlt : j < len
    · go_wp2_with (first
        | (go_at_call 21; refine HSz.out.mono ?_; rintro e w2 ⟨rfl, rfl⟩)
        | (go_at_call 12; refine (MM.out.read HI.out.two.dev j (by omega) (by omega)).mono ?_; rintro e w3 ⟨t, rfl, ht, hb⟩; have H3 := Kept.mk (HI.out.on MM.out hb); clear hb; generalize (D.read j).2 = z1)
        | (go_at_call 19; refine (H3.out.two.ref.read j (by omega) (by omega)).mono ?_; rintro e w4 ⟨u, rfl, hu, rfl⟩; generalize (D.read j).2 = z2; have hE : (t.toList == u.toList) = true := by rw [beq_str, decide_eq_true (ht.out.trans hu.out.symm)]))
      go_roundw
      case rel => exact ⟨j + 1, by omega, by go_num, H3⟩
      case measure => simp [intOf]; omega
    · go_wp2_with (go_at_call 21; refine HSz.out.mono ?_; rintro e w2 ⟨rfl, rfl⟩)
      go_ret
      exact ⟨rfl, HI.out.below⟩
end Dv
end Go.Proofs.Yticgecbgeahijaa
