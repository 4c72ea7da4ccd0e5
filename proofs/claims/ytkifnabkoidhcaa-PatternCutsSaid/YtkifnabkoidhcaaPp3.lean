/-
  The program's sets of bytes: a range is put in; what is in and what is not changes places.
-/
import Derived.Test.YtkifnabkoidhcaaPp2
namespace Go.Proofs.Ytkifnabkoidhcaa
open Go.RowKit Tx
namespace Pm

/-- The block b is a set: the byte i is in it just if f i. -/
structure BSet (w : World) (b : Nat) (f : Nat → Bool) : Prop where
  row : ∃ cs, w.heap[b]? = some (.cells cs 78 (0, 0)) ∧ cs.size = 256 ∧ ∀ i, i < 256 → cs[i]? = some (.bool (f i))
section
variable {w w' : World} {b : Nat} {f g : Nat → Bool}
theorem BSet.lt (h : BSet w b f) : b < w.heap.size := by obtain ⟨cs, h1, _⟩ := h.row; exact (Array.getElem?_eq_some_iff.1 h1).1
theorem BSet.cell (h : BSet w b f) {i : Nat} (hi : i < 256) : w.cell? ⟨b, i, none⟩ = some (.bool (f i)) := by
  obtain ⟨cs, h1, _, h3⟩ := h.row
  rw [cell_of_row w b i _ _ _ h1]
  exact h3 i hi
theorem BSet.free (h : BSet w b f) (i : Nat) : w.frozen? ⟨b, i, none⟩ = false := by obtain ⟨cs, h1, _⟩ := h.row; exact frozen_of_row w b i _ _ h1
theorem BSet.keep (h : BSet w b f) (hb : w'.heap[b]? = w.heap[b]?) : BSet w' b f := by obtain ⟨cs, h1, h2⟩ := h.row; exact ⟨cs, hb.trans h1, h2⟩
theorem BSet.below (h : BSet w b f) (hb : Below w.heap.size w w') : BSet w' b f := h.keep (hb.block b h.lt)
theorem BSet.drew (h : BSet w b f) : BSet w.drew b f := h.keep rfl
theorem BSet.as (h : BSet w b f) (hf : ∀ i, i < 256 → g i = f i) : BSet w b g := by
  obtain ⟨cs, h1, h2, h3⟩ := h.row
  exact ⟨cs, h1, h2, fun i hi => by rw [hf i hi]; exact h3 i hi⟩
theorem BSet.put (h : BSet w b f) {i : Nat} (hi : i < 256) (t : Bool) : BSet (w.setCell ⟨b, i, none⟩ (.bool t)) b (fun j => if j = i then t else f j) := by
  obtain ⟨cs, h1, h2, h3⟩ := h.row
  refine ⟨cs.setIfInBounds i (.bool t), heap_setCell_same w b i _ _ _ h1, by simpa using h2, fun j hj => ?_⟩
  rw [Array.getElem?_setIfInBounds]
  by_cases e : i = j
  · subst e; rw [if_pos rfl, if_pos (by omega), if_pos rfl]
  · rw [if_neg e, if_neg (fun k => e k.symm)]; exact h3 j hj
end
def zeroCells : Array Value := Array.replicate 256 (.bool false)
theorem zeroSet_run (W : World) : (zeroValue 78).run Try.prog W = .ok (.agg zeroCells) W := by kernel_rfl

set_option maxHeartbeats 1000000 in
set_option maxRecDepth 100000 in
theorem include_any (w : World) (b : Nat) (f : Nat → Bool) (x y : Nat) (hx : x < 256) (hy : y < 256) (h : BSet w b f) :
    Calls Try.prog 48 #[.pointer (some ⟨b, 0, none⟩), .int .u8 (x : Int), .int .u8 (y : Int)] w fun e w' => e = .returned (.tuple #[]) ∧ Kept (BSet w' b (fun i => f i || (decide (x ≤ i) && decide (i ≤ y)))) ∧ Kept (Only (· = b) w w') := by
  have HB := Kept.mk h
  clear h
  go_enter Try.func48, Try.ntmps48
  go_wp2_with fail
  go_loopw [6] (fun i wr => ∃ c : Nat, c ≤ 256 ∧ i = .int .i64 (c : Int) ∧ Kept (x ≤ c ∧ (c = x ∨ c ≤ y + 1)) ∧ Kept (BSet wr b (fun i => f i || (decide (x ≤ i) && decide (i < c)))) ∧ Kept (Only (· = b) w wr)) (fun i _ => 256 - (intOf i).toNat)
  case atStart => exact ⟨x, by omega, rfl, ⟨by omega⟩, ⟨HB.out.as fun i _ => by
    have : (decide (x ≤ i) && decide (i < x)) = false := by simp
    rw [this, Bool.or_false]⟩, ⟨Only.refl _ _⟩⟩
  case round =>
    obtain ⟨c, hc, rfl, HX, HS, HO⟩ := hrel
    by_cases hlt : c ≤ y
    · have hl2 : (c : Int) ≤ (y : Int) := by omega
      have hl3 : (c : Int) < 256 := by omega
      have hl0 : (0 : Int) ≤ (c : Int) := by omega
      have c0 := HS.out.cell (i := c) (by omega)
      have f0 := HS.out.free c
      have HS2 : Kept (BSet (wr.setCell ⟨b, c, none⟩ (.bool true)) b (fun i => f i || (decide (x ≤ i) && decide (i < c + 1)))) := ⟨(HS.out.put (by omega) true).as fun i hi => by
        have := HX.out
        by_cases e : i = c
        · subst e; rw [if_pos rfl, decide_eq_true (by omega), decide_eq_true (by omega)]; simp
        · rw [if_neg e]
          congr 2
          rw [decide_eq_decide]; omega⟩
      have HO2 : Kept (Only (· = b) w (wr.setCell ⟨b, c, none⟩ (.bool true))) := ⟨HO.out.setCell _ _ (fun _ => rfl)⟩
      clear HS HO
      go_wp2_with fail
      go_roundw
      case rel => exact ⟨c + 1, by omega, by go_num, ⟨by have := HX.out; omega⟩, HS2, HO2⟩
      case measure => simp [intOf]; omega
    · have hl2 : ¬ (c : Int) ≤ (y : Int) := by omega
      have HS2 : Kept (BSet wr b (fun i => f i || (decide (x ≤ i) && decide (i ≤ y)))) := ⟨HS.out.as fun i hi => by
        congr 1
        have := HX.out
        rw [Bool.eq_iff_iff, Bool.and_eq_true, Bool.and_eq_true, decide_eq_true_iff, decide_eq_true_iff, decide_eq_true_iff]
        omega⟩
      clear HS
      go_wp2_with fail
      go_end0
      exact ⟨rfl, HS2, HO⟩
set_option maxHeartbeats 1000000 in
set_option maxRecDepth 100000 in
theorem invert_any (w : World) (b : Nat) (f : Nat → Bool) (h : BSet w b f) :
    Calls Try.prog 49 #[.pointer (some ⟨b, 0, none⟩)] w fun e w' => e = .returned (.tuple #[]) ∧ Kept (BSet w' b (fun i => !f i)) ∧ Kept (Only (· = b) w w') := by
  have HB := Kept.mk h
  clear h
  go_enter Try.func49, Try.ntmps49
  go_wp2_with fail
  go_loopw [3] (fun i wr => ∃ c : Nat, c ≤ 256 ∧ i = .int .i64 (c : Int) ∧ Kept (BSet wr b (fun i => if i < c then !f i else f i)) ∧ Kept (Only (· = b) w wr)) (fun i _ => 256 - (intOf i).toNat)
  case atStart => exact ⟨0, by omega, rfl, ⟨HB.out.as fun i _ => by rw [if_neg (by omega)]⟩, ⟨Only.refl _ _⟩⟩
  case round =>
    obtain ⟨c, hc, rfl, HS, HO⟩ := hrel
    by_cases hlt : c < 256
    · have hl2 : (c : Int) < 256 := by omega
      have hl0 : (0 : Int) ≤ (c : Int) := by omega
      have c0 : wr.cell? ⟨b, c, none⟩ = some (.bool (f c)) := by have := HS.out.cell (i := c) (by omega); rwa [if_neg (by omega)] at this
      have f0 := HS.out.free c
      have HS2 : Kept (BSet (wr.drew.setCell ⟨b, c, none⟩ (.bool (!f c))) b (fun i => if i < c + 1 then !f i else f i)) := ⟨(HS.out.drew.put (by omega) (!f c)).as fun i hi => by
        by_cases e : i = c
        · subst e; rw [if_pos (by omega), if_pos rfl]
        · rw [if_neg e]
          by_cases e2 : i < c
          · rw [if_pos e2, if_pos (by omega)]
          · rw [if_neg e2, if_neg (by omega)]⟩
      have HO2 : Kept (Only (· = b) w (wr.drew.setCell ⟨b, c, none⟩ (.bool (!f c)))) := ⟨HO.out.drew.setCell _ _ (fun _ => rfl)⟩
      clear HS HO
      go_wp2_with fail
      go_region
      all_goals
        go_wp2_with fail
        go_roundw
        case rel => exact ⟨c + 1, by omega, by go_num, HS2, HO2⟩
        case measure => simp [intOf]; omega
    · obtain rfl : c = 256 := by omega
      have HS2 : Kept (BSet wr b (fun i => !f i)) := ⟨HS.out.as fun i hi => by rw [if_pos hi]⟩
      clear HS
      go_wp2_with fail
      go_end0
      exact ⟨rfl, HS2, HO⟩
end Pm
end Go.Proofs.Ytkifnabkoidhcaa
