/-
  The document's device: New.
-/
import Derived.Test.YticgecbgeahijaaRwrite
import Derived.Deep.RegionLaw
import Derived.Deep.AppendLies
namespace Go.Proofs.Yticgecbgeahijaa
open Go.RowKit Tx
namespace Dv

theorem new_bad (n : Int) (w : World) (h0 : -9223372036854775808 ≤ n) (h1 : n ≤ 9223372036854775807) (h : n < 1 ∨ 4096 < n) :
    Calls Try.prog 7 #[.int .i64 n] w fun e w' => e = .returned (.tuple #[.pointer none, .int .i64 1]) ∧ w' = w := by
  by_cases hn : n < 1
  · go_enter Try.func7, Try.ntmps7
    go_wp2
    go_ret2
    exact ⟨rfl, rfl⟩
  · have hn2 : 4096 < n := by omega
    clear h
    go_enter Try.func7, Try.ntmps7
    go_wp2
    go_ret2
    exact ⟨rfl, rfl⟩

theorem fresh_succ (i : Nat) : (fresh i).S.map bs ++ [bs blank] = (fresh (i + 1)).S.map bs := by
  simp [fresh, List.replicate_succ']
/-- A device, one sector more. -/
theorem RefAt.push {w w2 w3 : World} {b g i : Nat} {v v2 : Value} (h : RefAt w b g v (fresh i)) (hi : i + 1 ≤ 4096) (hb : Below w.heap.size w w2) (he : Own.Es Value.string w3 b v2 ((fresh (i + 1)).S.map bs)) (hg : w2.grownBy w3 v.ownBlock) : RefAt (w3.setCell ⟨g, 0, none⟩ v2) b g v2 (fresh (i + 1)) := by
  have h2 := h.below hb
  have hgb : w3.heap[g]? = w2.heap[g]? := hg.block g h2.lt (fun e => h2.apart e.symm)
  have c : ∀ j, w3.cell? ⟨g, j, none⟩ = w2.cell? ⟨g, j, none⟩ := fun j => World.cell?_of_block (w := w2) (a := ⟨g, j, none⟩) hgb
  have hap : v2.ownBlock ≠ Option.some g := by
    intro e
    obtain ⟨r, cap, e2, _, hat, _⟩ := he.form (by simp [fresh])
    rw [e2] at e
    injection e with e
    subst e
    have h0 := hat.cell 0 (by simp [fresh])
    rw [Nat.zero_add, c 0, h2.c0] at h0
    obtain ⟨A, k, e3⟩ := h2.es.len
    rw [e3] at h0
    injection h0 with h0
    cases h0
  refine ⟨by have := hg.size; have := h2.lt; simp only [World.setCell, Array.size_modify]; omega, h.low, World.cell?_setCell_same w3 _ _ ((c 0).trans h2.c0), (World.cell?_setCell_other w3 _ _ _ (by simp)).trans ((c 1).trans h2.c1), (World.cell?_setCell_other w3 _ _ _ (by simp)).trans ((c 2).trans h2.c2),
    fun j hj => ?_, he.far hap _, hap, fresh_ok _ hi⟩
  rw [World.frozen?_setCell, World.frozen?_of_block (w := w2) (a := ⟨g, j, none⟩) hgb]
  exact h2.free j hj

theorem RefAt.still {w w2 w3 : World} {b g : Nat} {D : Disk} {v : Value} (h : RefAt w b g v D) (hb : Below w.heap.size w w2) (hg : w2.grownBy w3 v.ownBlock) : w3.cell? ⟨g, 0, none⟩ = Option.some v ∧ w3.frozen? ⟨g, 0, none⟩ = false := by
  have h2 := h.below hb
  have hgb : w3.heap[g]? = w2.heap[g]? := hg.block g h2.lt (fun e => h2.apart e.symm)
  exact ⟨(World.cell?_of_block (w := w2) (a := ⟨g, 0, none⟩) hgb).trans h2.c0, (World.frozen?_of_block (w := w2) (a := ⟨g, 0, none⟩) hgb).trans (h2.free 0 (by omega))⟩
/-- New's loop. -/
structure NewIn (w wr : World) (i : Nat) (v : Value) : Prop where
  is : RefAt wr w.heap.size w.heap.size v (fresh i)
  below : Below w.heap.size w wr
theorem new_start (w : World) : NewIn w (w.alloc (.cells #[.slice none 0 0, .int .i64 (-1), .int .u64 0] 48)) 0 (.slice none 0 0) := by
  have hc : ∀ j, (w.alloc (.cells #[.slice none 0 0, .int .i64 (-1), .int .u64 0] 48)).cell? ⟨w.heap.size, j, none⟩ = (#[Value.slice none 0 0, .int .i64 (-1), .int .u64 0] : Array Value)[j]? := fun j => cell_of_row _ _ j _ _ (0, 0) (heap_alloc_new w _)
  exact ⟨⟨by simp, Nat.le_refl _, hc 0, hc 1, hc 2, fun j _ => frozen_of_row _ _ j _ _ (heap_alloc_new w _), Own.Es.nil _ _ _, (fun e => by cases e), fresh_ok 0 (by omega)⟩, (Below.refl _ _).alloc (Nat.le_refl _) _⟩

set_option maxHeartbeats 1000000 in
set_option maxRecDepth 100000 in
theorem new_any (n : Nat) (w : World) (h1 : 1 ≤ n) (h2 : n ≤ 4096) :
    Calls Try.prog 7 #[.int .i64 n] w fun e w' => e = .returned (.tuple #[.pointer (some ⟨w.heap.size, 0, none⟩), .int .i64 0]) ∧ (∃ v, RefAt w' w.heap.size w.heap.size v (fresh n)) ∧ Below w.heap.size w w' := by
  have H0 := Kept.mk (new_start w)
  have hbd : ∀ W : World, (Instr.build 48 #[(1, .int .i64 (-1))]).run Try.prog W = .ok (.agg #[.slice none 0 0, .int .i64 (-1), .int .u64 0]) W := fun W => by kernel_rfl
  have z1 : ¬ (n : Int) < 1 := by omega
  have z2 : ¬ (4096 : Int) < n := by omega
  go_enter Try.func7, Try.ntmps7
  go_wp2
  generalize w.alloc (.cells #[.slice none 0 0, .int .i64 (-1), .int .u64 0] 48) = w0 at H0 ⊢
  go_loopw [5] (fun x wr => ∃ (i : Nat) (v : Value), i ≤ n ∧ x = .int .i64 i ∧ Kept (NewIn w wr i v)) (fun x _ => n - (intOf x).toNat)
  case atStart => exact ⟨0, _, by omega, rfl, H0⟩
  case round =>
    obtain ⟨i, v, hi, rfl, HI⟩ := hrel
    by_cases hlt : i < n
    · have d0 := HI.out.is.c0
      have f0 := HI.out.is.free 0 (by omega)
      have hd0 : wr.drew.cell? ⟨w.heap.size, 0, none⟩ = some v := d0
      go_wp2
      go_region_law (first
        | (refine Own.step_append1 strTy str_one rfl _ _ rfl rfl HE2.out HL2.out (bs blank) _ (by rw [HT.out]) rfl HN1.out HN2.out ?_
           intro v3 w3 hE3 hg3 _
           obtain ⟨A3, n3, k3, rfl⟩ : ∃ A n k, v3 = Value.slice A n k := by
             obtain ⟨A, k, e⟩ := hE3.len
             exact ⟨A, _, k, e⟩
           have HE3 : Kept (NewIn w (w3.setCell ⟨w.heap.size, 0, none⟩ (.slice A3 n3 k3)) (i + 1) (.slice A3 n3 k3)) := ⟨⟨HI.out.is.push (by omega) HB2.out (by rw [← fresh_succ]; exact hE3) hg3, ((HI.out.below.trans (HB2.out.mono HI.out.below.size)).grown hg3 HL2.out (fun k hk => (HI.out.is.es.lt k hk).1)).setCell (Nat.le_refl _) _⟩⟩
           obtain ⟨c3, f3⟩ := HI.out.is.still HB2.out hg3
           clear hE3 hg3)
        | (go_simp
           go_at_call 15
           refine (zeros_any 64 _ (by omega)).mono ?_
           rintro e w2 ⟨t, rfl, hb2, ht⟩
           have HT : Kept (t = bs blank) := ⟨ht.out⟩
           have HB2 : Kept (Below wr.heap.size wr w2) := ⟨((Below.refl _ _).drew).trans hb2⟩
           have HE2 : Kept (Own.Es Value.string w2 w.heap.size v ((fresh i).S.map bs)) := ⟨(HI.out.is.below HB2.out).es⟩
           have HL2 : Kept (w.heap.size ≤ w2.heap.size) := ⟨Nat.le_trans HI.out.below.size HB2.out.size⟩
           have HN1 : Kept ((((fresh i).S.map bs).length + 1) * 16 ≤ 140737488355328) := ⟨by simp only [List.length_map, fresh, List.length_replicate]; omega⟩
           have HN2 : Kept (((fresh i).S.map bs).length + 1 ≤ maxLen) := ⟨by simp only [List.length_map, fresh, List.length_replicate]; unfold maxLen; omega⟩
           have d2 : w2.cell? ⟨w.heap.size, 0, none⟩ = some v := (HI.out.is.below HB2.out).c0
           have d2a : (w2.alloc (.cells #[.string t] 9)).cell? ⟨w.heap.size, 0, none⟩ = some v := (World.cell?_alloc_lt _ _ _ (Nat.lt_of_lt_of_le HI.out.is.lt HB2.out.size)).trans d2
           clear hb2 ht))
      all_goals
        go_wp2
        go_roundw
        case rel => exact ⟨i + 1, _, by omega, by go_num, HE3⟩
        case measure => simp [intOf]; omega
    · have he : i = n := by omega
      subst he
      go_wp2
      go_ret2
      exact ⟨rfl, ⟨v, HI.out.is⟩, HI.out.below⟩
end Dv
end Go.Proofs.Yticgecbgeahijaa
