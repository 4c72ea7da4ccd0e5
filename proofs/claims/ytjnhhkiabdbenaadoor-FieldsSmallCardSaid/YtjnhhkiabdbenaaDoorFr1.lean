/-
  The document's fields: is a byte in a text, Active; its state in memory; the field ends.
-/
import Derived.Test.YtjnhhkiabdbenaaDoorFp3
import Derived.Test.YtjnhhkiabdbenaaDoorPr1
import Derived.Deep.DeepCutAuto
namespace Go.Proofs.YtjnhhkiabdbenaaDoor
open Go.RowKit Tx
namespace Fd
open Pm (one_cut toL_one take_on toL_app)

theorem has_take {s : ByteArray} {j : Nat} (h : j < s.size) (c : UInt8) : ((toL s).take (j + 1)).contains c = (((toL s).take j).contains c || c == s[j]'h) := by
  rw [take_on h]
  simp only [List.contains_eq_any_beq, List.any_append, List.any_cons, List.any_nil, Bool.or_false]
set_option maxHeartbeats 1000000 in
set_option maxRecDepth 100000 in
theorem in_run (c : UInt8) (s : ByteArray) (w : World) (hs : s.size ≤ 100000) (t : Bool) (ht : Kept (t = (toL s).contains c)) : Calls Tryd.prog 30 #[.int .u8 (c.toNat : Int), .string s] w fun e w' => e = .returned (.bool t) ∧ w = w' := by
  go_enter Tryd.func30, Tryd.ntmps30
  go_wp2_with fail
  go_loop [5] (fun i => ∃ j : Nat, j ≤ s.size ∧ i = .int .i64 (j : Int) ∧ Kept (((toL s).take j).contains c = false)) (fun i => s.size - (intOf i).toNat)
  case atStart => exact ⟨0, by omega, rfl, ⟨rfl⟩⟩
  case round =>
    obtain ⟨j, hj, rfl, HX⟩ := hrel
    by_cases hlt : j < s.size
    · have hl2 : (j : Int) < (s.size : Int) := by omega
      have hj5 : (j : Int) ≤ 100000 := by omega
      have hj0 : (0 : Int) ≤ (j : Int) := by omega
      by_cases hc : s[j]'hlt = c
      · have hz : ((s[j]'hlt).toNat : Int) = (c.toNat : Int) := by rw [hc]
        have HT : Kept ((toL s).contains c = true) := ⟨by
          rw [List.contains_iff_mem, ← hc]
          exact List.mem_of_getElem (i := j) (h := by rw [toL_length]; exact hlt) rfl⟩
        clear hc HX
        go_wp2_with fail
        go_ret
        exact ⟨by rw [ht.out.trans HT.out]; rfl, rfl⟩
      · have hz : ¬ ((s[j]'hlt).toNat : Int) = (c.toNat : Int) := fun e => hc (UInt8.toNat_inj.1 (by omega))
        have HX2 : Kept (((toL s).take (j + 1)).contains c = false) := ⟨by
          rw [has_take hlt, HX.out]
          simp only [Bool.false_or, beq_eq_false_iff_ne]
          exact fun e => hc e.symm⟩
        clear hc HX
        go_wp2_with fail
        go_round
        case rel => exact ⟨j + 1, by omega, by go_num, HX2⟩
        case measure => simp [intOf]; omega
    · obtain rfl : j = s.size := by omega
      have HT : Kept ((toL s).contains c = false) := ⟨by
        have := HX.out
        rwa [List.take_of_length_le (by rw [toL_length]; exact Nat.le_refl _)] at this⟩
      clear HX hlt
      go_wp2_with fail
      go_ret
      exact ⟨by rw [ht.out.trans HT.out]; rfl, rfl⟩
theorem in_any (c : UInt8) (s : ByteArray) (w : World) (hs : s.size ≤ 100000) : Calls Tryd.prog 30 #[.int .u8 (c.toNat : Int), .string s] w fun e w' => e = .returned (.bool ((toL s).contains c)) ∧ w = w' := in_run c s w hs _ ⟨rfl⟩
set_option maxHeartbeats 1000000 in
set_option maxRecDepth 100000 in
theorem active_any (s : ByteArray) (w : World) (hs : s.size ≤ 2000) : Calls Tryd.prog 18 #[.string s] w fun e w' => e = .returned (.string (bs (dbl (toL s)))) ∧ w = w' := by
  go_enter Tryd.func18, Tryd.ntmps18
  go_wp2_with fail
  go_loop [3, 4] (fun o i => ∃ (j : Nat) (x : ByteArray), j ≤ s.size ∧ i = .int .i64 (j : Int) ∧ o = .string x ∧ x.size ≤ 2 * j ∧ Kept (toL x = dbl ((toL s).take j))) (fun _ i => s.size - (intOf i).toNat)
  case atStart => exact ⟨0, ⟨#[]⟩, by omega, rfl, rfl, by decide, ⟨rfl⟩⟩
  case round =>
    obtain ⟨j, x, hj, rfl, rfl, hx, HX⟩ := hrel
    by_cases hlt : j < s.size
    · have hl2 : (j : Int) < (s.size : Int) := by omega
      have hj1 : (j : Int) + 1 ≤ (s.size : Int) := by omega
      have hj0 : (0 : Int) ≤ (j : Int) := by omega
      have hj5 : (j : Int) ≤ 2000 := by omega
      obtain ⟨Y, hY⟩ : ∃ Y, Y = s.extract j (j + 1) := ⟨_, rfl⟩
      have hYz : Y.size = 1 := by rw [hY, ByteArray.size_extract]; omega
      have hYs : Y.size ≤ 1 := by omega
      have hsl : ∀ W : World, (Instr.slice 9 (.string s) (some (.int .i64 (j : Int))) (some (.int .i64 ((j : Int) + 1))) none).run Tryd.prog W = .ok (.string Y) W := fun W => by rw [hY]; exact one_cut hlt W
      have h1 : ¬ 9223372036854775807 < x.size + 1 := by omega
      have h2 : ¬ 9223372036854775807 < x.size + 1 + Y.size := by omega
      have h3 : ¬ 9223372036854775807 < x.size + Y.size := by omega
      by_cases hc : s[j]'hlt = 92
      · have hz : ((s[j]'hlt).toNat : Int) = 92 := by rw [hc]; rfl
        have HX2 : Kept (toL (x ++ (⟨#[92]⟩ : ByteArray) ++ Y) = dbl ((toL s).take (j + 1))) := ⟨by
          rw [take_on hlt, dbl_app, toL_app, toL_app, HX.out, hY, toL_one hlt, hc, List.append_assoc]; rfl⟩
        have HZ : Kept ((x ++ (⟨#[92]⟩ : ByteArray) ++ Y).size ≤ 2 * (j + 1)) := ⟨by
          simp only [ByteArray.size_append]; show x.size + 1 + Y.size ≤ _; omega⟩
        clear hY hYz hx hc
        go_wp2_with fail
        go_round
        case rel => exact ⟨j + 1, _, by omega, by go_num, rfl, HZ.out, HX2⟩
        case measure => simp [intOf]; omega
      · have hz : ¬ ((s[j]'hlt).toNat : Int) = 92 := fun e => hc (UInt8.toNat_inj.1 (by rw [show (92 : UInt8).toNat = 92 from rfl]; omega))
        have HX2 : Kept (toL (x ++ Y) = dbl ((toL s).take (j + 1))) := ⟨by
          rw [take_on hlt, dbl_app, toL_app, HX.out, hY, toL_one hlt]
          unfold dbl
          rw [List.flatMap_cons, if_neg hc]; rfl⟩
        have HZ : Kept ((x ++ Y).size ≤ 2 * (j + 1)) := ⟨by
          simp only [ByteArray.size_append]; omega⟩
        clear hY hYz hx hc
        go_wp2_with fail
        go_round
        case rel => exact ⟨j + 1, _, by omega, by go_num, rfl, HZ.out, HX2⟩
        case measure => simp [intOf]; omega
    · obtain rfl : j = s.size := by omega
      have HT : Kept (bs (dbl (toL s)) = x) := ⟨by
        have := HX.out
        rw [List.take_of_length_le (by rw [toL_length]; exact Nat.le_refl _)] at this
        rw [← this, bs_toL]⟩
      clear HX hlt
      go_wp2_with fail
      go_ret
      exact ⟨by rw [HT.out]; rfl, rfl⟩

/-- The block b holds a state. -/
structure DM (B b : Nat) (u : Value) (out : List (List UInt8)) (cur : List UInt8) (has gap : Bool) (w : World) : Prop where
  row : w.heap[b]? = some (.cells #[u, .string (bs cur), .bool has, .bool gap] 48 (0, 0))
  outs : TO w B u out
  hb : B ≤ b
section
variable {B b : Nat} {u : Value} {out : List (List UInt8)} {cur : List UInt8} {has gap : Bool} {w w' : World}
theorem DM.lt (h : DM B b u out cur has gap w) : b < w.heap.size := (Array.getElem?_eq_some_iff.1 h.row).1
theorem DM.fz (h : DM B b u out cur has gap w) (i : Nat) : w.frozen? ⟨b, i, none⟩ = false := frozen_of_row w b i _ _ h.row
theorem DM.c0 (h : DM B b u out cur has gap w) : w.cell? ⟨b, 0, none⟩ = some u := cell_of_row w b 0 _ _ _ h.row
theorem DM.c1 (h : DM B b u out cur has gap w) : w.cell? ⟨b, 1, none⟩ = some (.string (bs cur)) := cell_of_row w b 1 _ _ _ h.row
theorem DM.c2 (h : DM B b u out cur has gap w) : w.cell? ⟨b, 2, none⟩ = some (.bool has) := cell_of_row w b 2 _ _ _ h.row
theorem DM.c3 (h : DM B b u out cur has gap w) : w.cell? ⟨b, 3, none⟩ = some (.bool gap) := cell_of_row w b 3 _ _ _ h.row
theorem DM.below (h : DM B b u out cur has gap w) (hb : Below w.heap.size w w') : DM B b u out cur has gap w' := ⟨(hb.block b h.lt).trans h.row, h.outs.below hb, h.hb⟩
theorem DM.drew (h : DM B b u out cur has gap w) : DM B b u out cur has gap w.drew := ⟨h.row, h.outs, h.hb⟩
theorem DM.on (h : DM B b u out cur has gap w) : B ≤ w.heap.size := by have := h.lt; have := h.hb; omega
theorem DM.put (h : DM B b u out cur has gap w) (i : Nat) (y : Value) : w.setCell ⟨b, i, none⟩ y = w.setCell ⟨b, i, none⟩ y ∧ Below B w (w.setCell ⟨b, i, none⟩ y) := ⟨rfl, (Below.refl _ _).setCell (p := ⟨b, i, none⟩) h.hb _⟩
theorem DM.keepT (h : DM B b u out cur has gap w) (i : Nat) (y : Value) {out2 : List (List UInt8)} {u2 : Value} (ho : TO w B u2 out2) : TO (w.setCell ⟨b, i, none⟩ y) B u2 out2 := Pm.own_by ho fun g cs hg => Below.heap_setCell _ _ _ g (Pm.type_ne hg h.row (by decide))
theorem DM.set1 (h : DM B b u out cur has gap w) (c2 : List UInt8) : DM B b u out c2 has gap (w.setCell ⟨b, 1, none⟩ (.string (bs c2))) ∧ Below B w (w.setCell ⟨b, 1, none⟩ (.string (bs c2))) :=
  ⟨⟨by have := heap_setCell_same w b 1 _ _ (.string (bs c2)) h.row; simpa using this, h.keepT _ _ h.outs, h.hb⟩, (h.put _ _).2⟩
theorem DM.set2 (h : DM B b u out cur has gap w) (t : Bool) : DM B b u out cur t gap (w.setCell ⟨b, 2, none⟩ (.bool t)) ∧ Below B w (w.setCell ⟨b, 2, none⟩ (.bool t)) :=
  ⟨⟨by have := heap_setCell_same w b 2 _ _ (.bool t) h.row; simpa using this, h.keepT _ _ h.outs, h.hb⟩, (h.put _ _).2⟩
theorem DM.set3 (h : DM B b u out cur has gap w) (t : Bool) : DM B b u out cur has t (w.setCell ⟨b, 3, none⟩ (.bool t)) ∧ Below B w (w.setCell ⟨b, 3, none⟩ (.bool t)) :=
  ⟨⟨by have := heap_setCell_same w b 3 _ _ (.bool t) h.row; simpa using this, h.keepT _ _ h.outs, h.hb⟩, (h.put _ _).2⟩
theorem DM.all (h : DM B b u out cur has gap w) (c2 : List UInt8) (s t : Bool) : DM B b u out c2 s t (((w.setCell ⟨b, 1, none⟩ (.string (bs c2))).setCell ⟨b, 2, none⟩ (.bool s)).setCell ⟨b, 3, none⟩ (.bool t)) ∧ Below B w (((w.setCell ⟨b, 1, none⟩ (.string (bs c2))).setCell ⟨b, 2, none⟩ (.bool s)).setCell ⟨b, 3, none⟩ (.bool t)) :=
  ⟨(((h.set1 c2).1.set2 s).1.set3 t).1, ((h.set1 c2).2.trans ((h.set1 c2).1.set2 s).2).trans (((h.set1 c2).1.set2 s).1.set3 t).2⟩
theorem DM.two (h : DM B b u out cur has gap w) (c2 : List UInt8) (s : Bool) : DM B b u out c2 s gap ((w.setCell ⟨b, 1, none⟩ (.string (bs c2))).setCell ⟨b, 2, none⟩ (.bool s)) ∧ Below B w ((w.setCell ⟨b, 1, none⟩ (.string (bs c2))).setCell ⟨b, 2, none⟩ (.bool s)) :=
  ⟨((h.set1 c2).1.set2 s).1, (h.set1 c2).2.trans ((h.set1 c2).1.set2 s).2⟩
theorem DM.grown {u2 : Value} {out2 : List (List UInt8)} (h : DM B b u out cur has gap w) (hg : w.grownBy w' u.ownBlock) (h2 : TO w' B u2 out2) :
    w'.heap[b]? = some (.cells #[u, .string (bs cur), .bool has, .bool gap] 48 (0, 0)) ∧ Below B w (w'.setCell ⟨b, 0, none⟩ u2) ∧ DM B b u2 out2 cur has gap (w'.setCell ⟨b, 0, none⟩ u2) := by
  have hne : ∀ g, u.ownBlock = some g → B ≤ g ∧ ∃ cs, w.heap[g]? = some (Obj.cells cs 9 (0, 0)) := fun g hg => Pm.own_row h.outs hg
  have hb1 : w'.heap[b]? = w.heap[b]? := hg.block b h.lt (fun e => by obtain ⟨_, cs', hc⟩ := hne b e.symm; exact Pm.type_ne hc h.row (by decide) rfl)
  have k1 := hb1.trans h.row
  have hbe : Below B w w' := ⟨hg.os, hg.tape, hg.output, hg.size, fun i hi => hg.block i (by have := h.on; omega) (fun e => by have := (hne i e.symm).1; omega)⟩
  refine ⟨k1, hbe.setCell (p := ⟨b, 0, none⟩) h.hb _, ⟨?_, ?_, h.hb⟩⟩
  · have := heap_setCell_same w' b 0 _ _ u2 k1; simpa using this
  · exact Pm.own_by h2 fun g cs hg => Below.heap_setCell _ _ _ g (Pm.type_ne hg k1 (by decide))
end
set_option maxHeartbeats 2000000 in
set_option maxRecDepth 100000 in
theorem refEnd_any (B b : Nat) (u : Value) (out : List (List UInt8)) (cur : List UInt8) (has gap : Bool) (w : World) (h : DM B b u out cur has gap w) (hl : out.length ≤ 100000) :
    Calls Tryd.prog 21 #[.pointer (some ⟨b, 0, none⟩)] w fun e w' => e = .returned (.tuple #[]) ∧ ∃ u2, Kept (DM B b u2 (out ++ [cur]) [] false gap w') ∧ Kept (Below B w w') := by
  obtain ⟨A1, k1, rfl⟩ := TO.slice h.outs
  have H := Kept.mk h.drew
  have hb1 : Below w.heap.size w (w.alloc (.cells #[.string (bs cur)] 9)) := (Below.refl _ _).alloc (Nat.le_refl _) _
  have hb2 : Below w.heap.size w (w.drew.alloc (.cells #[.string (bs cur)] 9)) := (Below.refl _ _).drew.alloc (Nat.le_refl _) _
  have c0 := h.c0
  have c1 := h.c1
  have c0a := h.drew.c0
  have c1a := h.drew.c1
  have c0b := (h.below hb1).c0
  have c1b := (h.below hb1).c1
  have c0c := (h.below hb2).c0
  have c1c := (h.below hb2).c1
  have HBw : Kept (B ≤ w.drew.heap.size) := ⟨h.on⟩
  have HL := Kept.mk hl
  clear h hl hb1 hb2
  go_enter Tryd.func21, Tryd.ntmps21
  go_wp2_with fail
  go_region_law ((refine step_append_text (v := .slice A1 out.length k1) (W := w.drew) w.drew.heap.size rfl rfl _ _ rfl rfl rfl H.out.outs HL.out HBw.out ?_; intro A2 k2 w4 l2 hl2 ho hg; (have HO := Kept.mk (H.out.grown hg ho); have d0 := cell_of_row _ _ 0 _ _ _ HO.out.1; have f0 := frozen_of_row _ _ 0 _ _ HO.out.1; have HC := Kept.mk (HO.out.2.2.two [] false); have HL2 := Kept.mk hl2; have e1 := HO.out.2.2.c1; have e2 := HO.out.2.2.c2; have g1 := HO.out.2.2.fz 1; have g2 := HO.out.2.2.fz 2; clear hl2 ho hg)))
  all_goals
    go_wp2_with fail
    go_end0
    exact ⟨rfl, _, ⟨HC.out.1⟩, ⟨((Below.refl B w).drew.trans HO.out.2.1).trans HC.out.2⟩⟩
end Fd
end Go.Proofs.YtjnhhkiabdbenaaDoor
