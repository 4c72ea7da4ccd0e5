/-
  The sum of a text.
-/
import Derived.Test.YtojncfnlcmacgaaDoorAbs
import Derived.Test.YtojncfnlcmacgaaDoorHex
import Derived.Deep.RegionHeld3
import Derived.Deep.DrawnRows
namespace Go.Proofs.YtojncfnlcmacgaaDoor
open Go.RowKit
namespace Sha

/-- Inside Sum: the state's box. -/
structure Top (w wr : World) (l : List UInt32) : Prop where
  below : Below w.heap.size w wr
  box : Lies wr w.heap.size 28 l
theorem Top.again {w wr : World} {l : List UInt32} (h : Top w wr l) {X : World → Prop} (k : ∀ W, Top w W l → X W) : X wr.drew := k _ ⟨h.below.drew, h.box⟩
theorem Top.call {w wr w1 : World} {l : List UInt32} (h : Top w wr l) (hb : Below wr.heap.size wr w1) : Top w w1 l := ⟨h.below.trans (hb.mono h.below.size), h.box.below hb h.box.lt⟩
theorem Top.store {w wr : World} {l : List UInt32} (h : Top w wr l) (m : List UInt32) : Top w (wr.setRow w.heap.size (cellsOf m)) m := ⟨Sha.below_setRow h.below (Nat.le_refl _) _, h.box.row _⟩

theorem absorb_kept (st : St) (s : ByteArray) (m : Nat) (w : World) (hs : s.size = 64 * m) (hm : s.size ≤ maxLen) (hK : Tab w) :
    Calls Tryd.prog 9 #[.agg (cellsOf st.list), .string s] w fun e w' => ∃ c : St, e = .returned (.agg (cellsOf c.list)) ∧ Below w.heap.size w w' ∧ Kept (absorb st s.data.toList m = c) :=
  (absorb_any st s m w hs hm hK).mono fun _ _ ⟨h, b⟩ => ⟨_, h, b, ⟨rfl⟩⟩
theorem Top.cells {w wr : World} {a b c d e f g h : UInt32} (m : Top w wr (St.mk a b c d e f g h).list) :
    wr.cell? ⟨w.heap.size, 0, none⟩ = some (.int .u32 a.toNat) ∧ wr.cell? ⟨w.heap.size, 1, none⟩ = some (.int .u32 b.toNat) ∧ wr.cell? ⟨w.heap.size, 2, none⟩ = some (.int .u32 c.toNat) ∧
    wr.cell? ⟨w.heap.size, 3, none⟩ = some (.int .u32 d.toNat) ∧ wr.cell? ⟨w.heap.size, 4, none⟩ = some (.int .u32 e.toNat) ∧ wr.cell? ⟨w.heap.size, 5, none⟩ = some (.int .u32 f.toNat) ∧
    wr.cell? ⟨w.heap.size, 6, none⟩ = some (.int .u32 g.toNat) ∧ wr.cell? ⟨w.heap.size, 7, none⟩ = some (.int .u32 h.toNat) :=
  ⟨m.box.cell 0 (by show _ < 8; omega), m.box.cell 1 (by show _ < 8; omega), m.box.cell 2 (by show _ < 8; omega), m.box.cell 3 (by show _ < 8; omega), m.box.cell 4 (by show _ < 8; omega), m.box.cell 5 (by show _ < 8; omega), m.box.cell 6 (by show _ < 8; omega), m.box.cell 7 (by show _ < 8; omega)⟩
theorem absorb_lit (st : St) (s : ByteArray) (m : Nat) (w : World) (hs : s.size = 64 * m) (hm : s.size ≤ maxLen) (hK : Tab w) :
    Calls Tryd.prog 9 #[.agg #[.int .u32 st.a.toNat, .int .u32 st.b.toNat, .int .u32 st.c.toNat, .int .u32 st.d.toNat, .int .u32 st.e.toNat, .int .u32 st.f.toNat, .int .u32 st.g.toNat, .int .u32 st.h.toNat], .string s] w fun e w' =>
      ∃ a b c d e' f g h : UInt32, e = .returned (.agg #[.int .u32 a.toNat, .int .u32 b.toNat, .int .u32 c.toNat, .int .u32 d.toNat, .int .u32 e'.toNat, .int .u32 f.toNat, .int .u32 g.toNat, .int .u32 h.toNat]) ∧ Below w.heap.size w w' ∧ Kept (absorb st s.data.toList m = ⟨a, b, c, d, e', f, g, h⟩) :=
  (absorb_any st s m w hs hm hK).mono fun _ _ ⟨h, b⟩ => ⟨_, _, _, _, _, _, _, _, h, b, ⟨rfl⟩⟩
theorem inHex_lit (a b c d e f g h : UInt32) (w : World) :
    Calls Tryd.prog 11 #[.agg #[.int .u32 a.toNat, .int .u32 b.toNat, .int .u32 c.toNat, .int .u32 d.toNat, .int .u32 e.toNat, .int .u32 f.toNat, .int .u32 g.toNat, .int .u32 h.toNat]] w fun e' w' =>
      ∃ t : ByteArray, e' = .returned (.string t) ∧ Below w.heap.size w w' ∧ Kept (t = ⟨(inHex ⟨a, b, c, d, e, f, g, h⟩).toArray⟩) :=
  (inHex_any ⟨a, b, c, d, e, f, g, h⟩ w).mono fun _ _ ⟨h, b⟩ => ⟨_, h, b, ⟨rfl⟩⟩
theorem ending_length (r : List UInt8) (n : Nat) (hr : r.length < 64) : (ending r n).length % 64 = 0 ∧ (ending r n).length ≤ 200 := by
  have h : (ending r n).length = r.length + 1 + noughts r.length + 8 := by
    unfold ending
    simp only [List.length_append, List.length_replicate, tail8_length, List.length_cons, List.length_nil]
  rw [h]
  unfold noughts
  omega
theorem ending_kept (r : ByteArray) (n : Nat) (w : World) (hr : r.size < 64) (hn : n ≤ maxLen) :
    Calls Tryd.prog 10 #[.string r, .int .i64 n] w fun e w' => ∃ (t : ByteArray) (m : Nat), e = .returned (.string t) ∧ Below w.heap.size w w' ∧ Kept (t.data.toList = ending r.data.toList n ∧ t.size = 64 * m ∧ t.size ≤ maxLen) :=
  (ending_any r n w hr hn).mono fun _ _ ⟨h, b⟩ => by
    have hl := ending_length r.data.toList n (by simpa using hr)
    have hz : (ByteArray.mk (ending r.data.toList n).toArray).size = (ending r.data.toList n).length := by simp [ByteArray.size]
    exact ⟨_, (ending r.data.toList n).length / 64, h, b, ⟨by simp, by rw [hz]; omega, by rw [hz]; unfold maxLen; omega⟩⟩

theorem sum_parts (s : ByteArray) (q m : Nat) (t : ByteArray) (c1 c2 : St) (hq : q = s.size / 64) (h1 : absorb init (s.extract 0 (64 * q)).data.toList q = c1)
    (ht : t.data.toList = ending (s.extract (64 * q) s.size).data.toList s.size) (hm : t.size = 64 * m) (h2 : absorb c1 t.data.toList m = c2) : sum s.data.toList = inHex c2 := by
  have hl : s.data.toList.length = s.size := by simp
  have hw : s.size - s.size % 64 = 64 * q := by omega
  have hw2 : 64 * q / 64 = q := by omega
  have e1 : s.data.toList.take (64 * q) = (s.extract 0 (64 * q)).data.toList := by rw [extract_list]; simp
  have e2 : ending (s.data.toList.drop (64 * q)) s.size = t.data.toList := by
    rw [ht, extract_list, List.take_of_length_le (by rw [List.length_drop, hl]; exact Nat.le_refl _)]
  have e3 : t.data.toList.length / 64 = m := by
    have : t.data.toList.length = t.size := by simp
    omega
  unfold sum
  simp only [hl, hw, hw2, e1, e2, e3, h1, h2]

theorem eight {w w5 w6 : World} {x0 x1 x2 x3 x4 x5 x6 x7 : Value} (h : Below w.heap.size w w5)
    (hb : Below ((((((((w5.setCell ⟨w.heap.size, 0, none⟩ x0).setCell ⟨w.heap.size, 1, none⟩ x1).setCell ⟨w.heap.size, 2, none⟩ x2).setCell ⟨w.heap.size, 3, none⟩ x3).setCell ⟨w.heap.size, 4, none⟩ x4).setCell ⟨w.heap.size, 5, none⟩ x5).setCell ⟨w.heap.size, 6, none⟩ x6).setCell ⟨w.heap.size, 7, none⟩ x7).heap.size
      ((((((((w5.setCell ⟨w.heap.size, 0, none⟩ x0).setCell ⟨w.heap.size, 1, none⟩ x1).setCell ⟨w.heap.size, 2, none⟩ x2).setCell ⟨w.heap.size, 3, none⟩ x3).setCell ⟨w.heap.size, 4, none⟩ x4).setCell ⟨w.heap.size, 5, none⟩ x5).setCell ⟨w.heap.size, 6, none⟩ x6).setCell ⟨w.heap.size, 7, none⟩ x7) w6) : Below w.heap.size w w6 := by
  have h8 := (((((((h.setCell (p := ⟨w.heap.size, 0, none⟩) (Nat.le_refl _) x0).setCell (p := ⟨w.heap.size, 1, none⟩) (Nat.le_refl _) x1).setCell (p := ⟨w.heap.size, 2, none⟩) (Nat.le_refl _) x2).setCell (p := ⟨w.heap.size, 3, none⟩) (Nat.le_refl _) x3).setCell (p := ⟨w.heap.size, 4, none⟩) (Nat.le_refl _) x4).setCell (p := ⟨w.heap.size, 5, none⟩) (Nat.le_refl _) x5).setCell (p := ⟨w.heap.size, 6, none⟩) (Nat.le_refl _) x6).setCell (p := ⟨w.heap.size, 7, none⟩) (Nat.le_refl _) x7
  exact h8.trans (hb.mono h8.size)

attribute [local go_sem ↓] Go.wp_at_zero Go.wp_at_succ
set_option maxRecDepth 100000 in
set_option maxHeartbeats 1000000 in
theorem sum_any (s : ByteArray) (w : World) (hm : s.size ≤ maxLen) (hK : Tab w) :
    Calls Tryd.prog 7 #[.string s] w fun e w' => e = .returned (.string ⟨(sum s.data.toList).toArray⟩) ∧ Below w.heap.size w w' := by
  have HK := Kept.mk hK
  have HM := Kept.mk hm
  have hm' : s.size ≤ 9223372036854775807 := by unfold maxLen at hm; omega
  have I := Kept.mk (show ∀ l : List UInt32, l.length = 8 → (Tryd.prog.info? 28).map (·.size) = some (cellsOf l).size from fun l h => by rw [size_cellsOf, h]; kernel_rfl)
  obtain ⟨q, hq⟩ : ∃ q, q = s.size / 64 := ⟨_, rfl⟩
  have d : (s.size : Int) - (s.size : Int) % 64 = 64 * (q : Int) := by omega
  have d0 : (0 : Int) ≤ 64 * (q : Int) := by omega
  have d1 : 64 * (q : Int) ≤ s.size := by omega
  have d2 : (s.size : Int) < 64 * (q : Int) + 64 := by omega
  have dt : (64 * (q : Int)).toNat = 64 * q := by omega
  have hto : ∀ W : World, (Instr.slice 9 (.string s) none (some (.int .i64 (64 * (q : Int)))) none).run Tryd.prog W = .ok (.string (s.extract 0 (64 * q))) W := fun W => by
    rw [run_slice_string_to_if W 9 s .i64 _ Tryd.underlying9, if_pos ⟨d0, d1⟩, dt]
  have hfrom : ∀ W : World, (Instr.slice 9 (.string s) (some (.int .i64 (64 * (q : Int)))) none none).run Tryd.prog W = .ok (.string (s.extract (64 * q) s.size)) W := fun W => by
    rw [run_slice_string_from_if W 9 s .i64 _ Tryd.underlying9, if_pos ⟨d0, d1⟩, dt]
  have HQ := Kept.mk hq
  clear hK hm dt hq
  go_enter Tryd.func7, Tryd.ntmps7
  go_wp2_with fail
  have hT : Top w (w.alloc (.cells (cellsOf init.list) 28)) init.list := ⟨(Below.refl _ _).alloc (Nat.le_refl _) _, Lies.new _ _ _⟩
  have l1 := Kept.mk ((show Lies (w.alloc (.cells (cellsOf init.list) 28)).drew w.heap.size 28 init.list from hT.box).load (P := Tryd.prog) Tryd.underlying28 rfl (I.out _ rfl))
  refine wp_region_still_tail 4 (by kernel_rfl) (by kernel_rfl) ?_
  simp only [List.take_succ_cons, List.take_zero, List.drop_succ_cons, List.drop_zero]
  refine still_load_row rfl _ _ rfl _ l1.out ?_
  repeat still_step
  refine wpStill_nil ?_
  refine hT.again (X := fun W => wpList _ _ _ _ _ W) ?_
  clear hT l1 hto
  intro W2 hT
  have HT := Kept.mk hT
  clear hT
  go_wp2_with fail
  refine (absorb_kept init _ q _ (by rw [ByteArray.size_extract]; omega) (by rw [ByteArray.size_extract]; unfold maxLen; omega) (HK.out.below HT.out.below)).mono ?_
  rintro e w1 ⟨c1, rfl, hb, hc1⟩
  simp only []
  have hT := HT.out.call hb
  clear hb HT
  go_wp2_with (refine wpList_store_row rfl 28 _ _ rfl _ _ rfl rfl _ _ hT.box (I.out _ rfl) rfl (one_cellsOf _) ?_)
  have hT2 := hT.store c1.list
  clear hT
  generalize w1.setRow w.heap.size (cellsOf c1.list) = W3 at *
  obtain ⟨a, b, c, d', e', f, g, h⟩ := c1
  obtain ⟨k0, k1, k2, k3, k4, k5, k6, k7⟩ := hT2.cells
  have HT := Kept.mk hT2
  clear hT2
  go_region_with (first
      | (go_at_call 10; refine (ending_kept _ s.size _ (by rw [ByteArray.size_extract]; omega) HM.out).mono ?_; rintro e w4 ⟨t, m, rfl, hb1, ht⟩
         have HT4 : Kept (Top w w4 (St.mk a b c d' e' f g h).list) := ⟨Top.call ⟨HT.out.below.drew, HT.out.box⟩ hb1⟩
         obtain ⟨k0, k1, k2, k3, k4, k5, k6, k7⟩ := HT4.out.cells
         clear hb1)
      | (go_at_call 9; refine (absorb_lit ⟨a, b, c, d', e', f, g, h⟩ _ m _ ht.out.2.1 ht.out.2.2 (HK.out.below HT4.out.below)).mono ?_; rintro e w5 ⟨a2, b2, c2, d2, e2, f2, g2, h2, rfl, hb2, hc2⟩
         have HT5 := Kept.mk (HT4.out.call hb2)
         obtain ⟨k0, k1, k2, k3, k4, k5, k6, k7⟩ := HT5.out.cells
         have fr := HT5.out.box.free
         clear hb2))
  all_goals
    go_wp2_with fail
    refine (inHex_lit a2 b2 c2 d2 e2 f2 g2 h2 _).mono ?_
    rintro e w6 ⟨t2, rfl, hb3, ht2⟩
    simp only []
    have hB := eight HT5.out.below hb3
    have HB := Kept.mk hB
    have HT2 := Kept.mk (ht2.out.trans (congrArg (fun l => ByteArray.mk (List.toArray l)) (sum_parts s q m t ⟨a, b, c, d', e', f, g, h⟩ ⟨a2, b2, c2, d2, e2, f2, g2, h2⟩ HQ.out hc1.out ht.out.1 ht.out.2.1 hc2.out).symm))
    clear hb3 hB ht2 hc1 hc2 ht k0 k1 k2 k3 k4 k5 k6 k7 fr
    go_wp2_with fail
    go_ret
    exact ⟨congrArg (fun t => Ending.returned (Value.string t)) HT2.out, HB.out⟩
end Sha
end Go.Proofs.YtojncfnlcmacgaaDoor
