/-
  StoreValues: the text of any entry, and the entry of any text, are the document's.
-/
import Derived.Test.YtjmblgahoejoiaaDoorRval
import Derived.Test.YtjmblgahoejoiaaDoorSawake
import Derived.Test.YtjmblgahoejoiaaDoorEq
namespace Go.Proofs.YtjmblgahoejoiaaDoor
open Go.RowKit Tx
namespace St

set_option maxHeartbeats 2000000 in
set_option maxRecDepth 100000 in
theorem values_any (k m : Int) (d : ByteArray) (s : ByteArray) (w : World) (hK : Tup.Kit w) (hk : k ≤ 9223372036854775807) (hm : m ≤ 9223372036854775807) :
    Calls Tryd.prog 3 #[.agg #[.int .i64 k, .int .i64 m, .string d], .string s] w fun e w' => e = .returned (.bool true) ∧ Below w.heap.size w w' := by
  have HK := Kept.mk hK
  have HB0 : Kept (Below w.heap.size w (w.alloc (.cells #[.int .i64 k, .int .i64 m, .string d] 23))) := ⟨(Below.refl _ _).alloc (Nat.le_refl _) _⟩
  clear hK
  by_cases q1 : k < 0
  · go_enter Tryd.func3, Tryd.ntmps3
    go_wp2_with (go_at_call 7
                 refine (awake_any _ (HK.out.below HB0.out)).mono ?_
                 rintro e w1 ⟨rfl, hb1⟩
                 have HB1 : Kept (Below w.heap.size w w1) := ⟨HB0.out.trans (hb1.mono (by simp))⟩
                 clear hb1)
    go_ret
    exact ⟨rfl, HB1.out⟩
  by_cases q2 : m < 0
  · go_enter Tryd.func3, Tryd.ntmps3
    go_wp2_with (go_at_call 7
                 refine (awake_any _ (HK.out.below HB0.out)).mono ?_
                 rintro e w1 ⟨rfl, hb1⟩
                 have HB1 : Kept (Below w.heap.size w w1) := ⟨HB0.out.trans (hb1.mono (by simp))⟩
                 clear hb1)
    go_ret
    exact ⟨rfl, HB1.out⟩
  by_cases q3 : (300 : Int) < d.size
  · go_enter Tryd.func3, Tryd.ntmps3
    go_wp2_with (go_at_call 7
                 refine (awake_any _ (HK.out.below HB0.out)).mono ?_
                 rintro e w1 ⟨rfl, hb1⟩
                 have HB1 : Kept (Below w.heap.size w w1) := ⟨HB0.out.trans (hb1.mono (by simp))⟩
                 clear hb1)
    go_ret
    exact ⟨rfl, HB1.out⟩
  by_cases q4 : (300 : Int) < s.size
  · go_enter Tryd.func3, Tryd.ntmps3
    go_wp2_with (go_at_call 7
                 refine (awake_any _ (HK.out.below HB0.out)).mono ?_
                 rintro e w1 ⟨rfl, hb1⟩
                 have HB1 : Kept (Below w.heap.size w w1) := ⟨HB0.out.trans (hb1.mono (by simp))⟩
                 clear hb1)
    go_ret
    exact ⟨rfl, HB1.out⟩
  obtain ⟨kn, rfl⟩ := Int.eq_ofNat_of_zero_le (show 0 ≤ k by omega)
  obtain ⟨mn, rfl⟩ := Int.eq_ofNat_of_zero_le (show 0 ≤ m by omega)
  obtain ⟨k1, m1, d1, c, hR⟩ : ∃ k1 m1 d1 c, entRes s = (⟨k1, m1, d1⟩, c) := ⟨_, _, _, _, rfl⟩
  obtain ⟨VS, hVS⟩ : ∃ VS, bs (valL ⟨kn, mn, d⟩) = VS := ⟨_, rfl⟩
  have HE1 : Kept (∀ w, Tup.Kit w → Calls Tryd.prog 8 #[.string s] w fun e w' => e = .returned (.tuple #[.agg #[.int .i64 k1, .int .i64 m1, .string d1], .int .i64 c]) ∧ Below w.heap.size w w') := ⟨fun w h => by have := entry_any s w (by omega) h; rw [hR] at this; exact this⟩
  have HE2 : Kept (∀ w, Calls Tryd.prog 9 #[.string s] w fun e w' => e = .returned (.tuple #[.agg #[.int .i64 k1, .int .i64 m1, .string d1], .int .i64 c]) ∧ Below w.heap.size w w') := ⟨fun w => by have := refEnt_any s w (by omega); rw [hR] at this; exact this⟩
  have HV1 : Kept (∀ w, Tup.Kit w → Calls Tryd.prog 10 #[.agg #[.int .i64 (kn : Int), .int .i64 (mn : Int), .string d]] w fun e w' => e = .returned (.string VS) ∧ Below w.heap.size w w') := ⟨fun w h => (value_any kn mn d w (by omega) (by omega) (by omega) h).mono fun e w' ⟨t, he, hb, ht⟩ => ⟨by rw [he, ← hVS, ← ht.out, bs_toL], hb⟩⟩
  have HV2 : Kept (∀ w, Calls Tryd.prog 11 #[.agg #[.int .i64 (kn : Int), .int .i64 (mn : Int), .string d]] w fun e w' => e = .returned (.string VS) ∧ Below w.heap.size w w') := ⟨fun w => (refVal_any kn mn d w (by omega) (by omega) (by omega)).mono fun e w' ⟨t, he, hb, ht⟩ => ⟨by rw [he, ← hVS, ← ht.out, bs_toL], hb⟩⟩
  have hq1 : ∀ w, (binOp .eql 23 (.agg #[.int .i64 k1, .int .i64 m1, .string d1]) (.agg #[.int .i64 k1, .int .i64 m1, .string d1])).run Tryd.prog w = .ok (.bool true) w := fun w => by
    have := ent_eq ⟨k1, m1, d1⟩ ⟨k1, m1, d1⟩ w
    rw [decide_eq_true rfl] at this
    exact this
  have HC0 : Kept ((w.alloc (.cells #[.int .i64 (kn : Int), .int .i64 (mn : Int), .string d] 23)).heap[w.heap.size]? = some (.cells #[.int .i64 (kn : Int), .int .i64 (mn : Int), .string d] 23 (0, 0))) := ⟨heap_alloc_new w _⟩
  clear hR hVS
  go_enter Tryd.func3, Tryd.ntmps3
  go_wp2_with (first
    | (go_at_call 8
       refine (HE1.out _ (HK.out.below HB0.out)).mono ?_
       rintro e w1 ⟨rfl, hb1⟩
       have HB1 : Kept (Below w.heap.size w (w1.alloc (.cells #[.int .i64 k1, .int .i64 m1, .string d1] 23))) := ⟨(HB0.out.trans (hb1.mono (by simp))).alloc (Nat.le_trans (by simp) hb1.size) _⟩
       have HC1 : Kept ((w1.alloc (.cells #[.int .i64 k1, .int .i64 m1, .string d1] 23)).heap[w.heap.size]? = some (.cells #[.int .i64 (kn : Int), .int .i64 (mn : Int), .string d] 23 (0, 0))) := ⟨(Below.heap_alloc w1 _ _ (Nat.lt_of_lt_of_le (blk HC0.out) hb1.size)).trans ((hb1.block _ (blk HC0.out)).trans HC0.out)⟩
       have HA1 := Kept.mk (heap_alloc_new w1 (.cells #[.int .i64 k1, .int .i64 m1, .string d1] 23))
       clear hb1)
    | (go_at_call 9
       refine (HE2.out _).mono ?_
       rintro e w2 ⟨rfl, hb2⟩
       have HB2 : Kept (Below w.heap.size w (w2.alloc (.cells #[.int .i64 k1, .int .i64 m1, .string d1] 23))) := ⟨(HB1.out.trans (hb2.mono HB1.out.size)).alloc (Nat.le_trans HB1.out.size hb2.size) _⟩
       have HC2 : Kept ((w2.alloc (.cells #[.int .i64 k1, .int .i64 m1, .string d1] 23)).heap[w.heap.size]? = some (.cells #[.int .i64 (kn : Int), .int .i64 (mn : Int), .string d] 23 (0, 0))) := ⟨(Below.heap_alloc w2 _ _ (Nat.lt_of_lt_of_le (blk HC1.out) hb2.size)).trans ((hb2.block _ (blk HC1.out)).trans HC1.out)⟩
       have HA2 : Kept ((w2.alloc (.cells #[.int .i64 k1, .int .i64 m1, .string d1] 23)).heap[w1.heap.size]? = some (.cells #[.int .i64 k1, .int .i64 m1, .string d1] 23 (0, 0))) := ⟨(Below.heap_alloc w2 _ _ (Nat.lt_of_lt_of_le (blk HA1.out) hb2.size)).trans ((hb2.block _ (blk HA1.out)).trans HA1.out)⟩
       have HD2 := Kept.mk (heap_alloc_new w2 (.cells #[.int .i64 k1, .int .i64 m1, .string d1] 23))
       clear hb2))
  generalize w2.alloc (.cells #[.int .i64 k1, .int .i64 m1, .string d1] 23) = w3 at *
  obtain ⟨x0, x1, x2⟩ := box3 HC2.out
  obtain ⟨y0, y1, y2⟩ := box3 HA2.out
  obtain ⟨z0, z1, z2⟩ := box3 HD2.out
  go_region_held3 (fun w' => w'.cell? ⟨w.heap.size, 0, none⟩ = some (.int .i64 (kn : Int)) ∧ w'.cell? ⟨w.heap.size, 1, none⟩ = some (.int .i64 (mn : Int)) ∧ w'.cell? ⟨w.heap.size, 2, none⟩ = some (.string d)
      ∧ w'.cell? ⟨w1.heap.size, 0, none⟩ = some (.int .i64 k1) ∧ w'.cell? ⟨w1.heap.size, 1, none⟩ = some (.int .i64 m1) ∧ w'.cell? ⟨w1.heap.size, 2, none⟩ = some (.string d1)
      ∧ w'.cell? ⟨w2.heap.size, 0, none⟩ = some (.int .i64 k1) ∧ w'.cell? ⟨w2.heap.size, 1, none⟩ = some (.int .i64 m1) ∧ w'.cell? ⟨w2.heap.size, 2, none⟩ = some (.string d1))
    (first
      | exact ⟨x0, x1, x2, y0, y1, y2, z0, z1, z2⟩
      | exact ⟨a0, a1, a2, b0, b1, b2, c0, c1, c2⟩
      | exact ⟨e0, e1, e2, f0, f1, f2, g0, g1, g2⟩
      | exact ⟨h0, h1, h2, i0, i1, i2, j0, j1, j2⟩)
    (first
      | (go_at_call 7
         refine (awake_any _ (HK.out.below HB2.out.drew)).mono ?_
         rintro e w4 ⟨rfl, hb4⟩
         have HB4 : Kept (Below w.heap.size w w4) := ⟨HB2.out.drew.trans (hb4.mono HB2.out.size)⟩
         have HC4 := Kept.mk ((hb4.block _ (blk HC2.out)).trans HC2.out)
         have HA4 := Kept.mk ((hb4.block _ (blk HA2.out)).trans HA2.out)
         have HD4 := Kept.mk ((hb4.block _ (blk HD2.out)).trans HD2.out)
         obtain ⟨a0, a1, a2⟩ := box3 HC4.out
         obtain ⟨b0, b1, b2⟩ := box3 HA4.out
         obtain ⟨c0, c1, c2⟩ := box3 HD4.out
         clear hb4)
      | (go_at_call 10
         refine (HV1.out _ (HK.out.below HB4.out)).mono ?_
         rintro e w5 ⟨rfl, hb5⟩
         have HB5 : Kept (Below w.heap.size w w5) := ⟨HB4.out.trans (hb5.mono HB4.out.size)⟩
         have HC5 := Kept.mk ((hb5.block _ (blk HC4.out)).trans HC4.out)
         have HA5 := Kept.mk ((hb5.block _ (blk HA4.out)).trans HA4.out)
         have HD5 := Kept.mk ((hb5.block _ (blk HD4.out)).trans HD4.out)
         obtain ⟨e0, e1, e2⟩ := box3 HC5.out
         obtain ⟨f0, f1, f2⟩ := box3 HA5.out
         obtain ⟨g0, g1, g2⟩ := box3 HD5.out
         clear hb5)
      | (go_at_call 11
         refine (HV2.out _).mono ?_
         rintro e w6 ⟨rfl, hb6⟩
         have HB6 : Kept (Below w.heap.size w w6) := ⟨HB5.out.trans (hb6.mono HB5.out.size)⟩
         have HC6 := Kept.mk ((hb6.block _ (blk HC5.out)).trans HC5.out)
         have HA6 := Kept.mk ((hb6.block _ (blk HA5.out)).trans HA5.out)
         have HD6 := Kept.mk ((hb6.block _ (blk HD5.out)).trans HD5.out)
         obtain ⟨h0, h1, h2⟩ := box3 HC6.out
         obtain ⟨i0, i1, i2⟩ := box3 HA6.out
         obtain ⟨j0, j1, j2⟩ := box3 HD6.out
         clear hb6))
  go_wp2
  go_ret
  exact ⟨rfl, HB6.out⟩
end St
end Go.Proofs.YtjmblgahoejoiaaDoor
