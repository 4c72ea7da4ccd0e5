/-
  StoreBack: what is told is read, what is read is told as it was.
-/
import Derived.Test.YtjmblgahoejoiaaDoorSawake
import Derived.Test.YtjmblgahoejoiaaDoorSact
import Derived.Test.YtjmblgahoejoiaaDoorEq
import Derived.Test.YtjmblgahoejoiaaDoorSbox
namespace Go.Proofs.YtjmblgahoejoiaaDoor
open Go.RowKit Tx
namespace St

theorem res_val {e : Ent} (h : valid e) {t : ByteArray} (ht : toL t = valL e) : entRes t = (e, 0) := by
  unfold entRes
  rw [ht, entOf_val h]
theorem val_small {e : Ent} (h : valid e) (hd : e.data.size ≤ 300) {t : ByteArray} (ht : toL t = valL e) : t.size ≤ 1000000 := by
  have hk := valid_kind h
  have hm := h.2
  rw [← toL_length, ht]
  unfold valL
  rw [if_neg (by omega), val_shape (by omega) (by omega)]
  have := Net.dig_length (toL e.data).length 2 (by rw [toL_length]; omega)
  simp only [List.length_cons, List.length_append, List.length_nil, toL_length] at this ⊢
  omega
/-- What Entry says of any text, and what is told of that. -/
theorem read_told (s : ByteArray) (hs : s.size ≤ 300) : (∃ (k m : Nat) (d : ByteArray), entRes s = (⟨k, m, d⟩, 0) ∧ k ≤ 3 ∧ m ≤ 7 ∧ d.size ≤ 1000000 ∧ valL ⟨k, m, d⟩ = toL s) ∨ entRes s = (zeroE, 20) := by
  by_cases hse : s = emp
  · exact .inl ⟨0, 0, emp, by rw [hse, entRes_emp]; rfl, by omega, by omega, by decide, by rw [hse]; rfl⟩
  · cases he : entOf (toL s) with
    | none =>
      refine .inr ?_
      unfold entRes
      rw [he]
    | some e =>
      refine .inl ?_
      obtain ⟨hv, hq⟩ := (entOf_some (ne_emp hse)).1 he
      have hk := valid_kind hv
      have hm := hv.2
      have hd := data_short hv
      rw [hq, toL_length, toL_length] at hd
      obtain ⟨k, m, d⟩ := e
      simp only at hk hm hd
      obtain ⟨kn, rfl⟩ := Int.eq_ofNat_of_zero_le (show 0 ≤ k by omega)
      obtain ⟨mn, rfl⟩ := Int.eq_ofNat_of_zero_le (show 0 ≤ m by omega)
      refine ⟨kn, mn, d, ?_, by omega, by omega, by omega, hq⟩
      unfold entRes
      rw [he]

set_option maxHeartbeats 2000000 in
set_option maxRecDepth 100000 in
theorem back_any (a : Act) (ha : a.ok) (s : ByteArray) (w : World) (hK : Tup.Kit w) (hs9 : s.size ≤ 9223372036854775807) :
    Calls Tryd.prog 4 #[.agg #[.int .u8 a.what, .int .u8 a.path, .int .u8 a.kind, .int .u8 a.mode, .int .u8 a.data], .string s] w fun e w' => e = .returned (.bool true) ∧ Below w.heap.size w w' := by
  have HK := Kept.mk hK
  clear hK
  by_cases hs : (300 : Int) < s.size
  · go_enter Tryd.func4, Tryd.ntmps4
    go_wp2_with (go_at_call 7
                 refine (awake_any _ (HK.out.below ((Below.refl _ _).alloc (Nat.le_refl _) (.cells #[.int .u8 a.what, .int .u8 a.path, .int .u8 a.kind, .int .u8 a.mode, .int .u8 a.data] 31)))).mono ?_
                 rintro e w1 ⟨rfl, hb1⟩
                 have HB1 : Kept (Below w.heap.size w w1) := ⟨((Below.refl _ _).alloc (Nat.le_refl _) _).trans (hb1.mono (by simp))⟩
                 clear hb1)
    go_ret
    exact ⟨rfl, HB1.out⟩
  have hs3 : s.size ≤ 300 := by omega
  obtain ⟨kn, mn, d, hE, hk3, hm7, hd10, hv, h0⟩ : ∃ (kn mn : Nat) (d : ByteArray), entA a = ⟨kn, mn, d⟩ ∧ kn ≤ 3 ∧ mn ≤ 7 ∧ d.size ≤ 10 ∧ (kn ≠ 0 → valid ⟨kn, mn, d⟩) ∧ (kn = 0 → d = emp) :=
    ⟨a.kind % 4, a.mode % 8, _, rfl, by omega, by omega, entA_small a, fun h => entA_valid a h, fun h => by rw [if_neg (by omega)]⟩
  have HEn : Kept (∀ w, Calls Tryd.prog 12 #[.agg #[.int .u8 a.what, .int .u8 a.path, .int .u8 a.kind, .int .u8 a.mode, .int .u8 a.data]] w fun e w' => e = .returned (.agg #[.int .i64 (kn : Int), .int .i64 (mn : Int), .string d]) ∧ Below w.heap.size w w') := ⟨fun w => by have := entry_act a ha w; rw [hE] at this; exact this⟩
  have HVa : Kept (∀ w, Tup.Kit w → Calls Tryd.prog 10 #[.agg #[.int .i64 (kn : Int), .int .i64 (mn : Int), .string d]] w fun e w' => ∃ t : ByteArray, e = .returned (.string t) ∧ Below w.heap.size w w' ∧ Kept (toL t = valL ⟨kn, mn, d⟩)) := ⟨fun w h => value_any kn mn d w (by omega) (by omega) (by omega) h⟩
  have T1 : Kept True := ⟨trivial⟩
  have T2 : Kept True := ⟨trivial⟩
  have T3 : Kept True := ⟨trivial⟩
  clear hE ha
  rcases read_told s hs3 with ⟨k', m', d', hr, hk', hm', hd', hq⟩ | hr
  · have HEs : Kept (∀ w, Tup.Kit w → Calls Tryd.prog 8 #[.string s] w fun e w' => e = .returned (.tuple #[.agg #[.int .i64 (k' : Int), .int .i64 (m' : Int), .string d'], .int .i64 0]) ∧ Below w.heap.size w w') := ⟨fun w h => by have := entry_any s w (by omega) h; rw [hr] at this; exact this⟩
    have HVx : Kept (∀ w, Tup.Kit w → Calls Tryd.prog 10 #[.agg #[.int .i64 (k' : Int), .int .i64 (m' : Int), .string d']] w fun e w' => e = .returned (.string s) ∧ Below w.heap.size w w') := ⟨fun w h => (value_any k' m' d' w (by omega) (by omega) (by omega) h).mono fun e w' ⟨t, he, hb, ht⟩ => ⟨by rw [he, toL_inj (ht.out.trans hq)], hb⟩⟩
    clear hr hq
    by_cases hk0 : kn = 0
    · have HRt : Kept (∀ t : ByteArray, toL t = valL ⟨kn, mn, d⟩ → t.size ≤ 1000000 ∧ entRes t = (zeroE, 0)) := ⟨fun t ht => by
        subst hk0
        have : t = emp := toL_inj ht
        subst this
        exact ⟨by decide, entRes_emp⟩⟩
      have b0 : ((kn : Int) == 0) = true := by rw [beq_iff_eq]; omega
      have hq0 : ∀ w, (binOp .eql 23 (.agg #[.int .i64 0, .int .i64 0, .string ⟨#[]⟩]) (.agg #[.int .i64 0, .int .i64 0, .string ⟨#[]⟩])).run Tryd.prog w = .ok (.bool true) w := fun w => by
        have := ent_eq zeroE zeroE w
        rw [decide_eq_true rfl] at this
        exact this
      clear hk0 hv h0
      go_enter Tryd.func4, Tryd.ntmps4
      go_wp2_with (first
        | (go_at_call 7
           refine (awake_any _ (HK.out.below ((Below.refl _ _).alloc (Nat.le_refl _) (.cells #[.int .u8 a.what, .int .u8 a.path, .int .u8 a.kind, .int .u8 a.mode, .int .u8 a.data] 31)))).mono ?_
           rintro e w1 ⟨rfl, hb1⟩
           have HB1 : Kept (Below w.heap.size w w1) := ⟨((Below.refl _ _).alloc (Nat.le_refl _) _).trans (hb1.mono (by simp))⟩
           have HA1 : Kept (w1.heap[w.heap.size]? = some (.cells #[.int .u8 a.what, .int .u8 a.path, .int .u8 a.kind, .int .u8 a.mode, .int .u8 a.data] 31 (0, 0))) := ⟨(hb1.block _ (by simp)).trans (heap_alloc_new w _)⟩
           obtain ⟨a0, a1, a2, a3, a4⟩ := box5 HA1.out
           clear hb1)
        | (go_at_call 12
           have := T1
           refine (HEn.out w1).mono ?_
           rintro e w2 ⟨rfl, hb2⟩
           clear T1 this a0 a1 a2 a3 a4
           have HB2 : Kept (Below w.heap.size w w2) := ⟨HB1.out.trans (hb2.mono HB1.out.size)⟩
           have HA2 := Kept.mk ((hb2.block _ (blk HA1.out)).trans HA1.out)
           clear hb2)
        | (go_at_call 10
           have := T2
           refine (HVa.out w2 (HK.out.below HB2.out)).mono ?_
           rintro e w3 ⟨t, rfl, hb3, ht3⟩
           clear T2 this
           have HB3 : Kept (Below w.heap.size w w3) := ⟨HB2.out.trans (hb3.mono HB2.out.size)⟩
           have HA3 := Kept.mk ((hb3.block _ (blk HA2.out)).trans HA2.out)
           have HT : Kept (Tup.KitB w.heap.size w3 ∧ t.size ≤ 1000000 ∧ entRes t = (zeroE, 0)) := ⟨Tup.KitB.below (Tup.Kit.toB HK.out) HB3.out, HRt.out t ht3.out⟩
           clear hb3)
        | (go_at_call 8
           have := T3
           refine (entry_any t w3 HT.out.2.1 HT.out.1.kit).mono ?_
           rw [HT.out.2.2]
           unfold entV
           rintro e w4 ⟨rfl, hb4⟩
           clear T3 this
           have HB4 : Kept (Below w.heap.size w (w4.alloc (.cells #[.int .i64 0, .int .i64 0, .string ⟨#[]⟩] 23))) := ⟨(HB3.out.trans (hb4.mono HB3.out.size)).alloc (Nat.le_trans HB3.out.size hb4.size) _⟩
           have HA4 : Kept ((w4.alloc (.cells #[.int .i64 0, .int .i64 0, .string ⟨#[]⟩] 23)).heap[w.heap.size]? = some (.cells #[.int .u8 a.what, .int .u8 a.path, .int .u8 a.kind, .int .u8 a.mode, .int .u8 a.data] 31 (0, 0))) := ⟨(Below.heap_alloc w4 _ _ (Nat.lt_of_lt_of_le (blk HA3.out) hb4.size)).trans ((hb4.block _ (blk HA3.out)).trans HA3.out)⟩
           have HE4 := Kept.mk (heap_alloc_new w4 (.cells #[.int .i64 0, .int .i64 0, .string ⟨#[]⟩] 23))
           clear hb4)
        | (go_at_call 8
           refine (HEs.out _ (HK.out.below HB4.out)).mono ?_
           rintro e w5 ⟨rfl, hb5⟩
           have HB5 : Kept (Below w.heap.size w (w5.alloc (.cells #[.int .i64 (k' : Int), .int .i64 (m' : Int), .string d'] 23))) := ⟨(HB4.out.trans (hb5.mono HB4.out.size)).alloc (Nat.le_trans HB4.out.size hb5.size) _⟩
           have HA5 : Kept ((w5.alloc (.cells #[.int .i64 (k' : Int), .int .i64 (m' : Int), .string d'] 23)).heap[w.heap.size]? = some (.cells #[.int .u8 a.what, .int .u8 a.path, .int .u8 a.kind, .int .u8 a.mode, .int .u8 a.data] 31 (0, 0))) := ⟨(Below.heap_alloc w5 _ _ (Nat.lt_of_lt_of_le (blk HA4.out) hb5.size)).trans ((hb5.block _ (blk HA4.out)).trans HA4.out)⟩
           have HE5 : Kept ((w5.alloc (.cells #[.int .i64 (k' : Int), .int .i64 (m' : Int), .string d'] 23)).heap[w4.heap.size]? = some (.cells #[.int .i64 0, .int .i64 0, .string ⟨#[]⟩] 23 (0, 0))) := ⟨(Below.heap_alloc w5 _ _ (Nat.lt_of_lt_of_le (blk HE4.out) hb5.size)).trans ((hb5.block _ (blk HE4.out)).trans HE4.out)⟩
           have HX5 := Kept.mk (heap_alloc_new w5 (.cells #[.int .i64 (k' : Int), .int .i64 (m' : Int), .string d'] 23))
           obtain ⟨a0, a1, a2, a3, a4⟩ := box5 HA5.out
           clear hb5)
        | (go_at_call 12
           refine (HEn.out _).mono ?_
           rintro e w6 ⟨rfl, hb6⟩
           clear a0 a1 a2 a3 a4
           have HB6 : Kept (Below w.heap.size w (w6.alloc (.cells #[.int .i64 0, .int .i64 0, .string ⟨#[]⟩] 23))) := ⟨(HB5.out.trans (hb6.mono HB5.out.size)).alloc (Nat.le_trans HB5.out.size hb6.size) _⟩
           have HE6 : Kept ((w6.alloc (.cells #[.int .i64 0, .int .i64 0, .string ⟨#[]⟩] 23)).heap[w4.heap.size]? = some (.cells #[.int .i64 0, .int .i64 0, .string ⟨#[]⟩] 23 (0, 0))) := ⟨(Below.heap_alloc w6 _ _ (Nat.lt_of_lt_of_le (blk HE5.out) hb6.size)).trans ((hb6.block _ (blk HE5.out)).trans HE5.out)⟩
           have HX6 : Kept ((w6.alloc (.cells #[.int .i64 0, .int .i64 0, .string ⟨#[]⟩] 23)).heap[w5.heap.size]? = some (.cells #[.int .i64 (k' : Int), .int .i64 (m' : Int), .string d'] 23 (0, 0))) := ⟨(Below.heap_alloc w6 _ _ (Nat.lt_of_lt_of_le (blk HX5.out) hb6.size)).trans ((hb6.block _ (blk HX5.out)).trans HX5.out)⟩
           obtain ⟨e0, e1, e2⟩ := box3 HE6.out
           obtain ⟨x0, x1, x2⟩ := box3 HX6.out
           clear hb6)
        | (go_at_call 10
           refine (HVx.out _ (HK.out.below HB6.out)).mono ?_
           rintro e w7 ⟨rfl, hb7⟩
           have HB7 : Kept (Below w.heap.size w w7) := ⟨HB6.out.trans (hb7.mono HB6.out.size)⟩
           clear hb7))
      go_ret
      exact ⟨rfl, HB7.out⟩
    · have hvv := hv hk0
      have HRt : Kept (∀ t : ByteArray, toL t = valL ⟨kn, mn, d⟩ → t.size ≤ 1000000 ∧ entRes t = (⟨kn, mn, d⟩, 0)) := ⟨fun t ht => ⟨val_small hvv (by show d.size ≤ 300; omega) ht, res_val hvv ht⟩⟩
      have b0 : ((kn : Int) == 0) = false := by rw [beq_eq_false_iff_ne]; omega
      have hq0 : ∀ w, (binOp .eql 23 (.agg #[.int .i64 (kn : Int), .int .i64 (mn : Int), .string d]) (.agg #[.int .i64 (kn : Int), .int .i64 (mn : Int), .string d])).run Tryd.prog w = .ok (.bool true) w := fun w => by
        have := ent_eq ⟨kn, mn, d⟩ ⟨kn, mn, d⟩ w
        rw [decide_eq_true rfl] at this
        exact this
      clear hk0 hv h0 hvv
      go_enter Tryd.func4, Tryd.ntmps4
      go_wp2_with (first
        | (go_at_call 7
           refine (awake_any _ (HK.out.below ((Below.refl _ _).alloc (Nat.le_refl _) (.cells #[.int .u8 a.what, .int .u8 a.path, .int .u8 a.kind, .int .u8 a.mode, .int .u8 a.data] 31)))).mono ?_
           rintro e w1 ⟨rfl, hb1⟩
           have HB1 : Kept (Below w.heap.size w w1) := ⟨((Below.refl _ _).alloc (Nat.le_refl _) _).trans (hb1.mono (by simp))⟩
           have HA1 : Kept (w1.heap[w.heap.size]? = some (.cells #[.int .u8 a.what, .int .u8 a.path, .int .u8 a.kind, .int .u8 a.mode, .int .u8 a.data] 31 (0, 0))) := ⟨(hb1.block _ (by simp)).trans (heap_alloc_new w _)⟩
           obtain ⟨a0, a1, a2, a3, a4⟩ := box5 HA1.out
           clear hb1)
        | (go_at_call 12
           have := T1
           refine (HEn.out w1).mono ?_
           rintro e w2 ⟨rfl, hb2⟩
           clear T1 this a0 a1 a2 a3 a4
           have HB2 : Kept (Below w.heap.size w w2) := ⟨HB1.out.trans (hb2.mono HB1.out.size)⟩
           have HA2 := Kept.mk ((hb2.block _ (blk HA1.out)).trans HA1.out)
           clear hb2)
        | (go_at_call 10
           have := T2
           refine (HVa.out w2 (HK.out.below HB2.out)).mono ?_
           rintro e w3 ⟨t, rfl, hb3, ht3⟩
           clear T2 this
           have HB3 : Kept (Below w.heap.size w w3) := ⟨HB2.out.trans (hb3.mono HB2.out.size)⟩
           have HA3 := Kept.mk ((hb3.block _ (blk HA2.out)).trans HA2.out)
           have HT : Kept (Tup.KitB w.heap.size w3 ∧ t.size ≤ 1000000 ∧ entRes t = (⟨kn, mn, d⟩, 0)) := ⟨Tup.KitB.below (Tup.Kit.toB HK.out) HB3.out, HRt.out t ht3.out⟩
           clear hb3)
        | (go_at_call 8
           have := T3
           refine (entry_any t w3 HT.out.2.1 HT.out.1.kit).mono ?_
           rw [HT.out.2.2]
           unfold entV
           rintro e w4 ⟨rfl, hb4⟩
           clear T3 this
           have HB4 : Kept (Below w.heap.size w (w4.alloc (.cells #[.int .i64 (kn : Int), .int .i64 (mn : Int), .string d] 23))) := ⟨(HB3.out.trans (hb4.mono HB3.out.size)).alloc (Nat.le_trans HB3.out.size hb4.size) _⟩
           have HA4 : Kept ((w4.alloc (.cells #[.int .i64 (kn : Int), .int .i64 (mn : Int), .string d] 23)).heap[w.heap.size]? = some (.cells #[.int .u8 a.what, .int .u8 a.path, .int .u8 a.kind, .int .u8 a.mode, .int .u8 a.data] 31 (0, 0))) := ⟨(Below.heap_alloc w4 _ _ (Nat.lt_of_lt_of_le (blk HA3.out) hb4.size)).trans ((hb4.block _ (blk HA3.out)).trans HA3.out)⟩
           have HE4 := Kept.mk (heap_alloc_new w4 (.cells #[.int .i64 (kn : Int), .int .i64 (mn : Int), .string d] 23))
           clear hb4)
        | (go_at_call 8
           refine (HEs.out _ (HK.out.below HB4.out)).mono ?_
           rintro e w5 ⟨rfl, hb5⟩
           have HB5 : Kept (Below w.heap.size w (w5.alloc (.cells #[.int .i64 (k' : Int), .int .i64 (m' : Int), .string d'] 23))) := ⟨(HB4.out.trans (hb5.mono HB4.out.size)).alloc (Nat.le_trans HB4.out.size hb5.size) _⟩
           have HA5 : Kept ((w5.alloc (.cells #[.int .i64 (k' : Int), .int .i64 (m' : Int), .string d'] 23)).heap[w.heap.size]? = some (.cells #[.int .u8 a.what, .int .u8 a.path, .int .u8 a.kind, .int .u8 a.mode, .int .u8 a.data] 31 (0, 0))) := ⟨(Below.heap_alloc w5 _ _ (Nat.lt_of_lt_of_le (blk HA4.out) hb5.size)).trans ((hb5.block _ (blk HA4.out)).trans HA4.out)⟩
           have HE5 : Kept ((w5.alloc (.cells #[.int .i64 (k' : Int), .int .i64 (m' : Int), .string d'] 23)).heap[w4.heap.size]? = some (.cells #[.int .i64 (kn : Int), .int .i64 (mn : Int), .string d] 23 (0, 0))) := ⟨(Below.heap_alloc w5 _ _ (Nat.lt_of_lt_of_le (blk HE4.out) hb5.size)).trans ((hb5.block _ (blk HE4.out)).trans HE4.out)⟩
           have HX5 := Kept.mk (heap_alloc_new w5 (.cells #[.int .i64 (k' : Int), .int .i64 (m' : Int), .string d'] 23))
           obtain ⟨a0, a1, a2, a3, a4⟩ := box5 HA5.out
           clear hb5)
        | (go_at_call 12
           refine (HEn.out _).mono ?_
           rintro e w6 ⟨rfl, hb6⟩
           clear a0 a1 a2 a3 a4
           have HB6 : Kept (Below w.heap.size w (w6.alloc (.cells #[.int .i64 (kn : Int), .int .i64 (mn : Int), .string d] 23))) := ⟨(HB5.out.trans (hb6.mono HB5.out.size)).alloc (Nat.le_trans HB5.out.size hb6.size) _⟩
           have HE6 : Kept ((w6.alloc (.cells #[.int .i64 (kn : Int), .int .i64 (mn : Int), .string d] 23)).heap[w4.heap.size]? = some (.cells #[.int .i64 (kn : Int), .int .i64 (mn : Int), .string d] 23 (0, 0))) := ⟨(Below.heap_alloc w6 _ _ (Nat.lt_of_lt_of_le (blk HE5.out) hb6.size)).trans ((hb6.block _ (blk HE5.out)).trans HE5.out)⟩
           have HX6 : Kept ((w6.alloc (.cells #[.int .i64 (kn : Int), .int .i64 (mn : Int), .string d] 23)).heap[w5.heap.size]? = some (.cells #[.int .i64 (k' : Int), .int .i64 (m' : Int), .string d'] 23 (0, 0))) := ⟨(Below.heap_alloc w6 _ _ (Nat.lt_of_lt_of_le (blk HX5.out) hb6.size)).trans ((hb6.block _ (blk HX5.out)).trans HX5.out)⟩
           obtain ⟨e0, e1, e2⟩ := box3 HE6.out
           obtain ⟨x0, x1, x2⟩ := box3 HX6.out
           clear hb6)
        | (go_at_call 10
           refine (HVx.out _ (HK.out.below HB6.out)).mono ?_
           rintro e w7 ⟨rfl, hb7⟩
           have HB7 : Kept (Below w.heap.size w w7) := ⟨HB6.out.trans (hb7.mono HB6.out.size)⟩
           clear hb7))
      go_ret
      exact ⟨rfl, HB7.out⟩
  · have HEs : Kept (∀ w, Tup.Kit w → Calls Tryd.prog 8 #[.string s] w fun e w' => e = .returned (.tuple #[.agg #[.int .i64 0, .int .i64 0, .string ⟨#[]⟩], .int .i64 20]) ∧ Below w.heap.size w w') := ⟨fun w h => by have := entry_any s w (by omega) h; rw [hr] at this; exact this⟩
    clear hr
    by_cases hk0 : kn = 0
    · have HRt : Kept (∀ t : ByteArray, toL t = valL ⟨kn, mn, d⟩ → t.size ≤ 1000000 ∧ entRes t = (zeroE, 0)) := ⟨fun t ht => by
        subst hk0
        have : t = emp := toL_inj ht
        subst this
        exact ⟨by decide, entRes_emp⟩⟩
      have b0 : ((kn : Int) == 0) = true := by rw [beq_iff_eq]; omega
      have hq0 : ∀ w, (binOp .eql 23 (.agg #[.int .i64 0, .int .i64 0, .string ⟨#[]⟩]) (.agg #[.int .i64 0, .int .i64 0, .string ⟨#[]⟩])).run Tryd.prog w = .ok (.bool true) w := fun w => by
        have := ent_eq zeroE zeroE w
        rw [decide_eq_true rfl] at this
        exact this
      clear hk0 hv h0
      go_enter Tryd.func4, Tryd.ntmps4
      go_wp2_with (first
        | (go_at_call 7
           refine (awake_any _ (HK.out.below ((Below.refl _ _).alloc (Nat.le_refl _) (.cells #[.int .u8 a.what, .int .u8 a.path, .int .u8 a.kind, .int .u8 a.mode, .int .u8 a.data] 31)))).mono ?_
           rintro e w1 ⟨rfl, hb1⟩
           have HB1 : Kept (Below w.heap.size w w1) := ⟨((Below.refl _ _).alloc (Nat.le_refl _) _).trans (hb1.mono (by simp))⟩
           have HA1 : Kept (w1.heap[w.heap.size]? = some (.cells #[.int .u8 a.what, .int .u8 a.path, .int .u8 a.kind, .int .u8 a.mode, .int .u8 a.data] 31 (0, 0))) := ⟨(hb1.block _ (by simp)).trans (heap_alloc_new w _)⟩
           obtain ⟨a0, a1, a2, a3, a4⟩ := box5 HA1.out
           clear hb1)
        | (go_at_call 12
           have := T1
           refine (HEn.out w1).mono ?_
           rintro e w2 ⟨rfl, hb2⟩
           clear T1 this a0 a1 a2 a3 a4
           have HB2 : Kept (Below w.heap.size w w2) := ⟨HB1.out.trans (hb2.mono HB1.out.size)⟩
           have HA2 := Kept.mk ((hb2.block _ (blk HA1.out)).trans HA1.out)
           clear hb2)
        | (go_at_call 10
           have := T2
           refine (HVa.out w2 (HK.out.below HB2.out)).mono ?_
           rintro e w3 ⟨t, rfl, hb3, ht3⟩
           clear T2 this
           have HB3 : Kept (Below w.heap.size w w3) := ⟨HB2.out.trans (hb3.mono HB2.out.size)⟩
           have HA3 := Kept.mk ((hb3.block _ (blk HA2.out)).trans HA2.out)
           have HT : Kept (Tup.KitB w.heap.size w3 ∧ t.size ≤ 1000000 ∧ entRes t = (zeroE, 0)) := ⟨Tup.KitB.below (Tup.Kit.toB HK.out) HB3.out, HRt.out t ht3.out⟩
           clear hb3)
        | (go_at_call 8
           have := T3
           refine (entry_any t w3 HT.out.2.1 HT.out.1.kit).mono ?_
           rw [HT.out.2.2]
           unfold entV
           rintro e w4 ⟨rfl, hb4⟩
           clear T3 this
           have HB4 : Kept (Below w.heap.size w (w4.alloc (.cells #[.int .i64 0, .int .i64 0, .string ⟨#[]⟩] 23))) := ⟨(HB3.out.trans (hb4.mono HB3.out.size)).alloc (Nat.le_trans HB3.out.size hb4.size) _⟩
           have HA4 : Kept ((w4.alloc (.cells #[.int .i64 0, .int .i64 0, .string ⟨#[]⟩] 23)).heap[w.heap.size]? = some (.cells #[.int .u8 a.what, .int .u8 a.path, .int .u8 a.kind, .int .u8 a.mode, .int .u8 a.data] 31 (0, 0))) := ⟨(Below.heap_alloc w4 _ _ (Nat.lt_of_lt_of_le (blk HA3.out) hb4.size)).trans ((hb4.block _ (blk HA3.out)).trans HA3.out)⟩
           have HE4 := Kept.mk (heap_alloc_new w4 (.cells #[.int .i64 0, .int .i64 0, .string ⟨#[]⟩] 23))
           clear hb4)
        | (go_at_call 8
           refine (HEs.out _ (HK.out.below HB4.out)).mono ?_
           rintro e w5 ⟨rfl, hb5⟩
           have HB5 : Kept (Below w.heap.size w (w5.alloc (.cells #[.int .i64 0, .int .i64 0, .string ⟨#[]⟩] 23))) := ⟨(HB4.out.trans (hb5.mono HB4.out.size)).alloc (Nat.le_trans HB4.out.size hb5.size) _⟩
           have HA5 : Kept ((w5.alloc (.cells #[.int .i64 0, .int .i64 0, .string ⟨#[]⟩] 23)).heap[w.heap.size]? = some (.cells #[.int .u8 a.what, .int .u8 a.path, .int .u8 a.kind, .int .u8 a.mode, .int .u8 a.data] 31 (0, 0))) := ⟨(Below.heap_alloc w5 _ _ (Nat.lt_of_lt_of_le (blk HA4.out) hb5.size)).trans ((hb5.block _ (blk HA4.out)).trans HA4.out)⟩
           have HE5 : Kept ((w5.alloc (.cells #[.int .i64 0, .int .i64 0, .string ⟨#[]⟩] 23)).heap[w4.heap.size]? = some (.cells #[.int .i64 0, .int .i64 0, .string ⟨#[]⟩] 23 (0, 0))) := ⟨(Below.heap_alloc w5 _ _ (Nat.lt_of_lt_of_le (blk HE4.out) hb5.size)).trans ((hb5.block _ (blk HE4.out)).trans HE4.out)⟩
           have HX5 := Kept.mk (heap_alloc_new w5 (.cells #[.int .i64 0, .int .i64 0, .string ⟨#[]⟩] 23))
           obtain ⟨a0, a1, a2, a3, a4⟩ := box5 HA5.out
           clear hb5)
        | (go_at_call 12
           refine (HEn.out _).mono ?_
           rintro e w6 ⟨rfl, hb6⟩
           clear a0 a1 a2 a3 a4
           have HB6 : Kept (Below w.heap.size w (w6.alloc (.cells #[.int .i64 0, .int .i64 0, .string ⟨#[]⟩] 23))) := ⟨(HB5.out.trans (hb6.mono HB5.out.size)).alloc (Nat.le_trans HB5.out.size hb6.size) _⟩
           have HE6 : Kept ((w6.alloc (.cells #[.int .i64 0, .int .i64 0, .string ⟨#[]⟩] 23)).heap[w4.heap.size]? = some (.cells #[.int .i64 0, .int .i64 0, .string ⟨#[]⟩] 23 (0, 0))) := ⟨(Below.heap_alloc w6 _ _ (Nat.lt_of_lt_of_le (blk HE5.out) hb6.size)).trans ((hb6.block _ (blk HE5.out)).trans HE5.out)⟩
           have HX6 : Kept ((w6.alloc (.cells #[.int .i64 0, .int .i64 0, .string ⟨#[]⟩] 23)).heap[w5.heap.size]? = some (.cells #[.int .i64 0, .int .i64 0, .string ⟨#[]⟩] 23 (0, 0))) := ⟨(Below.heap_alloc w6 _ _ (Nat.lt_of_lt_of_le (blk HX5.out) hb6.size)).trans ((hb6.block _ (blk HX5.out)).trans HX5.out)⟩
           obtain ⟨e0, e1, e2⟩ := box3 HE6.out
           obtain ⟨x0, x1, x2⟩ := box3 HX6.out
           clear hb6)
        )
      go_ret
      exact ⟨rfl, HB6.out⟩
    · have hvv := hv hk0
      have HRt : Kept (∀ t : ByteArray, toL t = valL ⟨kn, mn, d⟩ → t.size ≤ 1000000 ∧ entRes t = (⟨kn, mn, d⟩, 0)) := ⟨fun t ht => ⟨val_small hvv (by show d.size ≤ 300; omega) ht, res_val hvv ht⟩⟩
      have b0 : ((kn : Int) == 0) = false := by rw [beq_eq_false_iff_ne]; omega
      have hq0 : ∀ w, (binOp .eql 23 (.agg #[.int .i64 (kn : Int), .int .i64 (mn : Int), .string d]) (.agg #[.int .i64 (kn : Int), .int .i64 (mn : Int), .string d])).run Tryd.prog w = .ok (.bool true) w := fun w => by
        have := ent_eq ⟨kn, mn, d⟩ ⟨kn, mn, d⟩ w
        rw [decide_eq_true rfl] at this
        exact this
      clear hk0 hv h0 hvv
      go_enter Tryd.func4, Tryd.ntmps4
      go_wp2_with (first
        | (go_at_call 7
           refine (awake_any _ (HK.out.below ((Below.refl _ _).alloc (Nat.le_refl _) (.cells #[.int .u8 a.what, .int .u8 a.path, .int .u8 a.kind, .int .u8 a.mode, .int .u8 a.data] 31)))).mono ?_
           rintro e w1 ⟨rfl, hb1⟩
           have HB1 : Kept (Below w.heap.size w w1) := ⟨((Below.refl _ _).alloc (Nat.le_refl _) _).trans (hb1.mono (by simp))⟩
           have HA1 : Kept (w1.heap[w.heap.size]? = some (.cells #[.int .u8 a.what, .int .u8 a.path, .int .u8 a.kind, .int .u8 a.mode, .int .u8 a.data] 31 (0, 0))) := ⟨(hb1.block _ (by simp)).trans (heap_alloc_new w _)⟩
           obtain ⟨a0, a1, a2, a3, a4⟩ := box5 HA1.out
           clear hb1)
        | (go_at_call 12
           have := T1
           refine (HEn.out w1).mono ?_
           rintro e w2 ⟨rfl, hb2⟩
           clear T1 this a0 a1 a2 a3 a4
           have HB2 : Kept (Below w.heap.size w w2) := ⟨HB1.out.trans (hb2.mono HB1.out.size)⟩
           have HA2 := Kept.mk ((hb2.block _ (blk HA1.out)).trans HA1.out)
           clear hb2)
        | (go_at_call 10
           have := T2
           refine (HVa.out w2 (HK.out.below HB2.out)).mono ?_
           rintro e w3 ⟨t, rfl, hb3, ht3⟩
           clear T2 this
           have HB3 : Kept (Below w.heap.size w w3) := ⟨HB2.out.trans (hb3.mono HB2.out.size)⟩
           have HA3 := Kept.mk ((hb3.block _ (blk HA2.out)).trans HA2.out)
           have HT : Kept (Tup.KitB w.heap.size w3 ∧ t.size ≤ 1000000 ∧ entRes t = (⟨kn, mn, d⟩, 0)) := ⟨Tup.KitB.below (Tup.Kit.toB HK.out) HB3.out, HRt.out t ht3.out⟩
           clear hb3)
        | (go_at_call 8
           have := T3
           refine (entry_any t w3 HT.out.2.1 HT.out.1.kit).mono ?_
           rw [HT.out.2.2]
           unfold entV
           rintro e w4 ⟨rfl, hb4⟩
           clear T3 this
           have HB4 : Kept (Below w.heap.size w (w4.alloc (.cells #[.int .i64 (kn : Int), .int .i64 (mn : Int), .string d] 23))) := ⟨(HB3.out.trans (hb4.mono HB3.out.size)).alloc (Nat.le_trans HB3.out.size hb4.size) _⟩
           have HA4 : Kept ((w4.alloc (.cells #[.int .i64 (kn : Int), .int .i64 (mn : Int), .string d] 23)).heap[w.heap.size]? = some (.cells #[.int .u8 a.what, .int .u8 a.path, .int .u8 a.kind, .int .u8 a.mode, .int .u8 a.data] 31 (0, 0))) := ⟨(Below.heap_alloc w4 _ _ (Nat.lt_of_lt_of_le (blk HA3.out) hb4.size)).trans ((hb4.block _ (blk HA3.out)).trans HA3.out)⟩
           have HE4 := Kept.mk (heap_alloc_new w4 (.cells #[.int .i64 (kn : Int), .int .i64 (mn : Int), .string d] 23))
           clear hb4)
        | (go_at_call 8
           refine (HEs.out _ (HK.out.below HB4.out)).mono ?_
           rintro e w5 ⟨rfl, hb5⟩
           have HB5 : Kept (Below w.heap.size w (w5.alloc (.cells #[.int .i64 0, .int .i64 0, .string ⟨#[]⟩] 23))) := ⟨(HB4.out.trans (hb5.mono HB4.out.size)).alloc (Nat.le_trans HB4.out.size hb5.size) _⟩
           have HA5 : Kept ((w5.alloc (.cells #[.int .i64 0, .int .i64 0, .string ⟨#[]⟩] 23)).heap[w.heap.size]? = some (.cells #[.int .u8 a.what, .int .u8 a.path, .int .u8 a.kind, .int .u8 a.mode, .int .u8 a.data] 31 (0, 0))) := ⟨(Below.heap_alloc w5 _ _ (Nat.lt_of_lt_of_le (blk HA4.out) hb5.size)).trans ((hb5.block _ (blk HA4.out)).trans HA4.out)⟩
           have HE5 : Kept ((w5.alloc (.cells #[.int .i64 0, .int .i64 0, .string ⟨#[]⟩] 23)).heap[w4.heap.size]? = some (.cells #[.int .i64 (kn : Int), .int .i64 (mn : Int), .string d] 23 (0, 0))) := ⟨(Below.heap_alloc w5 _ _ (Nat.lt_of_lt_of_le (blk HE4.out) hb5.size)).trans ((hb5.block _ (blk HE4.out)).trans HE4.out)⟩
           have HX5 := Kept.mk (heap_alloc_new w5 (.cells #[.int .i64 0, .int .i64 0, .string ⟨#[]⟩] 23))
           obtain ⟨a0, a1, a2, a3, a4⟩ := box5 HA5.out
           clear hb5)
        | (go_at_call 12
           refine (HEn.out _).mono ?_
           rintro e w6 ⟨rfl, hb6⟩
           clear a0 a1 a2 a3 a4
           have HB6 : Kept (Below w.heap.size w (w6.alloc (.cells #[.int .i64 (kn : Int), .int .i64 (mn : Int), .string d] 23))) := ⟨(HB5.out.trans (hb6.mono HB5.out.size)).alloc (Nat.le_trans HB5.out.size hb6.size) _⟩
           have HE6 : Kept ((w6.alloc (.cells #[.int .i64 (kn : Int), .int .i64 (mn : Int), .string d] 23)).heap[w4.heap.size]? = some (.cells #[.int .i64 (kn : Int), .int .i64 (mn : Int), .string d] 23 (0, 0))) := ⟨(Below.heap_alloc w6 _ _ (Nat.lt_of_lt_of_le (blk HE5.out) hb6.size)).trans ((hb6.block _ (blk HE5.out)).trans HE5.out)⟩
           have HX6 : Kept ((w6.alloc (.cells #[.int .i64 (kn : Int), .int .i64 (mn : Int), .string d] 23)).heap[w5.heap.size]? = some (.cells #[.int .i64 0, .int .i64 0, .string ⟨#[]⟩] 23 (0, 0))) := ⟨(Below.heap_alloc w6 _ _ (Nat.lt_of_lt_of_le (blk HX5.out) hb6.size)).trans ((hb6.block _ (blk HX5.out)).trans HX5.out)⟩
           obtain ⟨e0, e1, e2⟩ := box3 HE6.out
           obtain ⟨x0, x1, x2⟩ := box3 HX6.out
           clear hb6)
        )
      go_ret
      exact ⟨rfl, HB6.out⟩
end St
end Go.Proofs.YtjmblgahoejoiaaDoor
