/-
  What any right program answers (awake).
-/
import Derived.Test.YtjmblgahoejoiaaGreatDoorPent
import Derived.Test.YtjmblgahoejoiaaGreatDoorPat
import Derived.Test.YtjmblgahoejoiaaGreatDoorPlist
import Derived.Test.YtjmblgahoejoiaaGreatDoorSame
namespace Go.Proofs.YtjmblgahoejoiaaGreatDoor
open Go.RowKit Tx
namespace St

def slA : ByteArray := ⟨#[47, 97]⟩
def exE : Ent := ⟨1, 6, ⟨#[120]⟩⟩
def exS : ByteArray := ⟨#[49, 58, 49, 44, 49, 58, 54, 44, 49, 58, 120, 44]⟩
theorem ex_val : valL exE = toL exS := by decide +kernel
theorem ex_valid : valid exE := by decide +kernel
theorem ex_ent : entRes exS = (exE, 0) := by
  unfold entRes
  rw [← ex_val, entOf_val ex_valid]
theorem bad_ent : entRes ⟨#[120]⟩ = (zeroE, 20) := by
  unfold entRes
  have : entOf (toL ⟨#[120]⟩) = none := by decide +kernel
  rw [this]
theorem get_a : get (put [] slA exE) slA = exE := by decide +kernel
theorem get_r : get (put [] slA exE) emp = rootE := by decide +kernel
theorem names_a : names (put [] slA exE) emp = [⟨#[97]⟩] := by decide +kernel

theorem one_text (w : World) : Tup.Rd (w.alloc (.cells #[.string ⟨#[97]⟩] 9)) (some ⟨w.heap.size, 0, none⟩) [⟨#[97]⟩] := Tup.Rd.of_at (Own.At.fresh w _ _ [(⟨#[97]⟩ : ByteArray)] rfl)
theorem fldK (k m : Int) (d : ByteArray) (w : World) : (Instr.field 37 (.agg #[.int .i64 k, .int .i64 m, .string d]) 0).run Tryz.prog w = .ok (.int .i64 k) w := by kernel_rfl
theorem fldD (k m : Int) (d : ByteArray) (w : World) : (Instr.field 37 (.agg #[.int .i64 k, .int .i64 m, .string d]) 2).run Tryz.prog w = .ok (.string d) w := by kernel_rfl

set_option maxRecDepth 100000 in
theorem awake_any (w : World) (hK : Tup.Kit w) :
    Calls Tryz.prog 5 #[] w fun e w' => e = .returned (.bool true) ∧ Below w.heap.size w w' := by
  have HK := Kept.mk hK
  clear hK
  have H1 : Kept (∀ g b w, PSto w g b 1 lvNone [] → Calls Tryz.prog 10 #[.pointer (some ⟨g, 0, none⟩), .string ⟨#[47, 97]⟩, .agg #[.int .i64 1, .int .i64 6, .string ⟨#[120]⟩]] w fun e w' => e = .returned (.tuple #[]) ∧ Kept (PSto w' g b 2 lvNone (put [] slA exE)) ∧ Only (· = b) w w') :=
    ⟨fun g b w h => put_none g b 1 [] slA exE w h (by decide) (by omega)⟩
  have H2 : Kept (∀ w, Tup.Kit w → Calls Tryz.prog 22 #[.string ⟨#[49, 58, 49, 44, 49, 58, 54, 44, 49, 58, 120, 44]⟩] w fun e w' => e = .returned (.tuple #[.agg #[.int .i64 1, .int .i64 6, .string ⟨#[120]⟩], .int .i64 0]) ∧ Below w.heap.size w w') :=
    ⟨fun w h => by have := entry_any exS w (by decide) h; rw [ex_ent] at this; exact this⟩
  have H3 : Kept (∀ w, Tup.Kit w → Calls Tryz.prog 22 #[.string ⟨#[120]⟩] w fun e w' => e = .returned (.tuple #[.agg #[.int .i64 0, .int .i64 0, .string ⟨#[]⟩], .int .i64 20]) ∧ Below w.heap.size w w') :=
    ⟨fun w h => by have := entry_any ⟨#[120]⟩ w (by decide) h; rw [bad_ent] at this; exact this⟩
  have H4 : Kept (∀ g b w, PSto w g b 2 lvNone (put [] slA exE) → Calls Tryz.prog 15 #[.pointer (some ⟨g, 0, none⟩), .string ⟨#[47, 97]⟩] w fun e w' => e = .returned (.agg #[.int .i64 1, .int .i64 6, .string ⟨#[120]⟩]) ∧ Below w.heap.size w w') :=
    ⟨fun g b w h => by have := at_none g b 2 _ slA w h (by decide); rw [get_a] at this; exact this⟩
  have H5 : Kept (∀ g b w, PSto w g b 2 lvNone (put [] slA exE) → Calls Tryz.prog 15 #[.pointer (some ⟨g, 0, none⟩), .string ⟨#[]⟩] w fun e w' => e = .returned (.agg #[.int .i64 2, .int .i64 7, .string ⟨#[]⟩]) ∧ Below w.heap.size w w') :=
    ⟨fun g b w h => by have := at_none g b 2 _ emp w h (by decide); rw [get_r] at this; exact this⟩
  have H6 : Kept (∀ g b w, PSto w g b 2 lvNone (put [] slA exE) → Calls Tryz.prog 16 #[.pointer (some ⟨g, 0, none⟩), .string ⟨#[]⟩] w fun e w' => ∃ A k, e = .returned (.slice A 1 k) ∧ Kept (Tup.Rd w' A [⟨#[97]⟩]) ∧ Below w.heap.size w w') :=
    ⟨fun g b w h => (names_none g b 2 _ emp w h (by decide) (by decide)).mono fun e w' ⟨v, he, hv, hb⟩ => by
      obtain ⟨A, k, hv2, hr⟩ := Tup.Rd.of_es hv.out
      rw [names_a] at hv2 hr
      exact ⟨A, k, by rw [he, hv2]; rfl, ⟨hr⟩, hb⟩⟩
  have H7 : Kept (∀ A C k q w, Tup.Rd w A [⟨#[97]⟩] → Tup.Rd w C [⟨#[97]⟩] → Calls Tryz.prog 21 #[.slice A 1 k, .slice C 1 q] w fun e w' => e = .returned (.bool true) ∧ Below w.heap.size w w') :=
    ⟨fun A C k q w h1 h2 => (Tup.same_any [⟨#[97]⟩] [⟨#[97]⟩] A C 1 k 1 q w h1 h2 rfl rfl (by omega) (by omega)).mono fun e w' ⟨he, hb⟩ => ⟨by rw [he, decide_eq_true rfl], hb⟩⟩
  have H8 : Kept (∀ w, Tup.Kit w → Calls Tryz.prog 23 #[.agg #[.int .i64 1, .int .i64 6, .string ⟨#[120]⟩]] w fun e w' => e = .returned (.string ⟨#[49, 58, 49, 44, 49, 58, 54, 44, 49, 58, 120, 44]⟩) ∧ Below w.heap.size w w') :=
    ⟨fun w h => (value_any 1 6 ⟨#[120]⟩ w (by omega) (by omega) (by decide) h).mono fun e w' ⟨t, he, hb, ht⟩ => ⟨by rw [he, toL_inj (ht.out.trans ex_val)]; rfl, hb⟩⟩
  have hfD := fldD 1 6 ⟨#[120]⟩
  have hfK := fldK 2 7 ⟨#[]⟩
  go_enter Tryz.func5, Tryz.ntmps5
  go_wp2_with (first
    | (go_at_call 6
       refine (new_any w).mono ?_
       rintro e w1 ⟨g, b, rfl, hg, hb, hp, hB⟩
       have HP1 := hp
       have HB1 := Kept.mk hB
       have HG := Kept.mk hg
       have HG2 := Kept.mk hb
       clear hB hp hg hb)
    | (go_at_call 10
       refine (H1.out g b _ HP1.out).mono ?_
       rintro e w2 ⟨rfl, hp, ho⟩
       have HP2 := hp
       have HB2 : Kept (Below w.heap.size w w2) := ⟨HB1.out.trans (ho.toBelow (fun k hk e => by have := HG2.out; omega) HB1.out.size)⟩
       clear ho hp)
    | (go_at_call 22
       refine (H2.out _ (HK.out.below HB2.out)).mono ?_
       rintro e w3 ⟨rfl, hb3⟩
       have HP3 := Kept.mk ((HP2.out.below hb3).alloc (.cells #[.int .i64 1, .int .i64 6, .string ⟨#[120]⟩] 37))
       have HB3 : Kept (Below w.heap.size w (w3.alloc (.cells #[.int .i64 1, .int .i64 6, .string ⟨#[120]⟩] 37))) := ⟨(HB2.out.trans (hb3.mono HB2.out.size)).alloc (Nat.le_trans HB2.out.size hb3.size) _⟩
       clear hb3 H2)
    | (go_at_call 22
       refine (H3.out _ (HK.out.below HB3.out)).mono ?_
       rintro e w4 ⟨rfl, hb4⟩
       have HP4 := Kept.mk ((HP3.out.below hb4).alloc (.cells #[.int .i64 0, .int .i64 0, .string ⟨#[]⟩] 37))
       have HB4 : Kept (Below w.heap.size w (w4.alloc (.cells #[.int .i64 0, .int .i64 0, .string ⟨#[]⟩] 37))) := ⟨(HB3.out.trans (hb4.mono HB3.out.size)).alloc (Nat.le_trans HB3.out.size hb4.size) _⟩
       have HY4 : Kept ((w4.alloc (.cells #[.int .i64 0, .int .i64 0, .string ⟨#[]⟩] 37)).heap[w3.heap.size]? = some (.cells #[.int .i64 1, .int .i64 6, .string ⟨#[120]⟩] 37 (0, 0))) :=
         ⟨(Below.heap_alloc w4 _ _ (Nat.lt_of_lt_of_le (by simp) hb4.size)).trans ((hb4.block _ (by simp)).trans (heap_alloc_new w3 _))⟩
       clear hb4 H3)
    | (go_at_call 15
       refine (H4.out g b _ HP4.out).mono ?_
       rintro e w5 ⟨rfl, hb5⟩
       have HP5 := Kept.mk (HP4.out.below hb5)
       have HB5 : Kept (Below w.heap.size w w5) := ⟨HB4.out.trans (hb5.mono HB4.out.size)⟩
       have HY5 : Kept (w5.heap[w3.heap.size]? = some (.cells #[.int .i64 1, .int .i64 6, .string ⟨#[120]⟩] 37 (0, 0))) := ⟨(hb5.block _ (Array.getElem?_eq_some_iff.1 HY4.out).1).trans HY4.out⟩
       clear hb5 H4)
    | (go_at_call 15
       refine (H5.out g b _ HP5.out).mono ?_
       rintro e w6 ⟨rfl, hb6⟩
       have HP6 := Kept.mk (HP5.out.below hb6)
       have HB6 : Kept (Below w.heap.size w w6) := ⟨HB5.out.trans (hb6.mono HB5.out.size)⟩
       have HY6 : Kept (w6.heap[w3.heap.size]? = some (.cells #[.int .i64 1, .int .i64 6, .string ⟨#[120]⟩] 37 (0, 0))) := ⟨(hb6.block _ (Array.getElem?_eq_some_iff.1 HY5.out).1).trans HY5.out⟩
       clear hb6 H5)
    | (go_at_call 16
       refine (H6.out g b _ HP6.out).mono ?_
       rintro e w7 ⟨A, k, rfl, hr7, hb7⟩
       have HB7 : Kept (Below w.heap.size w w7) := ⟨HB6.out.trans (hb7.mono HB6.out.size)⟩
       have HY7 : Kept (w7.heap[w3.heap.size]? = some (.cells #[.int .i64 1, .int .i64 6, .string ⟨#[120]⟩] 37 (0, 0))) := ⟨(hb7.block _ (Array.getElem?_eq_some_iff.1 HY6.out).1).trans HY6.out⟩
       have HB7a : Kept (Below w.heap.size w (w7.alloc (.cells #[.string ⟨#[97]⟩] 9))) := ⟨HB7.out.alloc HB7.out.size _⟩
       clear hb7 H6)
    | (go_at_call 21
       refine (H7.out _ _ _ _ _ (hr7.out.below ((Below.refl _ _).alloc (Nat.le_refl _) _)) (one_text w7)).mono ?_
       rintro e w8 ⟨rfl, hb8⟩
       have HB8 : Kept (Below w.heap.size w w8) := ⟨HB7a.out.trans (hb8.mono HB7a.out.size)⟩
       have HY8 : Kept (w8.heap[w3.heap.size]? = some (.cells #[.int .i64 1, .int .i64 6, .string ⟨#[120]⟩] 37 (0, 0))) := by
         have hlt := (Array.getElem?_eq_some_iff.1 HY7.out).1
         exact ⟨(hb8.block _ (by simp; omega)).trans ((Below.heap_alloc w7 _ _ hlt).trans HY7.out)⟩
       have d0 := cell_of_row w8 w3.heap.size 0 _ _ _ HY8.out
       have d1 := cell_of_row w8 w3.heap.size 1 _ _ _ HY8.out
       have d2 := cell_of_row w8 w3.heap.size 2 _ _ _ HY8.out
       clear hb8 H7)
    | (go_at_call 23
       refine (H8.out _ (HK.out.below HB8.out)).mono ?_
       rintro e w9 ⟨rfl, hb9⟩
       have HB9 : Kept (Below w.heap.size w w9) := ⟨HB8.out.trans (hb9.mono HB8.out.size)⟩
       clear hb9 H8))
  go_ret
  exact ⟨rfl, HB9.out⟩
end St
end Go.Proofs.YtjmblgahoejoiaaGreatDoor
