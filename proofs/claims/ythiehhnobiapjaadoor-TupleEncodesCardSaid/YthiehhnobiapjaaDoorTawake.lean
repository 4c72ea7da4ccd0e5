/-
  What any right program answers: one list told and read, one text refused.
-/
import Derived.Test.YthiehhnobiapjaaDoorDec
import Derived.Test.YthiehhnobiapjaaDoorEnc
import Derived.Test.YthiehhnobiapjaaDoorSame
namespace Go.Proofs.YthiehhnobiapjaaDoor
open Go.RowKit Net
namespace Tup

def two : List ByteArray := [⟨#[97]⟩, ⟨#[]⟩]
theorem dec_two : dec (toL ⟨#[49, 58, 97, 44, 48, 58, 44]⟩) = some (two.map toL) := by decide +kernel
theorem dec_bad : dec (toL ⟨#[48, 49, 58, 97, 44]⟩) = none := by decide +kernel
theorem enc_two : bs (enc (two.map toL)) = ⟨#[49, 58, 97, 44, 48, 58, 44]⟩ := by
  have : enc (two.map toL) = [49, 58, 97, 44, 48, 58, 44] := by decide +kernel
  rw [this]
  rfl

/-- Decode, where there is a list. -/
theorem decode_some (s : ByteArray) (l : List ByteArray) (w : World) (hs : s.size ≤ 4000000000) (hK : Kit w) (h : dec (toL s) = some (l.map toL)) :
    Calls Tryd.prog 8 #[.string s] w fun e w' => ∃ A k, e = .returned (.tuple #[.slice A l.length k, .int .i64 0]) ∧ Below w.heap.size w w' ∧ Kept (Rd w' A l) := by
  refine (decode_any s w hs hK).mono ?_
  rintro e w' ⟨v, k, rfl, hb, hd⟩
  rcases hd.out with ⟨h1, _⟩ | ⟨m, h1, he, rfl⟩
  · rw [h] at h1; cases h1
  · rw [h] at h1
    obtain rfl := map_toL_inj (Option.some.inj h1)
    obtain ⟨A, k, rfl, hr⟩ := Rd.of_es he
    exact ⟨A, k, rfl, hb, ⟨hr⟩⟩
/-- .. and where there is none. -/
theorem decode_none (s : ByteArray) (w : World) (hs : s.size ≤ 4000000000) (hK : Kit w) (h : dec (toL s) = none) :
    Calls Tryd.prog 8 #[.string s] w fun e w' => e = .returned (.tuple #[.slice none 0 0, .int .i64 20]) ∧ Below w.heap.size w w' := by
  refine (decode_any s w hs hK).mono ?_
  rintro e w' ⟨v, k, rfl, hb, hd⟩
  rcases hd.out with ⟨h1, rfl, rfl⟩ | ⟨m, h1, he, rfl⟩
  · exact ⟨rfl, hb⟩
  · rw [h] at h1; cases h1

theorem two_at (w : World) : Rd (w.alloc (.cells #[.string ⟨#[97]⟩, .string ⟨#[]⟩] 9)) (some ⟨w.heap.size, 0, none⟩) two := Rd.of_at (Own.At.fresh w _ _ two rfl)
theorem two_small : ∀ s ∈ two, s.size ≤ 1000000 := by decide +kernel

set_option maxRecDepth 100000 in
theorem awake_any (w : World) (hK : Kit w) :
    Calls Tryd.prog 7 #[] w fun e w' => e = .returned (.bool true) ∧ Below w.heap.size w w' := by
  have HK := Kept.mk hK
  clear hK
  have H1 : Kept (∀ w, Kit w → Calls Tryd.prog 8 #[.string ⟨#[49, 58, 97, 44, 48, 58, 44]⟩] w fun e w' => ∃ A k, e = .returned (.tuple #[.slice A 2 k, .int .i64 0]) ∧ Below w.heap.size w w' ∧ Kept (Rd w' A two)) :=
    ⟨fun w h => decode_some _ two w (by decide) h dec_two⟩
  have H2 : Kept (∀ w, Kit w → Calls Tryd.prog 8 #[.string ⟨#[48, 49, 58, 97, 44]⟩] w fun e w' => e = .returned (.tuple #[.slice none 0 0, .int .i64 20]) ∧ Below w.heap.size w w') :=
    ⟨fun w h => decode_none _ w (by decide) h dec_bad⟩
  have H3 : Kept (∀ A k w, Kit w → Rd w A two → Calls Tryd.prog 10 #[.slice A 2 k] w fun e w' => e = .returned (.string ⟨#[49, 58, 97, 44, 48, 58, 44]⟩) ∧ Below w.heap.size w w') :=
    ⟨fun A k w h hr => (encode_any two A 2 k w h hr rfl (by omega) two_small).mono fun e w' ⟨t, he, hb, ht⟩ => ⟨by rw [he, ht.out, enc_two], hb⟩⟩
  have H4 : Kept (∀ A C k q w, Rd w A two → Rd w C two → Calls Tryd.prog 12 #[.slice A 2 k, .slice C 2 q] w fun e w' => e = .returned (.bool true) ∧ Below w.heap.size w w') :=
    ⟨fun A C k q w h1 h2 => (same_any two two A C 2 k 2 q w h1 h2 rfl rfl (by omega) (by omega)).mono fun e w' ⟨he, hb⟩ => ⟨by rw [he, decide_eq_true rfl], hb⟩⟩
  go_enter Tryd.func7, Tryd.ntmps7
  go_wp2_with (first
    | (go_at_call 8
       refine (H1.out _ HK.out).mono ?_
       rintro e w1 ⟨A, k, rfl, hb1, hr1⟩
       have HB1 := Kept.mk hb1
       clear hb1 H1)
    | (go_at_call 8
       refine (H2.out _ (HK.out.below HB1.out)).mono ?_
       rintro e w2 ⟨rfl, hb2⟩
       have HB2 : Kept (Below w.heap.size w w2) := ⟨HB1.out.trans (hb2.mono HB1.out.size)⟩
       have HR2 : Kept (Rd w2 A two) := ⟨hr1.out.below hb2⟩
       clear hb2 H2)
    | (go_at_call 10
       refine (H3.out _ _ _ (HK.out.below (HB2.out.alloc HB2.out.size _)) (two_at w2)).mono ?_
       rintro e w3 ⟨rfl, hb3⟩
       have HB3 : Kept (Below w.heap.size w w3) := ⟨(HB2.out.alloc HB2.out.size _).trans (hb3.mono (by have := HB2.out.size; simp; omega))⟩
       have HR3 : Kept (Rd w3 A two) := ⟨(HR2.out.below ((Below.refl _ _).alloc (Nat.le_refl _) _)).below hb3⟩
       clear hb3 H3)
    | (go_at_call 12
       refine (H4.out _ _ _ _ _ (HR3.out.below ((Below.refl _ _).alloc (Nat.le_refl _) _)) (two_at w3)).mono ?_
       rintro e w4 ⟨rfl, hb4⟩
       have HB4 : Kept (Below w.heap.size w w4) := ⟨(HB3.out.alloc HB3.out.size _).trans (hb4.mono (by have := HB3.out.size; simp; omega))⟩
       clear hb4 H4))
  go_ret
  exact ⟨rfl, HB4.out⟩
end Tup
end Go.Proofs.YthiehhnobiapjaaDoor
