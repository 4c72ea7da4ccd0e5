/-
  The text of any list, and the list of any text, are the document's: the law's call.
-/
import Derived.Test.YthiehhnobiapjaaDoorRdec
import Derived.Test.YthiehhnobiapjaaDoorDig
import Derived.Test.YthiehhnobiapjaaDoorBack
namespace Go.Proofs.YthiehhnobiapjaaDoor
open Go.RowKit Net
namespace Tup

theorem refDec_some (s : ByteArray) (l : List ByteArray) (w : World) (hs : s.size ≤ 4000000000) (h : dec (toL s) = some (l.map toL)) :
    Calls Tryd.prog 9 #[.string s] w fun e w' => ∃ A k, e = .returned (.tuple #[.slice A l.length k, .int .i64 0]) ∧ Below w.heap.size w w' ∧ Kept (Rd w' A l) := by
  refine (refDec_any s w hs).mono ?_
  rintro e w' ⟨v, k, rfl, hb, hd⟩
  rcases hd.out with ⟨h1, _⟩ | ⟨m, h1, he, rfl⟩
  · rw [h] at h1; cases h1
  · rw [h] at h1
    obtain rfl := map_toL_inj (Option.some.inj h1)
    obtain ⟨A, k, rfl, hr⟩ := Rd.of_es he
    exact ⟨A, k, rfl, hb, ⟨hr⟩⟩
theorem refDec_none (s : ByteArray) (w : World) (hs : s.size ≤ 4000000000) (h : dec (toL s) = none) :
    Calls Tryd.prog 9 #[.string s] w fun e w' => e = .returned (.tuple #[.slice none 0 0, .int .i64 20]) ∧ Below w.heap.size w w' := by
  refine (refDec_any s w hs).mono ?_
  rintro e w' ⟨v, k, rfl, hb, hd⟩
  rcases hd.out with ⟨h1, rfl, rfl⟩ | ⟨m, h1, he, rfl⟩
  · exact ⟨rfl, hb⟩
  · rw [h] at h1; cases h1
theorem refEnc_few (l : List ByteArray) (A : Option Addr) (n k : Nat) (w : World) (hR : Rd w A l) (hn : l.length = n) (h : much l ≤ 2000) :
    Calls Tryd.prog 11 #[.slice A n k] w fun e w' => ∃ t : ByteArray, e = .returned (.string t) ∧ Below w.heap.size w w' ∧ Kept (t = bs (enc (l.map toL))) :=
  refEnc_any l A n k w hR hn (by have := (few_mem h).1; omega) (fun s hs => by have := (few_mem h).2 s hs; omega)
theorem same_text {t u : ByteArray} {x : List UInt8} (ht : t = bs x) (hu : u = bs x) : (t.toList == u.toList) = true := by
  rw [beq_str, decide_eq_true (ht.trans hu.symm)]

set_option maxHeartbeats 1000000 in
set_option maxRecDepth 100000 in
theorem encodes_any (l : List ByteArray) (A : Option Addr) (n k : Nat) (s : ByteArray) (w : World) (hK : Kit w) (hl : Arg w A n k l) (hs : s.size ≤ 9223372036854775807) :
    Calls Tryd.prog 3 #[.slice A n k, .string s] w fun e w' => e = .returned (.bool true) ∧ Below w.heap.size w w' := by
  have HK := Kept.mk hK
  have HL := Kept.mk hl
  clear hK hl
  by_cases hF : much l ≤ 2000
  · have HF := Kept.mk hF
    clear hF
    by_cases hS : s.size ≤ 2000
    · cases hd : dec (toL s) with
      | none =>
        have HD := Kept.mk hd
        have H1 : Kept (∀ w, Calls Tryd.prog 12 #[.slice none 0 0, .slice none 0 0] w fun e w' => e = .returned (.bool true) ∧ Below w.heap.size w w') :=
          ⟨fun w => (same_any [] [] none none 0 0 0 0 w (Rd.nil _ _) (Rd.nil _ _) rfl rfl (by omega) (by omega)).mono fun e w' ⟨he, hb⟩ => ⟨by rw [he, decide_eq_true rfl], hb⟩⟩
        clear hd
        go_enter Tryd.func3, Tryd.ntmps3
        go_wp2_with (first
          | (go_at_call 6; refine (few_is l A n k w true HL.out.rd HL.out.len HL.out.lim HL.out.each (decide_eq_true HF.out)).mono ?_; rintro e w0 ⟨rfl, rfl⟩)
          | (go_at_call 8; refine (decode_none s _ (by omega) HK.out HD.out).mono ?_; rintro e w1 ⟨rfl, hb1⟩; have HB1 := Kept.mk hb1; clear hb1)
          | (go_at_call 9; refine (refDec_none s w1 (by omega) HD.out).mono ?_; rintro e w2 ⟨rfl, hb2⟩; have HB2 := Kept.mk (HB1.out.trans (hb2.mono HB1.out.size)); clear hb2)
          | (go_at_call 7; refine (awake_any w2 (HK.out.below HB2.out)).mono ?_; rintro e w3 ⟨rfl, hb3⟩; have HB3 := Kept.mk (HB2.out.trans (hb3.mono HB2.out.size)); clear hb3)
          | (go_at_call 10; refine (encode_few l A n k w3 (HK.out.below HB3.out) (HL.out.rd.below HB3.out) HL.out.len HF.out).mono ?_; rintro e w4 ⟨t, rfl, hb4, ht⟩; have HB4 := Kept.mk (HB3.out.trans (hb4.mono HB3.out.size)); clear hb4)
          | (go_at_call 11; refine (refEnc_few l A n k w4 (HL.out.rd.below HB4.out) HL.out.len HF.out).mono ?_; rintro e w5 ⟨u, rfl, hb5, hu⟩; have HB5 := Kept.mk (HB4.out.trans (hb5.mono HB4.out.size)); clear hb5; have hE := same_text ht.out hu.out)
          | (go_at_call 12; refine (H1.out w5).mono ?_; rintro e w6 ⟨rfl, hb6⟩; have HB6 := Kept.mk (HB5.out.trans (hb6.mono HB5.out.size)); clear hb6))
        go_ret
        exact ⟨rfl, HB6.out⟩
      | some m0 =>
        obtain ⟨m, rfl⟩ : ∃ m : List ByteArray, m0 = m.map toL := ⟨m0.map bs, (map_bs_toL m0).symm⟩
        have HD := Kept.mk hd
        have hds := dec_some hd
        have hm1 : m.length ≤ 2000 := by have := enc_count (m.map toL); rw [List.length_map, hds, toL_length] at this; omega
        have H1 : Kept (∀ A C k q w, Rd w A m → Rd w C m → Calls Tryd.prog 12 #[.slice A m.length k, .slice C m.length q] w fun e w' => e = .returned (.bool true) ∧ Below w.heap.size w w') :=
          ⟨fun A C k q w h1 h2 => (same_any m m A C m.length k m.length q w h1 h2 rfl rfl (by omega) (by omega)).mono fun e w' ⟨he, hb⟩ => ⟨by rw [he, decide_eq_true rfl], hb⟩⟩
        clear hd hds hm1
        go_enter Tryd.func3, Tryd.ntmps3
        go_wp2_with (first
          | (go_at_call 6; refine (few_is l A n k w true HL.out.rd HL.out.len HL.out.lim HL.out.each (decide_eq_true HF.out)).mono ?_; rintro e w0 ⟨rfl, rfl⟩)
          | (go_at_call 8; refine (decode_some s m _ (by omega) HK.out HD.out).mono ?_; rintro e w1 ⟨C, p, rfl, hb1, hr1⟩; have HB1 := Kept.mk hb1; clear hb1)
          | (go_at_call 9; refine (refDec_some s m w1 (by omega) HD.out).mono ?_; rintro e w2 ⟨D, q, rfl, hb2, hr2⟩; have HB2 := Kept.mk (HB1.out.trans (hb2.mono HB1.out.size)); have HR2 := Kept.mk (hr1.out.below hb2); clear hb2 hr1)
          | (go_at_call 7; refine (awake_any w2 (HK.out.below HB2.out)).mono ?_; rintro e w3 ⟨rfl, hb3⟩; have HB3 := Kept.mk (HB2.out.trans (hb3.mono HB2.out.size)); have HR3 := Kept.mk (And.intro (HR2.out.below hb3) (hr2.out.below hb3)); clear hb3 HR2 hr2)
          | (go_at_call 10; refine (encode_few l A n k w3 (HK.out.below HB3.out) (HL.out.rd.below HB3.out) HL.out.len HF.out).mono ?_; rintro e w4 ⟨t, rfl, hb4, ht⟩; have HB4 := Kept.mk (HB3.out.trans (hb4.mono HB3.out.size)); have HR4 := Kept.mk (And.intro (HR3.out.1.below hb4) (HR3.out.2.below hb4)); clear hb4 HR3)
          | (go_at_call 11; refine (refEnc_few l A n k w4 (HL.out.rd.below HB4.out) HL.out.len HF.out).mono ?_; rintro e w5 ⟨u, rfl, hb5, hu⟩; have HB5 := Kept.mk (HB4.out.trans (hb5.mono HB4.out.size)); have HR5 := Kept.mk (And.intro (HR4.out.1.below hb5) (HR4.out.2.below hb5)); clear hb5 HR4; have hE := same_text ht.out hu.out)
          | (go_at_call 12; refine (H1.out C D p q w5 HR5.out.1 HR5.out.2).mono ?_; rintro e w6 ⟨rfl, hb6⟩; have HB6 := Kept.mk (HB5.out.trans (hb6.mono HB5.out.size)); clear hb6))
        go_ret
        exact ⟨rfl, HB6.out⟩
    · have hz : (2000 : Int) < s.size := by omega
      go_enter Tryd.func3, Tryd.ntmps3
      go_wp2_with (first
        | (go_at_call 6; refine (few_is l A n k w true HL.out.rd HL.out.len HL.out.lim HL.out.each (decide_eq_true HF.out)).mono ?_; rintro e w0 ⟨rfl, rfl⟩)
        | (go_at_call 7; refine (awake_any _ HK.out).mono ?_; rintro e w1 ⟨rfl, hb1⟩))
      go_ret
      exact ⟨rfl, hb1⟩
  · have HF := Kept.mk hF
    clear hF
    go_enter Tryd.func3, Tryd.ntmps3
    go_wp2_with (first
      | (go_at_call 6; refine (few_is l A n k w false HL.out.rd HL.out.len HL.out.lim HL.out.each (decide_eq_false HF.out)).mono ?_; rintro e w0 ⟨rfl, rfl⟩)
      | (go_at_call 7; refine (awake_any _ HK.out).mono ?_; rintro e w1 ⟨rfl, hb1⟩))
    go_ret
    exact ⟨rfl, hb1⟩
end Tup
end Go.Proofs.YthiehhnobiapjaaDoor
