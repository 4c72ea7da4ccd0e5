/-
  The laws of patterns over any program: without the document's answer.
-/
import Derived.Test.YtkifnabkoidhcaaPl2
namespace Go.Proofs.Ytkifnabkoidhcaa
open Go.RowKit Tx
namespace Pm
open Pc
variable {K : World → Prop}

theorem plain_le : ∀ (p : List UInt8), (plain p).length ≤ p.length
  | [] => Nat.le_refl _
  | [x] => Nat.le_refl _
  | x :: y :: r => by
    rw [plain]
    split
    · have := plain_le r; simp only [List.length_cons]; omega
    · have := plain_le (y :: r); simp only [List.length_cons] at *; omega
theorem beq_no {x y : ByteArray} (h : x ≠ y) : (x.toList == y.toList) = false := by rw [beq_str, decide_eq_false h]
theorem bne_no {x y : ByteArray} (h : x ≠ y) : (x.toList != y.toList) = true := by unfold bne; rw [beq_no h]; rfl
set_option maxHeartbeats 2000000 in
set_option maxRecDepth 100000 in
theorem self_any (M : PaK K) (s t : ByteArray) (w : World) (hK : K w)  :
    Calls Try.prog 7 #[.string s, .string t] w fun e w' => e = .returned (.bool true) ∧ Below w.heap.size w w' := by
  have HK := Kept.mk hK
  clear hK
  go_enter Try.func7, Try.ntmps7
  go_wp2_with fail
  go_at_call 11
  refine (awake_any M w HK.out).mono ?_
  rintro e w1 ⟨rfl, hb⟩
  have HB1 := Kept.mk hb
  clear hb
  by_cases h1 : (100 : Int) < (s.size : Int)
  · go_wp2_with fail
    go_ret
    exact ⟨rfl, HB1.out⟩
  by_cases h2 : (100 : Int) < (t.size : Int)
  · go_wp2_with fail
    go_ret
    exact ⟨rfl, HB1.out⟩
  have hs1 : s.size ≤ 100 := by omega
  have ht1 : t.size ≤ 100 := by omega
  obtain ⟨P, hP⟩ : ∃ P, P = bs (esc (toL s)) := ⟨_, rfl⟩
  have HP := Kept.mk hP
  have hPl : toL P = esc (toL s) := by rw [hP, toL_bs]
  have hPz : P.size ≤ 200 := by rw [← toL_length, hPl, esc_length, toL_length]; omega
  have E1 : Kept (true = mat (toL P) (toL s)) := ⟨by rw [hPl, mat_esc, decide_eq_true rfl]⟩
  have E3 : Kept (s = bs (plain (toL P))) := ⟨by rw [hPl, plain_esc, bs_toL]⟩
  have E4 : Kept (false = special (toL P)) := ⟨by rw [hPl, special_esc]⟩
  by_cases hst : s = t
  · subst hst
    have E2 : Kept (true = mat (toL P) (toL s)) := E1
    clear hP hPl
    go_wp2_with fail
    go_at_call 23
    refine (M.esc1 (x := P) s w1 (M.keep _ _ HK.out HB1.out) (by omega) HP.out).mono ?_
    rintro e w2 ⟨rfl, hb⟩
    have HB2 := Kept.mk (HB1.out.trans (hb.mono HB1.out.size))
    clear hb
    go_wp2_with fail
    go_at_call 13
    refine (M.mat1 (b := true) P s w2 (M.keep _ _ HK.out HB2.out) (by omega) (by omega) E1.out).mono ?_
    rintro e w3 ⟨rfl, hb⟩
    have HB3 := Kept.mk (HB2.out.trans (hb.mono HB2.out.size))
    clear hb
    go_wp2_with fail
    go_at_call 13
    refine (M.mat1 (b := true) P s w3 (M.keep _ _ HK.out HB3.out) (by omega) (by omega) E2.out).mono ?_
    rintro e w4 ⟨rfl, hb⟩
    have HB4 := Kept.mk (HB3.out.trans (hb.mono HB3.out.size))
    clear hb
    go_wp2_with fail
    go_at_call 17
    refine (M.plain1 (x := s) P w4 (M.keep _ _ HK.out HB4.out) (by omega) E3.out).mono ?_
    rintro e w5 ⟨rfl, hb⟩
    have HB5 := Kept.mk (HB4.out.trans (hb.mono HB4.out.size))
    clear hb
    go_wp2_with fail
    go_at_call 19
    refine (M.special1 (b := false) P w5 (M.keep _ _ HK.out HB5.out) (by omega) E4.out).mono ?_
    rintro e w6 ⟨rfl, hb⟩
    have HB6 := Kept.mk (HB5.out.trans (hb.mono HB5.out.size))
    clear hb
    go_wp2_with fail
    go_ret
    exact ⟨rfl, HB6.out⟩
  · have hbe := beq_no hst
    have E2 : Kept (false = mat (toL P) (toL t)) := ⟨by rw [hPl, mat_esc, decide_eq_false (fun e => hst (toL_inj e).symm)]⟩
    clear hP hPl hst
    go_wp2_with fail
    go_at_call 23
    refine (M.esc1 (x := P) s w1 (M.keep _ _ HK.out HB1.out) (by omega) HP.out).mono ?_
    rintro e w2 ⟨rfl, hb⟩
    have HB2 := Kept.mk (HB1.out.trans (hb.mono HB1.out.size))
    clear hb
    go_wp2_with fail
    go_at_call 13
    refine (M.mat1 (b := true) P s w2 (M.keep _ _ HK.out HB2.out) (by omega) (by omega) E1.out).mono ?_
    rintro e w3 ⟨rfl, hb⟩
    have HB3 := Kept.mk (HB2.out.trans (hb.mono HB2.out.size))
    clear hb
    go_wp2_with fail
    go_at_call 13
    refine (M.mat1 (b := false) P t w3 (M.keep _ _ HK.out HB3.out) (by omega) (by omega) E2.out).mono ?_
    rintro e w4 ⟨rfl, hb⟩
    have HB4 := Kept.mk (HB3.out.trans (hb.mono HB3.out.size))
    clear hb
    go_wp2_with fail
    go_at_call 17
    refine (M.plain1 (x := s) P w4 (M.keep _ _ HK.out HB4.out) (by omega) E3.out).mono ?_
    rintro e w5 ⟨rfl, hb⟩
    have HB5 := Kept.mk (HB4.out.trans (hb.mono HB4.out.size))
    clear hb
    go_wp2_with fail
    go_at_call 19
    refine (M.special1 (b := false) P w5 (M.keep _ _ HK.out HB5.out) (by omega) E4.out).mono ?_
    rintro e w6 ⟨rfl, hb⟩
    have HB6 := Kept.mk (HB5.out.trans (hb.mono HB5.out.size))
    clear hb
    go_wp2_with fail
    go_ret
    exact ⟨rfl, HB6.out⟩
set_option maxRecDepth 100000 in
theorem signs_any (w : World) : Calls Try.prog 16 #[] w fun e w' => ∃ g, e = .returned (.slice (some ⟨g, 0, none⟩) 16 16) ∧ g < w'.heap.size ∧ Kept (Few 5 w' g 16) ∧ Below w.heap.size w w' := by
  go_enter Try.func16, Try.ntmps16
  go_wp2_with fail
  go_ret
  refine ⟨w.heap.size, rfl, by simp, ⟨few_of (M := 5) (heap_alloc_new w _) (by decide +kernel)⟩, (Below.refl _ _).alloc (Nat.le_refl _) _⟩
set_option maxHeartbeats 2000000 in
set_option maxRecDepth 100000 in
theorem stars2_any (M : PaK K) (A : Option Addr) (n k : Nat) (s t : ByteArray) (w : World) (hK : K w) (hl : By8 w A n) (hn : n ≤ 9223372036854775807) :
    Calls Try.prog 8 #[.slice A n k, .string s, .string t] w fun e w' => e = .returned (.bool true) ∧ Below w.heap.size w w' := by
  have HK := Kept.mk hK
  clear hK
  have HL := Kept.mk hl
  clear hl
  go_enter Try.func8, Try.ntmps8
  go_wp2_with fail
  go_at_call 11
  refine (awake_any M w HK.out).mono ?_
  rintro e w1 ⟨rfl, hb⟩
  have HB1 := Kept.mk hb
  clear hb
  go_wp2_with fail
  go_at_call 16
  refine (signs_any w1).mono ?_
  rintro e w2 ⟨g, rfl, hg, hf, hb⟩
  have HB2 := Kept.mk (HB1.out.trans (hb.mono HB1.out.size))
  clear hb
  have HFw := hf
  clear hf hg
  go_wp2_with fail
  go_at_call 15
  refine (pieces_any 5 (by decide) A n k g 16 16 w2 (HL.out.below HB2.out) hn HFw.out (by omega) (by omega)).mono ?_
  rintro e v ⟨p, rfl, hpz, rfl⟩
  have hp70 : p.size ≤ 70 := hpz
  clear hpz
  by_cases h1 : (30 : Int) < (s.size : Int)
  · go_wp2_with fail
    go_ret
    exact ⟨rfl, HB2.out⟩
  by_cases h2 : (30 : Int) < (t.size : Int)
  · go_wp2_with fail
    go_ret
    exact ⟨rfl, HB2.out⟩
  have hs1 : s.size ≤ 30 := by omega
  have ht1 : t.size ≤ 30 := by omega
  obtain ⟨Q, hQ⟩ : ∃ Q, Q = (⟨#[42]⟩ : ByteArray) ++ p := ⟨_, rfl⟩
  have hQl : toL Q = 42 :: toL p := by rw [hQ, toL_app]; rfl
  have hQz : Q.size ≤ 71 := by rw [← toL_length, hQl, List.length_cons, toL_length]; omega
  obtain ⟨T, hT⟩ : ∃ T, T = t ++ s := ⟨_, rfl⟩
  have hTl : toL T = toL t ++ toL s := by rw [hT, toL_app]
  have hTz : T.size ≤ 60 := by rw [← toL_length, hTl, List.length_append, toL_length, toL_length]; omega
  have ES : Kept (true = mat (toL ⟨#[42]⟩) (toL s)) := ⟨(mat_all (toL s)).symm⟩
  have g1 : ¬ 9223372036854775807 < 1 + p.size := by omega
  have g2 : ¬ 9223372036854775807 < t.size + s.size := by omega
  obtain ⟨b1, hb1⟩ : ∃ b, b = mat (toL p) (toL s) := ⟨_, rfl⟩
  obtain ⟨sp, hsp⟩ : ∃ b, b = special (toL p) := ⟨_, rfl⟩
  obtain ⟨x, hx⟩ : ∃ x, x = bs (plain (toL p)) := ⟨_, rfl⟩
  have hxz : x.size ≤ 70 := by rw [hx, bs_size]; have := plain_le (toL p); rw [toL_length] at this; omega
  have HX := Kept.mk hx
  have HS := Kept.mk hsp
  have HB0 := Kept.mk hb1
  have HQe := Kept.mk hQ
  have HTe := Kept.mk hT
  cases b1 with
  | true =>
    cases sp with
    | true =>
      have E1 : Kept (true = mat (toL Q) (toL T)) := ⟨by rw [hQl, hTl, mat_ahead _ hb1.symm]⟩
      clear hQ hT hQl hTl hb1 hsp hx
      go_wp2_with fail
      go_at_call 13
      refine (M.mat1 (b := true) p s w2 (M.keep _ _ HK.out HB2.out) (by omega) (by omega) HB0.out).mono ?_
      rintro e w3 ⟨rfl, hb⟩
      have HB3 := Kept.mk (HB2.out.trans (hb.mono HB2.out.size))
      clear hb
      go_wp2_with fail
      rw [← HQe.out, ← HTe.out]
      go_at_call 13
      refine (M.mat1 (b := true) Q T w3 (M.keep _ _ HK.out HB3.out) (by omega) (by omega) E1.out).mono ?_
      rintro e w4 ⟨rfl, hb⟩
      have HB4 := Kept.mk (HB3.out.trans (hb.mono HB3.out.size))
      clear hb
      go_wp2_with fail
      go_at_call 19
      refine (M.special1 (b := true) p w4 (M.keep _ _ HK.out HB4.out) (by omega) HS.out).mono ?_
      rintro e w5 ⟨rfl, hb⟩
      have HB5 := Kept.mk (HB4.out.trans (hb.mono HB4.out.size))
      clear hb
      go_wp2_with fail
      go_at_call 13
      refine (M.mat1 (b := true) ⟨#[42]⟩ s w5 (M.keep _ _ HK.out HB5.out) (by decide) (by omega) ES.out).mono ?_
      rintro e w6 ⟨rfl, hb⟩
      have HB6 := Kept.mk (HB5.out.trans (hb.mono HB5.out.size))
      clear hb
      go_wp2_with fail
      go_ret
      exact ⟨rfl, HB6.out⟩
    | false =>
      have E1 : Kept (true = mat (toL Q) (toL T)) := ⟨by rw [hQl, hTl, mat_ahead _ hb1.symm]⟩
      have E2 : Kept (true = mat (toL p) (toL x)) := ⟨by rw [mat_plain _ hsp.symm, hx, toL_bs, decide_eq_true rfl]⟩
      have hsx : s = x := by
        rw [mat_plain _ hsp.symm] at hb1
        rw [hx, ← of_decide_eq_true hb1.symm, bs_toL]
      subst hsx
      clear hQ hT hQl hTl hb1 hsp hx
      go_wp2_with fail
      go_at_call 13
      refine (M.mat1 (b := true) p s w2 (M.keep _ _ HK.out HB2.out) (by omega) (by omega) HB0.out).mono ?_
      rintro e w3 ⟨rfl, hb⟩
      have HB3 := Kept.mk (HB2.out.trans (hb.mono HB2.out.size))
      clear hb
      go_wp2_with fail
      rw [← HQe.out, ← HTe.out]
      go_at_call 13
      refine (M.mat1 (b := true) Q T w3 (M.keep _ _ HK.out HB3.out) (by omega) (by omega) E1.out).mono ?_
      rintro e w4 ⟨rfl, hb⟩
      have HB4 := Kept.mk (HB3.out.trans (hb.mono HB3.out.size))
      clear hb
      go_wp2_with fail
      go_at_call 19
      refine (M.special1 (b := false) p w4 (M.keep _ _ HK.out HB4.out) (by omega) HS.out).mono ?_
      rintro e w5 ⟨rfl, hb⟩
      have HB5 := Kept.mk (HB4.out.trans (hb.mono HB4.out.size))
      clear hb
      go_wp2_with fail
      go_at_call 17
      refine (M.plain1 (x := s) p w5 (M.keep _ _ HK.out HB5.out) (by omega) HX.out).mono ?_
      rintro e w6 ⟨rfl, hb⟩
      have HB6 := Kept.mk (HB5.out.trans (hb.mono HB5.out.size))
      clear hb
      go_wp2_with fail
      go_at_call 13
      refine (M.mat1 (b := true) p s w6 (M.keep _ _ HK.out HB6.out) (by omega) (by omega) E2.out).mono ?_
      rintro e w7 ⟨rfl, hb⟩
      have HB7 := Kept.mk (HB6.out.trans (hb.mono HB6.out.size))
      clear hb
      go_wp2_with fail
      go_at_call 13
      refine (M.mat1 (b := true) p s w7 (M.keep _ _ HK.out HB7.out) (by omega) (by omega) HB0.out).mono ?_
      rintro e w8 ⟨rfl, hb⟩
      have HB8 := Kept.mk (HB7.out.trans (hb.mono HB7.out.size))
      clear hb
      go_wp2_with fail
      go_at_call 17
      refine (M.plain1 (x := s) p w8 (M.keep _ _ HK.out HB8.out) (by omega) HX.out).mono ?_
      rintro e w9 ⟨rfl, hb⟩
      have HB9 := Kept.mk (HB8.out.trans (hb.mono HB8.out.size))
      clear hb
      go_wp2_with fail
      go_at_call 13
      refine (M.mat1 (b := true) ⟨#[42]⟩ s w9 (M.keep _ _ HK.out HB9.out) (by decide) (by omega) ES.out).mono ?_
      rintro e w10 ⟨rfl, hb⟩
      have HB10 := Kept.mk (HB9.out.trans (hb.mono HB9.out.size))
      clear hb
      go_wp2_with fail
      go_ret
      exact ⟨rfl, HB10.out⟩
  | false =>
    cases sp with
    | true =>
      clear hQ hT hQl hTl hb1 hsp hx
      go_wp2_with fail
      go_at_call 13
      refine (M.mat1 (b := false) p s w2 (M.keep _ _ HK.out HB2.out) (by omega) (by omega) HB0.out).mono ?_
      rintro e w3 ⟨rfl, hb⟩
      have HB3 := Kept.mk (HB2.out.trans (hb.mono HB2.out.size))
      clear hb
      go_wp2_with fail
      go_at_call 19
      refine (M.special1 (b := true) p w3 (M.keep _ _ HK.out HB3.out) (by omega) HS.out).mono ?_
      rintro e w4 ⟨rfl, hb⟩
      have HB4 := Kept.mk (HB3.out.trans (hb.mono HB3.out.size))
      clear hb
      go_wp2_with fail
      go_at_call 13
      refine (M.mat1 (b := true) ⟨#[42]⟩ s w4 (M.keep _ _ HK.out HB4.out) (by decide) (by omega) ES.out).mono ?_
      rintro e w5 ⟨rfl, hb⟩
      have HB5 := Kept.mk (HB4.out.trans (hb.mono HB4.out.size))
      clear hb
      go_wp2_with fail
      go_ret
      exact ⟨rfl, HB5.out⟩
    | false =>
      have E2 : Kept (true = mat (toL p) (toL x)) := ⟨by rw [mat_plain _ hsp.symm, hx, toL_bs, decide_eq_true rfl]⟩
      clear hQ hT hQl hTl hb1 hsp hx
      go_wp2_with fail
      go_at_call 13
      refine (M.mat1 (b := false) p s w2 (M.keep _ _ HK.out HB2.out) (by omega) (by omega) HB0.out).mono ?_
      rintro e w3 ⟨rfl, hb⟩
      have HB3 := Kept.mk (HB2.out.trans (hb.mono HB2.out.size))
      clear hb
      go_wp2_with fail
      go_at_call 19
      refine (M.special1 (b := false) p w3 (M.keep _ _ HK.out HB3.out) (by omega) HS.out).mono ?_
      rintro e w4 ⟨rfl, hb⟩
      have HB4 := Kept.mk (HB3.out.trans (hb.mono HB3.out.size))
      clear hb
      go_wp2_with fail
      go_at_call 17
      refine (M.plain1 (x := x) p w4 (M.keep _ _ HK.out HB4.out) (by omega) HX.out).mono ?_
      rintro e w5 ⟨rfl, hb⟩
      have HB5 := Kept.mk (HB4.out.trans (hb.mono HB4.out.size))
      clear hb
      go_wp2_with fail
      go_at_call 13
      refine (M.mat1 (b := true) p x w5 (M.keep _ _ HK.out HB5.out) (by omega) (by omega) E2.out).mono ?_
      rintro e w6 ⟨rfl, hb⟩
      have HB6 := Kept.mk (HB5.out.trans (hb.mono HB5.out.size))
      clear hb
      go_wp2_with fail
      go_at_call 13
      refine (M.mat1 (b := false) p s w6 (M.keep _ _ HK.out HB6.out) (by omega) (by omega) HB0.out).mono ?_
      rintro e w7 ⟨rfl, hb⟩
      have HB7 := Kept.mk (HB6.out.trans (hb.mono HB6.out.size))
      clear hb
      go_wp2_with fail
      go_at_call 13
      refine (M.mat1 (b := true) ⟨#[42]⟩ s w7 (M.keep _ _ HK.out HB7.out) (by decide) (by omega) ES.out).mono ?_
      rintro e w8 ⟨rfl, hb⟩
      have HB8 := Kept.mk (HB7.out.trans (hb.mono HB7.out.size))
      clear hb
      go_wp2_with fail
      go_ret
      exact ⟨rfl, HB8.out⟩
set_option maxHeartbeats 2000000 in
set_option maxRecDepth 100000 in
theorem cuts_any (M : PaK K) (A : Option Addr) (n k : Nat) (s : ByteArray) (en mo : Bool) (w : World) (hK : K w) (hl : By8 w A n) (hn : n ≤ 9223372036854775807) :
    Calls Try.prog 9 #[.slice A n k, .string s, .bool en, .bool mo] w fun e w' => e = .returned (.bool true) ∧ Below w.heap.size w w' := by
  have HK := Kept.mk hK
  clear hK
  have HL := Kept.mk hl
  clear hl
  go_enter Try.func9, Try.ntmps9
  go_wp2_with fail
  go_at_call 11
  refine (awake_any M w HK.out).mono ?_
  rintro e w1 ⟨rfl, hb⟩
  have HB1 := Kept.mk hb
  clear hb
  go_wp2_with fail
  go_at_call 16
  refine (signs_any w1).mono ?_
  rintro e w2 ⟨g, rfl, hg, hf, hb⟩
  have HB2 := Kept.mk (HB1.out.trans (hb.mono HB1.out.size))
  clear hb
  have HFw := hf
  clear hf hg
  go_wp2_with fail
  go_at_call 15
  refine (pieces_any 5 (by decide) A n k g 16 16 w2 (HL.out.below HB2.out) hn HFw.out (by omega) (by omega)).mono ?_
  rintro e v ⟨p, rfl, hpz, rfl⟩
  have hp70 : p.size ≤ 70 := hpz
  clear hpz
  by_cases h1 : (30 : Int) < (s.size : Int)
  · go_wp2_with fail
    go_ret
    exact ⟨rfl, HB2.out⟩
  have hs1 : s.size ≤ 30 := by omega
  obtain ⟨x, hx⟩ : ∃ x, x = bs (rem (toL s) (toL p) en mo) := ⟨_, rfl⟩
  have hxl : toL x = rem (toL s) (toL p) en mo := by rw [hx, toL_bs]
  have HX := Kept.mk hx
  have hxz : x.size ≤ s.size := by have := rem_length (toL s) (toL p) en mo; rw [← hxl, toL_length, toL_length] at this; exact this
  have hlaw := rem_law (toL s) (toL p) en mo
  rw [← hxl, toL_length, toL_length] at hlaw
  have hz1 : (x.size : Int) ≤ (s.size : Int) := by omega
  go_wp2_with fail
  go_at_call 21
  refine (M.rem1 (x := x) s p en mo w2 (M.keep _ _ HK.out HB2.out) (by omega) (by omega) HX.out).mono ?_
  rintro e w3 ⟨rfl, hb⟩
  have HB3 := Kept.mk (HB2.out.trans (hb.mono HB2.out.size))
  clear hb
  cases en with
  | true =>
    obtain ⟨h3, h4⟩ := hlaw.1 rfl
    have hsx : s.extract 0 x.size = x := toL_inj (by rw [toL_to, h3])
    have hsl : ∀ W : World, (Instr.slice 9 (.string s) none (some (.int .i64 (x.size : Int))) none).run Try.prog W = .ok (.string x) W := fun W => by have := str_to hxz W; rwa [hsx] at this
    obtain ⟨R, hR⟩ : ∃ R, R = s.extract x.size s.size := ⟨_, rfl⟩
    have hRl : toL R = (toL s).drop x.size := by rw [hR, toL_rest]
    have hRz : R.size ≤ 300 := by rw [hR, size_rest]; omega
    have hRs : ∀ W : World, (Instr.slice 9 (.string s) (some (.int .i64 (x.size : Int))) none none).run Try.prog W = .ok (.string R) W := fun W => by rw [hR]; exact str_from hxz (by omega) W
    rw [← hRl] at h4
    by_cases h0 : s.size = x.size
    · have h0i : (s.size : Int) - (x.size : Int) = 0 := by omega
      clear h4 hR hRl hsx h3 hlaw hxl hx h0
      go_wp2_with fail
      go_ret
      exact ⟨rfl, HB3.out⟩
    · have h0i : ¬ (s.size : Int) - (x.size : Int) = 0 := by omega
      have E1 : Kept (true = mat (toL p) (toL R)) := ⟨(h4.resolve_left (by omega)).symm⟩
      clear h4 hR hRl hsx h3 hlaw hxl hx h0
      go_wp2_with fail
      go_at_call 13
      refine (M.mat1 (b := true) p R w3 (M.keep _ _ HK.out HB3.out) (by omega) hRz E1.out).mono ?_
      rintro e w4 ⟨rfl, hb⟩
      have HB4 := Kept.mk (HB3.out.trans (hb.mono HB3.out.size))
      clear hb
      go_wp2_with fail
      go_ret
      exact ⟨rfl, HB4.out⟩
  | false =>
    obtain ⟨h3, h4⟩ := hlaw.2 rfl
    have hsx : s.extract (s.size - x.size) s.size = x := toL_inj (by rw [toL_rest, h3])
    have hsl : ∀ W : World, (Instr.slice 9 (.string s) (some (.int .i64 ((s.size : Int) - (x.size : Int)))) none none).run Try.prog W = .ok (.string x) W := fun W => by
      have := str_from (s := s) (k := s.size - x.size) (by omega) (by omega) W
      rwa [hsx, show ((s.size - x.size : Nat) : Int) = (s.size : Int) - (x.size : Int) by omega] at this
    obtain ⟨R, hR⟩ : ∃ R, R = s.extract 0 (s.size - x.size) := ⟨_, rfl⟩
    have hRl : toL R = (toL s).take (s.size - x.size) := by rw [hR, toL_to]
    have hRz : R.size ≤ 300 := by rw [hR, size_to s _ (by omega)]; omega
    have hRs : ∀ W : World, (Instr.slice 9 (.string s) none (some (.int .i64 ((s.size : Int) - (x.size : Int)))) none).run Try.prog W = .ok (.string R) W := fun W => by
      have := str_to (s := s) (k := s.size - x.size) (by omega) W
      rw [show ((s.size - x.size : Nat) : Int) = (s.size : Int) - (x.size : Int) by omega] at this
      rw [hR]; exact this
    rw [← hRl] at h4
    by_cases h0 : s.size = x.size
    · have h0i : (s.size : Int) - (x.size : Int) = 0 := by omega
      have hsl0 : ∀ W : World, (Instr.slice 9 (.string s) (some (.int .i64 0)) none none).run Try.prog W = .ok (.string x) W := fun W => by
        have := str_from (s := s) (k := 0) (by omega) (by omega) W
        rw [show s.size - x.size = 0 by omega] at hsx
        rwa [hsx] at this
      clear h4 hR hRl hsx h3 hlaw hxl hx h0
      go_wp2_with fail
      go_ret
      exact ⟨rfl, HB3.out⟩
    · have h0i : ¬ (s.size : Int) - (x.size : Int) = 0 := by omega
      have E1 : Kept (true = mat (toL p) (toL R)) := ⟨(h4.resolve_left (by omega)).symm⟩
      clear h4 hR hRl hsx h3 hlaw hxl hx h0
      go_wp2_with fail
      go_at_call 13
      refine (M.mat1 (b := true) p R w3 (M.keep _ _ HK.out HB3.out) (by omega) hRz E1.out).mono ?_
      rintro e w4 ⟨rfl, hb⟩
      have HB4 := Kept.mk (HB3.out.trans (hb.mono HB3.out.size))
      clear hb
      go_wp2_with fail
      go_ret
      exact ⟨rfl, HB4.out⟩
end Pm
end Go.Proofs.Ytkifnabkoidhcaa
