/-
  Parts of the proof, merged.
-/
import Derived.BigCall
import Derived.BigQuiet
import Derived.Deep.QuietTactic
import Derived.Laws.DeepStrings4
import Derived.Laws.Strings
import Derived.LoopTactic
import Derived.Test.YtpagcoiekeijbaaDoorKa06
import Derived.WalkKit
namespace Go.Proofs.YtpagcoiekeijbaaDoor
section
open Go.RowKit Tx
namespace Wx
theorem le_nat (a c : UInt8) : decide (a ≤ c) = decide ((a.toNat : Int) ≤ (c.toNat : Int)) := by
 rw [decide_eq_decide, UInt8.le_iff_toNat_le]; omega
theorem eq_nat (a c : UInt8) : (c == a) = decide ((c.toNat : Int) = (a.toNat : Int)) := by
 rw [Bool.eq_iff_iff, beq_iff_eq, decide_eq_true_eq]
 exact ⟨fun h => by rw [h], fun h => UInt8.toNat_inj.1 (by omega)⟩
theorem letter_nat (c : UInt8) : letter c = ((decide ((65 : Int) ≤ (c.toNat : Int)) && decide ((c.toNat : Int) ≤ 90)) || (decide ((97 : Int) ≤ (c.toNat : Int)) && decide ((c.toNat : Int) ≤ 122)) || decide ((c.toNat : Int) = 95)) := by
 unfold letter
 rw [le_nat, le_nat, le_nat, le_nat, eq_nat]
 rfl
theorem digit_nat (c : UInt8) : digit c = (decide ((48 : Int) ≤ (c.toNat : Int)) && decide ((c.toNat : Int) ≤ 57)) := by
 unfold digit
 rw [le_nat, le_nat]
 rfl
theorem letter_any (c : UInt8) (w : World) (t : Bool) (ht : t = letter c) : Calls Tryd.prog 35 #[.int .u8 (c.toNat : Int)] w fun e w' => e = .returned (.bool t) ∧ w = w' := by
 rw [letter_nat] at ht
 generalize (c.toNat : Int) = z at ht ⊢
 by_cases h0 : z ≤ 64
 · have d65 : decide ((65 : Int) ≤ z) = false := decide_eq_false (by omega)
   have d90 : decide (z ≤ (90 : Int)) = true := decide_eq_true (by omega)
   have d97 : decide ((97 : Int) ≤ z) = false := decide_eq_false (by omega)
   have d122 : decide (z ≤ (122 : Int)) = true := decide_eq_true (by omega)
   have d95 : decide (z = (95 : Int)) = false := decide_eq_false (by omega)
   rw [d65, d90, d97, d122, d95] at ht
   have y95 : (z == (95 : Int)) = false := by simpa using d95
   simp only [Bool.and_true, Bool.or_false] at ht
   subst ht
   clear d95
   go_enter Tryd.func35, Tryd.ntmps35
   go_wp2_with fail
   go_ret
   exact ⟨rfl, rfl⟩
 by_cases h1 : z ≤ 90
 · have d65 : decide ((65 : Int) ≤ z) = true := decide_eq_true (by omega)
   have d90 : decide (z ≤ (90 : Int)) = true := decide_eq_true (by omega)
   have d97 : decide ((97 : Int) ≤ z) = false := decide_eq_false (by omega)
   have d122 : decide (z ≤ (122 : Int)) = true := decide_eq_true (by omega)
   have d95 : decide (z = (95 : Int)) = false := decide_eq_false (by omega)
   rw [d65, d90, d97, d122, d95] at ht
   have y95 : (z == (95 : Int)) = false := by simpa using d95
   simp only [Bool.and_true, Bool.or_false] at ht
   subst ht
   clear d95
   go_enter Tryd.func35, Tryd.ntmps35
   go_wp2_with fail
   go_ret
   exact ⟨rfl, rfl⟩
 by_cases h2 : z ≤ 94
 · have d65 : decide ((65 : Int) ≤ z) = true := decide_eq_true (by omega)
   have d90 : decide (z ≤ (90 : Int)) = false := decide_eq_false (by omega)
   have d97 : decide ((97 : Int) ≤ z) = false := decide_eq_false (by omega)
   have d122 : decide (z ≤ (122 : Int)) = true := decide_eq_true (by omega)
   have d95 : decide (z = (95 : Int)) = false := decide_eq_false (by omega)
   rw [d65, d90, d97, d122, d95] at ht
   have y95 : (z == (95 : Int)) = false := by simpa using d95
   simp only [Bool.and_true, Bool.and_false, Bool.or_false] at ht
   subst ht
   clear d95
   go_enter Tryd.func35, Tryd.ntmps35
   go_wp2_with fail
   go_ret
   exact ⟨rfl, rfl⟩
 by_cases h3 : z ≤ 95
 · have d65 : decide ((65 : Int) ≤ z) = true := decide_eq_true (by omega)
   have d90 : decide (z ≤ (90 : Int)) = false := decide_eq_false (by omega)
   have d97 : decide ((97 : Int) ≤ z) = false := decide_eq_false (by omega)
   have d122 : decide (z ≤ (122 : Int)) = true := decide_eq_true (by omega)
   have d95 : decide (z = (95 : Int)) = true := decide_eq_true (by omega)
   rw [d65, d90, d97, d122, d95] at ht
   have y95 : (z == (95 : Int)) = true := by simpa using d95
   simp only [Bool.and_true, Bool.and_false, Bool.or_false, Bool.or_true] at ht
   subst ht
   clear d95
   go_enter Tryd.func35, Tryd.ntmps35
   go_wp2_with fail
   go_ret
   exact ⟨rfl, rfl⟩
 by_cases h4 : z ≤ 96
 · have d65 : decide ((65 : Int) ≤ z) = true := decide_eq_true (by omega)
   have d90 : decide (z ≤ (90 : Int)) = false := decide_eq_false (by omega)
   have d97 : decide ((97 : Int) ≤ z) = false := decide_eq_false (by omega)
   have d122 : decide (z ≤ (122 : Int)) = true := decide_eq_true (by omega)
   have d95 : decide (z = (95 : Int)) = false := decide_eq_false (by omega)
   rw [d65, d90, d97, d122, d95] at ht
   have y95 : (z == (95 : Int)) = false := by simpa using d95
   simp only [Bool.and_true, Bool.and_false, Bool.or_false] at ht
   subst ht
   clear d95
   go_enter Tryd.func35, Tryd.ntmps35
   go_wp2_with fail
   go_ret
   exact ⟨rfl, rfl⟩
 by_cases h5 : z ≤ 122
 · have d65 : decide ((65 : Int) ≤ z) = true := decide_eq_true (by omega)
   have d90 : decide (z ≤ (90 : Int)) = false := decide_eq_false (by omega)
   have d97 : decide ((97 : Int) ≤ z) = true := decide_eq_true (by omega)
   have d122 : decide (z ≤ (122 : Int)) = true := decide_eq_true (by omega)
   have d95 : decide (z = (95 : Int)) = false := decide_eq_false (by omega)
   rw [d65, d90, d97, d122, d95] at ht
   have y95 : (z == (95 : Int)) = false := by simpa using d95
   simp only [Bool.and_true, Bool.and_false, Bool.or_false, Bool.or_true] at ht
   subst ht
   clear d95
   go_enter Tryd.func35, Tryd.ntmps35
   go_wp2_with fail
   go_ret
   exact ⟨rfl, rfl⟩
 have d65 : decide ((65 : Int) ≤ z) = true := decide_eq_true (by omega)
 have d90 : decide (z ≤ (90 : Int)) = false := decide_eq_false (by omega)
 have d97 : decide ((97 : Int) ≤ z) = true := decide_eq_true (by omega)
 have d122 : decide (z ≤ (122 : Int)) = false := decide_eq_false (by omega)
 have d95 : decide (z = (95 : Int)) = false := decide_eq_false (by omega)
 rw [d65, d90, d97, d122, d95] at ht
 have y95 : (z == (95 : Int)) = false := by simpa using d95
 simp only [Bool.and_false, Bool.or_false] at ht
 subst ht
 clear d95
 go_enter Tryd.func35, Tryd.ntmps35
 go_wp2_with fail
 go_ret
 exact ⟨rfl, rfl⟩
theorem digit_any (c : UInt8) (w : World) (t : Bool) (ht : t = digit c) : Calls Tryd.prog 36 #[.int .u8 (c.toNat : Int)] w fun e w' => e = .returned (.bool t) ∧ w = w' := by
 rw [digit_nat] at ht
 generalize (c.toNat : Int) = z at ht ⊢
 by_cases h0 : z ≤ 47
 · have d48 : decide ((48 : Int) ≤ z) = false := decide_eq_false (by omega)
   have d57 : decide (z ≤ (57 : Int)) = true := decide_eq_true (by omega)
   rw [d48, d57] at ht
   simp only [Bool.and_true] at ht
   subst ht
   skip
   go_enter Tryd.func36, Tryd.ntmps36
   go_wp2_with fail
   go_ret
   exact ⟨rfl, rfl⟩
 by_cases h1 : z ≤ 57
 · have d48 : decide ((48 : Int) ≤ z) = true := decide_eq_true (by omega)
   have d57 : decide (z ≤ (57 : Int)) = true := decide_eq_true (by omega)
   rw [d48, d57] at ht
   simp only [Bool.and_true] at ht
   subst ht
   skip
   go_enter Tryd.func36, Tryd.ntmps36
   go_wp2_with fail
   go_ret
   exact ⟨rfl, rfl⟩
 have d48 : decide ((48 : Int) ≤ z) = true := decide_eq_true (by omega)
 have d57 : decide (z ≤ (57 : Int)) = false := decide_eq_false (by omega)
 rw [d48, d57] at ht
 simp only [Bool.and_false] at ht
 subst ht
 skip
 go_enter Tryd.func36, Tryd.ntmps36
 go_wp2_with fail
 go_ret
 exact ⟨rfl, rfl⟩
theorem drop_at {s : ByteArray} {p : Nat} (hp : p < s.size) : (toL s).drop p = s[p]'hp :: (toL s).drop (p + 1) := by
 rw [List.drop_eq_getElem_cons (by rw [toL_length]; exact hp)]
 rfl
theorem drop_end {s : ByteArray} {p : Nat} (hp : s.size ≤ p) : (toL s).drop p = [] := List.drop_eq_nil_of_le (by rw [toL_length]; exact hp)
theorem name_first {s : ByteArray} (h : 0 < s.size) : nameL (toL s) = if letter (s[0]'h) then 1 + (((toL s).drop 1).takeWhile fun c => letter c || digit c).length else 0 := by
 have := drop_at h
 rw [List.drop_zero] at this
 rw [this]
 rfl
theorem takeW_go {f : UInt8 → Bool} {s : ByteArray} {p : Nat} (hp : p < s.size) (h : f (s[p]'hp) = true) : (((toL s).drop p).takeWhile f).length = 1 + (((toL s).drop (p + 1)).takeWhile f).length := by
 rw [drop_at hp, List.takeWhile_cons, if_pos h, List.length_cons]; omega
theorem takeW_no {f : UInt8 → Bool} {s : ByteArray} {p : Nat} (hp : p < s.size) (h : f (s[p]'hp) = false) : (((toL s).drop p).takeWhile f).length = 0 := by
 rw [drop_at hp, List.takeWhile_cons, if_neg (by simp [h])]; rfl
theorem takeW_end {f : UInt8 → Bool} {s : ByteArray} {p : Nat} (hp : s.size ≤ p) : (((toL s).drop p).takeWhile f).length = 0 := by rw [drop_end hp]; rfl
set_option maxHeartbeats 1000000 in
set_option maxRecDepth 100000 in
theorem name_any (s : ByteArray) (w : World) (hs : s.size ≤ 300000000) (m : Nat) (hm : m = nameL (toL s)) : Calls Tryd.prog 28 #[.string s] w fun e w' => e = .returned (.int .i64 (m : Int)) ∧ w = w' := by
 have HM := Kept.mk hm
 clear hm
 go_enter Tryd.func28, Tryd.ntmps28
 go_wp2_with fail
 go_loop [3] (fun i => ∃ k : Nat, k ≤ s.size ∧ i = .int .i64 (k : Int) ∧ Kept (k = 0 ∨ (0 < k ∧ m = k + (((toL s).drop k).takeWhile fun c => letter c || digit c).length))) (fun i => s.size - (intOf i).toNat)
 case atStart => exact ⟨0, by omega, rfl, ⟨.inl rfl⟩⟩
 case round =>
   obtain ⟨k, hk, rfl, HK⟩ := hrel
   by_cases hlt : k < s.size
   · have z : (k : Int) < s.size := by omega
     cases hL : letter (s[k]'hlt) with
     | true =>
       have HL : Kept (true = letter (s[k]'hlt)) := ⟨hL.symm⟩
       have HN : Kept (k + 1 = 0 ∨ (0 < k + 1 ∧ m = (k + 1) + (((toL s).drop (k + 1)).takeWhile fun c => letter c || digit c).length)) := ⟨.inr ⟨by omega, by
         rcases HK.out with h0 | ⟨_, h1⟩
         · subst h0
           rw [HM.out, name_first hlt, if_pos hL]
         · rw [h1, takeW_go hlt (by simp [hL])]; omega⟩⟩
       clear hL HK
       go_wp2_with (go_at_call 35; refine (letter_any _ _ true HL.out).mono ?_; rintro e w1 ⟨rfl, rfl⟩)
       go_round
       case rel => exact ⟨k + 1, by omega, by go_num, HN⟩
       case measure => simp [intOf]; omega
     | false =>
       have HL : Kept (false = letter (s[k]'hlt)) := ⟨hL.symm⟩
       by_cases h0 : k = 0
       · subst h0
         have HR : Kept (m = 0) := ⟨by rw [HM.out, name_first hlt, if_neg (by simp [hL])]⟩
         clear hL HK
         go_wp2_with (go_at_call 35; refine (letter_any _ _ false HL.out).mono ?_; rintro e w1 ⟨rfl, rfl⟩)
         go_ret
         exact ⟨by rw [HR.out]; rfl, rfl⟩
       · have zp : (0 : Int) < (k : Int) := by omega
         cases hD : digit (s[k]'hlt) with
         | true =>
           have HD : Kept (true = digit (s[k]'hlt)) := ⟨hD.symm⟩
           have HN : Kept (k + 1 = 0 ∨ (0 < k + 1 ∧ m = (k + 1) + (((toL s).drop (k + 1)).takeWhile fun c => letter c || digit c).length)) := ⟨.inr ⟨by omega, by
             rcases HK.out with h1 | ⟨_, h1⟩
             · exact absurd h1 h0
             · rw [h1, takeW_go hlt (by simp [hD])]; omega⟩⟩
           clear hL HK hD h0
           go_wp2_with (first
             | (go_at_call 35; refine (letter_any _ _ false HL.out).mono ?_; rintro e w1 ⟨rfl, rfl⟩)
             | (go_at_call 36; refine (digit_any _ _ true HD.out).mono ?_; rintro e w1 ⟨rfl, rfl⟩))
           go_round
           case rel => exact ⟨k + 1, by omega, by go_num, HN⟩
           case measure => simp [intOf]; omega
         | false =>
           have HD : Kept (false = digit (s[k]'hlt)) := ⟨hD.symm⟩
           have HR : Kept (m = k) := ⟨by
             rcases HK.out with h1 | ⟨_, h1⟩
             · exact absurd h1 h0
             · rw [h1, takeW_no hlt (by simp [hD, hL])]; rfl⟩
           clear hL HK hD h0
           go_wp2_with (first
             | (go_at_call 35; refine (letter_any _ _ false HL.out).mono ?_; rintro e w1 ⟨rfl, rfl⟩)
             | (go_at_call 36; refine (digit_any _ _ false HD.out).mono ?_; rintro e w1 ⟨rfl, rfl⟩))
           go_ret
           exact ⟨by rw [HR.out]; rfl, rfl⟩
   · have z : ¬ (k : Int) < s.size := by omega
     have z2 : decide ((k : Int) < (s.size : Int)) = false := decide_eq_false z
     have HR : Kept (m = k) := ⟨by
       rcases HK.out with h1 | ⟨_, h1⟩
       · subst h1
         have : toL s = [] := by have := drop_end (s := s) (p := 0) (by omega); simpa using this
         rw [HM.out, this]; rfl
       · rw [h1, takeW_end (by omega)]; rfl⟩
     clear hlt HK
     go_wp2_with fail
     go_ret
     exact ⟨by rw [HR.out]; rfl, rfl⟩
theorem empty_of {s : ByteArray} (h : s.size = 0) : s = ⟨#[]⟩ := by
 apply toL_inj
 have : (toL s).length = 0 := by rw [toL_length]; exact h
 rw [List.eq_nil_of_length_eq_zero this]; rfl
theorem not_empty {s : ByteArray} (h : 0 < s.size) : (s.toList == ([] : List UInt8)) = false := by
 have e : (⟨#[]⟩ : ByteArray).toList = [] := by decide +kernel
 rw [← e, beq_str]
 exact decide_eq_false (fun h2 => by rw [h2] at h; exact absurd h (by decide))
end Wx
end
end Go.Proofs.YtpagcoiekeijbaaDoor
