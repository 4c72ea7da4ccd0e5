/-
  Parts of the proof, merged.
-/
import Derived.FnLit
import Derived.Laws.RangeAny
import Derived.LoopTactic
import Derived.Test.YtlggpefmojacoaaGreatDoorLa04
import Derived.Test.YtlggpefmojacoaaGreatDoorLa13
import Derived.Test.YtlggpefmojacoaaGreatDoorLa15
namespace Go.Proofs.YtlggpefmojacoaaGreatDoor
section
open Go.RowKit Tx
namespace Wx
def lettR (z : Nat) : Bool := decide ((97 ≤ z ∧ z ≤ 122) ∨ (65 ≤ z ∧ z ≤ 90) ∨ z = 95)
def digR (z : Nat) : Bool := decide (48 ≤ z ∧ z ≤ 57)
theorem lettR_byte (c : UInt8) : lettR c.toNat = letter c := by
 unfold lettR letter
 rw [Bool.eq_iff_iff]
 simp only [decide_eq_true_eq, Bool.or_eq_true, Bool.and_eq_true, beq_iff_eq, UInt8.le_iff_toNat_le]
 constructor
 · rintro (⟨h1, h2⟩ | ⟨h1, h2⟩ | h)
   · exact .inl (.inr ⟨h1, h2⟩)
   · exact .inl (.inl ⟨h1, h2⟩)
   · exact .inr (UInt8.toNat_inj.1 h)
 · rintro ((⟨h1, h2⟩ | ⟨h1, h2⟩) | h)
   · exact .inr (.inl ⟨h1, h2⟩)
   · exact .inl ⟨h1, h2⟩
   · exact .inr (.inr (by rw [h]; rfl))
theorem digR_byte (c : UInt8) : digR c.toNat = digit c := by
 unfold digR digit
 rw [Bool.eq_iff_iff]
 simp only [decide_eq_true_eq, Bool.and_eq_true, UInt8.le_iff_toNat_le]
 rfl
theorem lettR_high {z : Nat} (h : 128 ≤ z) : lettR z = false := decide_eq_false (by omega)
theorem digR_high {z : Nat} (h : 128 ≤ z) : digR z = false := decide_eq_false (by omega)
theorem lettR_at (s : ByteArray) (k : Nat) (h : k < s.size) : lettR (Utf8.decode s k).1 = letter (s[k]'h) := by
 by_cases ha : (s[k]'h).toNat < 128
 · rw [decode_ascii s k h ha]; exact lettR_byte _
 · have := (decode_high s k h (by omega)).1
   rw [lettR_high this, ← lettR_byte, lettR_high (by omega)]
theorem digR_at (s : ByteArray) (k : Nat) (h : k < s.size) : digR (Utf8.decode s k).1 = digit (s[k]'h) := by
 by_cases ha : (s[k]'h).toNat < 128
 · rw [decode_ascii s k h ha]; exact digR_byte _
 · have := (decode_high s k h (by omega)).1
   rw [digR_high this, ← digR_byte, digR_high (by omega)]
theorem wide_at (s : ByteArray) (k : Nat) (h : k < s.size) (hf : letter (s[k]'h) = true ∨ digit (s[k]'h) = true) : (Utf8.decode s k).2 = 1 := by
 have ha : (s[k]'h).toNat < 128 := by
   rcases Nat.lt_or_ge (s[k]'h).toNat 128 with h1 | h1
   · exact h1
   · rcases hf with h2 | h2
     · rw [← lettR_byte, lettR_high h1] at h2; cases h2
     · rw [← digR_byte, digR_high h1] at h2; cases h2
 rw [decode_ascii s k h ha]
set_option maxRecDepth 100000 in
theorem isLetter_any (z : Nat) (w : World) (b : Bool) (hb : b = lettR z) : Calls Tryz.prog 178 #[.int .i32 (z : Int)] w fun e w' => e = .returned (.bool b) ∧ w' = w := by
 have HB : Kept (b = lettR z) := ⟨hb⟩
 clear hb
 by_cases h1 : 97 ≤ z
 · have a1 : (97 : Int) ≤ z := by omega
   by_cases h2 : z ≤ 122
   · have a2 : (z : Int) ≤ 122 := by omega
     have HR : Kept (b = true) := ⟨by rw [HB.out]; exact decide_eq_true (.inl ⟨h1, h2⟩)⟩
     clear h1 h2
     go_enter Tryz.func178, Tryz.ntmps178
     go_wp2_with fail
     go_ret
     exact ⟨by rw [HR.out]; rfl, rfl⟩
   · have a2 : ¬ (z : Int) ≤ 122 := by omega
     have a2b : decide ((z : Int) ≤ 122) = false := decide_eq_false a2
     have a3 : (65 : Int) ≤ z := by omega
     have a4 : ¬ (z : Int) ≤ 90 := by omega
     have a4b : decide ((z : Int) ≤ 90) = false := decide_eq_false a4
     have a5 : ((z : Int) == 95) = false := by simp; omega
     have HR : Kept (b = false) := ⟨by rw [HB.out]; exact decide_eq_false (by omega)⟩
     clear h1 h2
     go_enter Tryz.func178, Tryz.ntmps178
     go_wp2_with fail
     go_ret
     exact ⟨by rw [HR.out]; rfl, rfl⟩
 · have a1 : ¬ (97 : Int) ≤ z := by omega
   have a1b : decide ((97 : Int) ≤ z) = false := decide_eq_false a1
   by_cases h3 : 65 ≤ z
   · have a3 : (65 : Int) ≤ z := by omega
     by_cases h4 : z ≤ 90
     · have a4 : (z : Int) ≤ 90 := by omega
       have HR : Kept (b = true) := ⟨by rw [HB.out]; exact decide_eq_true (.inr (.inl ⟨h3, h4⟩))⟩
       clear h1 h3 h4
       go_enter Tryz.func178, Tryz.ntmps178
       go_wp2_with fail
       go_ret
       exact ⟨by rw [HR.out]; rfl, rfl⟩
     · have a4 : ¬ (z : Int) ≤ 90 := by omega
       have a4b : decide ((z : Int) ≤ 90) = false := decide_eq_false a4
       have HR : Kept (((z : Int) == 95) = b) := ⟨by
         rw [HB.out, Bool.eq_iff_iff, beq_iff_eq]
         unfold lettR
         rw [decide_eq_true_eq]
         omega⟩
       clear h1 h3 h4
       go_enter Tryz.func178, Tryz.ntmps178
       go_wp2_with fail
       go_ret
       exact ⟨by rw [← HR.out]; rfl, rfl⟩
   · have a3 : ¬ (65 : Int) ≤ z := by omega
     have a3b : decide ((65 : Int) ≤ z) = false := decide_eq_false a3
     have a5 : ((z : Int) == 95) = false := by simp; omega
     have HR : Kept (b = false) := ⟨by rw [HB.out]; exact decide_eq_false (by omega)⟩
     clear h1 h3
     go_enter Tryz.func178, Tryz.ntmps178
     go_wp2_with fail
     go_ret
     exact ⟨by rw [HR.out]; rfl, rfl⟩
set_option maxRecDepth 100000 in
theorem isDigit_any (z : Nat) (w : World) (b : Bool) (hb : b = digR z) : Calls Tryz.prog 179 #[.int .i32 (z : Int)] w fun e w' => e = .returned (.bool b) ∧ w' = w := by
 have HB : Kept (b = digR z) := ⟨hb⟩
 clear hb
 by_cases h1 : 48 ≤ z
 · have a1 : (48 : Int) ≤ z := by omega
   have HR : Kept (decide ((z : Int) ≤ 57) = b) := ⟨by
     rw [HB.out, Bool.eq_iff_iff]
     unfold digR
     rw [decide_eq_true_eq, decide_eq_true_eq]
     omega⟩
   clear h1
   go_enter Tryz.func179, Tryz.ntmps179
   go_wp2_with fail
   go_ret
   exact ⟨by rw [← HR.out]; rfl, rfl⟩
 · have a1 : ¬ (48 : Int) ≤ z := by omega
   have a1b : decide ((48 : Int) ≤ z) = false := decide_eq_false a1
   have HR : Kept (b = false) := ⟨by rw [HB.out]; exact decide_eq_false (by omega)⟩
   clear h1
   go_enter Tryz.func179, Tryz.ntmps179
   go_wp2_with fail
   go_ret
   exact ⟨by rw [HR.out]; rfl, rfl⟩
set_option maxRecDepth 100000 in
theorem fitsV_any (k z : Nat) (w : World) (b : Bool) (hb : b = (lettR z || decide (0 < k) && digR z)) : Calls Tryz.prog 177 #[.int .i64 (k : Int), .int .i32 (z : Int)] w fun e w' => e = .returned (.bool b) ∧ w' = w := by
 have HB := Kept.mk hb
 clear hb
 cases hL : lettR z with
 | true =>
   have HL := Kept.mk hL.symm
   have HR : Kept (b = true) := ⟨by rw [HB.out, hL]; rfl⟩
   clear hL
   go_enter Tryz.func177, Tryz.ntmps177
   go_wp2_with (go_at_call 178; refine (isLetter_any z _ true HL.out).mono ?_; rintro e w1 ⟨rfl, rfl⟩)
   go_ret
   exact ⟨by rw [HR.out]; rfl, rfl⟩
 | false =>
   have HL := Kept.mk hL.symm
   by_cases hk : 0 < k
   · have z1 : (0 : Int) < k := by omega
     obtain ⟨d, hd⟩ : ∃ d, d = digR z := ⟨_, rfl⟩
     have HD := Kept.mk hd
     have HR : Kept (b = d) := ⟨by rw [HB.out, hL, decide_eq_true hk, hd]; simp⟩
     clear hL hd hk
     go_enter Tryz.func177, Tryz.ntmps177
     go_wp2_with (first
       | (go_at_call 178; refine (isLetter_any z _ false HL.out).mono ?_; rintro e w1 ⟨rfl, rfl⟩)
       | (go_at_call 179; refine (isDigit_any z _ d HD.out).mono ?_; rintro e w1 ⟨rfl, rfl⟩))
     go_ret
     exact ⟨by rw [HR.out]; rfl, rfl⟩
   · have z1 : ¬ (0 : Int) < k := by omega
     have z1b : decide ((0 : Int) < k) = false := decide_eq_false z1
     have HR : Kept (b = false) := ⟨by rw [HB.out, hL, decide_eq_false hk]; simp⟩
     clear hL hk
     go_enter Tryz.func177, Tryz.ntmps177
     go_wp2_with (first
       | (go_at_call 178; refine (isLetter_any z _ false HL.out).mono ?_; rintro e w1 ⟨rfl, rfl⟩))
     go_ret
     exact ⟨by rw [HR.out]; rfl, rfl⟩
set_option maxRecDepth 100000 in
theorem fitsD_any (k z : Nat) (w : World) (b : Bool) (hb : b = digR z) : Calls Tryz.prog 180 #[.int .i64 (k : Int), .int .i32 (z : Int)] w fun e w' => e = .returned (.bool b) ∧ w' = w := by
 have HB := Kept.mk hb
 clear hb
 go_enter Tryz.func180, Tryz.ntmps180
 go_wp2_with (go_at_call 179; refine (isDigit_any z _ b HB.out).mono ?_; rintro e w1 ⟨rfl, rfl⟩)
 go_ret
 exact ⟨rfl, rfl⟩
theorem iter_below (w : World) (s : ByteArray) (k : Nat) : Below w.heap.size w (w.iter s k) := (Below.refl _ _).alloc (Nat.le_refl _) _
theorem str_to {s : ByteArray} {k : Nat} (hk : k ≤ s.size) (W : World) : (Instr.slice 9 (.string s) none (some (.int .i64 (k : Int))) none).run Tryz.prog W = .ok (.string (s.extract 0 k)) W := by
 rw [run_slice_string_to_if W 9 s .i64 _ Tryz.underlying9, if_pos ⟨by omega, by omega⟩, Int.toNat_natCast]
theorem all_of (s : ByteArray) : s.extract 0 s.size = s := by simp
set_option maxHeartbeats 2000000 in
set_option maxRecDepth 100000 in
theorem leadV_any (s : ByteArray) (w : World) (hs : s.size ≤ 300000000) (m : Nat) (hm : m = nameL (toL s)) : Calls Tryz.prog 176 #[.string s, .func (.func 177) #[] #[]] w fun e w' => e = .returned (.string (s.extract 0 m)) ∧ Below w.heap.size w w' := by
 have HM := Kept.mk hm
 clear hm
 go_enter Tryz.func176, Tryz.ntmps176
 go_wp2_with fail
 go_loopw [5, 6] (fun _ _ wr => ∃ k : Nat, k ≤ s.size ∧ wr = w.iter s k ∧ Kept (k = 0 ∨ (0 < k ∧ m = k + (((toL s).drop k).takeWhile fun c => letter c || digit c).length))) (fun _ _ wr => s.size - wr.iterPos w.heap.size)
 case atStart => exact ⟨0, by omega, rfl, ⟨.inl rfl⟩⟩
 case round =>
   obtain ⟨k, hk, rfl, HK⟩ := hrel
   by_cases hlt : k < s.size
   · have hnx := fun ty => run_next_any (P := Tryz.prog) w s k ty hlt
     have hzl := decode_le s k
     cases hf : (letter (s[k]'hlt) || decide (0 < k) && digit (s[k]'hlt)) with
     | true =>
       have hwd := wide_at s k hlt (by
         cases hL : letter (s[k]'hlt) with
         | true => exact .inl rfl
         | false =>
           rw [hL] at hf
           simp at hf
           exact .inr hf.2)
       rw [hwd] at hnx
       have HL : Kept (true = (lettR (Utf8.decode s k).1 || decide (0 < k) && digR (Utf8.decode s k).1)) := ⟨by rw [lettR_at s k hlt, digR_at s k hlt]; exact hf.symm⟩
       have HK2 : Kept (k + 1 = 0 ∨ (0 < k + 1 ∧ m = (k + 1) + (((toL s).drop (k + 1)).takeWhile fun c => letter c || digit c).length)) := ⟨by
         right
         refine ⟨by omega, ?_⟩
         rcases HK.out with h0 | ⟨hp, h1⟩
         · subst h0
           have hL : letter (s[0]'hlt) = true := by simpa using hf
           rw [HM.out, name_first hlt, if_pos hL]
         · have hLD : (letter (s[k]'hlt) || digit (s[k]'hlt)) = true := by simpa [hp] using hf
           rw [h1, takeW_go hlt hLD]; omega⟩
       clear hf HK hwd
       generalize (Utf8.decode s k).1 = z at *
       go_wp2_with (go_at_call 177; refine (fitsV_any k z _ true HL.out).mono ?_; rintro e w1 ⟨rfl, rfl⟩)
       go_roundw
       case rel => exact ⟨k + 1, by omega, rfl, HK2⟩
       case measure => simp; omega
     | false =>
       have HL : Kept (false = (lettR (Utf8.decode s k).1 || decide (0 < k) && digR (Utf8.decode s k).1)) := ⟨by rw [lettR_at s k hlt, digR_at s k hlt]; exact hf.symm⟩
       have HR : Kept (m = k) := ⟨by
         rcases HK.out with h0 | ⟨hp, h1⟩
         · subst h0
           have hL : letter (s[0]'hlt) = false := by simpa using hf
           rw [HM.out, name_first hlt, if_neg (by simp [hL])]
         · have hLD : (letter (s[k]'hlt) || digit (s[k]'hlt)) = false := by simpa [hp] using hf
           rw [h1, takeW_no hlt hLD]; rfl⟩
       have hsl := fun W => str_to (s := s) (k := k) hk W
       clear hf HK
       generalize (Utf8.decode s k).1 = z at *
       generalize (Utf8.decode s k).2 = z2 at *
       go_wp2_with (go_at_call 177; refine (fitsV_any k z _ false HL.out).mono ?_; rintro e w1 ⟨rfl, rfl⟩)
       go_ret
       exact ⟨by rw [HR.out]; rfl, iter_below w s _⟩
   · have hnx := fun ty => run_next_end (P := Tryz.prog) w s k ty hlt
     have HR : Kept (m = s.size) := ⟨by
       rcases HK.out with h0 | ⟨hp, h1⟩
       · have h2 : s.size = 0 := by omega
         rw [HM.out, empty_of h2]; rfl
       · rw [h1, takeW_end (by omega)]; omega⟩
     clear hlt HK
     go_wp2_with fail
     go_ret
     exact ⟨by rw [HR.out, all_of]; rfl, iter_below w s _⟩
set_option maxHeartbeats 2000000 in
set_option maxRecDepth 100000 in
theorem leadD_any (s : ByteArray) (w : World) (hs : s.size ≤ 300000000) (m : Nat) (hm : m = ((toL s).takeWhile digit).length) : Calls Tryz.prog 176 #[.string s, .func (.func 180) #[] #[]] w fun e w' => e = .returned (.string (s.extract 0 m)) ∧ Below w.heap.size w w' := by
 have HM := Kept.mk hm
 clear hm
 go_enter Tryz.func176, Tryz.ntmps176
 go_wp2_with fail
 go_loopw [5, 6] (fun _ _ wr => ∃ k : Nat, k ≤ s.size ∧ wr = w.iter s k ∧ Kept (m = k + (((toL s).drop k).takeWhile digit).length)) (fun _ _ wr => s.size - wr.iterPos w.heap.size)
 case atStart => exact ⟨0, by omega, rfl, ⟨by rw [HM.out, List.drop_zero]; omega⟩⟩
 case round =>
   obtain ⟨k, hk, rfl, HK⟩ := hrel
   by_cases hlt : k < s.size
   · have hnx := fun ty => run_next_any (P := Tryz.prog) w s k ty hlt
     have hzl := decode_le s k
     cases hf : digit (s[k]'hlt) with
     | true =>
       have hwd := wide_at s k hlt (.inr hf)
       rw [hwd] at hnx
       have HL : Kept (true = digR (Utf8.decode s k).1) := ⟨by rw [digR_at s k hlt]; exact hf.symm⟩
       have HK2 : Kept (m = (k + 1) + (((toL s).drop (k + 1)).takeWhile digit).length) := ⟨by rw [HK.out, takeW_go hlt hf]; omega⟩
       clear hf HK hwd
       generalize (Utf8.decode s k).1 = z at *
       go_wp2_with (go_at_call 180; refine (fitsD_any k z _ true HL.out).mono ?_; rintro e w1 ⟨rfl, rfl⟩)
       go_roundw
       case rel => exact ⟨k + 1, by omega, rfl, HK2⟩
       case measure => simp; omega
     | false =>
       have HL : Kept (false = digR (Utf8.decode s k).1) := ⟨by rw [digR_at s k hlt]; exact hf.symm⟩
       have HR : Kept (m = k) := ⟨by rw [HK.out, takeW_no hlt hf]; rfl⟩
       have hsl := fun W => str_to (s := s) (k := k) hk W
       clear hf HK
       generalize (Utf8.decode s k).1 = z at *
       generalize (Utf8.decode s k).2 = z2 at *
       go_wp2_with (go_at_call 180; refine (fitsD_any k z _ false HL.out).mono ?_; rintro e w1 ⟨rfl, rfl⟩)
       go_ret
       exact ⟨by rw [HR.out]; rfl, iter_below w s _⟩
   · have hnx := fun ty => run_next_end (P := Tryz.prog) w s k ty hlt
     have HR : Kept (m = s.size) := ⟨by rw [HK.out, takeW_end (by omega)]; omega⟩
     clear hlt HK
     go_wp2_with fail
     go_ret
     exact ⟨by rw [HR.out, all_of]; rfl, iter_below w s _⟩
set_option maxRecDepth 100000 in
theorem leadingV_any (s : ByteArray) (w : World) (hs : s.size ≤ 300000000) (m : Nat) (hm : m = nameL (toL s)) : Calls Tryz.prog 171 #[.string s] w fun e w' => e = .returned (.string (s.extract 0 m)) ∧ Below w.heap.size w w' := by
 have HM := Kept.mk hm
 clear hm
 go_enter Tryz.func171, Tryz.ntmps171
 go_wp2_with (go_at_call 176; refine (leadV_any s _ hs m HM.out).mono ?_; rintro e w1 ⟨rfl, hb⟩; have HB := Kept.mk hb; clear hb)
 go_ret
 exact ⟨rfl, HB.out⟩
set_option maxRecDepth 100000 in
theorem leadingD_any (s : ByteArray) (w : World) (hs : s.size ≤ 300000000) (m : Nat) (hm : m = ((toL s).takeWhile digit).length) : Calls Tryz.prog 174 #[.string s] w fun e w' => e = .returned (.string (s.extract 0 m)) ∧ Below w.heap.size w w' := by
 have HM := Kept.mk hm
 clear hm
 go_enter Tryz.func174, Tryz.ntmps174
 go_wp2_with (go_at_call 176; refine (leadD_any s _ hs m HM.out).mono ?_; rintro e w1 ⟨rfl, hb⟩; have HB := Kept.mk hb; clear hb)
 go_ret
 exact ⟨rfl, HB.out⟩
theorem size_to (s : ByteArray) (m : Nat) (h : m ≤ s.size) : (s.extract 0 m).size = m := by rw [ByteArray.size_extract]; omega
theorem toL_to (s : ByteArray) (m : Nat) : toL (s.extract 0 m) = (toL s).take m := by rw [toL_extract, List.drop_zero, Nat.sub_zero]
theorem takeW_le (f : UInt8 → Bool) (l : List UInt8) : (l.takeWhile f).length ≤ l.length := (List.takeWhile_prefix f).length_le
theorem four_at (c : UInt8) : (0 : Int) ≤ Lib.indexByte [35, 63, 64, 42] c ↔ c = 35 ∨ c = 63 ∨ c = 64 ∨ c = 42 := by
 by_cases h1 : c = 35
 · subst h1; decide
 by_cases h2 : c = 63
 · subst h2; decide
 by_cases h3 : c = 64
 · subst h3; decide
 by_cases h4 : c = 42
 · subst h4; decide
 · have n1 : ((35 : UInt8) == c) = false := by simpa using fun e : (35 : UInt8) = c => h1 e.symm
   have n2 : ((63 : UInt8) == c) = false := by simpa using fun e : (63 : UInt8) = c => h2 e.symm
   have n3 : ((64 : UInt8) == c) = false := by simpa using fun e : (64 : UInt8) = c => h3 e.symm
   have n4 : ((42 : UInt8) == c) = false := by simpa using fun e : (42 : UInt8) = c => h4 e.symm
   simp [Lib.indexByte, n1, n2, n3, n4, h1, h2, h3, h4]
theorem special_is (c : UInt8) : special c = (digit c || (c == 35 || c == 63 || c == 64 || c == 42)) := by
 unfold special
 simp only [Bool.or_assoc]
theorem param_parts {c : UInt8} {r : List UInt8} : (c = 35 ∨ c = 63 ∨ c = 64 ∨ c = 42 → paramL (c :: r) = 1 ∧ nameL (c :: r) = 0 ∧ ((c :: r).takeWhile digit).length = 0 ∧ special c = true) ∧
   (¬ (c = 35 ∨ c = 63 ∨ c = 64 ∨ c = 42) → paramL (c :: r) = nameL (c :: r) + ((c :: r).takeWhile digit).length ∧ (nameL (c :: r) = 0 ∨ ((c :: r).takeWhile digit).length = 0) ∧ (special c = digit c)) := by
 refine ⟨fun h => ?_, fun h => ?_⟩
 · have hL : ¬ letter c = true := by rcases h with rfl | rfl | rfl | rfl <;> decide
   have hD : ¬ digit c = true := by rcases h with rfl | rfl | rfl | rfl <;> decide
   have hS : special c = true := by rcases h with rfl | rfl | rfl | rfl <;> decide
   have e1 : nameL (c :: r) = 0 := if_neg hL
   have e2 : ((c :: r).takeWhile digit).length = 0 := by rw [List.takeWhile_cons, if_neg hD]; rfl
   refine ⟨?_, e1, e2, hS⟩
   unfold paramL
   rw [if_neg (by omega), if_neg (by omega)]
   exact if_pos hS
 · have hS : special c = digit c := by
     rw [special_is]
     have : (c == 35 || c == 63 || c == 64 || c == 42) = false := by
       simp only [Bool.or_eq_false_iff, beq_eq_false_iff_ne]
       exact ⟨⟨⟨fun e => h (.inl e), fun e => h (.inr (.inl e))⟩, fun e => h (.inr (.inr (.inl e)))⟩, fun e => h (.inr (.inr (.inr e)))⟩
     rw [this, Bool.or_false]
   by_cases hL : letter c = true
   · have hD : ¬ digit c = true := by
       intro hD
       rw [← lettR_byte] at hL
       rw [← digR_byte] at hD
       unfold lettR at hL
       unfold digR at hD
       rw [decide_eq_true_eq] at hL hD
       omega
     have e1 : 0 < nameL (c :: r) := by rw [show nameL (c :: r) = 1 + (r.takeWhile fun c => letter c || digit c).length from if_pos hL]; omega
     have e2 : ((c :: r).takeWhile digit).length = 0 := by rw [List.takeWhile_cons, if_neg hD]; rfl
     refine ⟨?_, .inr e2, hS⟩
     unfold paramL
     rw [if_pos e1, e2, Nat.add_zero]
   · have e1 : nameL (c :: r) = 0 := if_neg hL
     refine ⟨?_, .inl e1, hS⟩
     unfold paramL
     rw [if_neg (by omega), e1, Nat.zero_add]
     by_cases hd : 0 < ((c :: r).takeWhile digit).length
     · rw [if_pos hd]
     · rw [if_neg hd]
       have hD : ¬ digit c = true := by
         intro hD
         rw [List.takeWhile_cons, if_pos hD] at hd
         simp at hd
       have : special c = false := by rw [hS]; simpa using hD
       rw [List.takeWhile_cons, if_neg hD]
       simp [this]
set_option maxHeartbeats 2000000 in
set_option maxRecDepth 100000 in
theorem leadingP_any (s : ByteArray) (w : World) (hs : s.size ≤ 300000000) (m : Nat) (hm : m = paramL (toL s)) : Calls Tryz.prog 168 #[.string s] w fun e w' => e = .returned (.string (s.extract 0 m)) ∧ Below w.heap.size w w' := by
 have HM := Kept.mk hm
 clear hm
 by_cases h0 : 0 < s.size
 · have hne := not_empty h0
   have hc := drop_at h0
   rw [List.drop_zero] at hc
   have HI : Kept (∀ W : World, Calls Tryz.prog 144 #[.string ⟨#[35, 63, 64, 42]⟩, .int .u8 ((s[0]'h0).toNat : Int)] W fun e w' => e = .returned (.int .i64 (Lib.indexByte [35, 63, 64, 42] (s[0]'h0))) ∧ w' = W) := ⟨fun W => by
     refine (Tryz.strings_IndexByte ⟨#[35, 63, 64, 42]⟩ _ W).mono ?_
     rintro e w' ⟨rfl, rfl⟩
     refine ⟨?_, rfl⟩
     rw [show (((s[0]'h0).toNat : Nat) : Int).toNat.toUInt8 = s[0]'h0 by rw [Int.toNat_natCast]; simp]⟩
   by_cases h4 : s[0]'h0 = 35 ∨ s[0]'h0 = 63 ∨ s[0]'h0 = 64 ∨ s[0]'h0 = 42
   · have hge := (four_at (s[0]'h0)).2 h4
     have HR : Kept (m = 1) := ⟨by rw [HM.out, hc]; exact (param_parts.1 h4).1⟩
     have hsl : ∀ W : World, (Instr.slice 9 (.string s) none (some (.int .i64 1)) none).run Tryz.prog W = .ok (.string (s.extract 0 1)) W := fun W => str_to (s := s) (k := 1) h0 W
     clear h4 hc
     generalize Lib.indexByte [35, 63, 64, 42] (s[0]'h0) = ix at *
     go_enter Tryz.func168, Tryz.ntmps168
     go_wp2_with (go_at_call 144; refine (HI.out _).mono ?_; rintro e w1 ⟨rfl, rfl⟩)
     go_ret
     exact ⟨by rw [HR.out]; rfl, Below.refl _ _⟩
   · have hge := fun h => h4 ((four_at (s[0]'h0)).1 h)
     obtain ⟨hp, hor, _⟩ := (param_parts (r := (toL s).drop 1)).2 h4
     rw [← hc] at hp hor
     obtain ⟨a, ha⟩ : ∃ a, a = nameL (toL s) := ⟨_, rfl⟩
     obtain ⟨b, hb⟩ : ∃ b, b = ((toL s).takeWhile digit).length := ⟨_, rfl⟩
     have HA := Kept.mk ha
     have HBd := Kept.mk hb
     have hab : a ≤ s.size ∧ b ≤ s.size := by
       rw [ha, hb, ← toL_length]
       exact ⟨nameL_le _, takeW_le _ _⟩
     have HR : Kept (s.extract 0 a ++ s.extract 0 b = s.extract 0 m) := ⟨by
       rw [HM.out, hp, ← ha, ← hb]
       apply toL_inj
       rw [← ha, ← hb] at hor
       have e : ∀ x y : ByteArray, toL (x ++ y) = toL x ++ toL y := fun x y => by
         have := congrArg toL (bs_append (toL x) (toL y))
         rwa [bs_toL, bs_toL, toL_bs] at this
       rw [e, toL_to, toL_to, toL_to]
       rcases hor with h | h
       · rw [h]; simp
       · rw [h]; simp⟩
     have HS : Kept ((s.extract 0 a).size = a ∧ (s.extract 0 b).size = b) := ⟨⟨size_to s a hab.1, size_to s b hab.2⟩⟩
     clear h4 hc hp hor ha hb
     generalize Lib.indexByte [35, 63, 64, 42] (s[0]'h0) = ix at *
     have hge : ¬ (0 : Int) ≤ ix := hge
     generalize hX : s.extract 0 a = X at *
     generalize hY : s.extract 0 b = Y at *
     have HX := Kept.mk hX
     have HY := Kept.mk hY
     have q1 : ¬ 9223372036854775807 < X.size + Y.size := by have := HS.out; omega
     clear hX hY
     go_enter Tryz.func168, Tryz.ntmps168
     go_wp2_with (first
       | (go_at_call 144; refine (HI.out _).mono ?_; rintro e w1 ⟨rfl, rfl⟩)
       | (go_at_call 171; refine (leadingV_any s _ hs a HA.out).mono ?_; rw [HX.out]; rintro e w1 ⟨rfl, hb⟩; have HB1 := Kept.mk hb; clear hb)
       | (go_at_call 174; refine (leadingD_any s _ hs b HBd.out).mono ?_; rw [HY.out]; rintro e w2 ⟨rfl, hb⟩; have HB2 := Kept.mk (HB1.out.trans (hb.mono HB1.out.size)); clear hb))
     go_ret
     exact ⟨by rw [← HR.out]; rfl, HB2.out⟩
 · have he := empty_of (s := s) (by omega)
   subst he
   have HR : Kept (m = 0) := ⟨by rw [HM.out]; rfl⟩
   clear h0
   go_enter Tryz.func168, Tryz.ntmps168
   go_wp2_with (first
     | (go_at_call 171; refine (leadingV_any ⟨#[]⟩ _ (by decide) 0 rfl).mono ?_; rintro e w1 ⟨rfl, hb⟩; have HB1 := Kept.mk hb; clear hb)
     | (go_at_call 174; refine (leadingD_any ⟨#[]⟩ _ (by decide) 0 rfl).mono ?_; rintro e w2 ⟨rfl, hb⟩; have HB2 := Kept.mk (HB1.out.trans (hb.mono HB1.out.size)); clear hb))
   go_ret
   exact ⟨by rw [HR.out]; rfl, HB2.out⟩
end Wx
end
section
namespace Wx
open Lx
theorem nest_enough {d c : Nat} {e : UInt8} (hu : ∀ l k, unit d e l = some k → k + 1 ≤ 2 * c → unit c e l = some k) : ∀ (n : Nat) (l : List UInt8) (j : Nat), l.length ≤ n → nest d e l = some j → j ≤ 2 * c → nest c e l = some j
 | _, [], _, _, h, _ => by rw [nest_nil] at h; cases h
 | 0, _ :: _, _, hn, _, _ => by simp at hn
 | n + 1, x :: r, j, hn, h, hj => by
   by_cases hx : x = e
   · subst hx
     rw [nest_end] at h ⊢
     exact h
   · cases hk : unit d e (x :: r) with
     | none => rw [nest_bad hx hk] at h; cases h
     | some k =>
       rw [nest_on hx hk] at h
       obtain ⟨i, hi, rfl⟩ := Option.map_eq_some_iff.1 h
       have h1 := unit_le _ hk
       have h2 := nest_le hi
       rw [nest_on hx (hu _ _ hk (by omega)), nest_enough hu n _ i (by rw [List.length_drop]; omega) hi (by omega)]
       rfl
theorem unit_enough : ∀ (d c : Nat) (e : UInt8) (l : List UInt8) (k : Nat), unit d e l = some k → k + 1 ≤ 2 * c → unit c e l = some k
 | 0, _, _, _, _, h, _ => by cases h
 | d + 1, 0, e, l, k, h, hc => by omega
 | d + 1, c + 1, e, [], k, h, _ => by cases h
 | d + 1, c + 1, e, x :: r, k, h, hc => by
   have hN : ∀ (z : UInt8) (m : List UInt8) (j : Nat), nest d z m = some j → j ≤ 2 * c → nest c z m = some j := fun z m j => nest_enough (fun l k => unit_enough d c z l k) _ m j (Nat.le_refl _)
   rw [unit_step] at h ⊢
   split at h
   · rename_i h0; rw [if_pos h0]; exact h
   · rename_i h0
     rw [if_neg h0]
     split at h
     · rename_i h1; rw [if_pos h1]; exact h
     · rename_i h1
       rw [if_neg h1]
       split at h
       · rename_i h2
         obtain ⟨j, hj, rfl⟩ := Option.map_eq_some_iff.1 h
         rw [if_pos h2, hN _ _ _ hj (by omega)]; rfl
       · rename_i h2
         rw [if_neg h2]
         split at h
         · rename_i h3
           obtain ⟨j, hj, rfl⟩ := Option.map_eq_some_iff.1 h
           rw [if_pos h3, hN _ _ _ hj (by omega)]; rfl
         · rename_i h3
           rw [if_neg h3]
           split at h
           · rename_i h4
             obtain ⟨j, hj, rfl⟩ := Option.map_eq_some_iff.1 h
             rw [if_pos h4, hN _ _ _ hj (by omega)]; rfl
           · rename_i h4
             rw [if_neg h4]
             split at h
             · rename_i h5
               obtain ⟨j, hj, rfl⟩ := Option.map_eq_some_iff.1 h
               rw [if_pos h5, hN _ _ _ hj (by omega)]; rfl
             · rename_i h5; rw [if_neg h5]; exact h
end Wx
end
end Go.Proofs.YtlggpefmojacoaaGreatDoor
