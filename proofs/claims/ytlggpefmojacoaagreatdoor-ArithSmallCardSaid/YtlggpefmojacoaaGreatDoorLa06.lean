/-
  Parts of the proof, merged.
-/
import Derived.Deep.CutBlock
import Derived.Deep.DeepCutAuto
import Derived.Test.YtlggpefmojacoaaGreatDoorLa05
namespace Go.Proofs.YtlggpefmojacoaaGreatDoor
section
open Go.RowKit Tx
namespace Ar
theorem at_toL (s : ByteArray) (j : Nat) (h : j < s.size) : (toL s)[j]'(by rw [toL_length]; exact h) = s[j]'h := rfl
theorem runL_step (l : List UInt8) (k : Nat) (h : k < l.length) : runL (l.drop k) = if wordB l[k] = true then runL (l.drop (k + 1)) + 1 else 0 := by
 unfold runL
 rw [List.drop_eq_getElem_cons h, List.takeWhile_cons]
 split <;> rfl
theorem wordB_of {c : UInt8} : wordB c = (alpha c || dig c) := rfl
set_option maxHeartbeats 2000000 in
set_option maxRecDepth 100000 in
theorem wordLength_any (s : ByteArray) (w : World) (hs : s.size ≤ 1000000) : Calls Tryz.prog 94 #[.string s] w fun e w' => e = .returned (.int .i64 (runL (toL s) : Int)) ∧ w = w' := by
 go_enter Tryz.func94, Tryz.ntmps94
 go_wp2_with fail
 go_loopw [3] (fun x wr => ∃ k : Nat, x = .int .i64 (k : Int) ∧ k ≤ s.size ∧ w = wr ∧ Kept (runL (toL s) = k + runL ((toL s).drop k))) (fun x _ => s.size - (intOf x).toNat)
 case atStart => exact ⟨0, rfl, Nat.zero_le _, rfl, ⟨by simp⟩⟩
 case round =>
   obtain ⟨k, rfl, hk, rfl, HR⟩ := hrel
   by_cases hlt : k < s.size
   · have hl : k < (toL s).length := by rw [toL_length]; exact hlt
     have HS := Kept.mk (runL_step (toL s) k hl)
     have HC : Kept ((toL s)[k]'hl = s[k]'hlt) := ⟨at_toL s k hlt⟩
     rw [HC.out] at HS
     have HD := Kept.mk (dig_iff (s[k]'hlt))
     have j1 : (k : Int) < (s.size : Int) := by omega
     have jw : IntKind.i64.wrap ((k : Int) + 1) = ((k + 1 : Nat) : Int) := by rw [IntWalk.i64_in _ (by omega)]; omega
     clear hl HC
     cases ha : alpha (s[k]'hlt) with
     | true =>
       have HA := Kept.mk ha
       have HW : Kept (runL (toL s) = (k + 1) + runL ((toL s).drop (k + 1))) := ⟨by rw [HR.out, HS.out, if_pos (by rw [wordB_of, HA.out]; rfl)]; omega⟩
       clear ha
       go_wp2_with (go_at_call 83; refine (begins_any (s[k]'hlt) _).mono ?_; rintro e w1 ⟨rfl, rfl⟩; rw [HA.out])
       go_roundw
       case measure => simp [intOf]; omega
       case rel => exact ⟨k + 1, rfl, by omega, trivial, HW⟩
     | false =>
       have HA := Kept.mk ha
       clear ha
       by_cases hd : 48 ≤ ((s[k]'hlt).toNat : Int) ∧ ((s[k]'hlt).toNat : Int) ≤ 57
       · have HW : Kept (runL (toL s) = (k + 1) + runL ((toL s).drop (k + 1))) := ⟨by rw [HR.out, HS.out, if_pos (by rw [wordB_of, HA.out, HD.out.2 hd]; rfl)]; omega⟩
         obtain ⟨hd1, hd2⟩ := hd
         go_wp2_with (go_at_call 83; refine (begins_any (s[k]'hlt) _).mono ?_; rintro e w1 ⟨rfl, rfl⟩; rw [HA.out])
         go_roundw
         case measure => simp [intOf]; omega
         case rel => exact ⟨k + 1, rfl, by omega, trivial, HW⟩
       · have HW : Kept (runL (toL s) = k) := ⟨by rw [HR.out, HS.out, if_neg (by rw [wordB_of, HA.out, bool_of HD.out hd]; decide)]; omega⟩
         by_cases hd1 : 48 ≤ ((s[k]'hlt).toNat : Int)
         · have hd2 : ¬ ((s[k]'hlt).toNat : Int) ≤ 57 := fun e => hd ⟨hd1, e⟩
           clear hd
           go_wp2_with (go_at_call 83; refine (begins_any (s[k]'hlt) _).mono ?_; rintro e w1 ⟨rfl, rfl⟩; rw [HA.out])
           go_ret
           exact ⟨by rw [HW.out]; rfl, rfl⟩
         · clear hd
           go_wp2_with (go_at_call 83; refine (begins_any (s[k]'hlt) _).mono ?_; rintro e w1 ⟨rfl, rfl⟩; rw [HA.out])
           go_ret
           exact ⟨by rw [HW.out]; rfl, rfl⟩
   · have HW : Kept (runL (toL s) = k) := ⟨by rw [HR.out, List.drop_eq_nil_of_le (by rw [toL_length]; omega)]; rfl⟩
     have j1 : ¬ (k : Int) < (s.size : Int) := by omega
     go_wp2_with fail
     go_ret
     exact ⟨by rw [HW.out]; rfl, rfl⟩
theorem str_to (s : ByteArray) (n : Nat) (h : n ≤ s.size) (W : World) : (Instr.slice 9 (.string s) none (some (.int .i64 (n : Int))) none).run Tryz.prog W = .ok (.string (s.extract 0 n)) W := by
 rw [run_slice_string_to_if W 9 s .i64 _ Tryz.underlying9, if_pos ⟨by omega, by omega⟩, Int.toNat_natCast]
theorem str_from (s : ByteArray) (n : Nat) (h : n ≤ s.size) (W : World) : (Instr.slice 9 (.string s) (some (.int .i64 (n : Int))) none none).run Tryz.prog W = .ok (.string (s.extract n s.size)) W := by
 rw [run_slice_string_from_if W 9 s .i64 _ Tryz.underlying9, if_pos ⟨by omega, by omega⟩, Int.toNat_natCast]
theorem ext_to (s : ByteArray) (n : Nat) : toL (s.extract 0 n) = (toL s).take n := by rw [toL_extract, List.drop_zero, Nat.sub_zero]
theorem ext_from (s : ByteArray) (n : Nat) : toL (s.extract n s.size) = (toL s).drop n := by
 rw [toL_extract, List.take_of_length_le]
 rw [List.length_drop, toL_length]
 exact Nat.le_refl _
set_option maxHeartbeats 2000000 in
set_option maxRecDepth 100000 in
theorem tokenLength_any (s : ByteArray) (w : World) (hs : s.size ≤ 1000000) : Calls Tryz.prog 73 #[.string s] w fun e w' => e = .returned (.int .i64 (tokL (toL s) : Int)) ∧ w = w' := by
 have HZ := Kept.mk hs
 obtain ⟨r, hr⟩ : ∃ r, r = runL (toL s) := ⟨_, rfl⟩
 have HR := Kept.mk hr
 have HT : Kept (tokL (toL s) = if 0 < r then r else if 2 ≤ s.size ∧ isLong ((toL s).take 2) = true then 2 else min s.size 1) := ⟨by unfold tokL; rw [toL_length, ← HR.out]⟩
 rw [HT.out]
 clear hr hs
 by_cases h0 : 0 < r
 · rw [if_pos h0]
   have h1 : (0 : Int) < (r : Int) := by omega
   clear HT
   go_enter Tryz.func73, Tryz.ntmps73
   go_wp2_with (go_at_call 94; refine (wordLength_any s _ HZ.out).mono ?_; rintro e w1 ⟨rfl, rfl⟩; rw [← HR.out])
   go_ret
   exact ⟨rfl, rfl⟩
 · rw [if_neg h0]
   obtain rfl : r = 0 := by omega
   by_cases h2 : 2 ≤ s.size
   · have h2i : (2 : Int) ≤ (s.size : Int) := by omega
     have hto := str_to s 2 h2
     have HL : Kept (toL (s.extract 0 2) = (toL s).take 2) := ⟨ext_to s 2⟩
     clear HT
     cases hl : isLong ((toL s).take 2) with
     | true =>
       rw [if_pos ⟨h2, rfl⟩]
       have HQ := Kept.mk hl
       clear hl h0
       go_enter Tryz.func73, Tryz.ntmps73
       go_wp2_with (first
         | (go_at_call 94; refine (wordLength_any s _ HZ.out).mono ?_; rintro e w1 ⟨rfl, rfl⟩; rw [← HR.out])
         | (go_at_call 95; refine (long_any _ _).mono ?_; rintro e w1 ⟨rfl, rfl⟩; rw [HL.out, HQ.out]))
       go_ret
       exact ⟨rfl, rfl⟩
     | false =>
       rw [if_neg (fun e => by cases e.2)]
       have HQ := Kept.mk hl
       have hm : min (s.size : Int) 1 = 1 := by omega
       have HM : Kept (min s.size 1 = 1) := ⟨by omega⟩
       rw [HM.out]
       clear hl h0
       go_enter Tryz.func73, Tryz.ntmps73
       go_wp2_with (first
         | (go_at_call 94; refine (wordLength_any s _ HZ.out).mono ?_; rintro e w1 ⟨rfl, rfl⟩; rw [← HR.out])
         | (go_at_call 95; refine (long_any _ _).mono ?_; rintro e w1 ⟨rfl, rfl⟩; rw [HL.out, HQ.out]))
       go_ret
       exact ⟨rfl, rfl⟩
   · rw [if_neg (fun e => h2 e.1)]
     have h2i : ¬ (2 : Int) ≤ (s.size : Int) := by omega
     have HM : Kept (min (s.size : Int) 1 = ((min s.size 1 : Nat) : Int)) := ⟨by omega⟩
     clear h0 HT
     go_enter Tryz.func73, Tryz.ntmps73
     go_wp2_with (go_at_call 94; refine (wordLength_any s _ HZ.out).mono ?_; rintro e w1 ⟨rfl, rfl⟩; rw [← HR.out])
     go_ret
     exact ⟨by rw [← HM.out]; rfl, rfl⟩
set_option maxRecDepth 100000 in
theorem isName_tok (x : ByteArray) (w : World) : Calls Tryz.prog 61 #[.string x] w fun e w' => e = .returned (.bool (isNm (toL x))) ∧ w = w' := by
 by_cases h : x.size = 0
 · have HX : Kept (isNm (toL x) = false) := ⟨by
     have : toL x = [] := List.eq_nil_of_length_eq_zero (by rw [toL_length]; exact h)
     rw [this]; rfl⟩
   have hx : x = ⟨#[]⟩ := toL_inj (List.eq_nil_of_length_eq_zero (by rw [toL_length]; exact h))
   subst hx
   go_enter Tryz.func61, Tryz.ntmps61
   go_wp2_with fail
   go_ret
   exact ⟨rfl, rfl⟩
 · have h0 : 0 < x.size := by omega
   have hx : (x.toList == []) = false := by
     rw [tl, beq_eq_false_iff_ne]
     intro e
     exact h (by rw [← toL_length, e]; rfl)
   have HX : Kept (isNm (toL x) = alpha (x[0]'h0)) := ⟨by
     have hl : 0 < (toL x).length := by rw [toL_length]; exact h0
     have h1 := List.drop_eq_getElem_cons hl
     rw [List.drop_zero] at h1
     rw [h1]
     exact congrArg alpha (at_toL x 0 h0)⟩
   have h0i : (0 : Int) < (x.size : Int) := Int.natCast_pos.2 h0
   rw [HX.out]
   clear HX h
   go_enter Tryz.func61, Tryz.ntmps61
   go_wp2_with (go_at_call 83; refine (begins_any (x[0]'h0) _).mono ?_; rintro e w1 ⟨rfl, rfl⟩)
   go_ret
   exact ⟨rfl, rfl⟩
end Ar
end
end Go.Proofs.YtlggpefmojacoaaGreatDoor
