/-
  Parts of the proof, merged.
-/
import Derived.BigGuard
import Derived.Laws.Closers25
import Derived.Laws.Closers25b
import Derived.Laws.Strings3
import Derived.Lib.ConvBytes
import Derived.Lib.Walk
import Derived.Test.YtlggpefmojacoaaGreatDoorLa08
namespace Go.Proofs.YtlggpefmojacoaaGreatDoor
section
open Go.RowKit Tx
namespace Ar
set_option maxHeartbeats 32000000 in
set_option maxRecDepth 100000 in
theorem parse10_any (t : ByteArray) (hne : t.size ≠ 0) (hmax : t.size ≤ 9223372036854775806) (w : World) :
   Calls Tryz.prog 116 #[.string t, .int .i64 10, .int .i64 63] w fun e w' => NumE (num 10 (toL t)) e ∧ Below w.heap.size w w' := by
 have hemp : t.toList.isEmpty = false := by
   rw [tl]
   cases h : toL t with
   | nil => exact absurd (by rw [← toL_length, h]; rfl) hne
   | cons x y => rfl
 have hcv := Lib.run_convert_string_bytes (P := Tryz.prog) w 9 28 5 t (u := .string) (by kernel_rfl) (by kernel_rfl) (by kernel_rfl)
 have HB8 := Kept.mk (fun j (hj : j < t.size) => Lib.bytesWorld_cell w 5 t j hj)
 have HB := Kept.mk (bytes_below w 5 t)
 obtain ⟨W1, hW1⟩ : ∃ W1, W1 = Lib.bytesWorld w 5 t := ⟨_, rfl⟩
 rw [← hW1] at hcv HB8 HB
 have HNn : Kept (num 10 (toL t) = numF 10 (toL t) 0) := ⟨by
   unfold num
   rw [if_neg]
   intro e
   exact hne (by rw [← toL_length, e]; rfl)⟩
 have hmv : IntKind.u64.wrap (IntKind.u64.wrap 9223372036854775808 - 1) = 9223372036854775807 := by
   rw [IntKind.wrap_u64, IntKind.wrap_u64]
   decide
 have HMax := Kept.mk hmax
 clear hW1 hne
 go_enter Tryz.func116, Tryz.ntmps116
 go_wp2_with fail
 go_loop [12, 13, 101] (fun vu vn vi => ∃ (k acc : Nat) (a : Int), vu = .bool false ∧ vn = .int .u64 a ∧ vi = .int .i64 (k : Int) ∧ k ≤ t.size ∧ Kept (a = (acc : Int) ∧ acc ≤ 9223372036854775807 ∧ num 10 (toL t) = numF 10 ((toL t).drop k) acc)) (fun _ _ vi => t.size - (intOf vi).toNat)
 case atStart => exact ⟨0, 0, 0, rfl, rfl, rfl, by omega, ⟨rfl, by omega, HNn.out⟩⟩
 case round =>
   obtain ⟨k, acc, a, rfl, rfl, rfl, hk, HTie⟩ := hrel
   have a0 : 0 ≤ a := by have := HTie.out.1; omega
   have a1 : a ≤ 9223372036854775807 := by have := HTie.out.1; have := HTie.out.2.1; omega
   by_cases hkn : k < t.size
   · have hc := HB8.out k hkn
     have hl : k < (toL t).length := by rw [toL_length]; exact hkn
     have hdrop : (toL t).drop k = (toL t)[k]'hl :: (toL t).drop (k + 1) := List.drop_eq_getElem_cons hl
     have hget : t.data.toList.getD k 0 = (toL t)[k]'hl := by
       show (toL t).getD k 0 = _
       simp [List.getD, List.getElem?_eq_getElem hl]
     rw [hdrop] at HTie
     rw [hget] at hc
     generalize (toL t)[k]'hl = c at hc HTie
     clear hdrop hget hl
     have hc256 : c.toNat < 256 := c.toNat_lt
     by_cases hdig : 48 ≤ c.toNat ∧ c.toNat ≤ 57
     · have HD := Kept.mk (digit_of hdig)
       obtain ⟨hd0, hd1⟩ := hdig
       have hi0 : (48 : Int) ≤ (c.toNat : Int) := by omega
       have hi1 : (c.toNat : Int) ≤ 57 := by omega
       have hi2 : ¬ (c.toNat : Int) = 95 := by omega
       have HDv : Kept (((digV c : Nat) : Int) = (c.toNat : Int) - 48 ∧ digV c < 10) := ⟨by have := HD.out; omega, by have := HD.out; omega⟩
       by_cases hfit : acc * 10 + digV c ≤ 9223372036854775807
       · have HN : Kept (a * 10 + ((c.toNat : Int) - 48) = ((acc * 10 + digV c : Nat) : Int) ∧ acc * 10 + digV c ≤ 9223372036854775807 ∧ num 10 (toL t) = numF 10 ((toL t).drop (k + 1)) (acc * 10 + digV c)) := ⟨by have := HDv.out; have := HTie.out.1; omega, hfit, HTie.out.2.2.trans (numF_yes ⟨by have := HDv.out; omega, hfit⟩)⟩
         have icut : a < 1844674407370955162 := by have := HTie.out.1; have := HDv.out; omega
         have iov : a * 10 + ((c.toNat : Int) - 48) < 9223372036854775808 := by have := HTie.out.1; have := HDv.out; omega
         clear hfit
         go_wp2_with fail
         go_round
         case measure => simp [intOf]; omega
         case rel => exact ⟨k + 1, acc * 10 + digV c, a * 10 + ((c.toNat : Int) - 48), rfl, by rfl, by rfl, by omega, HN⟩
       · have HE : Kept (num 10 (toL t) = none) := ⟨HTie.out.2.2.trans (numF_no fun e => hfit e.2)⟩
         by_cases hcut : 1844674407370955162 ≤ a
         · clear hfit
           go_wp2_with fail
           all_goals go_ret2
           all_goals exact ⟨NumE.err HE.out _ _ (by omega), HB.out⟩
         · have icut : a < 1844674407370955162 := by omega
           have ifit : 9223372036854775807 < a * 10 + ((c.toNat : Int) - 48) := by have := HTie.out.1; have := HDv.out; omega
           by_cases hov : 18446744073709551616 ≤ a * 10 + ((c.toNat : Int) - 48)
           · have hwr : IntKind.u64.wrap (a * 10 + ((c.toNat : Int) - 48)) = a * 10 + ((c.toNat : Int) - 48) - 18446744073709551616 := by
               rw [IntKind.wrap_u64]
               omega
             clear hfit
             go_wp2_with fail
             all_goals go_ret2
             all_goals exact ⟨NumE.err HE.out _ _ (by omega), HB.out⟩
           · have iov : a * 10 + ((c.toNat : Int) - 48) < 18446744073709551616 := by omega
             clear hfit
             go_wp2_with fail
             all_goals go_ret2
             all_goals exact ⟨NumE.err HE.out _ _ (by omega), HB.out⟩
     · have HL := Kept.mk (lower_of c)
       obtain ⟨lo, hlo⟩ : ∃ lo, lo = bits .or .u8 (c.toNat : Int) 32 := ⟨_, rfl⟩
       have hv0 : 0 ≤ lo := by rw [hlo]; exact bits_lo_u8 .or (c.toNat : Int) 32
       have hv1 : lo ≤ 255 := by rw [hlo]; exact bits_hi_u8 .or (c.toNat : Int) 32
       rw [← hlo] at HL
       have HLo := Kept.mk hlo.symm
       have H95 := Kept.mk (lower_95 c)
       rw [← hlo] at H95
       clear hlo
       have hdi : (c.toNat : Int) < 48 ∨ 57 < (c.toNat : Int) := by omega
       by_cases h95 : (c.toNat : Int) = 95
       · have HE : Kept (num 10 (toL t) = none) := ⟨HTie.out.2.2.trans (numF_no fun e => by have h9 : c = 95 := UInt8.toNat_inj.1 (by show c.toNat = 95; omega); rw [h9] at e; exact absurd e.1 (by decide))⟩
         rw [h95] at hc
         have hu0 := bits_lo_u8 .or 95 32
         have hu1 := bits_hi_u8 .or 95 32
         clear HL HLo H95 hdi hdig h95 hc256 hv0 hv1
         go_wp2_with (go_at_call 130; refine (lower_any _ _).mono ?_; rintro e w2 ⟨rfl, rfl⟩)
         all_goals go_ret2
         all_goals exact ⟨NumE.err HE.out _ _ (by omega), HB.out⟩
       · have HDg := Kept.mk hdig
         clear H95 hdig
         rcases hdi with h48 | h57
         · by_cases hl0 : 97 ≤ lo
           · by_cases hl1 : lo ≤ 122
             · have HE : Kept (num 10 (toL t) = none) := ⟨HTie.out.2.2.trans (numF_no fun e => by
                 have := HL.out.1 ⟨hl0, hl1⟩
                 by_cases hf : lo ≤ 102
                 · rw [if_pos hf] at this; omega
                 · rw [if_neg hf] at this; omega)⟩
               have hw1 : IntKind.u8.wrap (lo - 97) = lo - 97 := by rw [IntKind.wrap_u8]; omega
               have hw2 : IntKind.u8.wrap (lo - 97 + 10) = lo - 97 + 10 := by rw [IntKind.wrap_u8]; omega
               go_wp2_with (go_at_call 130; refine (lower_any _ _).mono ?_; rintro e w2 ⟨rfl, rfl⟩; rw [HLo.out])
               all_goals go_ret2
               all_goals exact ⟨NumE.err HE.out _ _ (by omega), HB.out⟩
             · have HE : Kept (num 10 (toL t) = none) := ⟨HTie.out.2.2.trans (numF_no fun e => by have := HL.out.2 (fun e => hl1 e.2) HDg.out; omega)⟩
               go_wp2_with (go_at_call 130; refine (lower_any _ _).mono ?_; rintro e w2 ⟨rfl, rfl⟩; rw [HLo.out])
               all_goals go_ret2
               all_goals exact ⟨NumE.err HE.out _ _ (by omega), HB.out⟩
           · have HE : Kept (num 10 (toL t) = none) := ⟨HTie.out.2.2.trans (numF_no fun e => by have := HL.out.2 (fun e => hl0 e.1) HDg.out; omega)⟩
             go_wp2_with (go_at_call 130; refine (lower_any _ _).mono ?_; rintro e w2 ⟨rfl, rfl⟩; rw [HLo.out])
             all_goals go_ret2
             all_goals exact ⟨NumE.err HE.out _ _ (by omega), HB.out⟩
         · by_cases hl0 : 97 ≤ lo
           · by_cases hl1 : lo ≤ 122
             · have HE : Kept (num 10 (toL t) = none) := ⟨HTie.out.2.2.trans (numF_no fun e => by
                 have := HL.out.1 ⟨hl0, hl1⟩
                 by_cases hf : lo ≤ 102
                 · rw [if_pos hf] at this; omega
                 · rw [if_neg hf] at this; omega)⟩
               have hw1 : IntKind.u8.wrap (lo - 97) = lo - 97 := by rw [IntKind.wrap_u8]; omega
               have hw2 : IntKind.u8.wrap (lo - 97 + 10) = lo - 97 + 10 := by rw [IntKind.wrap_u8]; omega
               go_wp2_with (go_at_call 130; refine (lower_any _ _).mono ?_; rintro e w2 ⟨rfl, rfl⟩; rw [HLo.out])
               all_goals go_ret2
               all_goals exact ⟨NumE.err HE.out _ _ (by omega), HB.out⟩
             · have HE : Kept (num 10 (toL t) = none) := ⟨HTie.out.2.2.trans (numF_no fun e => by have := HL.out.2 (fun e => hl1 e.2) HDg.out; omega)⟩
               go_wp2_with (go_at_call 130; refine (lower_any _ _).mono ?_; rintro e w2 ⟨rfl, rfl⟩; rw [HLo.out])
               all_goals go_ret2
               all_goals exact ⟨NumE.err HE.out _ _ (by omega), HB.out⟩
           · have HE : Kept (num 10 (toL t) = none) := ⟨HTie.out.2.2.trans (numF_no fun e => by have := HL.out.2 (fun e => hl0 e.1) HDg.out; omega)⟩
             go_wp2_with (go_at_call 130; refine (lower_any _ _).mono ?_; rintro e w2 ⟨rfl, rfl⟩; rw [HLo.out])
             all_goals go_ret2
             all_goals exact ⟨NumE.err HE.out _ _ (by omega), HB.out⟩
   · obtain rfl : k = t.size := by omega
     have HE : Kept (num 10 (toL t) = some acc) := ⟨by rw [HTie.out.2.2, List.drop_eq_nil_of_le (by rw [toL_length]; exact Nat.le_refl _)]; rfl⟩
     obtain rfl := HTie.out.1
     go_wp2_with fail
     go_ret2
     exact ⟨by rw [HE.out]; rfl, HB.out⟩
end Ar
end
end Go.Proofs.YtlggpefmojacoaaGreatDoor
