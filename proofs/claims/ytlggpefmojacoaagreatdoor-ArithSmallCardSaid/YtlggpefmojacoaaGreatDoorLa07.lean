/-
  Parts of the proof, merged.
-/
import Derived.Laws.Tables
import Derived.Lib.AsciiSet
import Derived.Test.YtlggpefmojacoaaGreatDoorLa06
namespace Go.Proofs.YtlggpefmojacoaaGreatDoor
section
open Go.RowKit Tx
namespace Ar
def blanks : ByteArray := ⟨#[32, 9, 10]⟩
theorem blanks_has (x : UInt8) : blanks.data.toList.contains x = isBlank x := by
 show ([32, 9, 10] : List UInt8).contains x = isBlank x
 rw [Bool.eq_iff_iff]
 simp [isBlank, or_assoc]
def AS (w : World) (b : Nat) : Prop := ∀ x : UInt8, w.cell? ⟨b, x.toNat, none⟩ = some (.bool (isBlank x))
theorem trim_at (l : List UInt8) (k : Nat) (h : k < l.length) : trim (l.drop k) = if isBlank l[k] = true then trim (l.drop (k + 1)) else l.drop k := by
 unfold trim
 rw [List.drop_eq_getElem_cons h, List.dropWhile_cons]
set_option maxHeartbeats 2000000 in
set_option maxRecDepth 100000 in
theorem trimASCII_any (s : ByteArray) (b : Nat) (w : World) (hA : AS w b) (_hs : s.size ≤ 1000000) : Calls Tryz.prog 92 #[.string s, .pointer (some ⟨b, 0, none⟩)] w fun e w' => e = .returned (.string (bs (trim (toL s)))) ∧ w = w' := by
 have HA := Kept.mk hA
 clear hA
 go_enter Tryz.func92, Tryz.ntmps92
 go_wp2_with fail
 go_loopw [0] (fun x wr => ∃ t : ByteArray, x = .string t ∧ t.size ≤ s.size ∧ w = wr ∧ Kept (trim (toL t) = trim (toL s))) (fun x _ => match x with | .string t => t.size | _ => 0)
 case atStart => exact ⟨s, rfl, Nat.le_refl _, rfl, ⟨rfl⟩⟩
 case round =>
   obtain ⟨t, rfl, ht, rfl, HR⟩ := hrel
   by_cases h0 : t.size = 0
   · have HE : Kept (bs (trim (toL s)) = t) := ⟨by
       have e : toL t = [] := List.eq_nil_of_length_eq_zero (by rw [toL_length]; exact h0)
       rw [← HR.out, e]
       exact toL_inj (by rw [toL_bs, e]; rfl)⟩
     have j1 : ¬ (0 : Int) < (t.size : Int) := by omega
     have j2 : ¬ 0 < t.size := by omega
     clear h0
     go_wp2_with fail
     go_ret
     exact ⟨by rw [HE.out]; rfl, rfl⟩
   · have h1 : 0 < t.size := by omega
     have j1 : (0 : Int) < (t.size : Int) := Int.natCast_pos.2 h1
     have hl : 0 < (toL t).length := by rw [toL_length]; exact h1
     have HS := Kept.mk (trim_at (toL t) 0 hl)
     have HC : Kept ((toL t)[0]'hl = t[0]'h1) := ⟨at_toL t 0 h1⟩
     rw [HC.out, List.drop_zero] at HS
     have hfrom := str_from t 1 (by omega)
     clear hl HC h0
     cases hb : isBlank (t[0]'h1) with
     | true =>
       have HB := Kept.mk hb
       have HW : Kept (trim (toL (t.extract 1 t.size)) = trim (toL s)) := ⟨by rw [ext_from, ← HR.out, HS.out, if_pos HB.out]⟩
       have hm : (t.extract 1 t.size).size < t.size := by
         rw [← toL_length, ext_from, List.length_drop, toL_length]; omega
       have HM := Kept.mk hm
       clear hb hm
       go_wp2_with (go_at_call 111; refine (Tryz.asciiSet_contains b (t[0]'h1) _ _ (HA.out _)).mono ?_; rintro e w1 ⟨rfl, rfl⟩; rw [HB.out])
       go_roundw
       case measure => exact HM.out
       case rel => exact ⟨_, rfl, by have := HM.out; omega, trivial, HW⟩
     | false =>
       have HB := Kept.mk hb
       have HE : Kept (bs (trim (toL s)) = t) := ⟨by rw [← HR.out, HS.out, if_neg (by rw [HB.out]; decide), bs_toL]⟩
       clear hb
       go_wp2_with (go_at_call 111; refine (Tryz.asciiSet_contains b (t[0]'h1) _ _ (HA.out _)).mono ?_; rintro e w1 ⟨rfl, rfl⟩; rw [HB.out])
       go_ret
       exact ⟨by rw [HE.out]; rfl, rfl⟩
theorem set_zero (W : World) : (zeroValue 107).run Tryz.prog W = .ok (.agg (Array.replicate 256 (.bool false))) W := (zero_of_info (n := 256) (by kernel_rfl)).1 W
set_option maxHeartbeats 4000000 in
set_option maxRecDepth 100000 in
theorem trimLeft_any (s : ByteArray) (w : World) (hs : s.size ≤ 1000000) : Calls Tryz.prog 72 #[.string s, .string blanks] w fun e w' => e = .returned (.string (bs (trim (toL s)))) ∧ Below w.heap.size w w' := by
 by_cases h0 : s.size = 0
 · have e : toL s = [] := List.eq_nil_of_length_eq_zero (by rw [toL_length]; exact h0)
   have hx : s = ⟨#[]⟩ := toL_inj (e.trans rfl)
   subst hx
   go_enter Tryz.func72, Tryz.ntmps72
   go_wp2_with fail
   go_ret
   exact ⟨rfl, Below.refl _ _⟩
 · have hx : (s.toList == []) = false := by
     rw [tl, beq_eq_false_iff_ne]
     intro e
     exact h0 (by rw [← toL_length, e]; rfl)
   have HZ := Kept.mk hs
   have hz := set_zero
   have hemp : blanks.toList.isEmpty = false := by rw [tl]; rfl
   have hn1 : ((blanks.size : Int) == 1) = false := rfl
   have HM := Kept.mk (Tryz.strings_makeASCIISet set_zero blanks w (by decide) (by intro j b; show ([32, 9, 10] : List UInt8)[j]? = some b → _; match j with | 0 => simp; rintro rfl; decide | 1 => simp; rintro rfl; decide | 2 => simp; rintro rfl; decide | j + 3 => simp))
   obtain ⟨cs, hcs⟩ : ∃ cs, cs = Lib.setCells blanks.data.toList := ⟨_, rfl⟩
   have HS : Kept (cs.size = 256) := ⟨by rw [hcs, Lib.setCells_size]⟩
   have HO : Kept (cs.all (·.oneCell') = true) := ⟨by rw [hcs]; exact Lib.setCells_one _⟩
   have HC : Kept (∀ x : UInt8, cs[x.toNat]? = some (.bool (isBlank x))) := ⟨fun x => by rw [hcs, Lib.setCells_at, blanks_has]⟩
   rw [← hcs] at HM
   clear hs hcs h0
   go_enter Tryz.func72, Tryz.ntmps72
   go_wp2_with (first
     | (go_at_call 91; refine HM.out.mono ?_; rintro e w1 ⟨rfl, hw⟩; have HB1 : Kept (Below w.heap.size w w1) := ⟨by rw [hw]; exact (Below.refl _ _).alloc (Nat.le_refl _) _⟩; clear hw HM)
     | (have := HB1; refine wpList_store_row rfl 107 _ _ rfl _ cs rfl rfl 107 _ (heap_alloc_new _ _) (by rw [HS.out]; kernel_rfl) (by rw [HS.out]; simp) HO.out ?_
        have HB2 : Kept (Below w.heap.size w ((w1.alloc (.cells (Array.replicate 256 (.bool false)) 107)).setRow w1.heap.size cs)) := ⟨⟨HB1.out.os, HB1.out.tape, HB1.out.output, by rw [setRow_size]; have := HB1.out.size; simp; omega, fun k hk => (setRow_other _ _ k _ (by have := HB1.out.size; omega)).trans ((Below.heap_alloc _ _ _ (by have := HB1.out.size; omega)).trans (HB1.out.block k hk))⟩⟩
        have HA : Kept (AS ((w1.alloc (.cells (Array.replicate 256 (.bool false)) 107)).setRow w1.heap.size cs) w1.heap.size) := ⟨fun x => cell_of_row _ _ _ _ _ _ (setRow_heap _ _ _ cs _ _ (heap_alloc_new _ _)) |>.trans (HC.out x)⟩
        clear HB1)
     | (go_at_call 92; refine (trimASCII_any s _ _ HA.out HZ.out).mono ?_; rintro e w2 ⟨rfl, rfl⟩))
   go_ret
   exact ⟨rfl, HB2.out⟩
end Ar
end
end Go.Proofs.YtlggpefmojacoaaGreatDoor
