/-
  Parts of the proof, merged.
-/
import Derived.Lib.AppendIntMem
import Derived.Test.YtlggpefmojacoaaGreatDoorLa46
namespace Go.Proofs.YtlggpefmojacoaaGreatDoor
section
open Go.RowKit Tx
namespace Ar
open Va (Vr VS getD Sorted)
theorem trim_any (o : Tok) (h : o ∈ asgs) (w : World) : Calls Tryz.prog 53 #[.string (bs o), .string ⟨#[61]⟩] w fun e w' => e = .returned (.string (bs o.dropLast)) ∧ w = w' := by
 have hd : ∀ o ∈ asgs, Lib.trimSuffix o [61] = o.dropLast ∧ o.length ≤ 2 := by decide
 have hs : (bs o).size ≤ 9223372036854775807 := by rw [bs_size]; have := (hd o h).2; omega
 refine (Tryz.strings_TrimSuffix (bs o) ⟨#[61]⟩ w hs).mono ?_
 rintro e w' ⟨rfl, rfl⟩
 refine ⟨?_, rfl⟩
 rw [← (hd o h).1]
 show Ending.returned (.string ⟨(Lib.trimSuffix (toL (bs o)) [61]).toArray⟩) = _
 rw [toL_bs]
 rfl
theorem itoa_any (n : Int) (h : rng n) (w : World) (hK : KT w) : Calls Tryz.prog 56 #[.int .i64 n] w fun e w' => e = .returned (.string (digitsOf n)) ∧ Below w.heap.size w w' := by
 refine (Tryz.strconv_Itoa n h.1 h.2 w hK.tab).mono ?_
 rintro e w' ⟨rfl, k, os, rfl⟩
 exact ⟨rfl, Lib.below_grow _ _ (Nat.le_refl _) _ _⟩
theorem set_err {l : List Vr} {n x : ByteArray} {c : Int} (e : Va.set l n x = .error c) : c ≠ 0 := by
 unfold Va.set at e
 split at e
 · cases e; decide
 · split at e
   · cases e; decide
   · cases e
theorem asg_ops {o : Tok} (h : o ∈ asgs) : o = [61] ∨ (o ≠ [61] ∧ o.dropLast ∈ op2 ∧ o.dropLast ≠ []) := by
 have hd : ∀ o ∈ asgs, o = [61] ∨ (o ≠ [61] ∧ o.dropLast ∈ op2 ∧ o.dropLast ≠ []) := by decide
 exact hd o h
theorem cell_vb {w : World} {vb : Nat} {l : List Vr} (h : EM w vb l) : ∃ v, w.cell? ⟨vb, 0, none⟩ = some v := by
 obtain ⟨A, k, hr, _⟩ := h.row
 exact ⟨_, cell_of_row w vb 0 _ _ _ hr⟩
theorem frozen_vb {w : World} {vb : Nat} {l : List Vr} (h : EM w vb l) : w.frozen? ⟨vb, 0, none⟩ = false := by
 obtain ⟨A, k, hr, _⟩ := h.row
 exact frozen_of_row w vb 0 _ _ hr
set_option maxHeartbeats 8000000 in
set_option maxRecDepth 100000 in
theorem assign_any (vb : Nat) (x o : Tok) (a : Ex) (hI : Kept (VC vb a)) (hw : Wf (.asg x o a)) (w : World) (l : List Vr) (u : Value) (hE : EM w vb l) (hT : ET (Nw (vb + 1)) w (.asg x o a) u) (hl : l.length + sz a + 1 ≤ 100000) :
   Calls Tryz.prog 39 #[.pointer (some ⟨vb, 0, none⟩), u] w (VE w vb (ev (.asg x o a) l)) := by
 obtain ⟨b, f, rfl, hb, hr, hT1⟩ := hT
 obtain ⟨b1, rfl, hb1, _⟩ := hT1.ptr
 have HOk := Kept.mk hE.ok
 have HW := Kept.mk hw
 have HR := Kept.mk hr
 have HB := Kept.mk hb
 have c4 := cell_of_row w b 4 _ _ _ hr
 have HI := Kept.mk (hI.out w l _ hE hT1 (by omega))
 have HL := Kept.mk hl
 have HXs : Kept ((bs x).size ≤ 1400000) := ⟨by rw [bs_size]; have := hw.1; omega⟩
 obtain ⟨R0, hR⟩ : ∃ R0, R0 = ev (.asg x o a) l := ⟨_, rfl⟩
 rw [← hR]
 have HRz := Kept.mk hR
 clear hE hT1 hl hr hb hI hw hR
 go_enter Tryz.func39, Tryz.ntmps39
 go_wp2_with fail
 go_at_call 30
 refine HI.out.mono ?_
 intro e w1 hV
 cases hx : ev a l with
 | error c =>
   have HX : Kept (R0 = .error c) := ⟨by rw [HRz.out, ev, hx]⟩
   rw [hx] at hV
   obtain ⟨rfl, ho⟩ := hV
   rw [HX.out]
   first | exact ⟨rfl, rfl, ho⟩ | exact ⟨rfl, ho⟩
 | ok z =>
   obtain ⟨n, l1⟩ := z
   have HX : Kept (R0 = match asgV x o n l1 with | .error c => .error c | .ok m => putV x m l1) := ⟨by rw [HRz.out, ev, hx]; rfl⟩
   rw [hx] at hV
   obtain ⟨rfl, he, ho⟩ := hV
   have HOk1 := Kept.mk (ev_ok HW.out.2.2 HOk.out hx)
   have HE1 := he
   have HO1 := ho
   have hr1 := et_row HR.out HB.out ho.out
   have HR1 := Kept.mk hr1
   have d3 := cell_of_row w1 b 3 _ _ _ hr1
   have HTr := Kept.mk (fun W => trim_any o HW.out.2.1 W)
   have HLn : Kept (l1.length + 1 ≤ 100000) := ⟨by have := HOk1.out.2.2; have := HL.out; omega⟩
   clear he ho hx HRz HI hr1
   rcases asg_ops HW.out.2.1 with ho | ⟨ho1, ho2, ho3⟩
   · subst ho
     have HAs : Kept (asgV x [61] n l1 = .ok n) := ⟨rfl⟩
     have HTr0 : Kept (∀ W, Calls Tryz.prog 53 #[.string (bs [61]), .string ⟨#[61]⟩] W fun e w' => e = .returned (.string ⟨#[]⟩) ∧ W = w') := ⟨fun W => HTr.out W⟩
     clear HTr
     have HRg : Kept (rng n) := ⟨asg_rng HOk1.out.2.1 HAs.out⟩
     cases hs : Va.set l1 (bs x) (digitsOf n) with
     | error c =>
       have HSt := Kept.mk hs
       have HFin : Kept (R0 = .error c) := ⟨by rw [HX.out, HAs.out]; dsimp only; unfold putV; rw [HSt.out]⟩
       have HC0 : Kept ((c == 0) = false) := ⟨beq_eq_false_iff_ne.2 (set_err HSt.out)⟩
       have HC1 : Kept (((Va.outE (Except.error c) : Int) == 0) = false) := ⟨beq_eq_false_iff_ne.2 (set_err HSt.out)⟩
       clear hs
       obtain ⟨A, k, hrow, hvs⟩ := HE1.out.row
       have HEx := HE1
       have HOx := HO1
       have HVx := Kept.mk hvs
       have HBl : Kept (b < w1.heap.size) := ⟨(Array.getElem?_eq_some_iff.1 HR1.out).1⟩
       have e0 := cell_of_row w1 vb 0 _ _ _ hrow
       have e2 := cell_of_row w1 b 2 _ _ _ HR1.out
       clear hrow hvs
       go_wp2_with (go_at_call 53; refine (HTr0.out _).mono ?_; rintro e w2 ⟨rfl, rfl⟩)
       go_region_law (first
         | (go_simp; go_at_call 56; refine (itoa_any n HRg.out _ (HEx.out.kt.below (Below.refl _ _).drew)).mono ?_; rintro e w4 ⟨rfl, hb⟩; have HE4 := Kept.mk ((HEx.out.below (Below.refl _ _).drew).below hb); have HB4 := Kept.mk ((Below.refl w1.heap.size w1).drew.trans hb); have g0 := (World.cell?_of_block (w := w1) (a := ⟨vb, 0, none⟩) (HB4.out.block vb HEx.out.lt)).trans e0; have g2 := (World.cell?_of_block (w := w1) (a := ⟨b, 2, none⟩) (HB4.out.block b HBl.out)).trans e2; clear hb)
         | (go_simp; go_at_call 55; refine (Va.pSet_any l1 A l1.length k (bs x) (digitsOf n) w4 (HVx.out.below HB4.out) rfl (by have := HLn.out; omega) HXs.out HOk1.out.1.sorted HE4.out.kt.kit).mono ?_; rintro e w5 ⟨A5, n5, k5, rfl, hn5, hv5, hb5⟩; have HN5 := Kept.mk hn5; have HV5 := hv5; have HB5 := Kept.mk (HB4.out.trans (hb5.mono HB4.out.size)); clear hn5 hv5 hb5; rw [HSt.out] at HN5 HV5 ⊢)
         | go_simp)
       all_goals go_wp2_with (go_at_call 44; (first | rw [HC0.out] | rw [HC1.out]); refine (check_any _ false _).mono ?_; rintro e w6 ⟨rfl, rfl⟩)
       all_goals rw [HFin.out]
       all_goals first | exact ⟨rfl, rfl, ⟨only_on HOx.out HB5.out⟩⟩ | exact ⟨rfl, ⟨only_on HOx.out HB5.out⟩⟩
     | ok l2 =>
       have HSt := Kept.mk hs
       have HFin : Kept (R0 = .ok (n, l2)) := ⟨by rw [HX.out, HAs.out]; dsimp only; unfold putV; rw [HSt.out]⟩
       have HOk2 : Kept (Ok l2) := ⟨(set_ok HOk1.out.1 (by have := itoa_len HRg.out; unfold digitsOf; rw [bs_size]; omega) HSt.out).1⟩
       clear hs
       obtain ⟨A, k, hrow, hvs⟩ := HE1.out.row
       have HEx := HE1
       have HOx := HO1
       have HVx := Kept.mk hvs
       have HBl : Kept (b < w1.heap.size) := ⟨(Array.getElem?_eq_some_iff.1 HR1.out).1⟩
       have e0 := cell_of_row w1 vb 0 _ _ _ hrow
       have e2 := cell_of_row w1 b 2 _ _ _ HR1.out
       clear hrow hvs
       go_wp2_with (go_at_call 53; refine (HTr0.out _).mono ?_; rintro e w2 ⟨rfl, rfl⟩)
       go_region_law (first
         | (go_simp; go_at_call 56; refine (itoa_any n HRg.out _ (HEx.out.kt.below (Below.refl _ _).drew)).mono ?_; rintro e w4 ⟨rfl, hb⟩; have HE4 := Kept.mk ((HEx.out.below (Below.refl _ _).drew).below hb); have HB4 := Kept.mk ((Below.refl w1.heap.size w1).drew.trans hb); have g0 := (World.cell?_of_block (w := w1) (a := ⟨vb, 0, none⟩) (HB4.out.block vb HEx.out.lt)).trans e0; have g2 := (World.cell?_of_block (w := w1) (a := ⟨b, 2, none⟩) (HB4.out.block b HBl.out)).trans e2; clear hb)
         | (go_simp; go_at_call 55; refine (Va.pSet_any l1 A l1.length k (bs x) (digitsOf n) w4 (HVx.out.below HB4.out) rfl (by have := HLn.out; omega) HXs.out HOk1.out.1.sorted HE4.out.kt.kit).mono ?_; rintro e w5 ⟨A5, n5, k5, rfl, hn5, hv5, hb5⟩; have HN5 := Kept.mk hn5; have HV5 := hv5; have HB5 := Kept.mk (HB4.out.trans (hb5.mono HB4.out.size)); clear hn5 hv5 hb5; rw [HSt.out] at HN5 HV5 ⊢)
         | go_simp)
       all_goals have HE5 := Kept.mk ((HEx.out.below HB5.out).set (m := l2) HOk2.out HV5.out HN5.out)
       all_goals have f0 := frozen_vb (HEx.out.below HB5.out)
       all_goals obtain ⟨z0, h0⟩ := cell_vb (HEx.out.below HB5.out)
       all_goals go_wp2_with (go_at_call 44; refine (check_any _ true _).mono ?_; rintro e w6 ⟨rfl, rfl⟩)
       all_goals go_ret
       all_goals rw [HFin.out]
       all_goals exact ⟨rfl, HE5, ⟨(only_on HOx.out HB5.out).setCell _ _ (fun _ => rfl)⟩⟩
   · have HOp := Kept.mk ho2
     obtain ⟨y, hy⟩ : ∃ y, y = bs o.dropLast := ⟨_, rfl⟩
     have hyE : y.toList.isEmpty = false := by
       rw [tl, hy, toL_bs]
       cases hd : o.dropLast with
       | nil => exact absurd hd ho3
       | cons p q => rfl
     have HTr2 : Kept (∀ W, Calls Tryz.prog 53 #[.string (bs o), .string ⟨#[61]⟩] W fun e w' => e = .returned (.string y) ∧ W = w') := ⟨fun W => by rw [hy]; exact HTr.out W⟩
     have HJ0 : Kept (∀ (q : Int) (W : World), Calls Tryz.prog 54 #[.string y, .int .i64 q, .int .i64 n] W (OpE (two o.dropLast q n) W)) := ⟨fun q W => by rw [hy]; exact joined_any _ HOp.out q n W⟩
     have HGet := Kept.mk (get_any w1 vb l1 (bs x) HE1.out (by have := HLn.out; omega))
     have d2 := cell_of_row w1 b 2 _ _ _ HR1.out
     have HAv : Kept (asgV x o n l1 = match valV (toL (getD l1 (bs x)).value) with | none => .error 130 | some a => two o.dropLast a n) := ⟨by unfold asgV; rw [if_neg ho1]; cases valV (toL (getD l1 (bs x)).value) <;> rfl⟩
     clear hy ho1 ho2 ho3 HTr
     cases hv : valV (toL (getD l1 (bs x)).value) with
     | none =>
       rw [hv] at HAv HGet
       have HFin : Kept (R0 = .error 130) := ⟨by rw [HX.out, HAv.out]⟩
       clear hv
       go_wp2_with (first
         | (go_at_call 53; refine (HTr2.out _).mono ?_; rintro e w2 ⟨rfl, rfl⟩)
         | (go_at_call 38; refine HGet.out.mono ?_; rintro e w2 ⟨rfl, hb⟩))
       rw [HFin.out]
       first | exact ⟨rfl, rfl, ⟨only_on HO1.out hb.out⟩⟩ | exact ⟨rfl, ⟨only_on HO1.out hb.out⟩⟩
     | some q =>
       rw [hv] at HAv HGet
       have HJ := Kept.mk (HJ0.out q)
       clear hv HJ0
       go_wp2_with (first
         | (go_at_call 53; refine (HTr2.out _).mono ?_; rintro e w2 ⟨rfl, rfl⟩)
         | (go_at_call 38; refine HGet.out.mono ?_; rintro e w3 ⟨rfl, hb⟩; have HB3 := hb))
       have HE3 := Kept.mk (HE1.out.below HB3.out)
       have HO3 : Kept (Only (· = vb) w w3) := ⟨only_on HO1.out HB3.out⟩
       have HR3 := Kept.mk ((HB3.out.block b (Array.getElem?_eq_some_iff.1 HR1.out).1).trans HR1.out)
       clear hb d2 HGet
       cases hw2 : two o.dropLast q n with
       | error c =>
         rw [hw2] at HJ
         have HAs : Kept (asgV x o n l1 = .error c) := ⟨HAv.out.trans hw2⟩
         have HFin : Kept (R0 = .error c) := ⟨by rw [HX.out, HAs.out]⟩
         clear hw2
         go_wp2_with (go_at_call 54; refine (HJ.out _).mono ?_; rintro e w2 ⟨rfl, rfl⟩)
         rw [HFin.out]
         first | exact ⟨rfl, rfl, HO3⟩ | exact ⟨rfl, HO3⟩
       | ok m =>
         rw [hw2] at HJ
         have HAs : Kept (asgV x o n l1 = .ok m) := ⟨HAv.out.trans hw2⟩
         clear hw2
         have HRg : Kept (rng m) := ⟨asg_rng HOk1.out.2.1 HAs.out⟩
         cases hs : Va.set l1 (bs x) (digitsOf m) with
         | error c =>
           have HSt := Kept.mk hs
           have HFin : Kept (R0 = .error c) := ⟨by rw [HX.out, HAs.out]; dsimp only; unfold putV; rw [HSt.out]⟩
           have HC0 : Kept ((c == 0) = false) := ⟨beq_eq_false_iff_ne.2 (set_err HSt.out)⟩
           have HC1 : Kept (((Va.outE (Except.error c) : Int) == 0) = false) := ⟨beq_eq_false_iff_ne.2 (set_err HSt.out)⟩
           clear hs
           obtain ⟨A, k, hrow, hvs⟩ := HE3.out.row
           have HEx := HE3
           have HOx := HO3
           have HVx := Kept.mk hvs
           have HBl : Kept (b < w3.heap.size) := ⟨(Array.getElem?_eq_some_iff.1 HR3.out).1⟩
           have e0 := cell_of_row w3 vb 0 _ _ _ hrow
           have e2 := cell_of_row w3 b 2 _ _ _ HR3.out
           clear hrow hvs
           go_wp2_with (go_at_call 54; refine (HJ.out _).mono ?_; rintro e w2 ⟨rfl, rfl⟩)
           go_region_law (first
             | (go_simp; go_at_call 56; refine (itoa_any m HRg.out _ (HEx.out.kt.below (Below.refl _ _).drew)).mono ?_; rintro e w4 ⟨rfl, hb⟩; have HE4 := Kept.mk ((HEx.out.below (Below.refl _ _).drew).below hb); have HB4 := Kept.mk ((Below.refl w3.heap.size w3).drew.trans hb); have g0 := (World.cell?_of_block (w := w3) (a := ⟨vb, 0, none⟩) (HB4.out.block vb HEx.out.lt)).trans e0; have g2 := (World.cell?_of_block (w := w3) (a := ⟨b, 2, none⟩) (HB4.out.block b HBl.out)).trans e2; clear hb)
             | (go_simp; go_at_call 55; refine (Va.pSet_any l1 A l1.length k (bs x) (digitsOf m) w4 (HVx.out.below HB4.out) rfl (by have := HLn.out; omega) HXs.out HOk1.out.1.sorted HE4.out.kt.kit).mono ?_; rintro e w5 ⟨A5, n5, k5, rfl, hn5, hv5, hb5⟩; have HN5 := Kept.mk hn5; have HV5 := hv5; have HB5 := Kept.mk (HB4.out.trans (hb5.mono HB4.out.size)); clear hn5 hv5 hb5; rw [HSt.out] at HN5 HV5 ⊢)
             | go_simp)
           all_goals go_wp2_with (go_at_call 44; (first | rw [HC0.out] | rw [HC1.out]); refine (check_any _ false _).mono ?_; rintro e w6 ⟨rfl, rfl⟩)
           all_goals rw [HFin.out]
           all_goals first | exact ⟨rfl, rfl, ⟨only_on HOx.out HB5.out⟩⟩ | exact ⟨rfl, ⟨only_on HOx.out HB5.out⟩⟩
         | ok l2 =>
           have HSt := Kept.mk hs
           have HFin : Kept (R0 = .ok (m, l2)) := ⟨by rw [HX.out, HAs.out]; dsimp only; unfold putV; rw [HSt.out]⟩
           have HOk2 : Kept (Ok l2) := ⟨(set_ok HOk1.out.1 (by have := itoa_len HRg.out; unfold digitsOf; rw [bs_size]; omega) HSt.out).1⟩
           clear hs
           obtain ⟨A, k, hrow, hvs⟩ := HE3.out.row
           have HEx := HE3
           have HOx := HO3
           have HVx := Kept.mk hvs
           have HBl : Kept (b < w3.heap.size) := ⟨(Array.getElem?_eq_some_iff.1 HR3.out).1⟩
           have e0 := cell_of_row w3 vb 0 _ _ _ hrow
           have e2 := cell_of_row w3 b 2 _ _ _ HR3.out
           clear hrow hvs
           go_wp2_with (go_at_call 54; refine (HJ.out _).mono ?_; rintro e w2 ⟨rfl, rfl⟩)
           go_region_law (first
             | (go_simp; go_at_call 56; refine (itoa_any m HRg.out _ (HEx.out.kt.below (Below.refl _ _).drew)).mono ?_; rintro e w4 ⟨rfl, hb⟩; have HE4 := Kept.mk ((HEx.out.below (Below.refl _ _).drew).below hb); have HB4 := Kept.mk ((Below.refl w3.heap.size w3).drew.trans hb); have g0 := (World.cell?_of_block (w := w3) (a := ⟨vb, 0, none⟩) (HB4.out.block vb HEx.out.lt)).trans e0; have g2 := (World.cell?_of_block (w := w3) (a := ⟨b, 2, none⟩) (HB4.out.block b HBl.out)).trans e2; clear hb)
             | (go_simp; go_at_call 55; refine (Va.pSet_any l1 A l1.length k (bs x) (digitsOf m) w4 (HVx.out.below HB4.out) rfl (by have := HLn.out; omega) HXs.out HOk1.out.1.sorted HE4.out.kt.kit).mono ?_; rintro e w5 ⟨A5, n5, k5, rfl, hn5, hv5, hb5⟩; have HN5 := Kept.mk hn5; have HV5 := hv5; have HB5 := Kept.mk (HB4.out.trans (hb5.mono HB4.out.size)); clear hn5 hv5 hb5; rw [HSt.out] at HN5 HV5 ⊢)
             | go_simp)
           all_goals have HE5 := Kept.mk ((HEx.out.below HB5.out).set (m := l2) HOk2.out HV5.out HN5.out)
           all_goals have f0 := frozen_vb (HEx.out.below HB5.out)
           all_goals obtain ⟨z0, h0⟩ := cell_vb (HEx.out.below HB5.out)
           all_goals go_wp2_with (go_at_call 44; refine (check_any _ true _).mono ?_; rintro e w6 ⟨rfl, rfl⟩)
           all_goals go_ret
           all_goals rw [HFin.out]
           all_goals exact ⟨rfl, HE5, ⟨(only_on HOx.out HB5.out).setCell _ _ (fun _ => rfl)⟩⟩
end Ar
end
end Go.Proofs.YtlggpefmojacoaaGreatDoor
