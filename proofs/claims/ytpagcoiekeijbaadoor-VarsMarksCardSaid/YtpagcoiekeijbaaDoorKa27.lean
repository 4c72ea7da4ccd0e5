/-
  Parts of the proof, merged.
-/
import Derived.Test.YtpagcoiekeijbaaDoorKa08
import Derived.Test.YtpagcoiekeijbaaDoorKa10
import Derived.Test.YtpagcoiekeijbaaDoorKa26
namespace Go.Proofs.YtpagcoiekeijbaaDoor
section
open Go.RowKit Tx
namespace Va
open Wx (Kit)
theorem VS.fresh2 (w : World) (v : Vr) (cs : Array Value) (t : TypeId) (h : cs = (pv v).toArray) (N : Nat) (hN : N = w.heap.size) : VS (w.alloc (.cells cs t)) (some ⟨N, 0, none⟩) 1 [v] := by
 subst hN
 exact VS.fresh w v cs t h
set_option maxHeartbeats 2000000 in
set_option maxRecDepth 100000 in
theorem pSet_any (l : List Vr) (A : Option Addr) (ln k : Nat) (n x : ByteArray) (w : World) (hV : VS w A k l) (hn : l.length = ln) (hl : ln ≤ 100000) (hns : n.size ≤ 1400000) (hs : Sorted l) (hK : Kit w) :
   Calls Tryd.prog 16 #[.slice A ln k, .string n, .string x] w (SEnd w (set l n x)) := by
 have HV := Kept.mk hV
 have HN := Kept.mk hn
 have HS0 := Kept.mk hs
 have HK := Kept.mk hK
 clear hV hn hs hK
 by_cases hi : isName n = true
 · have HI := Kept.mk hi
   obtain ⟨b, hb⟩ : ∃ b, found l n = b := ⟨_, rfl⟩
   obtain ⟨v, hv⟩ : ∃ v, getD l n = v := ⟨_, rfl⟩
   have HB := Kept.mk hb
   have HD := Kept.mk hv
   have HS : Kept (set l n x = if v.ro = true then .error 150 else .ok (put l n [⟨n, x, v.ex, v.ro⟩])) := ⟨by unfold set; rw [hi, hv]; rfl⟩
   rw [HS.out]
   clear hi hb hv HS
   obtain ⟨ro, hro⟩ : ∃ ro, ro = v.ro := ⟨_, rfl⟩
   have HRo : Kept (v.ro = ro) := ⟨hro.symm⟩
   rw [HRo.out]
   clear hro
   cases ro with
   | true =>
     rw [if_pos rfl]
     have T1 : Kept True := ⟨trivial⟩
     go_enter Tryd.func16, Tryd.ntmps16
     go_wp2_with (first
       | (go_at_call 26; refine (pIsName_any n w HK.out hns true HI.out).mono ?_; rintro e w0 ⟨rfl, hb0⟩; have HB0 := Kept.mk hb0; clear hb0)
       | (go_at_call 8; refine (get_any l A ln k n w0 (HV.out.below HB0.out) HN.out hl HS0.out v b HD.out HB.out).mono ?_; rintro e w1 ⟨rfl, hb1⟩
          have HX := Kept.mk (VX.zero (HB0.out.trans (hb1.mono HB0.out.size))); clear hb1)
       | (have := T1; refine wpList_store_row rfl 30 _ _ rfl _ _ rfl rfl 30 _ HX.out.r (by kernel_rfl) rfl (by simp [Value.oneCell']) ?_
          clear T1
          have HO := Kept.mk (HX.out.row v)
          generalize World.setRow _ _ _ = W at HO ⊢
          have c3 := HO.out.c3
          rw [HRo.out] at c3))
     go_ret2
     exact ⟨_, _, _, rfl, rfl, ⟨VS.empty _⟩, HO.out.bl⟩
   | false =>
     rw [if_neg (by decide)]
     have T1 : Kept True := ⟨trivial⟩
     go_enter Tryd.func16, Tryd.ntmps16
     go_wp2_with (first
       | (go_at_call 26; refine (pIsName_any n w HK.out hns true HI.out).mono ?_; rintro e w0 ⟨rfl, hb0⟩; have HB0 := Kept.mk hb0; clear hb0)
       | (go_at_call 8; refine (get_any l A ln k n w0 (HV.out.below HB0.out) HN.out hl HS0.out v b HD.out HB.out).mono ?_; rintro e w1 ⟨rfl, hb1⟩
          have HX := Kept.mk (VX.zero (HB0.out.trans (hb1.mono HB0.out.size))); clear hb1)
       | (have := T1; refine wpList_store_row rfl 30 _ _ rfl _ _ rfl rfl 30 _ HX.out.r (by kernel_rfl) rfl (by simp [Value.oneCell']) ?_
          clear T1
          have HO := Kept.mk (HX.out.row v)
          generalize World.setRow _ _ _ = W at HO ⊢
          have c3 := HO.out.c3
          rw [HRo.out] at c3
          have c0 := HO.out.c0
          have f0 := HO.out.f0
          have HO2 : Kept (VX w (W.setCell ⟨w1.heap.size, 0, none⟩ (.string n)) w1.heap.size ⟨n, v.value, v.ex, v.ro⟩) := ⟨HO.out.set rfl⟩
          have c1 := HO2.out.c1
          have f1 := HO2.out.f1
          have HO3 : Kept (VX w ((W.setCell ⟨w1.heap.size, 0, none⟩ (.string n)).setCell ⟨w1.heap.size, 1, none⟩ (.string x)) w1.heap.size ⟨n, x, v.ex, v.ro⟩) := ⟨HO2.out.set rfl⟩)
       | (have := HO3; refine wpList_load_row rfl 30 _ rfl w1.heap.size rfl 30 #[.string n, .string x, .bool v.ex, .bool v.ro] (0, 0) _ HO3.out.r Tryd.underlying30 rfl (by kernel_rfl) ?_)
       | (go_at_call 27; refine (replace_any l [⟨n, x, v.ex, v.ro⟩] A (some ⟨W.heap.size, 0, none⟩) ln k 1 1 n _ (HV.out.below (HO3.out.bl.alloc HO3.out.bl.size _)) HN.out hl HS0.out (VS.fresh2 _ ⟨n, x, v.ex, v.ro⟩ _ 30 rfl W.heap.size (by simp [World.setCell])) rfl (Nat.le_refl _)).mono ?_; rintro e w4 ⟨A2, n2, k2, rfl, hO, hn2, hb4⟩
          have HN2 := Kept.mk hn2
          have HB4 := Kept.mk ((HO3.out.bl.alloc HO3.out.bl.size _).trans (hb4.mono (by have := HO3.out.bl.size; rw [World.size_alloc]; omega)))
          clear hn2 hb4))
     go_ret2
     rw [HRo.out] at hO HN2
     exact ⟨_, _, _, rfl, HN2.out, ⟨hO.out.vs.1⟩, HB4.out⟩
 · have hi : isName n = false := by simpa using hi
   have HI := Kept.mk hi
   have HS : Kept (set l n x = .error 1) := ⟨by unfold set; rw [hi]; rfl⟩
   rw [HS.out]
   clear hi HS
   go_enter Tryd.func16, Tryd.ntmps16
   go_wp2_with (go_at_call 26; refine (pIsName_any n w HK.out hns false HI.out).mono ?_; rintro e w0 ⟨rfl, hb0⟩; have HB0 := Kept.mk hb0; clear hb0)
   go_ret2
   exact ⟨_, _, _, rfl, rfl, ⟨VS.empty _⟩, HB0.out⟩
set_option maxHeartbeats 8000000 in
set_option maxRecDepth 100000 in
theorem pMark_any (l : List Vr) (A : Option Addr) (ln k : Nat) (n : ByteArray) (ex ro : Bool) (w : World) (hV : VS w A k l) (hn : l.length = ln) (hl : ln ≤ 100000) (hns : n.size ≤ 1400000) (hs : Sorted l) (hK : Kit w) :
   Calls Tryd.prog 19 #[.slice A ln k, .string n, .bool ex, .bool ro] w (SEnd w (mark l n ex ro)) := by
 have HV := Kept.mk hV
 have HN := Kept.mk hn
 have HS0 := Kept.mk hs
 have HK := Kept.mk hK
 clear hV hn hs hK
 by_cases hi : isName n = true
 · have HI := Kept.mk hi
   obtain ⟨b, hb⟩ : ∃ b, found l n = b := ⟨_, rfl⟩
   obtain ⟨v, hv⟩ : ∃ v, getD l n = v := ⟨_, rfl⟩
   have HB := Kept.mk hb
   have HD := Kept.mk hv
   have HS : Kept (mark l n ex ro = .ok (put l n [⟨n, v.value, v.ex || ex, v.ro || ro⟩])) := ⟨by unfold mark; rw [hi, hv]; rfl⟩
   rw [HS.out]
   clear hi hb hv HS
   obtain ⟨vn, vv, ve, vr⟩ := v
   cases ve <;> cases vr
   · simp only [Bool.false_or]
     have T1 : Kept True := ⟨trivial⟩
     go_enter Tryd.func19, Tryd.ntmps19
     go_wp2_with (first
       | (go_at_call 26; refine (pIsName_any n w HK.out hns true HI.out).mono ?_; rintro e w0 ⟨rfl, hb0⟩; have HB0 := Kept.mk hb0; clear hb0)
       | (go_at_call 8; refine (get_any l A ln k n w0 (HV.out.below HB0.out) HN.out hl HS0.out _ b HD.out HB.out).mono ?_; rintro e w1 ⟨rfl, hb1⟩
          have HX := Kept.mk (VX.zero (HB0.out.trans (hb1.mono HB0.out.size))); clear hb1)
       | (have := T1; refine wpList_store_row rfl 30 _ _ rfl _ _ rfl rfl 30 _ HX.out.r (by kernel_rfl) rfl (by simp [Value.oneCell']) ?_
          clear T1
          have HO := Kept.mk (HX.out.row ⟨vn, vv, false, false⟩)
          generalize World.setRow _ _ _ = W at HO ⊢
          have c3 := HO.out.c3
          have c2 := HO.out.c2
          have c0 := HO.out.c0
          have f0 := HO.out.f0
          have HO2 : Kept (VX w (W.setCell ⟨w1.heap.size, 0, none⟩ (.string n)) w1.heap.size ⟨n, vv, false, false⟩) := ⟨HO.out.set rfl⟩
          have d2 := HO2.out.c2
          have f2 := HO2.out.f2
          have HO3 : Kept (VX w ((W.setCell ⟨w1.heap.size, 0, none⟩ (.string n)).setCell ⟨w1.heap.size, 2, none⟩ (.bool ex)) w1.heap.size ⟨n, vv, ex, false⟩) := ⟨HO2.out.set rfl⟩
          have d3 := HO3.out.c3
          have f3 := HO3.out.f3
          have HO4 : Kept (VX w (((W.setCell ⟨w1.heap.size, 0, none⟩ (.string n)).setCell ⟨w1.heap.size, 2, none⟩ (.bool ex)).setCell ⟨w1.heap.size, 3, none⟩ (.bool ro)) w1.heap.size ⟨n, vv, ex, ro⟩) := ⟨HO3.out.set rfl⟩)
       | (have := HO4; refine wpList_load_row rfl 30 _ rfl w1.heap.size rfl 30 #[.string n, .string vv, .bool ex, .bool ro] (0, 0) _ HO4.out.r Tryd.underlying30 rfl (by kernel_rfl) ?_)
       | (go_at_call 27; refine (replace_any l [⟨n, vv, ex, ro⟩] A (some ⟨W.heap.size, 0, none⟩) ln k 1 1 n _ (HV.out.below (HO4.out.bl.alloc HO4.out.bl.size _)) HN.out hl HS0.out (VS.fresh2 _ ⟨n, vv, ex, ro⟩ _ 30 rfl W.heap.size (by simp [World.setCell])) rfl (Nat.le_refl _)).mono ?_; rintro e w4 ⟨A2, n2, k2, rfl, hO, hn2, hb4⟩
          have HN2 := Kept.mk hn2
          have HB4 := Kept.mk ((HO4.out.bl.alloc HO4.out.bl.size _).trans (hb4.mono (by have := HO4.out.bl.size; rw [World.size_alloc]; omega)))
          clear hn2 hb4))
     go_ret2
     exact ⟨_, _, _, rfl, HN2.out, ⟨hO.out.vs.1⟩, HB4.out⟩
   · simp only [Bool.false_or, Bool.true_or]
     have T1 : Kept True := ⟨trivial⟩
     go_enter Tryd.func19, Tryd.ntmps19
     go_wp2_with (first
       | (go_at_call 26; refine (pIsName_any n w HK.out hns true HI.out).mono ?_; rintro e w0 ⟨rfl, hb0⟩; have HB0 := Kept.mk hb0; clear hb0)
       | (go_at_call 8; refine (get_any l A ln k n w0 (HV.out.below HB0.out) HN.out hl HS0.out _ b HD.out HB.out).mono ?_; rintro e w1 ⟨rfl, hb1⟩
          have HX := Kept.mk (VX.zero (HB0.out.trans (hb1.mono HB0.out.size))); clear hb1)
       | (have := T1; refine wpList_store_row rfl 30 _ _ rfl _ _ rfl rfl 30 _ HX.out.r (by kernel_rfl) rfl (by simp [Value.oneCell']) ?_
          clear T1
          have HO := Kept.mk (HX.out.row ⟨vn, vv, false, true⟩)
          generalize World.setRow _ _ _ = W at HO ⊢
          have c3 := HO.out.c3
          have c2 := HO.out.c2
          have c0 := HO.out.c0
          have f0 := HO.out.f0
          have HO2 : Kept (VX w (W.setCell ⟨w1.heap.size, 0, none⟩ (.string n)) w1.heap.size ⟨n, vv, false, true⟩) := ⟨HO.out.set rfl⟩
          have d2 := HO2.out.c2
          have f2 := HO2.out.f2
          have HO3 : Kept (VX w ((W.setCell ⟨w1.heap.size, 0, none⟩ (.string n)).setCell ⟨w1.heap.size, 2, none⟩ (.bool ex)) w1.heap.size ⟨n, vv, ex, true⟩) := ⟨HO2.out.set rfl⟩
          have d3 := HO3.out.c3
          have f3 := HO3.out.f3
          have HO4 : Kept (VX w (((W.setCell ⟨w1.heap.size, 0, none⟩ (.string n)).setCell ⟨w1.heap.size, 2, none⟩ (.bool ex)).setCell ⟨w1.heap.size, 3, none⟩ (.bool true)) w1.heap.size ⟨n, vv, ex, true⟩) := ⟨HO3.out.set rfl⟩)
       | (have := HO4; refine wpList_load_row rfl 30 _ rfl w1.heap.size rfl 30 #[.string n, .string vv, .bool ex, .bool true] (0, 0) _ HO4.out.r Tryd.underlying30 rfl (by kernel_rfl) ?_)
       | (go_at_call 27; refine (replace_any l [⟨n, vv, ex, true⟩] A (some ⟨W.heap.size, 0, none⟩) ln k 1 1 n _ (HV.out.below (HO4.out.bl.alloc HO4.out.bl.size _)) HN.out hl HS0.out (VS.fresh2 _ ⟨n, vv, ex, true⟩ _ 30 rfl W.heap.size (by simp [World.setCell])) rfl (Nat.le_refl _)).mono ?_; rintro e w4 ⟨A2, n2, k2, rfl, hO, hn2, hb4⟩
          have HN2 := Kept.mk hn2
          have HB4 := Kept.mk ((HO4.out.bl.alloc HO4.out.bl.size _).trans (hb4.mono (by have := HO4.out.bl.size; rw [World.size_alloc]; omega)))
          clear hn2 hb4))
     go_ret2
     exact ⟨_, _, _, rfl, HN2.out, ⟨hO.out.vs.1⟩, HB4.out⟩
   · simp only [Bool.false_or, Bool.true_or]
     have T1 : Kept True := ⟨trivial⟩
     go_enter Tryd.func19, Tryd.ntmps19
     go_wp2_with (first
       | (go_at_call 26; refine (pIsName_any n w HK.out hns true HI.out).mono ?_; rintro e w0 ⟨rfl, hb0⟩; have HB0 := Kept.mk hb0; clear hb0)
       | (go_at_call 8; refine (get_any l A ln k n w0 (HV.out.below HB0.out) HN.out hl HS0.out _ b HD.out HB.out).mono ?_; rintro e w1 ⟨rfl, hb1⟩
          have HX := Kept.mk (VX.zero (HB0.out.trans (hb1.mono HB0.out.size))); clear hb1)
       | (have := T1; refine wpList_store_row rfl 30 _ _ rfl _ _ rfl rfl 30 _ HX.out.r (by kernel_rfl) rfl (by simp [Value.oneCell']) ?_
          clear T1
          have HO := Kept.mk (HX.out.row ⟨vn, vv, true, false⟩)
          generalize World.setRow _ _ _ = W at HO ⊢
          have c3 := HO.out.c3
          have c2 := HO.out.c2
          have c0 := HO.out.c0
          have f0 := HO.out.f0
          have HO2 : Kept (VX w (W.setCell ⟨w1.heap.size, 0, none⟩ (.string n)) w1.heap.size ⟨n, vv, true, false⟩) := ⟨HO.out.set rfl⟩
          have d2 := HO2.out.c2
          have f2 := HO2.out.f2
          have HO3 : Kept (VX w ((W.setCell ⟨w1.heap.size, 0, none⟩ (.string n)).setCell ⟨w1.heap.size, 2, none⟩ (.bool true)) w1.heap.size ⟨n, vv, true, false⟩) := ⟨HO2.out.set rfl⟩
          have d3 := HO3.out.c3
          have f3 := HO3.out.f3
          have HO4 : Kept (VX w (((W.setCell ⟨w1.heap.size, 0, none⟩ (.string n)).setCell ⟨w1.heap.size, 2, none⟩ (.bool true)).setCell ⟨w1.heap.size, 3, none⟩ (.bool ro)) w1.heap.size ⟨n, vv, true, ro⟩) := ⟨HO3.out.set rfl⟩)
       | (have := HO4; refine wpList_load_row rfl 30 _ rfl w1.heap.size rfl 30 #[.string n, .string vv, .bool true, .bool ro] (0, 0) _ HO4.out.r Tryd.underlying30 rfl (by kernel_rfl) ?_)
       | (go_at_call 27; refine (replace_any l [⟨n, vv, true, ro⟩] A (some ⟨W.heap.size, 0, none⟩) ln k 1 1 n _ (HV.out.below (HO4.out.bl.alloc HO4.out.bl.size _)) HN.out hl HS0.out (VS.fresh2 _ ⟨n, vv, true, ro⟩ _ 30 rfl W.heap.size (by simp [World.setCell])) rfl (Nat.le_refl _)).mono ?_; rintro e w4 ⟨A2, n2, k2, rfl, hO, hn2, hb4⟩
          have HN2 := Kept.mk hn2
          have HB4 := Kept.mk ((HO4.out.bl.alloc HO4.out.bl.size _).trans (hb4.mono (by have := HO4.out.bl.size; rw [World.size_alloc]; omega)))
          clear hn2 hb4))
     go_ret2
     exact ⟨_, _, _, rfl, HN2.out, ⟨hO.out.vs.1⟩, HB4.out⟩
   · simp only [Bool.true_or]
     have T1 : Kept True := ⟨trivial⟩
     go_enter Tryd.func19, Tryd.ntmps19
     go_wp2_with (first
       | (go_at_call 26; refine (pIsName_any n w HK.out hns true HI.out).mono ?_; rintro e w0 ⟨rfl, hb0⟩; have HB0 := Kept.mk hb0; clear hb0)
       | (go_at_call 8; refine (get_any l A ln k n w0 (HV.out.below HB0.out) HN.out hl HS0.out _ b HD.out HB.out).mono ?_; rintro e w1 ⟨rfl, hb1⟩
          have HX := Kept.mk (VX.zero (HB0.out.trans (hb1.mono HB0.out.size))); clear hb1)
       | (have := T1; refine wpList_store_row rfl 30 _ _ rfl _ _ rfl rfl 30 _ HX.out.r (by kernel_rfl) rfl (by simp [Value.oneCell']) ?_
          clear T1
          have HO := Kept.mk (HX.out.row ⟨vn, vv, true, true⟩)
          generalize World.setRow _ _ _ = W at HO ⊢
          have c3 := HO.out.c3
          have c2 := HO.out.c2
          have c0 := HO.out.c0
          have f0 := HO.out.f0
          have HO2 : Kept (VX w (W.setCell ⟨w1.heap.size, 0, none⟩ (.string n)) w1.heap.size ⟨n, vv, true, true⟩) := ⟨HO.out.set rfl⟩
          have d2 := HO2.out.c2
          have f2 := HO2.out.f2
          have HO3 : Kept (VX w ((W.setCell ⟨w1.heap.size, 0, none⟩ (.string n)).setCell ⟨w1.heap.size, 2, none⟩ (.bool true)) w1.heap.size ⟨n, vv, true, true⟩) := ⟨HO2.out.set rfl⟩
          have d3 := HO3.out.c3
          have f3 := HO3.out.f3
          have HO4 : Kept (VX w (((W.setCell ⟨w1.heap.size, 0, none⟩ (.string n)).setCell ⟨w1.heap.size, 2, none⟩ (.bool true)).setCell ⟨w1.heap.size, 3, none⟩ (.bool true)) w1.heap.size ⟨n, vv, true, true⟩) := ⟨HO3.out.set rfl⟩)
       | (have := HO4; refine wpList_load_row rfl 30 _ rfl w1.heap.size rfl 30 #[.string n, .string vv, .bool true, .bool true] (0, 0) _ HO4.out.r Tryd.underlying30 rfl (by kernel_rfl) ?_)
       | (go_at_call 27; refine (replace_any l [⟨n, vv, true, true⟩] A (some ⟨W.heap.size, 0, none⟩) ln k 1 1 n _ (HV.out.below (HO4.out.bl.alloc HO4.out.bl.size _)) HN.out hl HS0.out (VS.fresh2 _ ⟨n, vv, true, true⟩ _ 30 rfl W.heap.size (by simp [World.setCell])) rfl (Nat.le_refl _)).mono ?_; rintro e w4 ⟨A2, n2, k2, rfl, hO, hn2, hb4⟩
          have HN2 := Kept.mk hn2
          have HB4 := Kept.mk ((HO4.out.bl.alloc HO4.out.bl.size _).trans (hb4.mono (by have := HO4.out.bl.size; rw [World.size_alloc]; omega)))
          clear hn2 hb4))
     go_ret2
     exact ⟨_, _, _, rfl, HN2.out, ⟨hO.out.vs.1⟩, HB4.out⟩
 · have hi : isName n = false := by simpa using hi
   have HI := Kept.mk hi
   have HS : Kept (mark l n ex ro = .error 1) := ⟨by unfold mark; rw [hi]; rfl⟩
   rw [HS.out]
   clear hi HS
   go_enter Tryd.func19, Tryd.ntmps19
   go_wp2_with (go_at_call 26; refine (pIsName_any n w HK.out hns false HI.out).mono ?_; rintro e w0 ⟨rfl, hb0⟩; have HB0 := Kept.mk hb0; clear hb0)
   go_ret2
   exact ⟨_, _, _, rfl, rfl, ⟨VS.empty _⟩, HB0.out⟩
end Va
end
section
open Go.RowKit Tx
namespace Va
set_option maxHeartbeats 1000000 in
set_option maxRecDepth 100000 in
theorem refUnset_any (l : List Vr) (A : Option Addr) (ln k : Nat) (n : ByteArray) (w : World) (hV : VS w A k l) (hn : l.length = ln) (hl : ln ≤ 100000) :
   Calls Tryd.prog 22 #[.slice A ln k, .string n] w (SEnd w (unset l n)) := by
 have HC := Kept.mk (Cut.of l n)
 rw [hn] at HC
 obtain ⟨p, hp⟩ : ∃ p, p = pos l n := ⟨_, rfl⟩
 obtain ⟨b, hb⟩ : ∃ b, b = found l n := ⟨_, rfl⟩
 obtain ⟨q, hq⟩ : ∃ q, q = p + if b then 1 else 0 := ⟨_, rfl⟩
 obtain ⟨r, hr⟩ : ∃ r, r = (getD l n).ro := ⟨_, rfl⟩
 rw [← hp, ← hb, ← hq] at HC
 have hple := pos_le l n
 rw [← hp, hn] at hple
 have hqle := HC.out.le
 have HP : Kept (put l n [] = l.take p ++ [] ++ l.drop q) := ⟨by rw [put_cut, ← hp, ← hb, ← hq]⟩
 have HS : Kept (unset l n = if r = true then .error 150 else .ok (l.take p ++ l.drop q)) := ⟨by unfold unset; rw [HP.out, List.append_nil, hr]⟩
 obtain ⟨A1, k1, r1, h1⟩ := hV.take (n := ln) p (by omega)
 obtain ⟨m, hm⟩ : ∃ m, (l.drop q).length = m := ⟨_, rfl⟩
 obtain ⟨A2, k2, r2, h2⟩ := hV.drop (n := ln) q m (by omega) hn hm
 have hml : m + q = ln := by rw [List.length_drop, hn] at hm; omega
 have HV := Kept.mk hV
 have H1 := Kept.mk h1
 have H2 := Kept.mk h2
 have HM := Kept.mk hm
 have HN := Kept.mk hn
 have hlp : (l.take p).length = p := by rw [List.length_take]; omega
 have HLP := Kept.mk hlp
 rw [HS.out]
 have HQ := Kept.mk hq
 have HT : Kept (b = true → ∃ v, l[p]? = some v ∧ v.ro = r) := ⟨fun e => by
   have hf : found l n = true := by rw [← hb]; exact e
   refine ⟨getD l n, ?_, hr.symm⟩
   rw [getD_at hf, hp]
   exact List.getElem?_eq_getElem _⟩
 have HT2 : Kept (b = false → r = false) := ⟨fun e => by rw [hr, getD_no (by rw [← hb]; exact e)]; rfl⟩
 clear hV h1 h2 hm hn hlp hq hp hb HP HS hr
 have z0 : (0 : Int) ≤ (p : Int) := by omega
 have hw1 : IntKind.i64.wrap ((p : Int) + 1) = (p : Int) + 1 := IntWalk.i64_in _ (by omega)
 have T1 : Kept True := ⟨trivial⟩
 have T2 : Kept True := ⟨trivial⟩
 have hpm : p + 1 + m ≤ 300000 := by omega
 have e2 : ((q : Nat) : Int) = if b then (p : Int) + 1 else (p : Int) := by rw [HQ.out]; cases b <;> simp
 rw [e2] at r2
 clear e2
 cases b with
 | false =>
   obtain rfl := HT2.out rfl
   clear HT HT2
   simp only [Bool.false_eq_true, if_false] at r2 ⊢
   go_enter Tryd.func22, Tryd.ntmps22
   go_wp2_with (first
     | (go_at_call 25; refine (find_any l A ln k n _ HV.out HN.out hl p _ HC.out.pos HC.out.fnd).mono ?_; rintro e w1 ⟨rfl, hb1⟩
        have HB1 := Kept.mk hb1
        have HA1 := Kept.mk (H1.out.below hb1)
        have HA2 := Kept.mk (H2.out.below hb1)
        clear hb1
        rcases A with _ | ⟨ga, oa, sa⟩)
     | (at_builtin; have := T1
        refine wpList_append_vars rfl _ _ rfl rfl rfl (VO.empty w1 w1.heap.size) (ln := 0) rfl HA1.out HLP.out (Nat.le_refl _) (by omega) ?_
        clear T1; intro B1 kk1 nn1 w2 hnn1 hO1 hb2
        have HB2 : Kept (Below w1.heap.size w1 w2) := ⟨hb2⟩
        have HA3 := Kept.mk (HA2.out.below hb2)
        clear hb2)
     | (at_builtin; have := T2
        refine wpList_append_vars rfl _ _ rfl rfl rfl hO1.out (ln := nn1) (by simp only [List.nil_append, HLP.out]; have := hnn1.out; omega) HA3.out HM.out HB2.out.size (by have := hnn1.out; omega) ?_
        clear T2; intro B3 kk3 nn3 w4 hnn3 hO3 hb4
        have HB4 : Kept (Below w1.heap.size w1 w4) := ⟨HB2.out.trans hb4⟩
        clear hb4))
   all_goals
     go_ret2
     exact ⟨_, _, _, rfl, by rw [hO3.out.vs.2]; rfl, ⟨hO3.out.vs.1⟩, HB1.out.trans (HB4.out.mono HB1.out.size)⟩
 | true =>
   obtain ⟨v, hv, rfl⟩ := HT.out rfl
   obtain ⟨g, off, rfl, hg, _, _, _, c3⟩ := HV.out.at hv
   have HCc := Kept.mk (And.intro hg c3)
   have z1 : (p : Int) < (ln : Int) := by
     have := (List.getElem?_eq_some_iff.1 hv).1
     have := HN.out
     omega
   clear HT HT2 hv hg c3
   simp only [if_true] at r2 ⊢
   generalize v.ro = r at HCc ⊢
   cases r with
   | true =>
     simp only [if_true]
     go_enter Tryd.func22, Tryd.ntmps22
     go_wp2_with (first
       | (go_at_call 25; refine (find_any l _ ln k n _ HV.out HN.out hl p _ HC.out.pos HC.out.fnd).mono ?_; rintro e w1 ⟨rfl, hb1⟩
          have HB1 := Kept.mk hb1
          have c3 := (hb1.cell (p := ⟨g, off + p * 4 + 3, none⟩) HCc.out.1).trans HCc.out.2
          clear hb1))
     go_ret2
     exact ⟨_, _, _, rfl, rfl, ⟨VS.empty _⟩, HB1.out⟩
   | false =>
     simp only [Bool.false_eq_true, if_false]
     go_enter Tryd.func22, Tryd.ntmps22
     go_wp2_with (first
       | (go_at_call 25; refine (find_any l _ ln k n _ HV.out HN.out hl p _ HC.out.pos HC.out.fnd).mono ?_; rintro e w1 ⟨rfl, hb1⟩
          have HB1 := Kept.mk hb1
          have HA1 := Kept.mk (H1.out.below hb1)
          have HA2 := Kept.mk (H2.out.below hb1)
          have c3 := (hb1.cell (p := ⟨g, off + p * 4 + 3, none⟩) HCc.out.1).trans HCc.out.2
          clear hb1)
       | (at_builtin; have := T1
          refine wpList_append_vars rfl _ _ rfl rfl rfl (VO.empty w1 w1.heap.size) (ln := 0) rfl HA1.out HLP.out (Nat.le_refl _) (by omega) ?_
          clear T1; intro B1 kk1 nn1 w2 hnn1 hO1 hb2
          have HB2 : Kept (Below w1.heap.size w1 w2) := ⟨hb2⟩
          have HA3 := Kept.mk (HA2.out.below hb2)
          clear hb2)
       | (at_builtin; have := T2
          refine wpList_append_vars rfl _ _ rfl rfl rfl hO1.out (ln := nn1) (by simp only [List.nil_append, HLP.out]; have := hnn1.out; omega) HA3.out HM.out HB2.out.size (by have := hnn1.out; omega) ?_
          clear T2; intro B3 kk3 nn3 w4 hnn3 hO3 hb4
          have HB4 : Kept (Below w1.heap.size w1 w4) := ⟨HB2.out.trans hb4⟩
          clear hb4))
     go_ret2
     exact ⟨_, _, _, rfl, by rw [hO3.out.vs.2]; rfl, ⟨hO3.out.vs.1⟩, HB1.out.trans (HB4.out.mono HB1.out.size)⟩
set_option maxRecDepth 100000 in
theorem isName_any (s : ByteArray) (w : World) (hs : s.size ≤ 2000000) (b : Bool) (hb : isName s = b) : Calls Tryd.prog 17 #[.string s] w fun e w' => e = .returned (.bool b) ∧ w = w' := by
 obtain ⟨m, hm⟩ : ∃ m, m = Wx.nameL (toL s) := ⟨_, rfl⟩
 have HM := Kept.mk (Wx.name_any s w (by omega) m hm)
 have hmle := Wx.nameL_le (toL s)
 rw [toL_length, ← hm] at hmle
 by_cases h0 : s = ⟨#[]⟩
 · subst h0
   obtain rfl : false = b := hb
   clear hm hmle HM
   go_enter Tryd.func17, Tryd.ntmps17
   go_wp2_with fail
   go_ret
   exact ⟨rfl, rfl⟩
 · have hsz : 0 < s.size := Nat.pos_of_ne_zero fun e => h0 (by rw [← bs_toL s, List.eq_nil_of_length_eq_zero (l := toL s) (by rw [toL_length]; exact e)]; rfl)
   have hE : (s.toList == ([] : List UInt8)) = false := Wx.not_empty hsz
   have hE2 : (s.toList != ([] : List UInt8)) = true := by unfold bne; rw [hE]; rfl
   clear hsz
   have hne : toL s ≠ [] := fun e => h0 (by rw [← bs_toL s, e]; rfl)
   have hb2 : b = decide (m = s.size) := by
     rw [← hb]
     unfold isName isN
     rw [← hm, toL_length]
     cases e : toL s with
     | nil => exact absurd e hne
     | cons c r => rw [Bool.eq_iff_iff]; simp
   by_cases hms : m = s.size
   · obtain rfl : b = true := by rw [hb2, decide_eq_true hms]
     have hz : ((m : Int) == (s.size : Int)) = true := by rw [hms]; exact beq_self_eq_true _
     clear hb hm hb2 hne h0
     go_enter Tryd.func17, Tryd.ntmps17
     go_wp2_with (go_at_call 28; refine HM.out.mono ?_; rintro e w1 ⟨rfl, rfl⟩)
     go_ret
     exact ⟨rfl, rfl⟩
   · obtain rfl : b = false := by rw [hb2, decide_eq_false hms]
     have hz : ((m : Int) == (s.size : Int)) = false := beq_eq_false_iff_ne.2 (by omega)
     clear hb hm hb2 hne h0
     go_enter Tryd.func17, Tryd.ntmps17
     go_wp2_with (go_at_call 28; refine HM.out.mono ?_; rintro e w1 ⟨rfl, rfl⟩)
     go_ret
     exact ⟨rfl, rfl⟩
end Va
end
section
open Go.RowKit Tx
namespace Va
set_option maxHeartbeats 2000000 in
set_option maxRecDepth 100000 in
theorem refSet_any (l : List Vr) (A : Option Addr) (ln k : Nat) (n x : ByteArray) (w : World) (hV : VS w A k l) (hn : l.length = ln) (hl : ln ≤ 100000) (hns : n.size ≤ 2000000) :
   Calls Tryd.prog 21 #[.slice A ln k, .string n, .string x] w (SEnd w (set l n x)) := by
 have HV := Kept.mk hV
 have HN := Kept.mk hn
 clear hV hn
 by_cases hi : isName n = true
 · have HI := Kept.mk hi
   obtain ⟨b, hb⟩ : ∃ b, found l n = b := ⟨_, rfl⟩
   obtain ⟨v, hv⟩ : ∃ v, getD l n = v := ⟨_, rfl⟩
   have HB := Kept.mk hb
   have HD := Kept.mk hv
   have HS : Kept (set l n x = if v.ro = true then .error 150 else .ok (put l n [⟨n, x, v.ex, v.ro⟩])) := ⟨by unfold set; rw [hi, hv]; rfl⟩
   rw [HS.out]
   clear hi hb hv HS
   obtain ⟨ro, hro⟩ : ∃ ro, ro = v.ro := ⟨_, rfl⟩
   have HRo : Kept (v.ro = ro) := ⟨hro.symm⟩
   rw [HRo.out]
   clear hro
   cases ro with
   | true =>
     rw [if_pos rfl]
     have T1 : Kept True := ⟨trivial⟩
     go_enter Tryd.func21, Tryd.ntmps21
     go_wp2_with (first
       | (go_at_call 17; refine (isName_any n w hns true HI.out).mono ?_; rintro e w0 ⟨rfl, rfl⟩)
       | (go_at_call 10; refine (refGet_any l A ln k n w HV.out HN.out hl v b HD.out HB.out).mono ?_; rintro e w1 ⟨rfl, hb1⟩
          have HX := Kept.mk (VX.zero hb1); clear hb1)
       | (have := T1; refine wpList_store_row rfl 30 _ _ rfl _ _ rfl rfl 30 _ HX.out.r (by kernel_rfl) rfl (by simp [Value.oneCell']) ?_
          clear T1
          have HO := Kept.mk (HX.out.row v)
          generalize World.setRow _ _ _ = W at HO ⊢
          have c3 := HO.out.c3
          rw [HRo.out] at c3))
     go_ret2
     exact ⟨_, _, _, rfl, rfl, ⟨VS.empty _⟩, HO.out.bl⟩
   | false =>
     rw [if_neg (by decide)]
     have T1 : Kept True := ⟨trivial⟩
     go_enter Tryd.func21, Tryd.ntmps21
     go_wp2_with (first
       | (go_at_call 17; refine (isName_any n w hns true HI.out).mono ?_; rintro e w0 ⟨rfl, rfl⟩)
       | (go_at_call 10; refine (refGet_any l A ln k n w HV.out HN.out hl v b HD.out HB.out).mono ?_; rintro e w1 ⟨rfl, hb1⟩
          have HX := Kept.mk (VX.zero hb1); clear hb1)
       | (have := T1; refine wpList_store_row rfl 30 _ _ rfl _ _ rfl rfl 30 _ HX.out.r (by kernel_rfl) rfl (by simp [Value.oneCell']) ?_
          clear T1
          have HO := Kept.mk (HX.out.row v)
          generalize World.setRow _ _ _ = W at HO ⊢
          have c3 := HO.out.c3
          rw [HRo.out] at c3
          have c0 := HO.out.c0
          have f0 := HO.out.f0
          have HO2 : Kept (VX w (W.setCell ⟨w1.heap.size, 0, none⟩ (.string n)) w1.heap.size ⟨n, v.value, v.ex, v.ro⟩) := ⟨HO.out.set rfl⟩
          have c1 := HO2.out.c1
          have f1 := HO2.out.f1
          have HO3 : Kept (VX w ((W.setCell ⟨w1.heap.size, 0, none⟩ (.string n)).setCell ⟨w1.heap.size, 1, none⟩ (.string x)) w1.heap.size ⟨n, x, v.ex, v.ro⟩) := ⟨HO2.out.set rfl⟩)
       | (have := HO3; refine wpList_load_row rfl 30 _ rfl w1.heap.size rfl 30 #[.string n, .string x, .bool v.ex, .bool v.ro] (0, 0) _ HO3.out.r Tryd.underlying30 rfl (by kernel_rfl) ?_)
       | (go_at_call 29; refine (refPut_any l A ln k ⟨n, x, v.ex, v.ro⟩ _ (HV.out.below HO3.out.bl) HN.out hl).mono ?_; rintro e w4 ⟨A2, n2, k2, rfl, hO, hn2, hb4⟩
          have HN2 := Kept.mk hn2
          have HB4 := Kept.mk (HO3.out.bl.trans (hb4.mono HO3.out.bl.size))
          clear hn2 hb4))
     go_ret2
     rw [HRo.out] at hO HN2
     exact ⟨_, _, _, rfl, HN2.out, ⟨hO.out.vs.1⟩, HB4.out⟩
 · have hi : isName n = false := by simpa using hi
   have HI := Kept.mk hi
   have HS : Kept (set l n x = .error 1) := ⟨by unfold set; rw [hi]; rfl⟩
   rw [HS.out]
   clear hi HS
   go_enter Tryd.func21, Tryd.ntmps21
   go_wp2_with (go_at_call 17; refine (isName_any n w hns false HI.out).mono ?_; rintro e w0 ⟨rfl, rfl⟩)
   go_ret2
   exact ⟨_, _, _, rfl, rfl, ⟨VS.empty _⟩, Below.refl _ _⟩
set_option maxHeartbeats 2000000 in
set_option maxRecDepth 100000 in
theorem refMark_any (l : List Vr) (A : Option Addr) (ln k : Nat) (n : ByteArray) (ex ro : Bool) (w : World) (hV : VS w A k l) (hn : l.length = ln) (hl : ln ≤ 100000) (hns : n.size ≤ 2000000) :
   Calls Tryd.prog 20 #[.slice A ln k, .string n, .bool ex, .bool ro] w (SEnd w (mark l n ex ro)) := by
 have HV := Kept.mk hV
 have HN := Kept.mk hn
 clear hV hn
 by_cases hi : isName n = true
 · have HI := Kept.mk hi
   obtain ⟨b, hb⟩ : ∃ b, found l n = b := ⟨_, rfl⟩
   obtain ⟨v, hv⟩ : ∃ v, getD l n = v := ⟨_, rfl⟩
   have HB := Kept.mk hb
   have HD := Kept.mk hv
   have HS : Kept (mark l n ex ro = .ok (put l n [⟨n, v.value, v.ex || ex, v.ro || ro⟩])) := ⟨by unfold mark; rw [hi, hv]; rfl⟩
   rw [HS.out]
   clear hi hb hv HS
   obtain ⟨vn, vv, ve, vr⟩ := v
   cases ve <;> cases vr
   · simp only [Bool.false_or]
     have T1 : Kept True := ⟨trivial⟩
     go_enter Tryd.func20, Tryd.ntmps20
     go_wp2_with (first
       | (go_at_call 17; refine (isName_any n w hns true HI.out).mono ?_; rintro e w0 ⟨rfl, rfl⟩)
       | (go_at_call 10; refine (refGet_any l A ln k n w HV.out HN.out hl _ b HD.out HB.out).mono ?_; rintro e w1 ⟨rfl, hb1⟩
          have HX := Kept.mk (VX.zero hb1); clear hb1)
       | (have := T1; refine wpList_store_row rfl 30 _ _ rfl _ _ rfl rfl 30 _ HX.out.r (by kernel_rfl) rfl (by simp [Value.oneCell']) ?_
          clear T1
          have HO := Kept.mk (HX.out.row ⟨vn, vv, false, false⟩)
          generalize World.setRow _ _ _ = W at HO ⊢
          have c3 := HO.out.c3
          have c2 := HO.out.c2
          have c0 := HO.out.c0
          have f0 := HO.out.f0
          have HO2 : Kept (VX w (W.setCell ⟨w1.heap.size, 0, none⟩ (.string n)) w1.heap.size ⟨n, vv, false, false⟩) := ⟨HO.out.set rfl⟩
          have d2 := HO2.out.c2
          have f2 := HO2.out.f2
          have HO3 : Kept (VX w ((W.setCell ⟨w1.heap.size, 0, none⟩ (.string n)).setCell ⟨w1.heap.size, 2, none⟩ (.bool ex)) w1.heap.size ⟨n, vv, ex, false⟩) := ⟨HO2.out.set rfl⟩
          have d3 := HO3.out.c3
          have f3 := HO3.out.f3
          have HO4 : Kept (VX w (((W.setCell ⟨w1.heap.size, 0, none⟩ (.string n)).setCell ⟨w1.heap.size, 2, none⟩ (.bool ex)).setCell ⟨w1.heap.size, 3, none⟩ (.bool ro)) w1.heap.size ⟨n, vv, ex, ro⟩) := ⟨HO3.out.set rfl⟩)
       | (have := HO4; refine wpList_load_row rfl 30 _ rfl w1.heap.size rfl 30 #[.string n, .string vv, .bool ex, .bool ro] (0, 0) _ HO4.out.r Tryd.underlying30 rfl (by kernel_rfl) ?_)
       | (go_at_call 29; refine (refPut_any l A ln k ⟨n, vv, ex, ro⟩ _ (HV.out.below HO4.out.bl) HN.out hl).mono ?_; rintro e w4 ⟨A2, n2, k2, rfl, hO, hn2, hb4⟩
          have HN2 := Kept.mk hn2
          have HB4 := Kept.mk (HO4.out.bl.trans (hb4.mono HO4.out.bl.size))
          clear hn2 hb4))
     go_ret2
     exact ⟨_, _, _, rfl, HN2.out, ⟨hO.out.vs.1⟩, HB4.out⟩
   · simp only [Bool.false_or, Bool.true_or]
     have T1 : Kept True := ⟨trivial⟩
     go_enter Tryd.func20, Tryd.ntmps20
     go_wp2_with (first
       | (go_at_call 17; refine (isName_any n w hns true HI.out).mono ?_; rintro e w0 ⟨rfl, rfl⟩)
       | (go_at_call 10; refine (refGet_any l A ln k n w HV.out HN.out hl _ b HD.out HB.out).mono ?_; rintro e w1 ⟨rfl, hb1⟩
          have HX := Kept.mk (VX.zero hb1); clear hb1)
       | (have := T1; refine wpList_store_row rfl 30 _ _ rfl _ _ rfl rfl 30 _ HX.out.r (by kernel_rfl) rfl (by simp [Value.oneCell']) ?_
          clear T1
          have HO := Kept.mk (HX.out.row ⟨vn, vv, false, true⟩)
          generalize World.setRow _ _ _ = W at HO ⊢
          have c3 := HO.out.c3
          have c2 := HO.out.c2
          have c0 := HO.out.c0
          have f0 := HO.out.f0
          have HO2 : Kept (VX w (W.setCell ⟨w1.heap.size, 0, none⟩ (.string n)) w1.heap.size ⟨n, vv, false, true⟩) := ⟨HO.out.set rfl⟩
          have d2 := HO2.out.c2
          have f2 := HO2.out.f2
          have HO3 : Kept (VX w ((W.setCell ⟨w1.heap.size, 0, none⟩ (.string n)).setCell ⟨w1.heap.size, 2, none⟩ (.bool ex)) w1.heap.size ⟨n, vv, ex, true⟩) := ⟨HO2.out.set rfl⟩
          have d3 := HO3.out.c3
          have f3 := HO3.out.f3
          have HO4 : Kept (VX w (((W.setCell ⟨w1.heap.size, 0, none⟩ (.string n)).setCell ⟨w1.heap.size, 2, none⟩ (.bool ex)).setCell ⟨w1.heap.size, 3, none⟩ (.bool true)) w1.heap.size ⟨n, vv, ex, true⟩) := ⟨HO3.out.set rfl⟩)
       | (have := HO4; refine wpList_load_row rfl 30 _ rfl w1.heap.size rfl 30 #[.string n, .string vv, .bool ex, .bool true] (0, 0) _ HO4.out.r Tryd.underlying30 rfl (by kernel_rfl) ?_)
       | (go_at_call 29; refine (refPut_any l A ln k ⟨n, vv, ex, true⟩ _ (HV.out.below HO4.out.bl) HN.out hl).mono ?_; rintro e w4 ⟨A2, n2, k2, rfl, hO, hn2, hb4⟩
          have HN2 := Kept.mk hn2
          have HB4 := Kept.mk (HO4.out.bl.trans (hb4.mono HO4.out.bl.size))
          clear hn2 hb4))
     go_ret2
     exact ⟨_, _, _, rfl, HN2.out, ⟨hO.out.vs.1⟩, HB4.out⟩
   · simp only [Bool.false_or, Bool.true_or]
     have T1 : Kept True := ⟨trivial⟩
     go_enter Tryd.func20, Tryd.ntmps20
     go_wp2_with (first
       | (go_at_call 17; refine (isName_any n w hns true HI.out).mono ?_; rintro e w0 ⟨rfl, rfl⟩)
       | (go_at_call 10; refine (refGet_any l A ln k n w HV.out HN.out hl _ b HD.out HB.out).mono ?_; rintro e w1 ⟨rfl, hb1⟩
          have HX := Kept.mk (VX.zero hb1); clear hb1)
       | (have := T1; refine wpList_store_row rfl 30 _ _ rfl _ _ rfl rfl 30 _ HX.out.r (by kernel_rfl) rfl (by simp [Value.oneCell']) ?_
          clear T1
          have HO := Kept.mk (HX.out.row ⟨vn, vv, true, false⟩)
          generalize World.setRow _ _ _ = W at HO ⊢
          have c3 := HO.out.c3
          have c2 := HO.out.c2
          have c0 := HO.out.c0
          have f0 := HO.out.f0
          have HO2 : Kept (VX w (W.setCell ⟨w1.heap.size, 0, none⟩ (.string n)) w1.heap.size ⟨n, vv, true, false⟩) := ⟨HO.out.set rfl⟩
          have d2 := HO2.out.c2
          have f2 := HO2.out.f2
          have HO3 : Kept (VX w ((W.setCell ⟨w1.heap.size, 0, none⟩ (.string n)).setCell ⟨w1.heap.size, 2, none⟩ (.bool true)) w1.heap.size ⟨n, vv, true, false⟩) := ⟨HO2.out.set rfl⟩
          have d3 := HO3.out.c3
          have f3 := HO3.out.f3
          have HO4 : Kept (VX w (((W.setCell ⟨w1.heap.size, 0, none⟩ (.string n)).setCell ⟨w1.heap.size, 2, none⟩ (.bool true)).setCell ⟨w1.heap.size, 3, none⟩ (.bool ro)) w1.heap.size ⟨n, vv, true, ro⟩) := ⟨HO3.out.set rfl⟩)
       | (have := HO4; refine wpList_load_row rfl 30 _ rfl w1.heap.size rfl 30 #[.string n, .string vv, .bool true, .bool ro] (0, 0) _ HO4.out.r Tryd.underlying30 rfl (by kernel_rfl) ?_)
       | (go_at_call 29; refine (refPut_any l A ln k ⟨n, vv, true, ro⟩ _ (HV.out.below HO4.out.bl) HN.out hl).mono ?_; rintro e w4 ⟨A2, n2, k2, rfl, hO, hn2, hb4⟩
          have HN2 := Kept.mk hn2
          have HB4 := Kept.mk (HO4.out.bl.trans (hb4.mono HO4.out.bl.size))
          clear hn2 hb4))
     go_ret2
     exact ⟨_, _, _, rfl, HN2.out, ⟨hO.out.vs.1⟩, HB4.out⟩
   · simp only [Bool.true_or]
     have T1 : Kept True := ⟨trivial⟩
     go_enter Tryd.func20, Tryd.ntmps20
     go_wp2_with (first
       | (go_at_call 17; refine (isName_any n w hns true HI.out).mono ?_; rintro e w0 ⟨rfl, rfl⟩)
       | (go_at_call 10; refine (refGet_any l A ln k n w HV.out HN.out hl _ b HD.out HB.out).mono ?_; rintro e w1 ⟨rfl, hb1⟩
          have HX := Kept.mk (VX.zero hb1); clear hb1)
       | (have := T1; refine wpList_store_row rfl 30 _ _ rfl _ _ rfl rfl 30 _ HX.out.r (by kernel_rfl) rfl (by simp [Value.oneCell']) ?_
          clear T1
          have HO := Kept.mk (HX.out.row ⟨vn, vv, true, true⟩)
          generalize World.setRow _ _ _ = W at HO ⊢
          have c3 := HO.out.c3
          have c2 := HO.out.c2
          have c0 := HO.out.c0
          have f0 := HO.out.f0
          have HO2 : Kept (VX w (W.setCell ⟨w1.heap.size, 0, none⟩ (.string n)) w1.heap.size ⟨n, vv, true, true⟩) := ⟨HO.out.set rfl⟩
          have d2 := HO2.out.c2
          have f2 := HO2.out.f2
          have HO3 : Kept (VX w ((W.setCell ⟨w1.heap.size, 0, none⟩ (.string n)).setCell ⟨w1.heap.size, 2, none⟩ (.bool true)) w1.heap.size ⟨n, vv, true, true⟩) := ⟨HO2.out.set rfl⟩
          have d3 := HO3.out.c3
          have f3 := HO3.out.f3
          have HO4 : Kept (VX w (((W.setCell ⟨w1.heap.size, 0, none⟩ (.string n)).setCell ⟨w1.heap.size, 2, none⟩ (.bool true)).setCell ⟨w1.heap.size, 3, none⟩ (.bool true)) w1.heap.size ⟨n, vv, true, true⟩) := ⟨HO3.out.set rfl⟩)
       | (have := HO4; refine wpList_load_row rfl 30 _ rfl w1.heap.size rfl 30 #[.string n, .string vv, .bool true, .bool true] (0, 0) _ HO4.out.r Tryd.underlying30 rfl (by kernel_rfl) ?_)
       | (go_at_call 29; refine (refPut_any l A ln k ⟨n, vv, true, true⟩ _ (HV.out.below HO4.out.bl) HN.out hl).mono ?_; rintro e w4 ⟨A2, n2, k2, rfl, hO, hn2, hb4⟩
          have HN2 := Kept.mk hn2
          have HB4 := Kept.mk (HO4.out.bl.trans (hb4.mono HO4.out.bl.size))
          clear hn2 hb4))
     go_ret2
     exact ⟨_, _, _, rfl, HN2.out, ⟨hO.out.vs.1⟩, HB4.out⟩
 · have hi : isName n = false := by simpa using hi
   have HI := Kept.mk hi
   have HS : Kept (mark l n ex ro = .error 1) := ⟨by unfold mark; rw [hi]; rfl⟩
   rw [HS.out]
   clear hi HS
   go_enter Tryd.func20, Tryd.ntmps20
   go_wp2_with (go_at_call 17; refine (isName_any n w hns false HI.out).mono ?_; rintro e w0 ⟨rfl, rfl⟩)
   go_ret2
   exact ⟨_, _, _, rfl, rfl, ⟨VS.empty _⟩, Below.refl _ _⟩
end Va
end
end Go.Proofs.YtpagcoiekeijbaaDoor
