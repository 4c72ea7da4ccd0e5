/-
  Parts of the proof, merged.
-/
import Derived.Test.YtlggpefmojacoaaGreatDoorLa29
import Derived.Test.YtlggpefmojacoaaGreatDoorLa43
namespace Go.Proofs.YtlggpefmojacoaaGreatDoor
section
open Go.RowKit Tx
namespace Va
open Wx (Kit)
theorem VS.fresh2 (w : World) (v : Vr) (cs : Array Value) (t : TypeId) (h : cs = (pv v).toArray) (N : Nat) (hN : N = w.heap.size) : VS (w.alloc (.cells cs t)) (some ⟨N, 0, none⟩) 1 [v] := by
 subst hN
 exact VS.fresh w v cs t h
set_option maxHeartbeats 2000000 in
set_option maxRecDepth 100000 in
theorem pSet_any (l : List Vr) (A : Option Addr) (ln k : Nat) (n x : ByteArray) (w : World) (hV : VS w A k l) (hn : l.length = ln) (hl : ln ≤ 100000) (hns : n.size ≤ 1400000) (hs : Sorted l) (hK : Kit w) :
   Calls Tryz.prog 55 #[.slice A ln k, .string n, .string x] w (SEnd w (set l n x)) := by
 have HV := Kept.mk hV
 have HN := Kept.mk hn
 have HS0 := Kept.mk hs
 have HK := Kept.mk hK
 clear hV hn hs hK
 by_cases hi : isName n = true
 · have HI := Kept.mk hi
   obtain ⟨b, hb⟩ : ∃ b, found l n = b := ⟨_, rfl⟩
   obtain ⟨v, hv⟩ : ∃ v, getD l n = v := ⟨_, rfl⟩
   have HB := Kept.mk hb
   have HD := Kept.mk hv
   have HS : Kept (set l n x = if v.ro = true then .error 150 else .ok (put l n [⟨n, x, v.ex, v.ro⟩])) := ⟨by unfold set; rw [hi, hv]; rfl⟩
   rw [HS.out]
   clear hi hb hv HS
   obtain ⟨ro, hro⟩ : ∃ ro, ro = v.ro := ⟨_, rfl⟩
   have HRo : Kept (v.ro = ro) := ⟨hro.symm⟩
   rw [HRo.out]
   clear hro
   cases ro with
   | true =>
     rw [if_pos rfl]
     have T1 : Kept True := ⟨trivial⟩
     go_enter Tryz.func55, Tryz.ntmps55
     go_wp2_with (first
       | (go_at_call 79; refine (pIsName_any n w HK.out hns true HI.out).mono ?_; rintro e w0 ⟨rfl, hb0⟩; have HB0 := Kept.mk hb0; clear hb0)
       | (go_at_call 51; refine (get_any l A ln k n w0 (HV.out.below HB0.out) HN.out hl HS0.out v b HD.out HB.out).mono ?_; rintro e w1 ⟨rfl, hb1⟩
          have HX := Kept.mk (VX.zero (HB0.out.trans (hb1.mono HB0.out.size))); clear hb1)
       | (have := T1; refine wpList_store_row rfl 31 _ _ rfl _ _ rfl rfl 31 _ HX.out.r (by kernel_rfl) rfl (by simp [Value.oneCell']) ?_
          clear T1
          have HO := Kept.mk (HX.out.row v)
          generalize World.setRow _ _ _ = W at HO ⊢
          have c3 := HO.out.c3
          rw [HRo.out] at c3))
     go_ret2
     exact ⟨_, _, _, rfl, rfl, ⟨VS.empty _⟩, HO.out.bl⟩
   | false =>
     rw [if_neg (by decide)]
     have T1 : Kept True := ⟨trivial⟩
     go_enter Tryz.func55, Tryz.ntmps55
     go_wp2_with (first
       | (go_at_call 79; refine (pIsName_any n w HK.out hns true HI.out).mono ?_; rintro e w0 ⟨rfl, hb0⟩; have HB0 := Kept.mk hb0; clear hb0)
       | (go_at_call 51; refine (get_any l A ln k n w0 (HV.out.below HB0.out) HN.out hl HS0.out v b HD.out HB.out).mono ?_; rintro e w1 ⟨rfl, hb1⟩
          have HX := Kept.mk (VX.zero (HB0.out.trans (hb1.mono HB0.out.size))); clear hb1)
       | (have := T1; refine wpList_store_row rfl 31 _ _ rfl _ _ rfl rfl 31 _ HX.out.r (by kernel_rfl) rfl (by simp [Value.oneCell']) ?_
          clear T1
          have HO := Kept.mk (HX.out.row v)
          generalize World.setRow _ _ _ = W at HO ⊢
          have c3 := HO.out.c3
          rw [HRo.out] at c3
          have c0 := HO.out.c0
          have f0 := HO.out.f0
          have HO2 : Kept (VX w (W.setCell ⟨w1.heap.size, 0, none⟩ (.string n)) w1.heap.size ⟨n, v.value, v.ex, v.ro⟩) := ⟨HO.out.set rfl⟩
          have c1 := HO2.out.c1
          have f1 := HO2.out.f1
          have HO3 : Kept (VX w ((W.setCell ⟨w1.heap.size, 0, none⟩ (.string n)).setCell ⟨w1.heap.size, 1, none⟩ (.string x)) w1.heap.size ⟨n, x, v.ex, v.ro⟩) := ⟨HO2.out.set rfl⟩)
       | (have := HO3; refine wpList_load_row rfl 31 _ rfl w1.heap.size rfl 31 #[.string n, .string x, .bool v.ex, .bool v.ro] (0, 0) _ HO3.out.r Tryz.underlying31 rfl (by kernel_rfl) ?_)
       | (go_at_call 80; refine (replace_any l [⟨n, x, v.ex, v.ro⟩] A (some ⟨W.heap.size, 0, none⟩) ln k 1 1 n _ (HV.out.below (HO3.out.bl.alloc HO3.out.bl.size _)) HN.out hl HS0.out (VS.fresh2 _ ⟨n, x, v.ex, v.ro⟩ _ 31 rfl W.heap.size (by simp [World.setCell])) rfl (Nat.le_refl _)).mono ?_; rintro e w4 ⟨A2, n2, k2, rfl, hO, hn2, hb4⟩
          have HN2 := Kept.mk hn2
          have HB4 := Kept.mk ((HO3.out.bl.alloc HO3.out.bl.size _).trans (hb4.mono (by have := HO3.out.bl.size; rw [World.size_alloc]; omega)))
          clear hn2 hb4))
     go_ret2
     rw [HRo.out] at hO HN2
     exact ⟨_, _, _, rfl, HN2.out, ⟨hO.out.vs.1⟩, HB4.out⟩
 · have hi : isName n = false := by simpa using hi
   have HI := Kept.mk hi
   have HS : Kept (set l n x = .error 1) := ⟨by unfold set; rw [hi]; rfl⟩
   rw [HS.out]
   clear hi HS
   go_enter Tryz.func55, Tryz.ntmps55
   go_wp2_with (go_at_call 79; refine (pIsName_any n w HK.out hns false HI.out).mono ?_; rintro e w0 ⟨rfl, hb0⟩; have HB0 := Kept.mk hb0; clear hb0)
   go_ret2
   exact ⟨_, _, _, rfl, rfl, ⟨VS.empty _⟩, HB0.out⟩
end Va
end
end Go.Proofs.YtlggpefmojacoaaGreatDoor
