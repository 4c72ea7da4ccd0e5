/-
  Parts of the proof, merged.
-/
import Derived.LoopIn
import Derived.LoopNIn
import Derived.OwnWalkIn
import Derived.Shelf.Abstract
import Derived.Shelf.RegionOpen
import Derived.TacticsInMore
import Derived.Test.YtlggpefmojacoaaGreatDoorLa02
import Derived.Test.YtlggpefmojacoaaGreatDoorLa47
namespace Go.Proofs.YtlggpefmojacoaaGreatDoor
section
open Go.RowKit Go.Shelf Tx
attribute [local go_sem] Oper.semAt_some
namespace Ar
open Va (Vr VS getD Sorted)
structure BL (sb g k : Nat) (bl : List Nat) (W : World) : Prop where
 box : W.cell? ⟨sb, 0, none⟩ = some (.slice (some ⟨g, 0, none⟩) bl.length k)
 el : ∀ j (hj : j < bl.length), W.cell? ⟨g, j, none⟩ = some (.pointer (some ⟨bl[j], 0, none⟩))
def encB (bl : List Nat) (i : Nat) : Array Value := #[.int .i64 ((bl.length - 1 - i : Nat) : Int), .pointer (some ⟨bl.getD (bl.length - 1 - i) 0, 0, none⟩)]
set_option maxHeartbeats 4000000 in
set_option maxRecDepth 100000 in
theorem back_any (sb g k : Nat) (bl : List Nat) (hn : bl.length ≤ 1000000) : Rp.Seq Tryz.prog 82 #[.pointer (some ⟨sb, 0, none⟩)] bl.length (encB bl) (BL sb g k bl) := by
 intro n l J Jp W hC hJ hY h0
 have HC := Kept.mk hC
 have HJ := Kept.mk hJ
 have HY := Kept.mk hY
 have HN := Kept.mk hn
 have H0 := Kept.mk h0
 have cb := (hC _ _ h0).box
 have hw1 : IntKind.i64.wrap ((bl.length : Int) - 1) = (bl.length : Int) - 1 := IntWalk.i64_in _ (by omega)
 clear hC hJ hY hn h0
 refine callsIn_of_wp Tryz.func82 rfl trivial ?_ rfl
 simp only [Tryz.ntmps82, List.size_toArray, List.length_cons, List.length_nil, Nat.reduceAdd, Nat.reduceSub, Array.replicate_succ, Array.replicate_zero, List.push_toArray, List.append_toArray, List.nil_append, List.cons_append]
 gi_wp2
 gi_loopw [3] (fun x wr => ∃ j : Nat, j ≤ bl.length ∧ x = .int .i64 ((bl.length : Int) - 1 - (j : Int)) ∧ Kept (J j wr)) (fun x _ => ((intOf x) + 1).toNat)
 case atStart => exact ⟨0, Nat.zero_le _, by simp, H0⟩
 case round =>
   obtain ⟨j, hj, rfl, HJj⟩ := hrel
   by_cases hlt : j < bl.length
   · have j1 : (0 : Int) ≤ (bl.length : Int) - 1 - (j : Int) := by omega
     have j2 : (bl.length : Int) - 1 - (j : Int) < (bl.length : Int) := by omega
     have j3 : ((bl.length : Int) - 1 - (j : Int)).toNat = bl.length - 1 - j := by omega
     have j4 : (bl.length : Int) - 1 - (j : Int) = ((bl.length - 1 - j : Nat) : Int) := by omega
     have j5 : bl.length - 1 - j < bl.length := by omega
     have d0 := (HC.out _ _ HJj.out).box
     have d1 := (HC.out _ _ HJj.out).el (bl.length - 1 - j) j5
     obtain ⟨fn, tmps, assign, body, hy, hR⟩ := HY.out j wr HJj.out hlt
     have hgd : bl.getD (bl.length - 1 - j) 0 = bl[bl.length - 1 - j]'j5 := by simp [List.getD, List.getElem?_eq_getElem j5]
     unfold encB at hy
     rw [hgd, ← j4] at hy
     have hw2 : IntKind.i64.wrap ((bl.length : Int) - 1 - (j : Int) - 1) = (bl.length : Int) - 1 - ((j + 1 : Nat) : Int) := by have := HN.out; rw [IntWalk.i64_in _ (by omega)]; omega
     have HLt := Kept.mk hlt
     generalize bl[bl.length - 1 - j]'j5 = pb at *
     clear hgd j4 hlt HJj
     gi_wp2_with fail
     refine hR.mono ?_
     rintro e W3 (⟨rfl, hJ3⟩ | ⟨ch, rfl, hp⟩)
     · have HJ3 := Kept.mk hJ3
       clear hJ3 hR hy d0 d1
       gi_wp2_with fail
       go_roundw
       case rel => exact ⟨j + 1, by have := HLt.out; omega, by go_num, HJ3⟩
       case measure => simp [intOf]; omega
     · have HP := Kept.mk hp
       clear hp hR hy d0 d1
       first | exact ⟨rfl, .inr ⟨ch, rfl, HP.out⟩⟩ | exact ⟨rfl, rfl, .inr ⟨ch, rfl, HP.out⟩⟩
   · obtain rfl : j = bl.length := by omega
     have j1 : ¬ (0 : Int) ≤ (bl.length : Int) - 1 - (bl.length : Int) := by omega
     gi_wp2_with fail
     go_end0
     exact .inl ⟨⟨_, rfl⟩, HJj.out⟩
set_option maxRecDepth 100000 in
theorem backward_any (w : World) (A : Option Addr) (n k : Nat) : Calls Tryz.prog 58 #[.slice A n k] w fun e w' =>
   e = .returned (.func (.func 82) #[] #[.pointer (some ⟨w.heap.size, 0, none⟩)]) ∧ w' = w.alloc (.cells #[.slice A n k] 87) := by
 go_enter Tryz.func58, Tryz.ntmps58
 go_wp2_with fail
 go_ret
 exact ⟨rfl, rfl⟩
end Ar
end
end Go.Proofs.YtlggpefmojacoaaGreatDoor
