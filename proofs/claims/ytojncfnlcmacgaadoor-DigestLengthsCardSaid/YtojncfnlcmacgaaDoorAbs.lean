/-
  The state behind the blocks of a text.
-/
import Derived.Test.YtojncfnlcmacgaaDoorComp
import Derived.Deep.MidRow
namespace Go.Proofs.YtojncfnlcmacgaaDoor
open Go.RowKit
namespace Sha

/-- Inside absorb. -/
structure Abs (w wr : World) (l : List UInt32) : Prop where
  below : Below w.heap.size w wr
  box : Lies wr w.heap.size 28 l
  res : Lies wr (w.heap.size + 1) 28 (List.replicate 8 0)
theorem Abs.again {w wr : World} {l : List UInt32} (h : Abs w wr l) {X : World → Prop} (k : ∀ W, Abs w W l → X W) : X wr.drew := k _ ⟨h.below.drew, h.box, h.res⟩
theorem Abs.call {w wr w1 : World} {l : List UInt32} (h : Abs w wr l) (hb : Below wr.heap.size wr w1) : Abs w w1 l :=
  ⟨h.below.trans (hb.mono h.below.size), h.box.below hb h.box.lt, h.res.below hb h.res.lt⟩
theorem extract_list (s : ByteArray) (a b : Nat) : (s.extract a b).data.toList = (s.data.toList.drop a).take (b - a) := by
  simp [ByteArray.data_extract, Array.toList_extract]
theorem comp_kept (st : St) (s : ByteArray) (w : World) (hs : s.size = 64) (hK : Tab w) :
    Calls Tryd.prog 15 #[.agg (cellsOf st.list), .string s] w fun e w' => ∃ c : St, e = .returned (.agg (cellsOf c.list)) ∧ Below w.heap.size w w' ∧ Kept (compress st s.data.toList = c) :=
  (comp_any st s w hs hK).mono fun _ _ ⟨h, b⟩ => ⟨_, h, b, ⟨rfl⟩⟩

set_option maxRecDepth 100000 in
set_option maxHeartbeats 1000000 in
theorem absorb_any (st : St) (s : ByteArray) (m : Nat) (w : World) (hs : s.size = 64 * m) (hm : s.size ≤ maxLen) (hK : Tab w) :
    Calls Tryd.prog 9 #[.agg (cellsOf st.list), .string s] w fun e w' => e = .returned (.agg (cellsOf (absorb st s.data.toList m).list)) ∧ Below w.heap.size w w' := by
  unfold maxLen at hm
  have i28 : ∀ l : List UInt32, l.length = 8 → (Tryd.prog.info? 28).map (·.size) = some (cellsOf l).size := fun l h => by rw [size_cellsOf, h]; kernel_rfl
  have I := Lib.hid i28
  have HK := Lib.hid hK
  have q0 : (s.size : Int) / 64 = m := by omega
  have m1 : (m : Int) ≤ 144115188075855871 := by omega
  have H := Lib.hid hs
  clear i28 hK hs hm
  go_enter Tryd.func9, Tryd.ntmps9
  go_wp2
  clear q0
  go_loopw [9] (fun x wr => ∃ n : Nat, n ≤ m ∧ x = .int .i64 n ∧ Abs w wr (absorb st s.data.toList n).list) (fun x _ => m - (intOf x).toNat)
  case atStart => exact ⟨0, by omega, rfl, ((Below.refl _ _).alloc (Nat.le_refl _) _).alloc (by simp) _, (Lies.made rfl rfl).alloc _, Lies.made (by kernel_rfl) (by simp)⟩
  case round =>
    obtain ⟨n, hn, rfl, hM⟩ := hrel
    by_cases hlt : n < m
    · generalize hq : absorb st s.data.toList n = q at *
      have hN : absorb st s.data.toList (n + 1) = compress q ((s.data.toList.drop (64 * n)).take 64) := by rw [← hq]; rfl
      have HN := Kept.mk hN
      clear hq hN
      have l1 := Lib.hid ((show Lies wr.drew w.heap.size 28 q.list from hM.box).load (P := Tryd.prog) Tryd.underlying28 rfl (I.out _ rfl))
      have HM := Lib.hid hM
      have hs := H.out
      have z : 64 * (n : Int) + 64 ≤ s.size := by omega
      have z0 : (0 : Int) ≤ 64 * (n : Int) := by omega
      have z1 : (0 : Int) ≤ 64 * ((n : Int) + 1) := by omega
      have z2 : 64 * (n : Int) ≤ 64 * ((n : Int) + 1) := by omega
      have z3 : 64 * ((n : Int) + 1) ≤ s.size := by omega
      have t1 : (64 * (n : Int)).toNat = 64 * n := by omega
      have t2 : (64 * ((n : Int) + 1)).toNat = 64 * n + 64 := by omega
      have e1 : IntKind.i64.wrap ((n : Int) + 1) = (n : Int) + 1 := IntWalk.i64_in _ (by omega)
      have e2 : IntKind.i64.wrap (64 * (n : Int)) = 64 * (n : Int) := IntWalk.i64_in _ (by omega)
      have e3 : IntKind.i64.wrap (64 * ((n : Int) + 1)) = 64 * ((n : Int) + 1) := IntWalk.i64_in _ (by omega)
      have hsl : ∀ W : World, (Instr.slice 9 (.string s) (some (.int .i64 (64 * (n : Int)))) (some (.int .i64 (64 * ((n : Int) + 1)))) none).run Tryd.prog W = .ok (.string (s.extract (64 * n) (64 * n + 64))) W := fun W => by
        rw [run_slice_string W 9 s .i64 .i64 _ _ Tryd.underlying9 z0 z2 z3, t1, t2]
      clear hM hs t1 t2
      go_wp2
      refine wp_region_still_tail 8 (by kernel_rfl) (by kernel_rfl) ?_
      simp only [List.take_succ_cons, List.take_zero, List.drop_succ_cons, List.drop_zero]
      refine still_load_row rfl _ _ rfl _ l1.out ?_
      repeat still_step
      refine wpStill_nil ?_
      refine HM.out.again (X := fun W => wpList _ _ _ _ _ W) ?_
      clear e1 e2 e3 hsl HM l1
      intro W2 hM
      have HM := Kept.mk hM
      clear hM
      go_wp2_with fail
      refine (comp_kept q _ _ (by rw [ByteArray.size_extract]; have := H.out; omega) (HK.out.below HM.out.below)).mono ?_
      rintro e w1 ⟨c, rfl, hb, hc⟩
      simp only []
      have hA := HM.out.call hb
      clear hb
      go_wp2_with (refine wpList_store_row rfl 28 _ _ rfl _ _ rfl rfl _ _ hA.box (I.out _ rfl) rfl (one_cellsOf _) ?_)
      go_roundw
      case rel =>
        refine ⟨n + 1, by omega, by go_num, ?_⟩
        have E1 : absorb st s.data.toList (n + 1) = c := by
          rw [HN.out, ← hc.out, extract_list, show 64 * n + 64 - 64 * n = 64 by omega]
        rw [E1]
        exact ⟨Sha.below_setRow hA.below (Nat.le_refl _) _, hA.box.row _, hA.res.rowFar (by omega) _⟩
      case measure => simp [intOf]; omega
    · have hnm : n = m := by omega
      have HNM := Kept.mk hnm
      clear hnm
      generalize hq : absorb st s.data.toList n = q at *
      have HQ := Kept.mk hq
      clear hq
      go_wp2_with (first
        | (refine wpList_load_row rfl 28 _ rfl _ rfl _ _ _ _ hM.box Tryd.underlying28 rfl (I.out _ rfl) ?_)
        | (refine wpList_store_row rfl 28 _ _ rfl _ _ rfl rfl _ _ hM.res (I.out _ rfl) rfl (one_cellsOf _) ?_))
      refine bodyPost_ret (v := .agg (cellsOf q.list)) (results_cell_row rfl _ _ _ _ _ _ _ rfl (hM.res.row _) Tryd.underlying28 rfl (I.out _ rfl)) rfl ⟨?_, ?_⟩
      · rw [← HQ.out, HNM.out]
      · exact Sha.below_setRow hM.below (by omega) _
end Sha
end Go.Proofs.YtojncfnlcmacgaaDoor
