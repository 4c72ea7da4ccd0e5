/-
  The words of a block's rounds.
-/
import Derived.Test.YtojncfnlcmacgaaDoorWord
import Derived.LoopTactic
import Derived.StillTailTactics
namespace Go.Proofs.YtojncfnlcmacgaaDoor
open Go.RowKit
namespace Sha

theorem word_at (s : ByteArray) (i : Nat) (j : Int) (w : World) (hj : j = i) (hs : s.size ≤ maxLen) (hi : i + 3 < s.size) :
    Calls Tryd.prog 24 #[.string s, .int .i64 j] w fun e w' => e = .returned (.int .u32 (wordAt s.data.toList i).toNat) ∧ ∃ n, w.drewN n = w' := by
  subst hj
  exact (word_any s i w hs hi).mono fun _ _ ⟨h, n, e⟩ => ⟨h, n, e.symm⟩

theorem turned {P : Program} {f : FuncId} {args : Array Value} {w : World} {v : Value} (h : Calls P f args w fun e w' => e = .returned v ∧ w = w') :
    Calls P f args w fun e w' => e = .returned v ∧ w' = w := h.mono fun _ _ ⟨a, b⟩ => ⟨a, b.symm⟩

set_option maxRecDepth 100000 in
set_option maxHeartbeats 400000 in
theorem sched_any (s : ByteArray) (w : World) (hs : s.size = 64) :
    Calls Tryd.prog 19 #[.string s] w fun e w' => e = .returned (.agg (cellsOf (sched s.data.toList))) ∧ Below w.heap.size w w' := by
  have hm : s.size ≤ maxLen := by unfold maxLen; omega
  have H := Lib.hid hs
  have HM := Lib.hid hm
  clear hs hm
  go_enter Tryd.func19, Tryd.ntmps19
  go_wp2
  go_loopw [6] (fun i wr => ∃ k : Nat, k ≤ 16 ∧ i = .int .i64 k ∧ Two 39 w wr (sched1 s.data.toList k)) (fun i _ => 16 - (intOf i).toNat)
  case atStart => exact ⟨0, by omega, rfl, ⟨((Below.refl _ _).alloc (Nat.le_refl _) _).alloc (by simp) _, (Lies.made (by kernel_rfl) rfl).alloc _, Lies.made (by kernel_rfl) (by simp)⟩⟩
  case round =>
    obtain ⟨k, hk, rfl, hT⟩ := hrel
    by_cases hlt : k < 16
    · have hc := hT.second.cell k (by rw [sched1_length]; omega)
      have hf := hT.second.free k
      have h4 : (0 : Int) ≤ 4 * (k : Int) := by omega
      go_wp2_with (go_at_call 24; refine (word_at s (4 * k) _ _ (by omega) HM.out (by rw [H.out]; omega)).mono ?_; rintro e w' ⟨rfl, n, rfl⟩)
      go_roundw
      case rel => exact ⟨k + 1, by omega, by go_num, hT.put _ _ _⟩
      case measure => simp [intOf]; omega
    · have h16 : k = 16 := by omega
      have H16 := Lib.hid h16
      clear h16
      go_wp2
      clear hlt hk
      obtain ⟨wo, rfl⟩ : ∃ wo : World, wo = wr := ⟨_, rfl⟩
      go_loopw [5] (fun x wr => ∃ i : Nat, 16 ≤ i ∧ i ≤ 64 ∧ x = .int .i64 i ∧ Two 39 w wr (sched2 s.data.toList (i - 16))) (fun x _ => 64 - (intOf x).toNat)
      case atStart => exact ⟨16, by omega, by omega, rfl, by have h16 := H16.out; subst h16; exact hT⟩
      case round =>
        clear hT
        obtain ⟨i, hi1, hi2, rfl, hT⟩ := hrel
        by_cases hlt : i < 64
        · have hl := sched2_length s.data.toList (i - 16)
          have c1 := hT.second.cell (i - 16) (by omega)
          have c2 := hT.second.cell (i - 15) (by omega)
          have c3 := hT.second.cell (i - 7) (by omega)
          have c4 := hT.second.cell (i - 2) (by omega)
          have c5 := hT.second.cell i (by omega)
          have f5 := hT.second.free i
          have a0 : (0 : Int) ≤ (i : Int) := by omega
          have a0' : (i : Int) < 64 := by omega
          have a1 : (0 : Int) ≤ (i : Int) - 16 := by omega
          have a2 : (0 : Int) ≤ (i : Int) - 15 := by omega
          have a3 : (0 : Int) ≤ (i : Int) - 7 := by omega
          have a4 : (0 : Int) ≤ (i : Int) - 2 := by omega
          have b1 : (16 : Int) ≤ (i : Int) := by omega
          have b2 : (15 : Int) ≤ (i : Int) := by omega
          have b3 : (7 : Int) ≤ (i : Int) := by omega
          have b4 : (2 : Int) ≤ (i : Int) := by omega
          have l1 : (i : Int) - 16 < 64 := by omega
          have l2 : (i : Int) - 15 < 64 := by omega
          have l3 : (i : Int) - 7 < 64 := by omega
          have l4 : (i : Int) - 2 < 64 := by omega
          have t1 : ((i : Int) - 16).toNat = i - 16 := by omega
          have t2 : ((i : Int) - 15).toNat = i - 15 := by omega
          have t3 : ((i : Int) - 7).toNat = i - 7 := by omega
          have t4 : ((i : Int) - 2).toNat = i - 2 := by omega
          have e1 : IntKind.i64.wrap ((i : Int) - 16) = (i : Int) - 16 := IntWalk.i64_in _ (by omega)
          have e2 : IntKind.i64.wrap ((i : Int) - 15) = (i : Int) - 15 := IntWalk.i64_in _ (by omega)
          have e3 : IntKind.i64.wrap ((i : Int) - 7) = (i : Int) - 7 := IntWalk.i64_in _ (by omega)
          have e4 : IntKind.i64.wrap ((i : Int) - 2) = (i : Int) - 2 := IntWalk.i64_in _ (by omega)
          have HT := Lib.hid hT
          clear hT hl hi1
          generalize hq : sched2 s.data.toList (i - 16) = q at *
          go_wp2
          refine wp_region_still_tail 23 (by kernel_rfl) (by kernel_rfl) ?_
          simp only [List.take_succ_cons, List.take_zero, List.drop_succ_cons, List.drop_zero]
          repeat (first | still_step | still_call (turned (near_any _ _)) | still_call (turned (far_any _ _)))
          refine wpStill_nil ?_
          go_wp2
          go_roundw
          case rel =>
            refine ⟨i + 1, by omega, by omega, by go_num, ?_⟩
            rw [sched2_next _ _ (by omega), hq]
            refine HT.out.put2 i _ _ ?_
            unfold nextW
            simp only [List.getD_eq_getElem?_getD]
            exact sum4 _ _ _ _
          case measure => simp [intOf]; omega
        · obtain rfl : i = 64 := by omega
          have hl : (sched2 s.data.toList 48).length = 64 := sched2_length s.data.toList 48
          have i39 : (Tryd.prog.info? 39).map (·.size) = some (cellsOf (sched2 s.data.toList 48)).size := by rw [size_cellsOf, hl]; kernel_rfl
          have o39 : (cellsOf (List.replicate 64 0)).size = (cellsOf (sched2 s.data.toList 48)).size := by rw [size_cellsOf, size_cellsOf, hl]; rfl
          have I := Lib.hid i39
          have O := Lib.hid o39
          clear hl i39 o39
          go_wp2_with (first
            | (refine wpList_load_row rfl 39 _ rfl _ rfl _ _ _ _ hT.second Tryd.underlying39 rfl I.out ?_)
            | (refine wpList_store_row rfl 39 _ _ rfl _ _ rfl rfl _ _ hT.first I.out O.out (one_cellsOf _) ?_))
          refine bodyPost_ret (v := .agg (cellsOf (sched2 s.data.toList 48))) (results_cell_row rfl _ _ _ _ _ _ _ rfl (hT.first.row _) Tryd.underlying39 rfl I.out) rfl ⟨rfl, ?_⟩
          exact below_setRow hT.below (Nat.le_refl _) _
end Sha
end Go.Proofs.YtojncfnlcmacgaaDoor
