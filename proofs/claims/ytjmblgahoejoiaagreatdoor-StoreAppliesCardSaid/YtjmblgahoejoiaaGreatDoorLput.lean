/-
  The program's store while it records: Put.
-/
import Derived.Test.YtjmblgahoejoiaaGreatDoorLog
namespace Go.Proofs.YtjmblgahoejoiaaGreatDoor
open Go.RowKit Go.Maps Tx
namespace St

theorem LSto.moreP {w : World} {g b n lg bb nb br nr bp np m q : Nat} {t t0 : Tree} {DR DP : DataW Unit} (h : LSto w g b n lg bb nb br nr bp np t t0 DR DP) (hm : n ≤ m) (hq : np ≤ q) : LSto w g b m lg bb nb br nr bp q t t0 DR DP := ⟨h.p.more hm, h.log, h.before, h.reads, h.puts.mono hq, h.apart⟩

set_option maxHeartbeats 2000000 in
set_option maxRecDepth 100000 in
theorem put_log (g b n lg bb nb br nr bp np : Nat) (t t0 : Tree) (DR DP : DataW Unit) (s : ByteArray) (k0 m0 : Int) (d0 : ByteArray) (w : World) (h : LSto w g b n lg bb nb br nr bp np t t0 DR DP) (hs : s.size ≤ maxLen) (hn : n < 100000) (hnp : np < 100000) :
    Calls Tryz.prog 10 #[.pointer (some ⟨g, 0, none⟩), .string s, .agg #[.int .i64 k0, .int .i64 m0, .string d0]] w fun e w' => e = .returned (.tuple #[]) ∧
      Kept (LSto w' g b (n + 1) lg bb nb br nr bp (np + 1) (put t s ⟨k0, m0, d0⟩) t0 DR (if s = emp then DP else DP.put (key s) unD)) ∧ Only (fun k => k = b ∨ k = bp) w w' := by
  have hE := str_emp s
  have HX : Kept (BoxIn w (w.alloc (.cells #[.int .i64 k0, .int .i64 m0, .string d0] 37)) #[.int .i64 k0, .int .i64 m0, .string d0]) := ⟨⟨heap_alloc_new w _, (Below.refl _ _).alloc (Nat.le_refl _) _⟩⟩
  by_cases hse : s = emp
  · rw [decide_eq_true hse] at hE
    have HR : Kept (put t s ⟨k0, m0, d0⟩ = t ∧ (if s = emp then DP else DP.put (key s) unD) = DP) := ⟨by unfold put; rw [if_pos hse], if_pos hse⟩
    generalize put t s ⟨k0, m0, d0⟩ = t' at HR ⊢
    generalize (if s = emp then DP else DP.put (key s) unD) = DP' at HR ⊢
    have H := Kept.mk h
    clear h hse
    go_enter Tryz.func10, Tryz.ntmps10
    go_wp2
    refine bodyPost_ret (results_none rfl _ _ _) rfl ?_
    refine ⟨rfl, ⟨?_⟩, (Only.refl _ _).alloc _⟩
    rw [HR.out.1, HR.out.2]
    exact (H.out.alloc _).moreP (Nat.le_succ _) (Nat.le_succ _)
  · rw [decide_eq_false hse] at hE
    have HS := Kept.mk hse
    have HD : Kept ((if s = emp then DP else DP.put (key s) unD) = DP.put (key s) unD) := ⟨if_neg hse⟩
    generalize (if s = emp then DP else DP.put (key s) unD) = DP' at HD ⊢
    have HBp : Kept (bp < w.heap.size ∧ b < w.heap.size) := ⟨h.puts.lt, h.p.own.lt⟩
    have H := Kept.mk (h.alloc (.cells #[.int .i64 k0, .int .i64 m0, .string d0] 37))
    have c1 := H.out.p.c1
    obtain ⟨l0, l1, l2⟩ := box3 H.out.log
    obtain ⟨w1, hrun, ho1, hg1⟩ := H.out.puts.update strK Tryz.underlying67 (by unfold maxLen; omega) (keyStr s hs) unR_V
    have H1 := Kept.mk (H.out.wrote ho1 hg1)
    have HX1 := Kept.mk (HX.out.grown hg1 (fun e => by have := HBp.out.1; injection e; omega))
    have HO1 : Kept (Only (fun k => k = b ∨ k = bp) w w1) := ⟨((Only.refl _ w).alloc _).grown hg1 (fun k hk _ => by injection hk with hk; exact .inr hk.symm)⟩
    have c0 := H1.out.p.c0
    obtain ⟨x0, x1, x2⟩ := box3 HX1.out
    clear h hse ho1 hg1
    by_cases hk : k0 = 0
    · have HK := Kept.mk hk
      subst hk
      go_enter Tryz.func10, Tryz.ntmps10
      go_wp2_with (first
        | (at_delete
           refine wpList_delete_own _ rfl _ _ 56 9 rfl 37 strK Tryz.underlying56 entR b n _ rfl H1.out.p.own _ _ rfl (keyStr s hs) ?_
           intro w2 hown2 ht2
           have H2 := Kept.mk (H1.out.set (H1.out.p.struck s HS.out ⟨0, m0, d0⟩ rfl hown2 ht2.grown) ht2.grown)
           have HO : Kept (Only (fun k => k = b ∨ k = bp) w w2) := ⟨HO1.out.grown ht2.grown (fun k hk _ => by injection hk with hk; exact .inl hk.symm)⟩
           clear hown2 ht2))
      refine bodyPost_ret (results_none rfl _ _ _) rfl ?_
      exact ⟨rfl, ⟨by rw [HD.out]; exact H2.out⟩, HO.out⟩
    · have HK := Kept.mk hk
      have hd0 : (k0 == 0) = false := by simpa using hk
      clear hk
      go_enter Tryz.func10, Tryz.ntmps10
      go_wp2
      have c02 : w1.drew.cell? ⟨g, 0, none⟩ = some (.map (some b)) := c0
      have y0 : w1.drew.cell? ⟨w.heap.size, 0, none⟩ = some (.int .i64 k0) := x0
      have y1 : w1.drew.cell? ⟨w.heap.size, 1, none⟩ = some (.int .i64 m0) := x1
      have y2 : w1.drew.cell? ⟨w.heap.size, 2, none⟩ = some (.string d0) := x2
      obtain ⟨w2, hrun2, hown2, hg2⟩ := H1.out.drew.p.own.update strK Tryz.underlying56 (by unfold maxLen; omega) (keyStr s hs) (entR_V ⟨k0, m0, d0⟩)
      unfold entV at hrun2
      have H2 := Kept.mk (H1.out.drew.set (H1.out.drew.p.stored s HS.out ⟨k0, m0, d0⟩ HK.out hown2 hg2) hg2)
      have HO : Kept (Only (fun k => k = b ∨ k = bp) w w2) := ⟨HO1.out.drew.grown hg2 (fun k hk _ => by injection hk with hk; exact .inl hk.symm)⟩
      clear hown2 hg2
      go_region_law (go_simp)
      all_goals
        refine bodyPost_end (results_none rfl _ _ _) rfl ?_
        exact ⟨rfl, ⟨by rw [HD.out]; exact H2.out⟩, HO.out⟩
end St
end Go.Proofs.YtjmblgahoejoiaaGreatDoor
