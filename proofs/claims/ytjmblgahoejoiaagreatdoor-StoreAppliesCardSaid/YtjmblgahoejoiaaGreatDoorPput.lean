/-
  The program's store: Put and At, where nothing is recorded.
-/
import Derived.Test.YtjmblgahoejoiaaGreatDoorPsto
import Derived.Deep.RegionHeld3
import Derived.Deep.RegionLaw
import Derived.Laws.Pointers
namespace Go.Proofs.YtjmblgahoejoiaaGreatDoor
open Go.RowKit Go.Maps Tx
namespace St

section
variable {w : World} {g b n : Nat} {lv : Value} {t : Tree}
/-- What is looked up. -/
theorem PSto.look (h : PSto w g b n lv t) (s : ByteArray) (hs : s.size ≤ maxLen) : (Instr.lookup 56 (.map (some b)) (.string s) false).run Tryz.prog w = .ok (entV (get t s)) w := by
  obtain ⟨v, ps, hr, hv⟩ := h.own.lookup strK Tryz.underlying56 (zeroEnt w) (entR_V zeroE) (keyStr s hs)
  rw [atKey_dat, get_all] at hv
  rw [hr, entR_inv hv]
theorem only_of_grown {w w' : World} {b : Nat} (hg : w.grownBy w' (some b)) : Only (· = b) w w' := ⟨hg.os, hg.tape, hg.output, hg.size, fun k hk hn => hg.block k hk (fun e => hn (by injection e))⟩
theorem PSto.stored {w' : World} (h : PSto w g b n lv t) (s : ByteArray) (hs : s ≠ emp) (e : Ent) (h0 : e.kind ≠ 0) (ho : w'.ownsMap Tryz.prog 9 entR b (n + 1) ((dat (all t)).put (key s) (entD e))) (hg : w.grownBy w' (some b)) : PSto w' g b (n + 1) lv (put t s e) := by
  have hgg := hg.block g h.lt (fun e => h.ne (by injection e))
  rw [put_dat _ _ _ h.good.all, ins_all e hs] at ho
  have e1 : put t s e = ins t s e := by unfold put; rw [if_neg hs, if_neg h0]
  refine ⟨Nat.lt_of_lt_of_le h.lt hg.size, h.ne, (World.cell?_of_block (a := ⟨g, 0, none⟩) hgg).trans h.c0, (World.cell?_of_block (a := ⟨g, 1, none⟩) hgg).trans h.c1, (World.frozen?_of_block (a := ⟨g, 1, none⟩) hgg).trans h.f1, by rw [e1]; exact ho, h.good.put s e⟩
theorem PSto.struck {w' : World} (h : PSto w g b n lv t) (s : ByteArray) (hs : s ≠ emp) (e : Ent) (h0 : e.kind = 0) (ho : w'.ownsMap Tryz.prog 9 entR b n ((dat (all t)).del (key s))) (hg : w.grownBy w' (some b)) : PSto w' g b (n + 1) lv (put t s e) := by
  have hgg := hg.block g h.lt (fun e => h.ne (by injection e))
  rw [del_dat, del_all hs] at ho
  have e1 : put t s e = del t s := by unfold put; rw [if_neg hs, if_pos h0]
  refine ⟨Nat.lt_of_lt_of_le h.lt hg.size, h.ne, (World.cell?_of_block (a := ⟨g, 0, none⟩) hgg).trans h.c0, (World.cell?_of_block (a := ⟨g, 1, none⟩) hgg).trans h.c1, (World.frozen?_of_block (a := ⟨g, 1, none⟩) hgg).trans h.f1, by rw [e1]; exact ho.mono (Nat.le_succ _), h.good.put s e⟩
theorem PSto.more {w : World} (h : PSto w g b n lv t) {m : Nat} (hm : n ≤ m) : PSto w g b m lv t := ⟨h.lt, h.ne, h.c0, h.c1, h.f1, h.own.mono hm, h.good⟩
theorem str_emp (s : ByteArray) : (s.toList == ([] : List UInt8)) = decide (s = emp) := by
  have := beq_str s emp
  have e : emp.toList = [] := by decide +kernel
  rwa [e] at this
end

set_option maxRecDepth 100000 in
theorem put_none (g b n : Nat) (t : Tree) (s : ByteArray) (e0 : Ent) (w : World) (h : PSto w g b n lvNone t) (hs : s.size ≤ maxLen) (hn : n < 100000) :
    Calls Tryz.prog 10 #[.pointer (some ⟨g, 0, none⟩), .string s, entV e0] w fun e w' => e = .returned (.tuple #[]) ∧ Kept (PSto w' g b (n + 1) lvNone (put t s e0)) ∧ Only (· = b) w w' := by
  obtain ⟨k0, m0, d0⟩ := e0
  have hE := str_emp s
  unfold entV
  by_cases hse : s = emp
  · rw [decide_eq_true hse] at hE
    have HR : Kept (put t s ⟨k0, m0, d0⟩ = t) := ⟨by unfold put; rw [if_pos hse]⟩
    have H := Kept.mk h
    clear h hse
    go_enter Tryz.func10, Tryz.ntmps10
    go_wp2
    refine bodyPost_ret (results_none rfl _ _ _) rfl ?_
    refine ⟨rfl, ⟨?_⟩, (Only.refl _ _).alloc _⟩
    rw [HR.out]
    exact (H.out.alloc _).more (Nat.le_succ _)
  · rw [decide_eq_false hse] at hE
    have H := Kept.mk (h.alloc (.cells #[.int .i64 k0, .int .i64 m0, .string d0] 37))
    have HS := Kept.mk hse
    have c0 := H.out.c0
    have c1 := H.out.c1
    clear h hse
    by_cases hk : k0 = 0
    · have HK := Kept.mk hk
      subst hk
      go_enter Tryz.func10, Tryz.ntmps10
      go_wp2_with (first
        | (at_delete
           refine wpList_delete_own _ rfl _ _ 56 9 rfl 37 strK Tryz.underlying56 entR b n _ rfl H.out.own _ _ rfl (keyStr s hs) ?_
           intro w1 hown1 ht1
           have H1 := Kept.mk (H.out.struck s HS.out ⟨0, m0, d0⟩ rfl hown1 ht1.grown)
           have HO : Kept (Only (· = b) w w1) := ⟨((Only.refl (· = b) w).alloc _).trans (only_of_grown ht1.grown) (fun _ _ h => h)⟩
           clear hown1 ht1))
      refine bodyPost_ret (results_none rfl _ _ _) rfl ?_
      exact ⟨rfl, H1, HO.out⟩
    · have HK := Kept.mk hk
      go_enter Tryz.func10, Tryz.ntmps10
      go_wp2
      obtain ⟨w1, hrun, hown1, hg1⟩ := H.out.drew.own.update strK Tryz.underlying56 (by unfold maxLen; omega) (keyStr s hs) (entR_V ⟨k0, m0, d0⟩)
      unfold entV at hrun
      have H1 := Kept.mk (H.out.drew.stored s HS.out ⟨k0, m0, d0⟩ HK.out hown1 hg1)
      have HO : Kept (Only (· = b) w w1) := ⟨((Only.refl (· = b) w).alloc _).drew.trans (only_of_grown hg1) (fun _ _ h => h)⟩
      clear hown1 hg1
      go_region_law (go_simp)
      all_goals
        refine bodyPost_end (results_none rfl _ _ _) rfl ?_
        exact ⟨rfl, H1, HO.out⟩
end St
end Go.Proofs.YtjmblgahoejoiaaGreatDoor
