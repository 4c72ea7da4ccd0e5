/-
  Parts of the proof, merged.
-/
import Derived.Test.YtlggpefmojacoaaGreatDoorLa33
namespace Go.Proofs.YtlggpefmojacoaaGreatDoor
section
open Go.RowKit Tx
namespace Wx
def Six (w : World) (bx : Nat) (kk : Int) (q : Bool) (t n o : List UInt8) (v : Value) : Prop :=
 w.cell? ⟨bx, 0, none⟩ = some (.int .i64 kk) ∧ w.cell? ⟨bx, 1, none⟩ = some (.bool q) ∧ w.cell? ⟨bx, 2, none⟩ = some (.string (bs t)) ∧ w.cell? ⟨bx, 3, none⟩ = some (.string (bs n)) ∧ w.cell? ⟨bx, 4, none⟩ = some (.string (bs o)) ∧ w.cell? ⟨bx, 5, none⟩ = some v
theorem six_of {w : World} {bx : Nat} {kk : Int} {q : Bool} {t n o : List UInt8} {v : Value} (h : w.heap[bx]? = some (.cells #[.int .i64 kk, .bool q, .string (bs t), .string (bs n), .string (bs o), v] 125 (0, 0))) : Six w bx kk q t n o v :=
 ⟨cell_of_row _ _ 0 _ _ _ h, cell_of_row _ _ 1 _ _ _ h, cell_of_row _ _ 2 _ _ _ h, cell_of_row _ _ 3 _ _ _ h, cell_of_row _ _ 4 _ _ _ h, cell_of_row _ _ 5 _ _ _ h⟩
set_option maxHeartbeats 16000000 in
set_option maxRecDepth 100000 in
theorem addP_any (w9 : World) (b : Nat) (dep : Int) (ps9 : List Pt) (it : Bool) (t : List UInt8) (q : Bool) (pv9 tv9 : Value) (h : RdM w9 b dep ps9 it t q pv9 tv9) (hl : ps9.length ≤ 29999700) (kk : Int) (q2 : Bool) (tt nn oo : List UInt8) (wd : List Pt) (A : Option Addr) (wl k : Nat) (hw : LV (Ot b pv9 tv9) w9 (.slice A wl k) wd) :
   Calls Tryz.prog 164 #[.pointer (some ⟨b, 0, none⟩), .agg #[.int .i64 kk, .bool q2, .string (bs tt), .string (bs nn), .string (bs oo), .slice A wl k]] w9 fun e w' => e = .returned (.tuple #[]) ∧ ∃ pv' tv', Kept (RdM w' b dep ((ps9 ++ if it then [txt q t] else []) ++ [.mk kk q2 tt nn oo wd]) false [] q pv' tv') ∧ Kept (Fr b pv9 tv9 pv' tv' w9 w') := by
 obtain ⟨i0, hi, hz0, hz1, hz2⟩ := info_parts partInfo
 have HL9 := Kept.mk hl
 have hB := (Below.refl w9.heap.size w9).alloc (Nat.le_refl _) (.cells #[.int .i64 kk, .bool q2, .string (bs tt), .string (bs nn), .string (bs oo), .slice A wl k] 125)
 have H9 := Kept.mk (h.keepB hB)
 have HOt9 : Kept (Ot b pv9 tv9 w9.heap.size) := ⟨⟨h.lt, fun e => by
   obtain ⟨xs, ho, _⟩ := h.parts
   have := (own_lt ho _ e).2
   omega, fun e => by have := (h.text.lt _ e).2; omega⟩⟩
 have HX9 := Kept.mk (heap_alloc_new w9 (.cells #[.int .i64 kk, .bool q2, .string (bs tt), .string (bs nn), .string (bs oo), .slice A wl k] 125))
 have HW9 := Kept.mk (hw.old.keep hB)
 have HB9 : Kept (Below b w9 (w9.alloc (.cells #[.int .i64 kk, .bool q2, .string (bs tt), .string (bs nn), .string (bs oo), .slice A wl k] 125))) := ⟨hB.mono (Nat.le_of_lt h.lt)⟩
 have HFr9 : Kept (Fr b pv9 tv9 pv9 tv9 w9 (w9.alloc (.cells #[.int .i64 kk, .bool q2, .string (bs tt), .string (bs nn), .string (bs oo), .slice A wl k] 125))) := ⟨⟨HB9.out, fun g hg hl => ⟨hg, hB.block g hl⟩⟩⟩
 clear h hw hl hB
 go_enter Tryz.func164, Tryz.ntmps164
 go_wp2_with fail
 generalize hbx : w9.heap.size = bx at *
 have HBxE := Kept.mk hbx
 clear hbx
 go_at_call 137
 refine (endText_any _ b dep ps9 it t q pv9 tv9 H9.out (by have := HL9.out; omega)).mono ?_
 rintro e w ⟨rfl, pv, tv, H, HFrA⟩
 have hot := HFrA.out.ot bx HOt9.out (Array.getElem?_eq_some_iff.1 HX9.out).1
 have HBx := Kept.mk (hot.2.trans HX9.out)
 have HOt : Kept (Ot b pv tv bx ∧ bx < w.heap.size) := ⟨⟨hot.1, (Array.getElem?_eq_some_iff.1 HBx.out).1⟩⟩
 have HW : Kept (LV (Ot b pv tv) w (.slice A wl k) wd) := ⟨HW9.out.same (fun g hg hl => HFrA.out.ot g hg.1 hl) HFrA.out.bl.size⟩
 have HFr := Kept.mk (HFr9.out.trans HFrA.out)
 have HL : Kept ((ps9 ++ if it then [txt q t] else []).length ≤ 30000000) := ⟨by have := HL9.out; cases it <;> simp <;> omega⟩
 clear hot HX9 HW9 HOt9 HB9 HFr9 HFrA H9 HL9 HBxE
 generalize hpsE : (ps9 ++ if it then [txt q t] else []) = ps at *
 have HPs := Kept.mk hpsE
 clear hpsE
 have h := H.out
 obtain ⟨xs, ho, hx0⟩ := h.parts
 obtain ⟨Ap, cp, rfl⟩ := own_slice ho
 have HO := Kept.mk ho
 have c1 := h.c1
 have HBs := Kept.mk h.lt
 clear h ho
 have HX := Kept.mk hx0
 have hxl : xs.length = ps.length * 6 := hx0.length
 have HXl := Kept.mk hxl
 have HOd : Kept ((w.alloc (.cells zeroP.toArray 125)).drew.ownsRow (b + 1) 125 6 (.slice Ap ps.length cp) ps.length xs) := ⟨own_keep HO.out fun g hg => Below.heap_alloc w _ g (own_lt HO.out g hg).2⟩
 have HZ : Kept ((w.alloc (.cells zeroP.toArray 125)).drew.heap[w.heap.size]? = some (.cells zeroP.toArray 125 (0, 0))) := ⟨heap_alloc_new w _⟩
 clear hx0 hxl
 have a1 : (w.alloc (.cells #[.int .i64 0, .bool false, .string ⟨#[]⟩, .string ⟨#[]⟩, .string ⟨#[]⟩, .slice none 0 0] 125)).cell? ⟨b, 1, none⟩ = some (.slice Ap ps.length cp) := (World.cell?_of_block (a := ⟨b, 1, none⟩) (Below.heap_alloc w _ b HBs.out)).trans c1
 have a1d : (w.alloc (.cells #[.int .i64 0, .bool false, .string ⟨#[]⟩, .string ⟨#[]⟩, .string ⟨#[]⟩, .slice none 0 0] 125)).drew.cell? ⟨b, 1, none⟩ = some (.slice Ap ps.length cp) := a1
 have S0 := six_of HBx.out
 have S1 : Six (w.alloc (.cells #[.int .i64 0, .bool false, .string ⟨#[]⟩, .string ⟨#[]⟩, .string ⟨#[]⟩, .slice none 0 0] 125)).drew bx kk q2 tt nn oo (.slice A wl k) := six_of ((Below.heap_alloc w _ bx HOt.out.2).trans HBx.out)
 unfold zeroP at HOd HZ
 unfold Six at S0 S1
 go_wp2_with fail
 refine wp_region_held_drew (S := fun w' => w'.cell? ⟨bx, 0, none⟩ = some (.int .i64 kk) ∧ w'.cell? ⟨bx, 1, none⟩ = some (.bool q2) ∧ w'.cell? ⟨bx, 2, none⟩ = some (.string (bs tt)) ∧ w'.cell? ⟨bx, 3, none⟩ = some (.string (bs nn)) ∧ w'.cell? ⟨bx, 4, none⟩ = some (.string (bs oo)) ∧ w'.cell? ⟨bx, 5, none⟩ = some (.slice A wl k)) (by kernel_rfl) S0 (fun hHeld => ?_)
 refine Take.run (i := 0) (d := some 6) (v := (.pointer (some ⟨b, 0, none⟩))) rfl (by kernel_rfl) (by kernel_rfl) (by kernel_rfl) (fun _ _ _ h => h) (by rfl) (by
   intro oi hoi w' hSw
   cases hoi
   obtain ⟨x0, x1, x2, x3, x4, x5⟩ := hSw
   go_simp) (by assumption) ?_
 simp only [Act.put, List.setIfInBounds_toArray, List.set_cons_zero, List.set_cons_succ]
 refine Take.run (i := 1) (d := some 7) (v := (.pointer (some ⟨b, 0, none⟩))) rfl (by kernel_rfl) (by kernel_rfl) (by kernel_rfl) (fun _ _ _ h => h) (by rfl) (by
   intro oi hoi w' hSw
   cases hoi
   obtain ⟨x0, x1, x2, x3, x4, x5⟩ := hSw
   go_simp) (by assumption) ?_
 simp only [Act.put, List.setIfInBounds_toArray, List.set_cons_zero, List.set_cons_succ]
 refine Take.run (i := 2) (d := some 8) (v := (.pointer (some ⟨b, 1, none⟩))) rfl (by kernel_rfl) (by kernel_rfl) (by kernel_rfl) (fun _ _ _ h => h) (by rfl) (by
   intro oi hoi w' hSw
   cases hoi
   obtain ⟨x0, x1, x2, x3, x4, x5⟩ := hSw
   go_simp) (by assumption) ?_
 simp only [Act.put, List.setIfInBounds_toArray, List.set_cons_zero, List.set_cons_succ]
 refine Take.run (i := 4) (d := some 10) (v := (.agg #[.int .i64 kk, .bool q2, .string (bs tt), .string (bs nn), .string (bs oo), .slice A wl k])) rfl (by kernel_rfl) (by kernel_rfl) (by kernel_rfl) (fun _ _ _ h => h) (by rfl) (by
   intro oi hoi w' hSw
   cases hoi
   obtain ⟨x0, x1, x2, x3, x4, x5⟩ := hSw
   go_simp) (by assumption) ?_
 simp only [Act.put, List.setIfInBounds_toArray, List.set_cons_zero, List.set_cons_succ]
 refine wpAnyH_ready (rs := [3, 6]) (by kernel_rfl) (by simp) ?_
 refine AllReadyH.cons rfl (fun K hK => ?_) (AllReadyH.cons rfl (fun K hK => ?_) AllReadyH.nil)
 · go_simp
   refine hK.out _ _ S0 (fun hHeld => ?_)
   clear hK
   try simp only [Act.put, List.setIfInBounds_toArray, List.set_cons_zero, List.set_cons_succ]
   refine Take.run (i := 5) (d := some 11) (v := (.int .i64 (ps.length : Int))) rfl (by kernel_rfl) (by kernel_rfl) (by kernel_rfl) (fun _ _ _ h => h) (by rfl) (by
     intro oi hoi w' hSw
     cases hoi
     obtain ⟨x0, x1, x2, x3, x4, x5⟩ := hSw
     go_simp) (by assumption) ?_
   simp only [Act.put, List.setIfInBounds_toArray, List.set_cons_zero, List.set_cons_succ]
   refine wpAnyH_ready (rs := [6]) (by kernel_rfl) (by simp) ?_
   refine AllReadyH.cons rfl (fun K hK => ?_) AllReadyH.nil
   go_simp
   refine hK.out _ _ S1 (fun hHeld => ?_)
   clear hK
   try simp only [Act.put, List.setIfInBounds_toArray, List.set_cons_zero, List.set_cons_succ]
   refine wpAnyH_ready (rs := [7]) (by kernel_rfl) (by simp) ?_
   refine AllReadyH.cons rfl (fun K hK => ?_) AllReadyH.nil
   refine wp_append_lies _ _ _ 121 rfl (b + 1) 125 i0 _ 6 88 Tryz.underlying121 hi hz0 hz1 hz2 rfl (by decide) _ _ _ rfl HOd.out ⟨w.heap.size, 0, none⟩ 1 1 zeroP rfl rfl (zero_new HZ.out) zero_one (by decide) (by unfold maxLen; have := HL.out; omega) (by have := HL.out; omega) (by have := HBs.out; simp; omega) (w.heap.size + 1) (by simp) ?_
   intro g2 cap2 w2 ho2 hg2 hat hlt2
   have HO2 := Kept.mk ho2
   have HG2 := Kept.mk hg2
   have HB2 : Kept (b < g2) := ⟨by have := (own_lt ho2 g2 rfl).1; omega⟩
   have hr2 := (grown_row H.out hg2).2.trans H.out.row
   have HR2 := Kept.mk hr2
   have k1 : w2.cell? ⟨b, 1, none⟩ = some (.slice Ap ps.length cp) := cell_of_row _ _ 1 _ _ _ hr2
   have kf : w2.frozen? ⟨b, 1, none⟩ = false := frozen_of_row _ _ 1 _ _ hr2
   have ix : (ps.length : Int) < (ps.length : Int) + 1 := by omega
   have HP1 := Kept.mk (Put.first (ys := (pvs kk q2 tt nn oo (.slice A wl k))) hr2 HB2.out ho2 HXl.out rfl rfl)
   have HP2 := Kept.mk (Put.last (ys := (pvs kk q2 tt nn oo (.slice A wl k))) hr2 HB2.out ho2 HXl.out rfl rfl)
   have HQ1 := Kept.mk (H.out.put HO.out HX.out hg2 hat HB2.out (kk := kk) (q' := q2) (tt := tt) (nn := nn) (oo := oo) (wd := wd) (vv := .slice A wl k) rfl HW.out HP1.out)
   have HQ2 := Kept.mk (H.out.put HO.out HX.out hg2 hat HB2.out (kk := kk) (q' := q2) (tt := tt) (nn := nn) (oo := oo) (wd := wd) (vv := .slice A wl k) rfl HW.out HP2.out)
   have hbx2 := ((grown_row H.out hg2).1 bx HOt.out.2 HOt.out.1.2.1).trans HBx.out
   have hne : bx ≠ g2 := fun e => (HQ1.out.2.ot bx HOt.out.1 HOt.out.2).1.2.1 (by rw [e]; rfl)
   have hne2 : bx ≠ b := by have := HOt.out.1.1; omega
   have bg : b ≠ g2 := by have := HB2.out; omega
   have gb : g2 ≠ b := by have := HB2.out; omega
   have S2 := six_of hbx2
   have S3 := six_of ((setCells_far g2 [.int .i64 kk, .bool q2, .string (bs tt), .string (bs nn), .string (bs oo), .slice A wl k] (ps.length * 6) w2 bx hne).trans hbx2)
   have S4 := six_of ((Below.heap_setCell w2 ⟨b, 1, none⟩ (.slice (some ⟨g2, 0, none⟩) (ps.length + 1) cap2) bx hne2).trans hbx2)
   have S5 := six_of ((Below.heap_setCell (w2.setCells g2 (ps.length * 6) [.int .i64 kk, .bool q2, .string (bs tt), .string (bs nn), .string (bs oo), .slice A wl k]) ⟨b, 1, none⟩ (.slice (some ⟨g2, 0, none⟩) (ps.length + 1) cap2) bx hne2).trans ((setCells_far g2 [.int .i64 kk, .bool q2, .string (bs tt), .string (bs nn), .string (bs oo), .slice A wl k] (ps.length * 6) w2 bx hne).trans hbx2))
   have S6 := six_of ((setCells_far g2 [.int .i64 kk, .bool q2, .string (bs tt), .string (bs nn), .string (bs oo), .slice A wl k] (ps.length * 6) (w2.setCell ⟨b, 1, none⟩ (.slice (some ⟨g2, 0, none⟩) (ps.length + 1) cap2)) bx hne).trans ((Below.heap_setCell w2 ⟨b, 1, none⟩ (.slice (some ⟨g2, 0, none⟩) (ps.length + 1) cap2) bx hne2).trans hbx2))
   have m1 : (w2.setCells g2 (ps.length * 6) [.int .i64 kk, .bool q2, .string (bs tt), .string (bs nn), .string (bs oo), .slice A wl k]).cell? ⟨b, 1, none⟩ = some (.slice Ap ps.length cp) := cell_of_row _ _ 1 _ _ _ ((setCells_far g2 [.int .i64 kk, .bool q2, .string (bs tt), .string (bs nn), .string (bs oo), .slice A wl k] (ps.length * 6) w2 b bg).trans hr2)
   have mf : (w2.setCells g2 (ps.length * 6) [.int .i64 kk, .bool q2, .string (bs tt), .string (bs nn), .string (bs oo), .slice A wl k]).frozen? ⟨b, 1, none⟩ = false := frozen_of_row _ _ 1 _ _ ((setCells_far g2 [.int .i64 kk, .bool q2, .string (bs tt), .string (bs nn), .string (bs oo), .slice A wl k] (ps.length * 6) w2 b bg).trans hr2)
   clear hbx2
   unfold Six at S2 S3 S4 S5 S6
   refine hK.out _ _ S2 (fun hHeld => ?_)
   clear hK
   try simp only [Act.put, List.setIfInBounds_toArray]
   refine Take.run (i := 8) (d := some 14) (v := (.pointer (some ⟨g2, ps.length * 6, none⟩))) rfl (by kernel_rfl) (by kernel_rfl) (by kernel_rfl) (fun _ _ _ h => h) (by rfl) (by
     intro oi hoi w' hSw
     cases hoi
     obtain ⟨x0, x1, x2, x3, x4, x5⟩ := hSw
     go_simp) (by assumption) ?_
   simp only [Act.put]
   refine Take.run (i := 10) (d := some 15) (v := (.pointer (some ⟨b, 0, none⟩))) rfl (by kernel_rfl) (by kernel_rfl) (by kernel_rfl) (fun _ _ _ h => h) (by rfl) (by
     intro oi hoi w' hSw
     cases hoi
     obtain ⟨x0, x1, x2, x3, x4, x5⟩ := hSw
     go_simp) (by assumption) ?_
   simp only [Act.put]
   refine Take.run (i := 11) (d := some 16) (v := (.pointer (some ⟨b, 1, none⟩))) rfl (by kernel_rfl) (by kernel_rfl) (by kernel_rfl) (fun _ _ _ h => h) (by rfl) (by
     intro oi hoi w' hSw
     cases hoi
     obtain ⟨x0, x1, x2, x3, x4, x5⟩ := hSw
     go_simp) (by assumption) ?_
   simp only [Act.put]
   refine wpAnyH_ready (rs := [9, 12]) (by kernel_rfl) (by simp) ?_
   refine AllReadyH.cons rfl (fun K hK => ?_) (AllReadyH.cons rfl (fun K hK => ?_) AllReadyH.nil)
   · refine wp_store_mid _ _ _ rfl g2 (ps.length * 6) #[.int .i64 kk, .bool q2, .string (bs tt), .string (bs nn), .string (bs oo), .slice A wl k] rfl rfl (own_there HO2.out) partInfo2 (by simp [Value.oneCell']) ?_
     refine hK.out _ _ S3 (fun hHeld => ?_)
     clear hK
     try simp only [Act.put]
     refine wpAnyH_ready (rs := [12]) (by kernel_rfl) (by simp) ?_
     refine AllReadyH.cons rfl (fun K hK => ?_) AllReadyH.nil
     go_simp
     refine hK.out _ _ S5 (fun hHeld => ?_)
     clear hK
     try simp only [Act.put, List.setIfInBounds_toArray, List.set_cons_zero, List.set_cons_succ]
     refine wpAnyH_done (by kernel_rfl) ?_ _
     have HF := HQ1
     clear HQ1 HQ2 HP1 HP2
     refine bodyPost_end (results_none rfl _ _ _) rfl ?_
     exact ⟨rfl, .slice (some ⟨g2, 0, none⟩) (ps.length + 1) cap2, tv, ⟨by rw [HPs.out]; exact HF.out.1⟩, ⟨HFr.out.trans HF.out.2⟩⟩
   · go_simp
     refine hK.out _ _ S4 (fun hHeld => ?_)
     clear hK
     try simp only [Act.put, List.setIfInBounds_toArray, List.set_cons_zero, List.set_cons_succ]
     refine wpAnyH_ready (rs := [9]) (by kernel_rfl) (by simp) ?_
     refine AllReadyH.cons rfl (fun K hK => ?_) AllReadyH.nil
     refine wp_store_mid _ _ _ rfl g2 (ps.length * 6) #[.int .i64 kk, .bool q2, .string (bs tt), .string (bs nn), .string (bs oo), .slice A wl k] rfl rfl (own_there (own_apart HO2.out gb (.slice (some ⟨g2, 0, none⟩) (ps.length + 1) cap2))) partInfo2 (by simp [Value.oneCell']) ?_
     refine hK.out _ _ S6 (fun hHeld => ?_)
     clear hK
     try simp only [Act.put, List.setIfInBounds_toArray]
     refine wpAnyH_done (by kernel_rfl) ?_ _
     have HF := HQ2
     clear HQ1 HQ2 HP1 HP2
     refine bodyPost_end (results_none rfl _ _ _) rfl ?_
     exact ⟨rfl, .slice (some ⟨g2, 0, none⟩) (ps.length + 1) cap2, tv, ⟨by rw [HPs.out]; exact HF.out.1⟩, ⟨HFr.out.trans HF.out.2⟩⟩
 · go_simp
   refine hK.out _ _ S1 (fun hHeld => ?_)
   clear hK
   try simp only [Act.put, List.setIfInBounds_toArray, List.set_cons_zero, List.set_cons_succ]
   refine wpAnyH_ready (rs := [3]) (by kernel_rfl) (by simp) ?_
   refine AllReadyH.cons rfl (fun K hK => ?_) AllReadyH.nil
   go_simp
   refine hK.out _ _ S1 (fun hHeld => ?_)
   clear hK
   try simp only [Act.put, List.setIfInBounds_toArray, List.set_cons_zero, List.set_cons_succ]
   refine Take.run (i := 5) (d := some 11) (v := (.int .i64 (ps.length : Int))) rfl (by kernel_rfl) (by kernel_rfl) (by kernel_rfl) (fun _ _ _ h => h) (by rfl) (by
     intro oi hoi w' hSw
     cases hoi
     obtain ⟨x0, x1, x2, x3, x4, x5⟩ := hSw
     go_simp) (by assumption) ?_
   simp only [Act.put, List.setIfInBounds_toArray, List.set_cons_zero, List.set_cons_succ]
   refine wpAnyH_ready (rs := [7]) (by kernel_rfl) (by simp) ?_
   refine AllReadyH.cons rfl (fun K hK => ?_) AllReadyH.nil
   refine wp_append_lies _ _ _ 121 rfl (b + 1) 125 i0 _ 6 88 Tryz.underlying121 hi hz0 hz1 hz2 rfl (by decide) _ _ _ rfl HOd.out ⟨w.heap.size, 0, none⟩ 1 1 zeroP rfl rfl (zero_new HZ.out) zero_one (by decide) (by unfold maxLen; have := HL.out; omega) (by have := HL.out; omega) (by have := HBs.out; simp; omega) (w.heap.size + 1) (by simp) ?_
   intro g2 cap2 w2 ho2 hg2 hat hlt2
   have HO2 := Kept.mk ho2
   have HG2 := Kept.mk hg2
   have HB2 : Kept (b < g2) := ⟨by have := (own_lt ho2 g2 rfl).1; omega⟩
   have hr2 := (grown_row H.out hg2).2.trans H.out.row
   have HR2 := Kept.mk hr2
   have k1 : w2.cell? ⟨b, 1, none⟩ = some (.slice Ap ps.length cp) := cell_of_row _ _ 1 _ _ _ hr2
   have kf : w2.frozen? ⟨b, 1, none⟩ = false := frozen_of_row _ _ 1 _ _ hr2
   have ix : (ps.length : Int) < (ps.length : Int) + 1 := by omega
   have HP1 := Kept.mk (Put.first (ys := (pvs kk q2 tt nn oo (.slice A wl k))) hr2 HB2.out ho2 HXl.out rfl rfl)
   have HP2 := Kept.mk (Put.last (ys := (pvs kk q2 tt nn oo (.slice A wl k))) hr2 HB2.out ho2 HXl.out rfl rfl)
   have HQ1 := Kept.mk (H.out.put HO.out HX.out hg2 hat HB2.out (kk := kk) (q' := q2) (tt := tt) (nn := nn) (oo := oo) (wd := wd) (vv := .slice A wl k) rfl HW.out HP1.out)
   have HQ2 := Kept.mk (H.out.put HO.out HX.out hg2 hat HB2.out (kk := kk) (q' := q2) (tt := tt) (nn := nn) (oo := oo) (wd := wd) (vv := .slice A wl k) rfl HW.out HP2.out)
   have hbx2 := ((grown_row H.out hg2).1 bx HOt.out.2 HOt.out.1.2.1).trans HBx.out
   have hne : bx ≠ g2 := fun e => (HQ1.out.2.ot bx HOt.out.1 HOt.out.2).1.2.1 (by rw [e]; rfl)
   have hne2 : bx ≠ b := by have := HOt.out.1.1; omega
   have bg : b ≠ g2 := by have := HB2.out; omega
   have gb : g2 ≠ b := by have := HB2.out; omega
   have S2 := six_of hbx2
   have S3 := six_of ((setCells_far g2 [.int .i64 kk, .bool q2, .string (bs tt), .string (bs nn), .string (bs oo), .slice A wl k] (ps.length * 6) w2 bx hne).trans hbx2)
   have S4 := six_of ((Below.heap_setCell w2 ⟨b, 1, none⟩ (.slice (some ⟨g2, 0, none⟩) (ps.length + 1) cap2) bx hne2).trans hbx2)
   have S5 := six_of ((Below.heap_setCell (w2.setCells g2 (ps.length * 6) [.int .i64 kk, .bool q2, .string (bs tt), .string (bs nn), .string (bs oo), .slice A wl k]) ⟨b, 1, none⟩ (.slice (some ⟨g2, 0, none⟩) (ps.length + 1) cap2) bx hne2).trans ((setCells_far g2 [.int .i64 kk, .bool q2, .string (bs tt), .string (bs nn), .string (bs oo), .slice A wl k] (ps.length * 6) w2 bx hne).trans hbx2))
   have S6 := six_of ((setCells_far g2 [.int .i64 kk, .bool q2, .string (bs tt), .string (bs nn), .string (bs oo), .slice A wl k] (ps.length * 6) (w2.setCell ⟨b, 1, none⟩ (.slice (some ⟨g2, 0, none⟩) (ps.length + 1) cap2)) bx hne).trans ((Below.heap_setCell w2 ⟨b, 1, none⟩ (.slice (some ⟨g2, 0, none⟩) (ps.length + 1) cap2) bx hne2).trans hbx2))
   have m1 : (w2.setCells g2 (ps.length * 6) [.int .i64 kk, .bool q2, .string (bs tt), .string (bs nn), .string (bs oo), .slice A wl k]).cell? ⟨b, 1, none⟩ = some (.slice Ap ps.length cp) := cell_of_row _ _ 1 _ _ _ ((setCells_far g2 [.int .i64 kk, .bool q2, .string (bs tt), .string (bs nn), .string (bs oo), .slice A wl k] (ps.length * 6) w2 b bg).trans hr2)
   have mf : (w2.setCells g2 (ps.length * 6) [.int .i64 kk, .bool q2, .string (bs tt), .string (bs nn), .string (bs oo), .slice A wl k]).frozen? ⟨b, 1, none⟩ = false := frozen_of_row _ _ 1 _ _ ((setCells_far g2 [.int .i64 kk, .bool q2, .string (bs tt), .string (bs nn), .string (bs oo), .slice A wl k] (ps.length * 6) w2 b bg).trans hr2)
   clear hbx2
   unfold Six at S2 S3 S4 S5 S6
   refine hK.out _ _ S2 (fun hHeld => ?_)
   clear hK
   try simp only [Act.put, List.setIfInBounds_toArray]
   refine Take.run (i := 8) (d := some 14) (v := (.pointer (some ⟨g2, ps.length * 6, none⟩))) rfl (by kernel_rfl) (by kernel_rfl) (by kernel_rfl) (fun _ _ _ h => h) (by rfl) (by
     intro oi hoi w' hSw
     cases hoi
     obtain ⟨x0, x1, x2, x3, x4, x5⟩ := hSw
     go_simp) (by assumption) ?_
   simp only [Act.put]
   refine Take.run (i := 10) (d := some 15) (v := (.pointer (some ⟨b, 0, none⟩))) rfl (by kernel_rfl) (by kernel_rfl) (by kernel_rfl) (fun _ _ _ h => h) (by rfl) (by
     intro oi hoi w' hSw
     cases hoi
     obtain ⟨x0, x1, x2, x3, x4, x5⟩ := hSw
     go_simp) (by assumption) ?_
   simp only [Act.put]
   refine Take.run (i := 11) (d := some 16) (v := (.pointer (some ⟨b, 1, none⟩))) rfl (by kernel_rfl) (by kernel_rfl) (by kernel_rfl) (fun _ _ _ h => h) (by rfl) (by
     intro oi hoi w' hSw
     cases hoi
     obtain ⟨x0, x1, x2, x3, x4, x5⟩ := hSw
     go_simp) (by assumption) ?_
   simp only [Act.put]
   refine wpAnyH_ready (rs := [9, 12]) (by kernel_rfl) (by simp) ?_
   refine AllReadyH.cons rfl (fun K hK => ?_) (AllReadyH.cons rfl (fun K hK => ?_) AllReadyH.nil)
   · refine wp_store_mid _ _ _ rfl g2 (ps.length * 6) #[.int .i64 kk, .bool q2, .string (bs tt), .string (bs nn), .string (bs oo), .slice A wl k] rfl rfl (own_there HO2.out) partInfo2 (by simp [Value.oneCell']) ?_
     refine hK.out _ _ S3 (fun hHeld => ?_)
     clear hK
     try simp only [Act.put]
     refine wpAnyH_ready (rs := [12]) (by kernel_rfl) (by simp) ?_
     refine AllReadyH.cons rfl (fun K hK => ?_) AllReadyH.nil
     go_simp
     refine hK.out _ _ S5 (fun hHeld => ?_)
     clear hK
     try simp only [Act.put, List.setIfInBounds_toArray, List.set_cons_zero, List.set_cons_succ]
     refine wpAnyH_done (by kernel_rfl) ?_ _
     have HF := HQ1
     clear HQ1 HQ2 HP1 HP2
     refine bodyPost_end (results_none rfl _ _ _) rfl ?_
     exact ⟨rfl, .slice (some ⟨g2, 0, none⟩) (ps.length + 1) cap2, tv, ⟨by rw [HPs.out]; exact HF.out.1⟩, ⟨HFr.out.trans HF.out.2⟩⟩
   · go_simp
     refine hK.out _ _ S4 (fun hHeld => ?_)
     clear hK
     try simp only [Act.put, List.setIfInBounds_toArray, List.set_cons_zero, List.set_cons_succ]
     refine wpAnyH_ready (rs := [9]) (by kernel_rfl) (by simp) ?_
     refine AllReadyH.cons rfl (fun K hK => ?_) AllReadyH.nil
     refine wp_store_mid _ _ _ rfl g2 (ps.length * 6) #[.int .i64 kk, .bool q2, .string (bs tt), .string (bs nn), .string (bs oo), .slice A wl k] rfl rfl (own_there (own_apart HO2.out gb (.slice (some ⟨g2, 0, none⟩) (ps.length + 1) cap2))) partInfo2 (by simp [Value.oneCell']) ?_
     refine hK.out _ _ S6 (fun hHeld => ?_)
     clear hK
     try simp only [Act.put, List.setIfInBounds_toArray]
     refine wpAnyH_done (by kernel_rfl) ?_ _
     have HF := HQ2
     clear HQ1 HQ2 HP1 HP2
     refine bodyPost_end (results_none rfl _ _ _) rfl ?_
     exact ⟨rfl, .slice (some ⟨g2, 0, none⟩) (ps.length + 1) cap2, tv, ⟨by rw [HPs.out]; exact HF.out.1⟩, ⟨HFr.out.trans HF.out.2⟩⟩
end Wx
end
end Go.Proofs.YtlggpefmojacoaaGreatDoor
