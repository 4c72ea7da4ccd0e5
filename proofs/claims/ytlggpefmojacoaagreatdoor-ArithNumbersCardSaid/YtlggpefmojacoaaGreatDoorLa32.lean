/-
  Parts of the proof, merged.
-/
import Derived.Test.YtlggpefmojacoaaGreatDoorLa31
namespace Go.Proofs.YtlggpefmojacoaaGreatDoor
section
open Go.RowKit Tx
namespace Wx
theorem held1r {w2 : World} {b g : Nat} {dep : Int} {it q : Bool} {pv tv : Value} (hr : w2.heap[b]? = some (.cells #[.int .i64 dep, pv, .bool it, tv, .bool q] 149 (0, 0))) (hb : b ≠ g) (o : Nat) (ys : List Value) : (w2.setCells g o ys).heap[b]? = some (.cells #[.int .i64 dep, pv, .bool it, tv, .bool q] 149 (0, 0)) := (setCells_far g ys o w2 b hb).trans hr
theorem held2r {w2 : World} {b : Nat} {dep : Int} {it q : Bool} {pv tv : Value} (hr : w2.heap[b]? = some (.cells #[.int .i64 dep, pv, .bool it, tv, .bool q] 149 (0, 0))) (u : Value) : (w2.setCell ⟨b, 1, none⟩ u).heap[b]? = some (.cells #[.int .i64 dep, u, .bool it, tv, .bool q] 149 (0, 0)) := by have := heap_setCell_same w2 b 1 _ _ u hr; simpa using this
theorem held1 {w2 : World} {b g : Nat} {dep : Int} {it q : Bool} {t : List UInt8} {pv tv : Value} (hr : w2.heap[b]? = some (.cells #[.int .i64 dep, pv, .bool it, tv, .bool q] 149 (0, 0))) (hb : b ≠ g) (hbs : By.Bs w2 (b + 1) tv t) (hne : ∀ k, tv.ownBlock = some k → k ≠ g) (o : Nat) (ys : List Value) :
   (w2.setCells g o ys).cell? ⟨b, 3, none⟩ = some tv ∧ (w2.setCells g o ys).cell? ⟨b, 4, none⟩ = some (.bool q) ∧ By.Bs (w2.setCells g o ys) (b + 1) tv t :=
 ⟨cell_of_row _ _ 3 _ _ _ (held1r hr hb o ys), cell_of_row _ _ 4 _ _ _ (held1r hr hb o ys), hbs.keep (fun k hk => setCells_far g ys o w2 k (hne k hk)) (by rw [size_setCells]; exact Nat.le_refl _)⟩
theorem held2 {w2 : World} {b : Nat} {dep : Int} {it q : Bool} {t : List UInt8} {pv tv : Value} (hr : w2.heap[b]? = some (.cells #[.int .i64 dep, pv, .bool it, tv, .bool q] 149 (0, 0))) (hbs : By.Bs w2 (b + 1) tv t) (u : Value) :
   (w2.setCell ⟨b, 1, none⟩ u).cell? ⟨b, 3, none⟩ = some tv ∧ (w2.setCell ⟨b, 1, none⟩ u).cell? ⟨b, 4, none⟩ = some (.bool q) ∧ By.Bs (w2.setCell ⟨b, 1, none⟩ u) (b + 1) tv t :=
 ⟨cell_of_row _ _ 3 _ _ _ (held2r hr u), cell_of_row _ _ 4 _ _ _ (held2r hr u), hbs.keep (fun k hk => Below.heap_setCell w2 _ _ k (by have := (hbs.lt k hk).1; show k ≠ b; omega)) (by simp [World.setCell])⟩
theorem grown_text {w w2 : World} {b : Nat} {dep : Int} {ps : List Pt} {it q : Bool} {t : List UInt8} {pv tv : Value} {o : Obj} (H : RdM w b dep ps it t q pv tv) (hgr : (w.alloc o).drew.grownBy w2 pv.ownBlock) : By.Bs w2 (b + 1) tv t :=
 H.text.keep (fun k hk => (grown_row H hgr).1 k (H.text.lt k hk).2 fun e => H.sep k e hk) (by have := hgr.size; simp at this; omega)
set_option maxHeartbeats 16000000 in
set_option maxRecDepth 100000 in
theorem endText_yes (w : World) (b : Nat) (dep : Int) (ps : List Pt) (t : List UInt8) (q : Bool) (pv tv : Value) (h : RdM w b dep ps true t q pv tv) (hl : ps.length ≤ 30000000) :
   Calls Tryz.prog 137 #[.pointer (some ⟨b, 0, none⟩)] w fun e w' => e = .returned (.tuple #[]) ∧ ∃ pv' tv', Kept (RdM w' b dep (ps ++ [txt q t]) false [] q pv' tv') ∧ Kept (Fr b pv tv pv' tv' w w') := by
 obtain ⟨i0, hi, hz0, hz1, hz2⟩ := info_parts partInfo
 have H := Kept.mk h
 obtain ⟨xs, ho, hx0⟩ := h.parts
 obtain ⟨Ap, cp, rfl⟩ := own_slice ho
 have HO := Kept.mk ho
 have c1 := h.c1
 have c2 := h.c2
 have c3 := h.c3
 have c4 := h.c4
 have HL := Kept.mk hl
 have HBs := Kept.mk h.lt
 have HT := Kept.mk h.text
 have hcv : ∀ W : World, By.Bs W (b + 1) tv t → (convert 28 9 tv).run Tryz.prog W = .ok (.string (bs t)) W := fun W hW => By.run_string byteTy 9 Tryz.underlying9 hW
 have cv1 := hcv w h.text
 have cv2 := hcv w.drew h.text.drew
 have cv3 := hcv (w.alloc (.cells zeroP.toArray 125)) (h.text.alloc _)
 have cv4 := hcv (w.alloc (.cells zeroP.toArray 125)).drew (h.text.alloc _).drew
 have HCV := Kept.mk hcv
 clear hcv h ho
 have HX := Kept.mk hx0
 have hxl : xs.length = ps.length * 6 := hx0.length
 have HXl := Kept.mk hxl
 have HOd : Kept ((w.alloc (.cells zeroP.toArray 125)).drew.ownsRow (b + 1) 125 6 (.slice Ap ps.length cp) ps.length xs) := ⟨own_keep HO.out fun g hg => Below.heap_alloc w _ g (own_lt HO.out g hg).2⟩
 have HZ : Kept ((w.alloc (.cells zeroP.toArray 125)).drew.heap[w.heap.size]? = some (.cells zeroP.toArray 125 (0, 0))) := ⟨heap_alloc_new w _⟩
 clear hx0 hxl
 have a1 : (w.alloc (.cells #[.int .i64 0, .bool false, .string ⟨#[]⟩, .string ⟨#[]⟩, .string ⟨#[]⟩, .slice none 0 0] 125)).cell? ⟨b, 1, none⟩ = some (.slice Ap ps.length cp) := (World.cell?_of_block (a := ⟨b, 1, none⟩) (Below.heap_alloc w _ b HBs.out)).trans c1
 have a1d : (w.alloc (.cells #[.int .i64 0, .bool false, .string ⟨#[]⟩, .string ⟨#[]⟩, .string ⟨#[]⟩, .slice none 0 0] 125)).drew.cell? ⟨b, 1, none⟩ = some (.slice Ap ps.length cp) := a1
 have a3 : (w.alloc (.cells #[.int .i64 0, .bool false, .string ⟨#[]⟩, .string ⟨#[]⟩, .string ⟨#[]⟩, .slice none 0 0] 125)).cell? ⟨b, 3, none⟩ = some tv := (World.cell?_of_block (a := ⟨b, 3, none⟩) (Below.heap_alloc w _ b HBs.out)).trans c3
 have a3d : (w.alloc (.cells #[.int .i64 0, .bool false, .string ⟨#[]⟩, .string ⟨#[]⟩, .string ⟨#[]⟩, .slice none 0 0] 125)).drew.cell? ⟨b, 3, none⟩ = some tv := a3
 have a4 : (w.alloc (.cells #[.int .i64 0, .bool false, .string ⟨#[]⟩, .string ⟨#[]⟩, .string ⟨#[]⟩, .slice none 0 0] 125)).cell? ⟨b, 4, none⟩ = some (.bool q) := (World.cell?_of_block (a := ⟨b, 4, none⟩) (Below.heap_alloc w _ b HBs.out)).trans c4
 have a4d : (w.alloc (.cells #[.int .i64 0, .bool false, .string ⟨#[]⟩, .string ⟨#[]⟩, .string ⟨#[]⟩, .slice none 0 0] 125)).drew.cell? ⟨b, 4, none⟩ = some (.bool q) := a4
 unfold zeroP at cv3 cv4 HOd HZ
 go_enter Tryz.func137, Tryz.ntmps137
 go_wp2_with fail
 refine wp_region_held_drew (S := fun w' => w'.cell? ⟨b, 3, none⟩ = some tv ∧ w'.cell? ⟨b, 4, none⟩ = some (.bool q) ∧ (convert 28 9 tv).run Tryz.prog w' = .ok (.string (bs t)) w') (by kernel_rfl) ⟨c3, c4, cv2⟩ (fun hHeld => ?_)
 refine Take.run (i := 0) (d := some 6) (v := (.pointer (some ⟨b, 0, none⟩))) rfl (by kernel_rfl) (by kernel_rfl) (by kernel_rfl) (fun _ _ _ h => h) (by rfl) (by
   intro oi hoi w' hSw
   cases hoi
   obtain ⟨s3, s4, s5⟩ := hSw
   go_simp) (by assumption) ?_
 simp only [Act.put, List.setIfInBounds_toArray, List.set_cons_zero, List.set_cons_succ]
 refine Take.run (i := 1) (d := some 7) (v := (.pointer (some ⟨b, 0, none⟩))) rfl (by kernel_rfl) (by kernel_rfl) (by kernel_rfl) (fun _ _ _ h => h) (by rfl) (by
   intro oi hoi w' hSw
   cases hoi
   obtain ⟨s3, s4, s5⟩ := hSw
   go_simp) (by assumption) ?_
 simp only [Act.put, List.setIfInBounds_toArray, List.set_cons_zero, List.set_cons_succ]
 refine Take.run (i := 2) (d := some 8) (v := (.pointer (some ⟨b, 1, none⟩))) rfl (by kernel_rfl) (by kernel_rfl) (by kernel_rfl) (fun _ _ _ h => h) (by rfl) (by
   intro oi hoi w' hSw
   cases hoi
   obtain ⟨s3, s4, s5⟩ := hSw
   go_simp) (by assumption) ?_
 simp only [Act.put, List.setIfInBounds_toArray, List.set_cons_zero, List.set_cons_succ]
 refine Take.run (i := 4) (d := some 10) (v := (.pointer (some ⟨b, 0, none⟩))) rfl (by kernel_rfl) (by kernel_rfl) (by kernel_rfl) (fun _ _ _ h => h) (by rfl) (by
   intro oi hoi w' hSw
   cases hoi
   obtain ⟨s3, s4, s5⟩ := hSw
   go_simp) (by assumption) ?_
 simp only [Act.put, List.setIfInBounds_toArray, List.set_cons_zero, List.set_cons_succ]
 refine Take.run (i := 5) (d := some 11) (v := (.pointer (some ⟨b, 0, none⟩))) rfl (by kernel_rfl) (by kernel_rfl) (by kernel_rfl) (fun _ _ _ h => h) (by rfl) (by
   intro oi hoi w' hSw
   cases hoi
   obtain ⟨s3, s4, s5⟩ := hSw
   go_simp) (by assumption) ?_
 simp only [Act.put, List.setIfInBounds_toArray, List.set_cons_zero, List.set_cons_succ]
 refine Take.run (i := 6) (d := some 12) (v := (.pointer (some ⟨b, 4, none⟩))) rfl (by kernel_rfl) (by kernel_rfl) (by kernel_rfl) (fun _ _ _ h => h) (by rfl) (by
   intro oi hoi w' hSw
   cases hoi
   obtain ⟨s3, s4, s5⟩ := hSw
   go_simp) (by assumption) ?_
 simp only [Act.put, List.setIfInBounds_toArray, List.set_cons_zero, List.set_cons_succ]
 refine Take.run (i := 7) (d := some 13) (v := (.bool q)) rfl (by kernel_rfl) (by kernel_rfl) (by kernel_rfl) (fun _ _ _ h => h) (by rfl) (by
   intro oi hoi w' hSw
   cases hoi
   obtain ⟨s3, s4, s5⟩ := hSw
   go_simp) (by assumption) ?_
 simp only [Act.put, List.setIfInBounds_toArray, List.set_cons_zero, List.set_cons_succ]
 refine Take.run (i := 8) (d := some 14) (v := (.pointer (some ⟨b, 0, none⟩))) rfl (by kernel_rfl) (by kernel_rfl) (by kernel_rfl) (fun _ _ _ h => h) (by rfl) (by
   intro oi hoi w' hSw
   cases hoi
   obtain ⟨s3, s4, s5⟩ := hSw
   go_simp) (by assumption) ?_
 simp only [Act.put, List.setIfInBounds_toArray, List.set_cons_zero, List.set_cons_succ]
 refine Take.run (i := 9) (d := some 15) (v := (.pointer (some ⟨b, 0, none⟩))) rfl (by kernel_rfl) (by kernel_rfl) (by kernel_rfl) (fun _ _ _ h => h) (by rfl) (by
   intro oi hoi w' hSw
   cases hoi
   obtain ⟨s3, s4, s5⟩ := hSw
   go_simp) (by assumption) ?_
 simp only [Act.put, List.setIfInBounds_toArray, List.set_cons_zero, List.set_cons_succ]
 refine Take.run (i := 10) (d := some 16) (v := (.pointer (some ⟨b, 3, none⟩))) rfl (by kernel_rfl) (by kernel_rfl) (by kernel_rfl) (fun _ _ _ h => h) (by rfl) (by
   intro oi hoi w' hSw
   cases hoi
   obtain ⟨s3, s4, s5⟩ := hSw
   go_simp) (by assumption) ?_
 simp only [Act.put, List.setIfInBounds_toArray, List.set_cons_zero, List.set_cons_succ]
 refine Take.run (i := 11) (d := some 17) (v := tv) rfl (by kernel_rfl) (by kernel_rfl) (by kernel_rfl) (fun _ _ _ h => h) (by rfl) (by
   intro oi hoi w' hSw
   cases hoi
   obtain ⟨s3, s4, s5⟩ := hSw
   go_simp) (by assumption) ?_
 simp only [Act.put, List.setIfInBounds_toArray, List.set_cons_zero, List.set_cons_succ]
 refine Take.run (i := 12) (d := some 18) (v := (.string (bs t))) rfl (by kernel_rfl) (by kernel_rfl) (by kernel_rfl) (fun _ _ _ h => h) (by rfl) (by
   intro oi hoi w' hSw
   cases hoi
   obtain ⟨s3, s4, s5⟩ := hSw
   go_simp) (by assumption) ?_
 simp only [Act.put, List.setIfInBounds_toArray, List.set_cons_zero, List.set_cons_succ]
 refine Take.run (i := 13) (d := some 19) (v := (.agg #[.int .i64 0, .bool q, .string (bs t), .string ⟨#[]⟩, .string ⟨#[]⟩, .slice none 0 0])) rfl (by kernel_rfl) (by kernel_rfl) (by kernel_rfl) (fun _ _ _ h => h) (by rfl) (by
   intro oi hoi w' hSw
   cases hoi
   obtain ⟨s3, s4, s5⟩ := hSw
   go_simp) (by assumption) ?_
 simp only [Act.put, List.setIfInBounds_toArray, List.set_cons_zero, List.set_cons_succ]
 refine wpAnyH_ready (rs := [3, 15]) (by kernel_rfl) (by simp) ?_
 refine AllReadyH.cons rfl (fun K hK => ?_) (AllReadyH.cons rfl (fun K hK => ?_) AllReadyH.nil)
 · go_simp
   refine hK.out _ _ ⟨c3, c4, cv2⟩ (fun hHeld => ?_)
   clear hK
   try simp only [Act.put, List.setIfInBounds_toArray, List.set_cons_zero, List.set_cons_succ]
   refine Take.run (i := 14) (d := some 20) (v := (.int .i64 (ps.length : Int))) rfl (by kernel_rfl) (by kernel_rfl) (by kernel_rfl) (fun _ _ _ h => h) (by rfl) (by
     intro oi hoi w' hSw
     cases hoi
     obtain ⟨s3, s4, s5⟩ := hSw
     go_simp) (by assumption) ?_
   simp only [Act.put, List.setIfInBounds_toArray, List.set_cons_zero, List.set_cons_succ]
   refine wpAnyH_ready (rs := [15]) (by kernel_rfl) (by simp) ?_
   refine AllReadyH.cons rfl (fun K hK => ?_) AllReadyH.nil
   go_simp
   refine hK.out _ _ ⟨a3d, a4d, cv4⟩ (fun hHeld => ?_)
   clear hK
   try simp only [Act.put, List.setIfInBounds_toArray, List.set_cons_zero, List.set_cons_succ]
   refine wpAnyH_ready (rs := [16]) (by kernel_rfl) (by simp) ?_
   refine AllReadyH.cons rfl (fun K hK => ?_) AllReadyH.nil
   refine wp_append_lies _ _ _ 121 rfl (b + 1) 125 i0 _ 6 88 Tryz.underlying121 hi hz0 hz1 hz2 rfl (by decide) _ _ _ rfl HOd.out ⟨w.heap.size, 0, none⟩ 1 1 zeroP rfl rfl (zero_new HZ.out) zero_one (by decide) (by unfold maxLen; have := HL.out; omega) (by have := HL.out; omega) (by have := HBs.out; simp; omega) (w.heap.size + 1) (by simp) ?_
   intro g2 cap2 w2 ho2 hg2 hat hlt2
   have HO2 := Kept.mk ho2
   have HG2 := Kept.mk hg2
   have HA2 := Kept.mk hat
   have HB2 : Kept (b < g2) := ⟨by have := (own_lt ho2 g2 rfl).1; omega⟩
   have hr2 := (grown_row H.out hg2).2.trans H.out.row
   have HR2 := Kept.mk hr2
   have ix : (ps.length : Int) < (ps.length : Int) + 1 := by omega
   have bg : b ≠ g2 := by have := HB2.out; omega
   have gb : g2 ≠ b := by have := HB2.out; omega
   have k1 : w2.cell? ⟨b, 1, none⟩ = some (.slice Ap ps.length cp) := cell_of_row _ _ 1 _ _ _ hr2
   have kf : w2.frozen? ⟨b, 1, none⟩ = false := frozen_of_row _ _ 1 _ _ hr2
   have HP1 := Kept.mk (Put.first (ys := pvs 0 q t [] [] (.slice none 0 0)) hr2 HB2.out ho2 HXl.out rfl rfl)
   have HP2 := Kept.mk (Put.last (ys := pvs 0 q t [] [] (.slice none 0 0)) hr2 HB2.out ho2 HXl.out rfl rfl)
   have HQ1 := Kept.mk (H.out.put HO.out HX.out hg2 hat HB2.out (kk := 0) (q' := q) (tt := t) (nn := []) (oo := []) (wd := []) rfl (.nil _ _ (fun _ => rfl)) HP1.out)
   have HQ2 := Kept.mk (H.out.put HO.out HX.out hg2 hat HB2.out (kk := 0) (q' := q) (tt := t) (nn := []) (oo := []) (wd := []) rfl (.nil _ _ (fun _ => rfl)) HP2.out)
   have s5 : (convert 28 9 tv).run Tryz.prog w2 = .ok (.string (bs t)) w2 := HCV.out w2 ((grown_text H.out hg2))
   have s3 : w2.cell? ⟨b, 3, none⟩ = some tv := cell_of_row _ _ 3 _ _ _ hr2
   have s4 : w2.cell? ⟨b, 4, none⟩ = some (.bool q) := cell_of_row _ _ 4 _ _ _ hr2
   refine hK.out _ _ ⟨s3, s4, s5⟩ (fun hHeld => ?_)
   clear hK
   try simp only [Act.put, List.setIfInBounds_toArray]
   refine Take.run (i := 17) (d := some 23) (v := (.pointer (some ⟨g2, ps.length * 6, none⟩))) rfl (by kernel_rfl) (by kernel_rfl) (by kernel_rfl) (fun _ _ _ h => h) (by rfl) (by
     intro oi hoi w' hSw
     cases hoi
     obtain ⟨s3, s4, s5⟩ := hSw
     go_simp) (by assumption) ?_
   simp only [Act.put]
   refine Take.run (i := 19) (d := some 24) (v := (.pointer (some ⟨b, 0, none⟩))) rfl (by kernel_rfl) (by kernel_rfl) (by kernel_rfl) (fun _ _ _ h => h) (by rfl) (by
     intro oi hoi w' hSw
     cases hoi
     obtain ⟨s3, s4, s5⟩ := hSw
     go_simp) (by assumption) ?_
   simp only [Act.put]
   refine Take.run (i := 20) (d := some 25) (v := (.pointer (some ⟨b, 1, none⟩))) rfl (by kernel_rfl) (by kernel_rfl) (by kernel_rfl) (fun _ _ _ h => h) (by rfl) (by
     intro oi hoi w' hSw
     cases hoi
     obtain ⟨s3, s4, s5⟩ := hSw
     go_simp) (by assumption) ?_
   simp only [Act.put]
   have HBs2 := Kept.mk (grown_text H.out HG2.out)
   have HBg : Kept (b ≠ g2) := ⟨bg⟩
   have HNe2 : Kept (∀ k, tv.ownBlock = some k → k ≠ g2) := ⟨fun k hk e => HQ1.out.1.sep g2 rfl (e ▸ hk)⟩
   obtain ⟨p3, p4, p5⟩ := held1 HR2.out HBg.out HBs2.out HNe2.out (ps.length * 6) [.int .i64 0, .bool q, .string (bs t), .string ⟨#[]⟩, .string ⟨#[]⟩, .slice none 0 0]
   obtain ⟨q3, q4, q5⟩ := held2 HR2.out HBs2.out (.slice (some ⟨g2, 0, none⟩) (ps.length + 1) cap2)
   obtain ⟨r3, r4, r5⟩ := held2 (held1r HR2.out HBg.out (ps.length * 6) [.int .i64 0, .bool q, .string (bs t), .string ⟨#[]⟩, .string ⟨#[]⟩, .slice none 0 0]) p5 (.slice (some ⟨g2, 0, none⟩) (ps.length + 1) cap2)
   obtain ⟨t3, t4, t5⟩ := held1 (held2r HR2.out (.slice (some ⟨g2, 0, none⟩) (ps.length + 1) cap2)) HBg.out q5 HNe2.out (ps.length * 6) [.int .i64 0, .bool q, .string (bs t), .string ⟨#[]⟩, .string ⟨#[]⟩, .slice none 0 0]
   have m1 : (w2.setCells g2 (ps.length * 6) [.int .i64 0, .bool q, .string (bs t), .string ⟨#[]⟩, .string ⟨#[]⟩, .slice none 0 0]).cell? ⟨b, 1, none⟩ = some (.slice Ap ps.length cp) := cell_of_row _ _ 1 _ _ _ (held1r HR2.out HBg.out (ps.length * 6) [.int .i64 0, .bool q, .string (bs t), .string ⟨#[]⟩, .string ⟨#[]⟩, .slice none 0 0])
   have mf : (w2.setCells g2 (ps.length * 6) [.int .i64 0, .bool q, .string (bs t), .string ⟨#[]⟩, .string ⟨#[]⟩, .slice none 0 0]).frozen? ⟨b, 1, none⟩ = false := frozen_of_row _ _ 1 _ _ (held1r HR2.out HBg.out (ps.length * 6) [.int .i64 0, .bool q, .string (bs t), .string ⟨#[]⟩, .string ⟨#[]⟩, .slice none 0 0])
   refine wpAnyH_ready (rs := [18, 21]) (by kernel_rfl) (by simp) ?_
   refine AllReadyH.cons rfl (fun K hK => ?_) (AllReadyH.cons rfl (fun K hK => ?_) AllReadyH.nil)
   · refine wp_store_mid _ _ _ rfl g2 (ps.length * 6) #[.int .i64 0, .bool q, .string (bs t), .string ⟨#[]⟩, .string ⟨#[]⟩, .slice none 0 0] rfl rfl (own_there HO2.out) partInfo2 (by simp [Value.oneCell']) ?_
     refine hK.out _ _ ⟨p3, p4, HCV.out _ p5⟩ (fun hHeld => ?_)
     clear hK
     try simp only [Act.put]
     refine wpAnyH_ready (rs := [21]) (by kernel_rfl) (by simp) ?_
     refine AllReadyH.cons rfl (fun K hK => ?_) AllReadyH.nil
     go_simp
     refine hK.out _ _ ⟨r3, r4, HCV.out _ r5⟩ (fun hHeld => ?_)
     clear hK
     try simp only [Act.put, List.setIfInBounds_toArray, List.set_cons_zero, List.set_cons_succ]
     refine wpAnyH_done (by kernel_rfl) ?_ _
     have HF := HQ1
     clear HQ1 HQ2 HP1 HP2 HR2 HO2 HG2 HA2 HB2 HBs2 HBg HNe2 p3 p4 p5 q3 q4 q5 r3 r4 r5 t3 t4 t5 m1 mf s3 s4 s5 hr2 ho2 hg2 hat hlt2 k1 kf hHeld ix bg gb
     change Exit.then _ _ _ _ ((w2.setCells g2 (ps.length * 6) (pvs 0 q t [] [] (.slice none 0 0))).setCell ⟨b, 1, none⟩ (.slice (some ⟨g2, 0, none⟩) (ps.length + 1) cap2))
     generalize (w2.setCells g2 (ps.length * 6) (pvs 0 q t [] [] (.slice none 0 0))).setCell ⟨b, 1, none⟩ (.slice (some ⟨g2, 0, none⟩) (ps.length + 1) cap2) = W at HF ⊢
     obtain ⟨At, ct, hAt⟩ := HF.out.1.text.len
     subst hAt
     generalize htl : t.length = tl at *
     have HTl := Kept.mk htl
     clear htl
     have c2 := HF.out.1.c2
     have c3 := HF.out.1.c3
     have f2 := HF.out.1.fz 2
     have f3 := HF.out.1.fz 3
     go_wp2_with fail
     go_region
     refine bodyPost_end (results_none rfl _ _ _) rfl ?_
     exact ⟨rfl, _, _, ⟨HF.out.1.stop.1⟩, ⟨by rw [HTl.out]; exact HF.out.2.trans HF.out.1.stop.2⟩⟩
   · go_simp
     refine hK.out _ _ ⟨q3, q4, HCV.out _ q5⟩ (fun hHeld => ?_)
     clear hK
     try simp only [Act.put, List.setIfInBounds_toArray, List.set_cons_zero, List.set_cons_succ]
     refine wpAnyH_ready (rs := [18]) (by kernel_rfl) (by simp) ?_
     refine AllReadyH.cons rfl (fun K hK => ?_) AllReadyH.nil
     refine wp_store_mid _ _ _ rfl g2 (ps.length * 6) #[.int .i64 0, .bool q, .string (bs t), .string ⟨#[]⟩, .string ⟨#[]⟩, .slice none 0 0] rfl rfl (own_there (own_apart HO2.out gb (.slice (some ⟨g2, 0, none⟩) (ps.length + 1) cap2))) partInfo2 (by simp [Value.oneCell']) ?_
     refine hK.out _ _ ⟨t3, t4, HCV.out _ t5⟩ (fun hHeld => ?_)
     clear hK
     try simp only [Act.put, List.setIfInBounds_toArray]
     refine wpAnyH_done (by kernel_rfl) ?_ _
     have HF := HQ2
     clear HQ1 HQ2 HP1 HP2 HR2 HO2 HG2 HA2 HB2 HBs2 HBg HNe2 p3 p4 p5 q3 q4 q5 r3 r4 r5 t3 t4 t5 m1 mf s3 s4 s5 hr2 ho2 hg2 hat hlt2 k1 kf hHeld ix bg gb
     change Exit.then _ _ _ _ ((w2.setCell ⟨b, 1, none⟩ (.slice (some ⟨g2, 0, none⟩) (ps.length + 1) cap2)).setCells g2 (ps.length * 6) (pvs 0 q t [] [] (.slice none 0 0)))
     generalize (w2.setCell ⟨b, 1, none⟩ (.slice (some ⟨g2, 0, none⟩) (ps.length + 1) cap2)).setCells g2 (ps.length * 6) (pvs 0 q t [] [] (.slice none 0 0)) = W at HF ⊢
     obtain ⟨At, ct, hAt⟩ := HF.out.1.text.len
     subst hAt
     generalize htl : t.length = tl at *
     have HTl := Kept.mk htl
     clear htl
     have c2 := HF.out.1.c2
     have c3 := HF.out.1.c3
     have f2 := HF.out.1.fz 2
     have f3 := HF.out.1.fz 3
     go_wp2_with fail
     go_region
     refine bodyPost_end (results_none rfl _ _ _) rfl ?_
     exact ⟨rfl, _, _, ⟨HF.out.1.stop.1⟩, ⟨by rw [HTl.out]; exact HF.out.2.trans HF.out.1.stop.2⟩⟩
 · go_simp
   refine hK.out _ _ ⟨a3d, a4d, cv4⟩ (fun hHeld => ?_)
   clear hK
   try simp only [Act.put, List.setIfInBounds_toArray, List.set_cons_zero, List.set_cons_succ]
   refine wpAnyH_ready (rs := [3]) (by kernel_rfl) (by simp) ?_
   refine AllReadyH.cons rfl (fun K hK => ?_) AllReadyH.nil
   go_simp
   refine hK.out _ _ ⟨a3d, a4d, cv4⟩ (fun hHeld => ?_)
   clear hK
   try simp only [Act.put, List.setIfInBounds_toArray, List.set_cons_zero, List.set_cons_succ]
   refine Take.run (i := 14) (d := some 20) (v := (.int .i64 (ps.length : Int))) rfl (by kernel_rfl) (by kernel_rfl) (by kernel_rfl) (fun _ _ _ h => h) (by rfl) (by
     intro oi hoi w' hSw
     cases hoi
     obtain ⟨s3, s4, s5⟩ := hSw
     go_simp) (by assumption) ?_
   simp only [Act.put, List.setIfInBounds_toArray, List.set_cons_zero, List.set_cons_succ]
   refine wpAnyH_ready (rs := [16]) (by kernel_rfl) (by simp) ?_
   refine AllReadyH.cons rfl (fun K hK => ?_) AllReadyH.nil
   refine wp_append_lies _ _ _ 121 rfl (b + 1) 125 i0 _ 6 88 Tryz.underlying121 hi hz0 hz1 hz2 rfl (by decide) _ _ _ rfl HOd.out ⟨w.heap.size, 0, none⟩ 1 1 zeroP rfl rfl (zero_new HZ.out) zero_one (by decide) (by unfold maxLen; have := HL.out; omega) (by have := HL.out; omega) (by have := HBs.out; simp; omega) (w.heap.size + 1) (by simp) ?_
   intro g2 cap2 w2 ho2 hg2 hat hlt2
   have HO2 := Kept.mk ho2
   have HG2 := Kept.mk hg2
   have HA2 := Kept.mk hat
   have HB2 : Kept (b < g2) := ⟨by have := (own_lt ho2 g2 rfl).1; omega⟩
   have hr2 := (grown_row H.out hg2).2.trans H.out.row
   have HR2 := Kept.mk hr2
   have ix : (ps.length : Int) < (ps.length : Int) + 1 := by omega
   have bg : b ≠ g2 := by have := HB2.out; omega
   have gb : g2 ≠ b := by have := HB2.out; omega
   have k1 : w2.cell? ⟨b, 1, none⟩ = some (.slice Ap ps.length cp) := cell_of_row _ _ 1 _ _ _ hr2
   have kf : w2.frozen? ⟨b, 1, none⟩ = false := frozen_of_row _ _ 1 _ _ hr2
   have HP1 := Kept.mk (Put.first (ys := pvs 0 q t [] [] (.slice none 0 0)) hr2 HB2.out ho2 HXl.out rfl rfl)
   have HP2 := Kept.mk (Put.last (ys := pvs 0 q t [] [] (.slice none 0 0)) hr2 HB2.out ho2 HXl.out rfl rfl)
   have HQ1 := Kept.mk (H.out.put HO.out HX.out hg2 hat HB2.out (kk := 0) (q' := q) (tt := t) (nn := []) (oo := []) (wd := []) rfl (.nil _ _ (fun _ => rfl)) HP1.out)
   have HQ2 := Kept.mk (H.out.put HO.out HX.out hg2 hat HB2.out (kk := 0) (q' := q) (tt := t) (nn := []) (oo := []) (wd := []) rfl (.nil _ _ (fun _ => rfl)) HP2.out)
   have s5 : (convert 28 9 tv).run Tryz.prog w2 = .ok (.string (bs t)) w2 := HCV.out w2 ((grown_text H.out hg2))
   have s3 : w2.cell? ⟨b, 3, none⟩ = some tv := cell_of_row _ _ 3 _ _ _ hr2
   have s4 : w2.cell? ⟨b, 4, none⟩ = some (.bool q) := cell_of_row _ _ 4 _ _ _ hr2
   refine hK.out _ _ ⟨s3, s4, s5⟩ (fun hHeld => ?_)
   clear hK
   try simp only [Act.put, List.setIfInBounds_toArray]
   refine Take.run (i := 17) (d := some 23) (v := (.pointer (some ⟨g2, ps.length * 6, none⟩))) rfl (by kernel_rfl) (by kernel_rfl) (by kernel_rfl) (fun _ _ _ h => h) (by rfl) (by
     intro oi hoi w' hSw
     cases hoi
     obtain ⟨s3, s4, s5⟩ := hSw
     go_simp) (by assumption) ?_
   simp only [Act.put]
   refine Take.run (i := 19) (d := some 24) (v := (.pointer (some ⟨b, 0, none⟩))) rfl (by kernel_rfl) (by kernel_rfl) (by kernel_rfl) (fun _ _ _ h => h) (by rfl) (by
     intro oi hoi w' hSw
     cases hoi
     obtain ⟨s3, s4, s5⟩ := hSw
     go_simp) (by assumption) ?_
   simp only [Act.put]
   refine Take.run (i := 20) (d := some 25) (v := (.pointer (some ⟨b, 1, none⟩))) rfl (by kernel_rfl) (by kernel_rfl) (by kernel_rfl) (fun _ _ _ h => h) (by rfl) (by
     intro oi hoi w' hSw
     cases hoi
     obtain ⟨s3, s4, s5⟩ := hSw
     go_simp) (by assumption) ?_
   simp only [Act.put]
   have HBs2 := Kept.mk (grown_text H.out HG2.out)
   have HBg : Kept (b ≠ g2) := ⟨bg⟩
   have HNe2 : Kept (∀ k, tv.ownBlock = some k → k ≠ g2) := ⟨fun k hk e => HQ1.out.1.sep g2 rfl (e ▸ hk)⟩
   obtain ⟨p3, p4, p5⟩ := held1 HR2.out HBg.out HBs2.out HNe2.out (ps.length * 6) [.int .i64 0, .bool q, .string (bs t), .string ⟨#[]⟩, .string ⟨#[]⟩, .slice none 0 0]
   obtain ⟨q3, q4, q5⟩ := held2 HR2.out HBs2.out (.slice (some ⟨g2, 0, none⟩) (ps.length + 1) cap2)
   obtain ⟨r3, r4, r5⟩ := held2 (held1r HR2.out HBg.out (ps.length * 6) [.int .i64 0, .bool q, .string (bs t), .string ⟨#[]⟩, .string ⟨#[]⟩, .slice none 0 0]) p5 (.slice (some ⟨g2, 0, none⟩) (ps.length + 1) cap2)
   obtain ⟨t3, t4, t5⟩ := held1 (held2r HR2.out (.slice (some ⟨g2, 0, none⟩) (ps.length + 1) cap2)) HBg.out q5 HNe2.out (ps.length * 6) [.int .i64 0, .bool q, .string (bs t), .string ⟨#[]⟩, .string ⟨#[]⟩, .slice none 0 0]
   have m1 : (w2.setCells g2 (ps.length * 6) [.int .i64 0, .bool q, .string (bs t), .string ⟨#[]⟩, .string ⟨#[]⟩, .slice none 0 0]).cell? ⟨b, 1, none⟩ = some (.slice Ap ps.length cp) := cell_of_row _ _ 1 _ _ _ (held1r HR2.out HBg.out (ps.length * 6) [.int .i64 0, .bool q, .string (bs t), .string ⟨#[]⟩, .string ⟨#[]⟩, .slice none 0 0])
   have mf : (w2.setCells g2 (ps.length * 6) [.int .i64 0, .bool q, .string (bs t), .string ⟨#[]⟩, .string ⟨#[]⟩, .slice none 0 0]).frozen? ⟨b, 1, none⟩ = false := frozen_of_row _ _ 1 _ _ (held1r HR2.out HBg.out (ps.length * 6) [.int .i64 0, .bool q, .string (bs t), .string ⟨#[]⟩, .string ⟨#[]⟩, .slice none 0 0])
   refine wpAnyH_ready (rs := [18, 21]) (by kernel_rfl) (by simp) ?_
   refine AllReadyH.cons rfl (fun K hK => ?_) (AllReadyH.cons rfl (fun K hK => ?_) AllReadyH.nil)
   · refine wp_store_mid _ _ _ rfl g2 (ps.length * 6) #[.int .i64 0, .bool q, .string (bs t), .string ⟨#[]⟩, .string ⟨#[]⟩, .slice none 0 0] rfl rfl (own_there HO2.out) partInfo2 (by simp [Value.oneCell']) ?_
     refine hK.out _ _ ⟨p3, p4, HCV.out _ p5⟩ (fun hHeld => ?_)
     clear hK
     try simp only [Act.put]
     refine wpAnyH_ready (rs := [21]) (by kernel_rfl) (by simp) ?_
     refine AllReadyH.cons rfl (fun K hK => ?_) AllReadyH.nil
     go_simp
     refine hK.out _ _ ⟨r3, r4, HCV.out _ r5⟩ (fun hHeld => ?_)
     clear hK
     try simp only [Act.put, List.setIfInBounds_toArray, List.set_cons_zero, List.set_cons_succ]
     refine wpAnyH_done (by kernel_rfl) ?_ _
     have HF := HQ1
     clear HQ1 HQ2 HP1 HP2 HR2 HO2 HG2 HA2 HB2 HBs2 HBg HNe2 p3 p4 p5 q3 q4 q5 r3 r4 r5 t3 t4 t5 m1 mf s3 s4 s5 hr2 ho2 hg2 hat hlt2 k1 kf hHeld ix bg gb
     change Exit.then _ _ _ _ ((w2.setCells g2 (ps.length * 6) (pvs 0 q t [] [] (.slice none 0 0))).setCell ⟨b, 1, none⟩ (.slice (some ⟨g2, 0, none⟩) (ps.length + 1) cap2))
     generalize (w2.setCells g2 (ps.length * 6) (pvs 0 q t [] [] (.slice none 0 0))).setCell ⟨b, 1, none⟩ (.slice (some ⟨g2, 0, none⟩) (ps.length + 1) cap2) = W at HF ⊢
     obtain ⟨At, ct, hAt⟩ := HF.out.1.text.len
     subst hAt
     generalize htl : t.length = tl at *
     have HTl := Kept.mk htl
     clear htl
     have c2 := HF.out.1.c2
     have c3 := HF.out.1.c3
     have f2 := HF.out.1.fz 2
     have f3 := HF.out.1.fz 3
     go_wp2_with fail
     go_region
     refine bodyPost_end (results_none rfl _ _ _) rfl ?_
     exact ⟨rfl, _, _, ⟨HF.out.1.stop.1⟩, ⟨by rw [HTl.out]; exact HF.out.2.trans HF.out.1.stop.2⟩⟩
   · go_simp
     refine hK.out _ _ ⟨q3, q4, HCV.out _ q5⟩ (fun hHeld => ?_)
     clear hK
     try simp only [Act.put, List.setIfInBounds_toArray, List.set_cons_zero, List.set_cons_succ]
     refine wpAnyH_ready (rs := [18]) (by kernel_rfl) (by simp) ?_
     refine AllReadyH.cons rfl (fun K hK => ?_) AllReadyH.nil
     refine wp_store_mid _ _ _ rfl g2 (ps.length * 6) #[.int .i64 0, .bool q, .string (bs t), .string ⟨#[]⟩, .string ⟨#[]⟩, .slice none 0 0] rfl rfl (own_there (own_apart HO2.out gb (.slice (some ⟨g2, 0, none⟩) (ps.length + 1) cap2))) partInfo2 (by simp [Value.oneCell']) ?_
     refine hK.out _ _ ⟨t3, t4, HCV.out _ t5⟩ (fun hHeld => ?_)
     clear hK
     try simp only [Act.put, List.setIfInBounds_toArray]
     refine wpAnyH_done (by kernel_rfl) ?_ _
     have HF := HQ2
     clear HQ1 HQ2 HP1 HP2 HR2 HO2 HG2 HA2 HB2 HBs2 HBg HNe2 p3 p4 p5 q3 q4 q5 r3 r4 r5 t3 t4 t5 m1 mf s3 s4 s5 hr2 ho2 hg2 hat hlt2 k1 kf hHeld ix bg gb
     change Exit.then _ _ _ _ ((w2.setCell ⟨b, 1, none⟩ (.slice (some ⟨g2, 0, none⟩) (ps.length + 1) cap2)).setCells g2 (ps.length * 6) (pvs 0 q t [] [] (.slice none 0 0)))
     generalize (w2.setCell ⟨b, 1, none⟩ (.slice (some ⟨g2, 0, none⟩) (ps.length + 1) cap2)).setCells g2 (ps.length * 6) (pvs 0 q t [] [] (.slice none 0 0)) = W at HF ⊢
     obtain ⟨At, ct, hAt⟩ := HF.out.1.text.len
     subst hAt
     generalize htl : t.length = tl at *
     have HTl := Kept.mk htl
     clear htl
     have c2 := HF.out.1.c2
     have c3 := HF.out.1.c3
     have f2 := HF.out.1.fz 2
     have f3 := HF.out.1.fz 3
     go_wp2_with fail
     go_region
     refine bodyPost_end (results_none rfl _ _ _) rfl ?_
     exact ⟨rfl, _, _, ⟨HF.out.1.stop.1⟩, ⟨by rw [HTl.out]; exact HF.out.2.trans HF.out.1.stop.2⟩⟩
end Wx
end
end Go.Proofs.YtlggpefmojacoaaGreatDoor
