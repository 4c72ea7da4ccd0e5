/-
  Parts of the proof, merged.
-/
import Derived.Test.YtlggpefmojacoaaGreatDoorLa46
namespace Go.Proofs.YtlggpefmojacoaaGreatDoor
section
open Go.RowKit Tx
namespace Ar
open Va (Vr VS getD Sorted)
structure BN (w : World) (vb b : Nat) (o : Tok) (f s : Value) : Prop where
 row : w.heap[b]? = some (.cells #[.int .i64 4, .int .i64 0, .string ⟨#[]⟩, .string (bs o), f, s, .pointer none] 74 (0, 0))
 nw : Nw (vb + 1) b
set_option maxHeartbeats 8000000 in
set_option maxRecDepth 100000 in
theorem second_any (vb : Nat) (o : Tok) (y : Ex) (hI : Kept (VC vb y)) (ho : o = [124, 124] ∨ o = [38, 38] ∨ o ∈ op2) (w : World) (l : List Vr) (b : Nat) (f s : Value) (n : Int) (hE : EM w vb l) (hB : BN w vb b o f s) (hT : ET (Nw (vb + 1)) w y s) (hl : l.length + sz y ≤ 100000) :
   Calls Tryz.prog 59 #[.pointer (some ⟨vb, 0, none⟩), .pointer (some ⟨b, 0, none⟩), .int .i64 n] w (VE w vb (snd o n (ev y) l)) := by
 obtain ⟨b1, rfl, hb1, _⟩ := hT.ptr
 have HE := Kept.mk hE
 have HB := Kept.mk hB
 have c3 := cell_of_row w b 3 _ _ _ hB.row
 have c5 := cell_of_row w b 5 _ _ _ hB.row
 have HI := Kept.mk (hI.out w l _ hE hT hl)
 have HId := Kept.mk (hI.out w.drew l _ (hE.below (Below.refl _ _).drew) (hT.below (Below.refl _ _).drew) hl)
 have HO := Kept.mk ho
 obtain ⟨R0, hR⟩ : ∃ R0, R0 = snd o n (ev y) l := ⟨_, rfl⟩
 rw [← hR]
 have HR := Kept.mk hR
 have q1 : ((bs o).toList == [124, 124]) = decide (o = [124, 124]) := by
   rw [tl, toL_bs]
   by_cases e : o = [124, 124]
   · rw [e]; rfl
   · rw [decide_eq_false e, beq_eq_false_iff_ne]; exact e
 have q2 : ((bs o).toList == [38, 38]) = decide (o = [38, 38]) := by
   rw [tl, toL_bs]
   by_cases e : o = [38, 38]
   · rw [e]; rfl
   · rw [decide_eq_false e, beq_eq_false_iff_ne]; exact e
 have HJ : Kept (o ∈ op2 → ∀ m W, Calls Tryz.prog 54 #[.string (bs o), .int .i64 n, .int .i64 m] W (OpE (two o n m) W)) := ⟨fun h m W => joined_any o h n m W⟩
 clear hE hB hT hl hI ho hR
 obtain ⟨ob, hob⟩ : ∃ ob, ob = bs o := ⟨_, rfl⟩
 rw [← hob] at c3 q1 q2 HJ
 have HBr : Kept (∀ w', Only (· = vb) w w' → w'.cell? ⟨b, 3, none⟩ = some (.string ob) ∧ w'.cell? ⟨b, 5, none⟩ = some (.pointer (some ⟨b1, 0, none⟩))) := ⟨fun w' ho => by rw [hob]; exact ⟨cell_of_row w' b 3 _ _ _ (et_row HB.out.row HB.out.nw ho), cell_of_row w' b 5 _ _ _ (et_row HB.out.row HB.out.nw ho)⟩⟩
 clear hob HB
 by_cases h1 : o = [124, 124]
 · rw [decide_eq_true h1] at q1
   subst h1
   by_cases h0 : n = 0
   · subst h0
     have HRr : Kept (R0 = match ev y l with | .error c => .error c | .ok (m, l2) => .ok (bit (m != 0), l2)) := ⟨HR.out⟩
     clear HR HO
     go_enter Tryz.func59, Tryz.ntmps59
     go_wp2_with fail
     go_at_call 30
     refine HI.out.mono ?_
     intro e w1 hV
     cases hx : ev y l with
     | error c =>
       rw [hx] at hV HRr
       obtain ⟨rfl, hq⟩ := hV
       rw [HRr.out]
       first | exact ⟨rfl, rfl, hq⟩ | exact ⟨rfl, hq⟩
     | ok z =>
       obtain ⟨m, l2⟩ := z
       rw [hx] at hV HRr
       obtain ⟨rfl, he, hq⟩ := hV
       clear hx
       go_wp2_with (go_at_call 57; refine (truth_any _ _).mono ?_; rintro e w2 ⟨rfl, rfl⟩)
       go_ret
       rw [HRr.out]
       exact ⟨rfl, he, hq⟩
   · have h2 : (n == 0) = false := beq_eq_false_iff_ne.2 h0
     have h3 : (n != 0) = true := bne_iff_ne.2 h0
     have HRr : Kept (R0 = .ok (1, l)) := ⟨by rw [HR.out]; unfold snd; rw [if_pos rfl, if_neg h0]⟩
     clear HR HO
     go_enter Tryz.func59, Tryz.ntmps59
     go_wp2_with (go_at_call 57; refine (truth_any _ _).mono ?_; rintro e w2 ⟨rfl, rfl⟩)
     go_ret
     rw [HRr.out]
     exact ⟨rfl, HE, ⟨Only.refl _ _⟩⟩
 · by_cases h1b : o = [38, 38]
   · rw [decide_eq_false h1] at q1
     rw [decide_eq_true h1b] at q2
     subst h1b
     by_cases h0 : n = 0
     · subst h0
       have HRr : Kept (R0 = .ok (0, l)) := ⟨HR.out⟩
       clear HR HO
       go_enter Tryz.func59, Tryz.ntmps59
       go_wp2_with (go_at_call 57; refine (truth_any _ _).mono ?_; rintro e w2 ⟨rfl, rfl⟩)
       go_ret
       rw [HRr.out]
       exact ⟨rfl, HE, ⟨Only.refl _ _⟩⟩
     · have h2 : (n == 0) = false := beq_eq_false_iff_ne.2 h0
       have h3 : (n != 0) = true := bne_iff_ne.2 h0
       have HRr : Kept (R0 = match ev y l with | .error c => .error c | .ok (m, l2) => .ok (bit (m != 0), l2)) := ⟨by rw [HR.out]; unfold snd; rw [if_neg (by decide), if_pos rfl, if_neg h0]; cases ev y l <;> rfl⟩
       clear HR HO
       go_enter Tryz.func59, Tryz.ntmps59
       go_wp2_with fail
       go_at_call 30
       refine HI.out.mono ?_
       intro e w1 hV
       cases hx : ev y l with
       | error c =>
         rw [hx] at hV HRr
         obtain ⟨rfl, hq⟩ := hV
         rw [HRr.out]
         first | exact ⟨rfl, rfl, hq⟩ | exact ⟨rfl, hq⟩
       | ok z =>
         obtain ⟨m, l2⟩ := z
         rw [hx] at hV HRr
         obtain ⟨rfl, he, hq⟩ := hV
         clear hx
         go_wp2_with (go_at_call 57; refine (truth_any _ _).mono ?_; rintro e w2 ⟨rfl, rfl⟩)
         go_ret
         rw [HRr.out]
         exact ⟨rfl, he, hq⟩
   · have hop : o ∈ op2 := HO.out.resolve_left h1 |>.resolve_left h1b
     have HOp := Kept.mk hop
     have HRr : Kept (R0 = match ev y l with | .error c => .error c | .ok (m, l2) => (match two o n m with | .error c => .error c | .ok r => .ok (r, l2))) := ⟨by rw [HR.out]; unfold snd; rw [if_neg h1, if_neg h1b]; cases ev y l <;> rfl⟩
     rw [decide_eq_false h1] at q1
     rw [decide_eq_false h1b] at q2
     have HJ := Kept.mk (HJ.out hop)
     clear HR HO h1 h1b hop HI
     cases hx : ev y l with
     | error c =>
       rw [hx] at HRr HId
       clear hx
       go_enter Tryz.func59, Tryz.ntmps59
       go_wp2_with fail
       refine wp_region_held_drew (S := fun w' => w'.cell? ⟨b, 3, none⟩ = some (.string ob) ∧ w'.cell? ⟨b, 5, none⟩ = some (.pointer (some ⟨b1, 0, none⟩))) (by kernel_rfl) ⟨c3, c5⟩ (fun hHeld => ?_)
       refine Take.run (i := 0) (d := some 39) (v := (.pointer (some ⟨b, 0, none⟩))) rfl (by kernel_rfl) (by kernel_rfl) (by kernel_rfl) (fun _ _ _ h => h) (by rfl) (by
         intro oi hoi w' hSw
         cases hoi
         obtain ⟨x3, x5⟩ := hSw
         go_simp) (by assumption) ?_
       simp only [Act.put, List.setIfInBounds_toArray, List.set_cons_zero, List.set_cons_succ]
       refine Take.run (i := 1) (d := some 40) (v := (.pointer (some ⟨b, 0, none⟩))) rfl (by kernel_rfl) (by kernel_rfl) (by kernel_rfl) (fun _ _ _ h => h) (by rfl) (by
         intro oi hoi w' hSw
         cases hoi
         obtain ⟨x3, x5⟩ := hSw
         go_simp) (by assumption) ?_
       simp only [Act.put, List.setIfInBounds_toArray, List.set_cons_zero, List.set_cons_succ]
       refine Take.run (i := 2) (d := some 41) (v := (.pointer (some ⟨b, 3, none⟩))) rfl (by kernel_rfl) (by kernel_rfl) (by kernel_rfl) (fun _ _ _ h => h) (by rfl) (by
         intro oi hoi w' hSw
         cases hoi
         obtain ⟨x3, x5⟩ := hSw
         go_simp) (by assumption) ?_
       simp only [Act.put, List.setIfInBounds_toArray, List.set_cons_zero, List.set_cons_succ]
       refine Take.run (i := 3) (d := some 42) (v := (.string ob)) rfl (by kernel_rfl) (by kernel_rfl) (by kernel_rfl) (fun _ _ _ h => h) (by rfl) (by
         intro oi hoi w' hSw
         cases hoi
         obtain ⟨x3, x5⟩ := hSw
         go_simp) (by assumption) ?_
       simp only [Act.put, List.setIfInBounds_toArray, List.set_cons_zero, List.set_cons_succ]
       refine Take.run (i := 4) (d := some 43) (v := (.int .i64 n)) rfl (by kernel_rfl) (by kernel_rfl) (by kernel_rfl) (fun _ _ _ h => h) (by rfl) (by
         intro oi hoi w' hSw
         cases hoi
         obtain ⟨x3, x5⟩ := hSw
         go_simp) (by assumption) ?_
       simp only [Act.put, List.setIfInBounds_toArray, List.set_cons_zero, List.set_cons_succ]
       refine Take.run (i := 5) (d := some 44) (v := (.pointer (some ⟨vb, 0, none⟩))) rfl (by kernel_rfl) (by kernel_rfl) (by kernel_rfl) (fun _ _ _ h => h) (by rfl) (by
         intro oi hoi w' hSw
         cases hoi
         obtain ⟨x3, x5⟩ := hSw
         go_simp) (by assumption) ?_
       simp only [Act.put, List.setIfInBounds_toArray, List.set_cons_zero, List.set_cons_succ]
       refine Take.run (i := 6) (d := some 45) (v := (.pointer (some ⟨b, 0, none⟩))) rfl (by kernel_rfl) (by kernel_rfl) (by kernel_rfl) (fun _ _ _ h => h) (by rfl) (by
         intro oi hoi w' hSw
         cases hoi
         obtain ⟨x3, x5⟩ := hSw
         go_simp) (by assumption) ?_
       simp only [Act.put, List.setIfInBounds_toArray, List.set_cons_zero, List.set_cons_succ]
       refine Take.run (i := 7) (d := some 46) (v := (.pointer (some ⟨b, 0, none⟩))) rfl (by kernel_rfl) (by kernel_rfl) (by kernel_rfl) (fun _ _ _ h => h) (by rfl) (by
         intro oi hoi w' hSw
         cases hoi
         obtain ⟨x3, x5⟩ := hSw
         go_simp) (by assumption) ?_
       simp only [Act.put, List.setIfInBounds_toArray, List.set_cons_zero, List.set_cons_succ]
       refine Take.run (i := 8) (d := some 47) (v := (.pointer (some ⟨b, 5, none⟩))) rfl (by kernel_rfl) (by kernel_rfl) (by kernel_rfl) (fun _ _ _ h => h) (by rfl) (by
         intro oi hoi w' hSw
         cases hoi
         obtain ⟨x3, x5⟩ := hSw
         go_simp) (by assumption) ?_
       simp only [Act.put, List.setIfInBounds_toArray, List.set_cons_zero, List.set_cons_succ]
       refine Take.run (i := 9) (d := some 48) (v := (.pointer (some ⟨b1, 0, none⟩))) rfl (by kernel_rfl) (by kernel_rfl) (by kernel_rfl) (fun _ _ _ h => h) (by rfl) (by
         intro oi hoi w' hSw
         cases hoi
         obtain ⟨x3, x5⟩ := hSw
         go_simp) (by assumption) ?_
       simp only [Act.put, List.setIfInBounds_toArray, List.set_cons_zero, List.set_cons_succ]
       refine wpAnyH_ready (rs := [10]) (by kernel_rfl) (by simp) ?_
       refine AllReadyH.cons rfl (fun K hK => ?_) AllReadyH.nil
       go_simp
       go_at_call 30
       refine HId.out.mono ?_
       rintro e w1 ⟨rfl, ho⟩
       rw [HRr.out]
       first | exact ⟨rfl, rfl, ⟨only_drew ho.out⟩⟩ | exact ⟨rfl, ⟨only_drew ho.out⟩⟩
     | ok z =>
       obtain ⟨m, l2⟩ := z
       rw [hx] at HRr HId
       have HRq : Kept (R0 = match two o n m with | .error c => .error c | .ok r => .ok (r, l2)) := ⟨HRr.out⟩
       clear hx HRr
       cases ht : two o n m with
       | error c =>
         rw [ht] at HRq
         have HJm := Kept.mk (HJ.out m)
         rw [ht] at HJm
         clear ht HJ
         go_enter Tryz.func59, Tryz.ntmps59
         go_wp2_with fail
         refine wp_region_held_drew (S := fun w' => w'.cell? ⟨b, 3, none⟩ = some (.string ob) ∧ w'.cell? ⟨b, 5, none⟩ = some (.pointer (some ⟨b1, 0, none⟩))) (by kernel_rfl) ⟨c3, c5⟩ (fun hHeld => ?_)
         refine Take.run (i := 0) (d := some 39) (v := (.pointer (some ⟨b, 0, none⟩))) rfl (by kernel_rfl) (by kernel_rfl) (by kernel_rfl) (fun _ _ _ h => h) (by rfl) (by
           intro oi hoi w' hSw
           cases hoi
           obtain ⟨x3, x5⟩ := hSw
           go_simp) (by assumption) ?_
         simp only [Act.put, List.setIfInBounds_toArray, List.set_cons_zero, List.set_cons_succ]
         refine Take.run (i := 1) (d := some 40) (v := (.pointer (some ⟨b, 0, none⟩))) rfl (by kernel_rfl) (by kernel_rfl) (by kernel_rfl) (fun _ _ _ h => h) (by rfl) (by
           intro oi hoi w' hSw
           cases hoi
           obtain ⟨x3, x5⟩ := hSw
           go_simp) (by assumption) ?_
         simp only [Act.put, List.setIfInBounds_toArray, List.set_cons_zero, List.set_cons_succ]
         refine Take.run (i := 2) (d := some 41) (v := (.pointer (some ⟨b, 3, none⟩))) rfl (by kernel_rfl) (by kernel_rfl) (by kernel_rfl) (fun _ _ _ h => h) (by rfl) (by
           intro oi hoi w' hSw
           cases hoi
           obtain ⟨x3, x5⟩ := hSw
           go_simp) (by assumption) ?_
         simp only [Act.put, List.setIfInBounds_toArray, List.set_cons_zero, List.set_cons_succ]
         refine Take.run (i := 3) (d := some 42) (v := (.string ob)) rfl (by kernel_rfl) (by kernel_rfl) (by kernel_rfl) (fun _ _ _ h => h) (by rfl) (by
           intro oi hoi w' hSw
           cases hoi
           obtain ⟨x3, x5⟩ := hSw
           go_simp) (by assumption) ?_
         simp only [Act.put, List.setIfInBounds_toArray, List.set_cons_zero, List.set_cons_succ]
         refine Take.run (i := 4) (d := some 43) (v := (.int .i64 n)) rfl (by kernel_rfl) (by kernel_rfl) (by kernel_rfl) (fun _ _ _ h => h) (by rfl) (by
           intro oi hoi w' hSw
           cases hoi
           obtain ⟨x3, x5⟩ := hSw
           go_simp) (by assumption) ?_
         simp only [Act.put, List.setIfInBounds_toArray, List.set_cons_zero, List.set_cons_succ]
         refine Take.run (i := 5) (d := some 44) (v := (.pointer (some ⟨vb, 0, none⟩))) rfl (by kernel_rfl) (by kernel_rfl) (by kernel_rfl) (fun _ _ _ h => h) (by rfl) (by
           intro oi hoi w' hSw
           cases hoi
           obtain ⟨x3, x5⟩ := hSw
           go_simp) (by assumption) ?_
         simp only [Act.put, List.setIfInBounds_toArray, List.set_cons_zero, List.set_cons_succ]
         refine Take.run (i := 6) (d := some 45) (v := (.pointer (some ⟨b, 0, none⟩))) rfl (by kernel_rfl) (by kernel_rfl) (by kernel_rfl) (fun _ _ _ h => h) (by rfl) (by
           intro oi hoi w' hSw
           cases hoi
           obtain ⟨x3, x5⟩ := hSw
           go_simp) (by assumption) ?_
         simp only [Act.put, List.setIfInBounds_toArray, List.set_cons_zero, List.set_cons_succ]
         refine Take.run (i := 7) (d := some 46) (v := (.pointer (some ⟨b, 0, none⟩))) rfl (by kernel_rfl) (by kernel_rfl) (by kernel_rfl) (fun _ _ _ h => h) (by rfl) (by
           intro oi hoi w' hSw
           cases hoi
           obtain ⟨x3, x5⟩ := hSw
           go_simp) (by assumption) ?_
         simp only [Act.put, List.setIfInBounds_toArray, List.set_cons_zero, List.set_cons_succ]
         refine Take.run (i := 8) (d := some 47) (v := (.pointer (some ⟨b, 5, none⟩))) rfl (by kernel_rfl) (by kernel_rfl) (by kernel_rfl) (fun _ _ _ h => h) (by rfl) (by
           intro oi hoi w' hSw
           cases hoi
           obtain ⟨x3, x5⟩ := hSw
           go_simp) (by assumption) ?_
         simp only [Act.put, List.setIfInBounds_toArray, List.set_cons_zero, List.set_cons_succ]
         refine Take.run (i := 9) (d := some 48) (v := (.pointer (some ⟨b1, 0, none⟩))) rfl (by kernel_rfl) (by kernel_rfl) (by kernel_rfl) (fun _ _ _ h => h) (by rfl) (by
           intro oi hoi w' hSw
           cases hoi
           obtain ⟨x3, x5⟩ := hSw
           go_simp) (by assumption) ?_
         simp only [Act.put, List.setIfInBounds_toArray, List.set_cons_zero, List.set_cons_succ]
         refine wpAnyH_ready (rs := [10]) (by kernel_rfl) (by simp) ?_
         refine AllReadyH.cons rfl (fun K hK => ?_) AllReadyH.nil
         go_simp
         go_wp2_with (go_at_call 30; refine HId.out.mono ?_; rintro e w1 ⟨rfl, he, ho⟩; have HO1 := Kept.mk (only_drew ho.out); have d3 := (HBr.out w1 HO1.out).1; have d5 := (HBr.out w1 HO1.out).2; clear he ho)
         refine hK.out _ _ ⟨d3, d5⟩ (fun hHeld => ?_)
         clear hK
         try simp only [Act.put, List.setIfInBounds_toArray, List.set_cons_zero, List.set_cons_succ]
         refine wpAnyH_ready (rs := [11]) (by kernel_rfl) (by simp) ?_
         refine AllReadyH.cons rfl (fun K hK => ?_) AllReadyH.nil
         go_simp
         go_at_call 54
         refine (HJm.out _).mono ?_
         rintro e w2 ⟨rfl, rfl⟩
         rw [HRq.out]
         first | exact ⟨rfl, rfl, HO1⟩ | exact ⟨rfl, HO1⟩
       | ok r =>
         rw [ht] at HRq
         have HJm := Kept.mk (HJ.out m)
         rw [ht] at HJm
         clear ht HJ
         go_enter Tryz.func59, Tryz.ntmps59
         go_wp2_with fail
         go_region_law (first
           | (go_simp; go_at_call 30; refine HId.out.mono ?_; rintro e w1 ⟨rfl, he, ho⟩; have HE1 := he; have HO1 := Kept.mk (only_drew ho.out); have d3 := (HBr.out w1 HO1.out).1; have d5 := (HBr.out w1 HO1.out).2; clear he ho)
           | (go_simp; go_at_call 54; refine (HJm.out _).mono ?_; rintro e w2 ⟨rfl, rfl⟩)
           | go_simp)
         all_goals go_wp2_with fail
         all_goals go_ret
         all_goals rw [HRq.out]
         all_goals exact ⟨rfl, HE1, HO1⟩
end Ar
end
end Go.Proofs.YtlggpefmojacoaaGreatDoor
