/-
  Parts of the proof, merged.
-/
import Derived.Deep.RegionHeld3
import Derived.Deep.RegionLaw
import Derived.Test.YtlggpefmojacoaaGreatDoorLa31
import Derived.Test.YtlggpefmojacoaaGreatDoorLa45
namespace Go.Proofs.YtlggpefmojacoaaGreatDoor
section
open Go.RowKit Tx
namespace Ar
open Va (Vr VS getD Sorted)
def VE (w : World) (vb : Nat) (r : V) (e : Ending) (w' : World) : Prop :=
 match r with
 | .ok (n, l2) => e = .returned (.int .i64 n) ∧ Kept (EM w' vb l2) ∧ Kept (Only (· = vb) w w')
 | .error c => e = .panicked (pan c) ∧ Kept (Only (· = vb) w w')
def VC (vb : Nat) (x : Ex) : Prop := ∀ W l u, EM W vb l → ET (Nw (vb + 1)) W x u → l.length + sz x ≤ 100000 → Calls Tryz.prog 30 #[.pointer (some ⟨vb, 0, none⟩), u] W (VE W vb (ev x l))
theorem changed_any (op : Tok) (h : op ∈ [[45], [43], [126], [33]]) (a : Int) (w : World) : Calls Tryz.prog 40 #[.string (bs op), .int .i64 a] w fun e w' => e = .returned (.int .i64 (chg op a)) ∧ w = w' := by
 simp only [List.mem_cons, List.not_mem_nil, or_false] at h
 rcases h with rfl | rfl | rfl | rfl
 · exact u_neg a w
 · exact u_same a w
 · exact u_not a w
 · exact u_zero a w
theorem et_row {w w' : World} {vb b : Nat} {cs : Array Value} {t : TypeId} {z : Nat × Nat} (hr : w.heap[b]? = some (.cells cs t z)) (hb : Nw (vb + 1) b) (ho : Only (· = vb) w w') : w'.heap[b]? = some (.cells cs t z) :=
 (ho.block b (Array.getElem?_eq_some_iff.1 hr).1 (by have : vb + 1 ≤ b := hb; omega)).trans hr
theorem ET.move {w w' : World} {vb : Nat} {e : Ex} {v : Value} (h : ET (Nw (vb + 1)) w e v) (ho : Only (· = vb) w w') : ET (Nw (vb + 1)) w' e v := h.only ho (Nat.lt_succ_self _)
theorem only_drew {w w' : World} {g : Nat} (h : Only (· = g) w.drew w') : Only (· = g) w w' := ⟨h.os, h.tape, h.output, h.size, h.block⟩
set_option maxHeartbeats 4000000 in
set_option maxRecDepth 100000 in
theorem prefixed_any (vb : Nat) (o : Tok) (x : Ex) (hI : Kept (VC vb x)) (ho : o ∈ [[45], [43], [126], [33]]) (w : World) (l : List Vr) (u : Value) (hE : EM w vb l) (hT : ET (Nw (vb + 1)) w (.pre o x) u) (hl : l.length + sz x ≤ 100000) :
   Calls Tryz.prog 30 #[.pointer (some ⟨vb, 0, none⟩), u] w (VE w vb (ev (.pre o x) l)) := by
 obtain ⟨b, f, rfl, hb, hr, hT1⟩ := hT
 obtain ⟨b1, rfl, hb1, _⟩ := hT1.ptr
 have HO := Kept.mk ho
 have HE := Kept.mk hE
 have HT := Kept.mk hT1
 have HL := Kept.mk hl
 have HR := Kept.mk hr
 have HB := Kept.mk hb
 have c0 := cell_of_row w b 0 _ _ _ hr
 have c3 := cell_of_row w b 3 _ _ _ hr
 have c4 := cell_of_row w b 4 _ _ _ hr
 have HI := Kept.mk (hI.out w.drew l _ (hE.below (Below.refl _ _).drew) (hT1.below (Below.refl _ _).drew) hl)
 obtain ⟨R0, hR⟩ : ∃ R0, R0 = ev (.pre o x) l := ⟨_, rfl⟩
 rw [← hR]
 clear hE hT1 hl hr hb hI ho
 cases hx : ev x l with
 | error c =>
   have HX : Kept (R0 = .error c) := ⟨by rw [hR, ev, hx]⟩
   rw [hx] at HI
   clear hx hR
   go_enter Tryz.func30, Tryz.ntmps30
   go_wp2_with fail
   refine wp_region_held_drew (S := fun w' => w'.cell? ⟨b, 3, none⟩ = some (.string (bs o)) ∧ w'.cell? ⟨b, 4, none⟩ = some (.pointer (some ⟨b1, 0, none⟩))) (by kernel_rfl) ⟨c3, c4⟩ (fun hHeld => ?_)
   refine Take.run (i := 0) (d := some 30) (v := (.pointer (some ⟨b, 0, none⟩))) rfl (by kernel_rfl) (by kernel_rfl) (by kernel_rfl) (fun _ _ _ h => h) (by rfl) (by
     intro oi hoi w' hSw
     cases hoi
     obtain ⟨x3, x4⟩ := hSw
     go_simp) (by assumption) ?_
   simp only [Act.put, List.setIfInBounds_toArray, List.set_cons_zero, List.set_cons_succ]
   refine Take.run (i := 1) (d := some 31) (v := (.pointer (some ⟨b, 0, none⟩))) rfl (by kernel_rfl) (by kernel_rfl) (by kernel_rfl) (fun _ _ _ h => h) (by rfl) (by
     intro oi hoi w' hSw
     cases hoi
     obtain ⟨x3, x4⟩ := hSw
     go_simp) (by assumption) ?_
   simp only [Act.put, List.setIfInBounds_toArray, List.set_cons_zero, List.set_cons_succ]
   refine Take.run (i := 2) (d := some 32) (v := (.pointer (some ⟨b, 3, none⟩))) rfl (by kernel_rfl) (by kernel_rfl) (by kernel_rfl) (fun _ _ _ h => h) (by rfl) (by
     intro oi hoi w' hSw
     cases hoi
     obtain ⟨x3, x4⟩ := hSw
     go_simp) (by assumption) ?_
   simp only [Act.put, List.setIfInBounds_toArray, List.set_cons_zero, List.set_cons_succ]
   refine Take.run (i := 3) (d := some 33) (v := (.string (bs o))) rfl (by kernel_rfl) (by kernel_rfl) (by kernel_rfl) (fun _ _ _ h => h) (by rfl) (by
     intro oi hoi w' hSw
     cases hoi
     obtain ⟨x3, x4⟩ := hSw
     go_simp) (by assumption) ?_
   simp only [Act.put, List.setIfInBounds_toArray, List.set_cons_zero, List.set_cons_succ]
   refine Take.run (i := 4) (d := some 34) (v := (.pointer (some ⟨vb, 0, none⟩))) rfl (by kernel_rfl) (by kernel_rfl) (by kernel_rfl) (fun _ _ _ h => h) (by rfl) (by
     intro oi hoi w' hSw
     cases hoi
     obtain ⟨x3, x4⟩ := hSw
     go_simp) (by assumption) ?_
   simp only [Act.put, List.setIfInBounds_toArray, List.set_cons_zero, List.set_cons_succ]
   refine Take.run (i := 5) (d := some 35) (v := (.pointer (some ⟨b, 0, none⟩))) rfl (by kernel_rfl) (by kernel_rfl) (by kernel_rfl) (fun _ _ _ h => h) (by rfl) (by
     intro oi hoi w' hSw
     cases hoi
     obtain ⟨x3, x4⟩ := hSw
     go_simp) (by assumption) ?_
   simp only [Act.put, List.setIfInBounds_toArray, List.set_cons_zero, List.set_cons_succ]
   refine Take.run (i := 6) (d := some 36) (v := (.pointer (some ⟨b, 0, none⟩))) rfl (by kernel_rfl) (by kernel_rfl) (by kernel_rfl) (fun _ _ _ h => h) (by rfl) (by
     intro oi hoi w' hSw
     cases hoi
     obtain ⟨x3, x4⟩ := hSw
     go_simp) (by assumption) ?_
   simp only [Act.put, List.setIfInBounds_toArray, List.set_cons_zero, List.set_cons_succ]
   refine Take.run (i := 7) (d := some 37) (v := (.pointer (some ⟨b, 4, none⟩))) rfl (by kernel_rfl) (by kernel_rfl) (by kernel_rfl) (fun _ _ _ h => h) (by rfl) (by
     intro oi hoi w' hSw
     cases hoi
     obtain ⟨x3, x4⟩ := hSw
     go_simp) (by assumption) ?_
   simp only [Act.put, List.setIfInBounds_toArray, List.set_cons_zero, List.set_cons_succ]
   refine Take.run (i := 8) (d := some 38) (v := (.pointer (some ⟨b1, 0, none⟩))) rfl (by kernel_rfl) (by kernel_rfl) (by kernel_rfl) (fun _ _ _ h => h) (by rfl) (by
     intro oi hoi w' hSw
     cases hoi
     obtain ⟨x3, x4⟩ := hSw
     go_simp) (by assumption) ?_
   simp only [Act.put, List.setIfInBounds_toArray, List.set_cons_zero, List.set_cons_succ]
   refine wpAnyH_ready (rs := [9]) (by kernel_rfl) (by simp) ?_
   refine AllReadyH.cons rfl (fun K hK => ?_) AllReadyH.nil
   go_simp
   go_at_call 30
   refine HI.out.mono ?_
   rintro e w1 ⟨rfl, ho⟩
   rw [HX.out]
   first | exact ⟨rfl, rfl, ⟨only_drew ho.out⟩⟩ | exact ⟨rfl, ⟨only_drew ho.out⟩⟩
 | ok z =>
   obtain ⟨n, l2⟩ := z
   have HX : Kept (R0 = .ok (chg o n, l2)) := ⟨by rw [hR, ev, hx]⟩
   rw [hx] at HI
   clear hx hR
   go_enter Tryz.func30, Tryz.ntmps30
   go_wp2_with fail
   go_region_law (first
     | (go_simp; go_at_call 30; refine HI.out.mono ?_; rintro e w1 ⟨rfl, he, ho⟩; have HE1 := he; have HO1 := Kept.mk (only_drew ho.out); have d3 := cell_of_row w1 b 3 _ _ _ (et_row HR.out HB.out HO1.out); clear he ho)
     | (go_simp; go_at_call 40; refine (changed_any o HO.out n _).mono ?_; rintro e w2 ⟨rfl, rfl⟩)
     | go_simp)
   all_goals go_wp2_with fail
   all_goals go_ret
   all_goals rw [HX.out]
   all_goals exact ⟨rfl, HE1, HO1⟩
end Ar
end
end Go.Proofs.YtlggpefmojacoaaGreatDoor
