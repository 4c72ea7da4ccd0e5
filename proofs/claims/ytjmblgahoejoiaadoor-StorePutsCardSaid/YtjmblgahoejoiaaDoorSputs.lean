/-
  StorePuts: what is put is there, and touches no other place.
-/
import Derived.Test.YtjmblgahoejoiaaDoorSacts
import Derived.Test.YtjmblgahoejoiaaDoorTake
import Derived.Test.YtjmblgahoejoiaaDoorSawake
import Derived.Test.YtjmblgahoejoiaaDoorEq
namespace Go.Proofs.YtjmblgahoejoiaaDoor
open Go.RowKit Tx
namespace St

set_option maxHeartbeats 4000000 in
set_option maxRecDepth 100000 in
theorem puts_any (A : Option Addr) (len cap : Nat) (la : Act) (q : Nat) (w : World) (hK : Tup.Kit w) (hA : Acts w A len) (hlen : len ≤ 140737488355328) (hla : la.ok) (hq : q < 256) :
    Calls Tryd.prog 5 #[.slice A len cap, .agg #[.int .u8 la.what, .int .u8 la.path, .int .u8 la.kind, .int .u8 la.mode, .int .u8 la.data], .int .u8 q] w fun e w' => e = .returned (.bool true) ∧ Below w.heap.size w w' := by
  have HK := Kept.mk hK
  have HA := Kept.mk hA
  have HLa := Kept.mk hla
  clear hK hA hla
  go_enter Tryd.func5, Tryd.ntmps5
  go_upto_block 0 with (first
    | (go_at_call 7
       refine (awake_any _ (HK.out.below ((Below.refl _ _).alloc (Nat.le_refl _) (.cells (actC la) 31)))).mono ?_
       rintro e w1 ⟨rfl, hb1⟩
       have HB1 : Kept (Below w.heap.size w w1) := ⟨((Below.refl _ _).alloc (Nat.le_refl _) _).trans (hb1.mono (by simp))⟩
       have HX1 : Kept (w1.heap[w.heap.size]? = some (.cells (actC la) 31 (0, 0))) := ⟨(hb1.block _ (by simp)).trans (heap_alloc_new w _)⟩
       clear hb1)
    | (go_at_call 13
       refine (new_any w1).mono ?_
       rintro e w2 ⟨g, b, rfl, hg, hb, hp, hB⟩
       have H0 : Kept (PIn w w2 la g b 1 []) := ⟨⟨hp.out, HB1.out.trans (hB.mono HB1.out.size), (hB.block _ (blk HX1.out)).trans HX1.out, Nat.lt_of_lt_of_le (blk HX1.out) hg, Nat.lt_of_lt_of_le (blk HX1.out) hb⟩⟩
       clear hp hB hg hb))
  go_cut [9] (fun x wx => ∃ n t, Kept (PIn w wx la g b n t ∧ n ≤ 21))
  case first =>
    go_wp2_with fail
    go_loopw [9] (fun x wr => ∃ (j : Nat) (t : Tree), j ≤ 20 ∧ x = .int .i64 j ∧ Kept (PIn w wr la g b (1 + j) t)) (fun x _ => 20 - (intOf x).toNat)
    case atStart => exact ⟨0, [], by omega, rfl, H0⟩
    case round =>
      clear H0
      obtain ⟨j, t, hj, rfl, H⟩ := hrel
      have i0 : (0 : Int) ≤ j := by omega
      by_cases hlt : j < len
      · by_cases h20 : j < 20
        · obtain ⟨ga, off, a, rfl, hga, ho⟩ := HA.out j hlt
          have HO := Kept.mk ho
          have hok := ho.ok
          obtain ⟨kn, mn, d, hE, hk3, hm7, hd10, hv, hEn⟩ := entA_cases a hok
          have HEn := Kept.mk hEn
          have hpa := hok.path
          have HPa : Kept (∀ w, Calls Tryd.prog 15 #[.int .u8 a.path] w fun e w' => e = .returned (.string (place a.path)) ∧ Below w.heap.size w w') := ⟨fun w => path_any a.path hpa w⟩
          have i2 : (j : Int) < len := by omega
          have i3 : (j : Int) < 20 := by omega
          have HD := Kept.mk H.out.drew
          have hO : Kept (∀ w', Below w.heap.size w w' → OneAct w' ga (off + j * 5) a) := ⟨fun w' hb => HO.out.keep (hb.block ga hga)⟩
          obtain ⟨-, c0, c1, c2, c3, c4⟩ := hO.out _ HD.out.below
          clear hE hv hEn ho hlt h20 hok
          go_wp2
          go_region_held3 (fun w' => w'.cell? ⟨ga, off + j * 5, none⟩ = some (.int .u8 a.what) ∧ w'.cell? ⟨ga, off + j * 5 + 1, none⟩ = some (.int .u8 a.path) ∧ w'.cell? ⟨ga, off + j * 5 + 2, none⟩ = some (.int .u8 a.kind) ∧ w'.cell? ⟨ga, off + j * 5 + 3, none⟩ = some (.int .u8 a.mode) ∧ w'.cell? ⟨ga, off + j * 5 + 4, none⟩ = some (.int .u8 a.data))
            (first
              | exact ⟨c0, c1, c2, c3, c4⟩
              | exact ⟨d0, d1, d2, d3, d4⟩
              | exact ⟨e0, e1, e2, e3, e4⟩
              | exact ⟨f0, f1, f2, f3, f4⟩)
            (first
              | (go_at_call 15
                 refine (HPa.out _).mono ?_
                 rintro e w3 ⟨rfl, hb3⟩
                 have H3 := Kept.mk (HD.out.on hb3)
                 obtain ⟨-, d0, d1, d2, d3, d4⟩ := hO.out _ H3.out.below
                 clear hb3)
              | (go_at_call 12
                 refine (HEn.out _).mono ?_
                 rintro e w4 ⟨rfl, hb4⟩
                 have H4 := Kept.mk (H3.out.on hb4)
                 obtain ⟨-, e0, e1, e2, e3, e4⟩ := hO.out _ H4.out.below
                 clear hb4)
              | (go_at_call 14
                 refine (put_letters g b (1 + j) t (place a.path) kn mn d _ H4.out.p (place_max _) (by omega)).mono ?_
                 rintro e w5 ⟨rfl, hp5, ho5⟩
                 have H5 := Kept.mk (H4.out.put hp5.out ho5)
                 obtain ⟨-, f0, f1, f2, f3, f4⟩ := hO.out _ H5.out.below
                 clear hp5 ho5))
          go_wp2
          go_roundw
          case rel => exact ⟨j + 1, _, by omega, by go_num, H5⟩
          case measure => simp [intOf]; omega
        · have i2 : (j : Int) < len := by omega
          have i3 : ¬ (j : Int) < 20 := by omega
          clear h20
          go_wp2
          go_meet
          exact ⟨_, t, ⟨H.out, by omega⟩⟩
      · have i2 : ¬ (j : Int) < len := by omega
        go_wp2
        go_meet
        exact ⟨_, t, ⟨H.out, by omega⟩⟩
  case rest =>
    clear H0
    obtain ⟨n, t, H⟩ := hcut
    obtain ⟨kn, mn, d, hE, hk3, hm7, hd10, hv, hEn⟩ := entA_cases la HLa.out
    have HEn := Kept.mk hEn
    have HP : Kept (∀ w, Calls Tryd.prog 15 #[.int .u8 la.path] w fun e w' => e = .returned (.string (place la.path)) ∧ Below w.heap.size w w') := ⟨fun w => path_any la.path HLa.out.path w⟩
    have HQ : Kept (∀ w, Calls Tryd.prog 15 #[.int .u8 q] w fun e w' => e = .returned (.string (place q)) ∧ Below w.heap.size w w') := ⟨fun w => path_any q hq w⟩
    obtain ⟨k1, m1, d1, hget⟩ : ∃ k m dd, get t (place q) = ⟨k, m, dd⟩ := ⟨_, _, _, rfl⟩
    have HAt : Kept (∀ w, PSto w g b n lvNone t → Calls Tryd.prog 16 #[.pointer (some ⟨g, 0, none⟩), .string (place q)] w fun e w' => e = .returned (.agg #[.int .i64 k1, .int .i64 m1, .string d1]) ∧ Below w.heap.size w w') := ⟨fun w h => by have := at_none g b n t (place q) w h (place_max q); rw [hget] at this; exact this⟩
    obtain ⟨a0, a1, a2, a3, a4⟩ := box5 H.out.1.box
    have T1 : Kept True := ⟨trivial⟩
    have T2 : Kept True := ⟨trivial⟩
    have T3 : Kept True := ⟨trivial⟩
    have T4 : Kept True := ⟨trivial⟩
    clear hE hv hEn
    by_cases hpe : place la.path = emp
    · by_cases hk0 : kn = 0
      · by_cases hpq : place la.path = place q
        · have bE : ((place la.path).toList == ([] : List UInt8)) = true := by rw [str_emp, decide_eq_true hpe]
          have b0 : ((kn : Int) == 0) = true := by rw [beq_iff_eq]; omega
          rw [← hpq] at HQ HAt
          have HAp : Kept (∀ w t, Good t → PSto w g b (n + 1) lvNone (put t (place la.path) ⟨kn, mn, d⟩) → Calls Tryd.prog 16 #[.pointer (some ⟨g, 0, none⟩), .string (place la.path)] w fun e w' => e = .returned (.agg #[.int .i64 2, .int .i64 7, .string ⟨#[]⟩]) ∧ Below w.heap.size w w') := ⟨fun w t hg h => by
            have e : get (put t (place la.path) ⟨kn, mn, d⟩) (place la.path) = (⟨2, 7, ⟨#[]⟩⟩ : Ent) := by rw [get_put t hg, if_pos hpe]; rfl
            have := at_none g b (n + 1) _ (place la.path) w h (place_max _)
            rw [e] at this
            exact this⟩
          have hq1 : ∀ w, (binOp .eql 23 (.agg #[.int .i64 2, .int .i64 7, .string ⟨#[]⟩]) (.agg #[.int .i64 2, .int .i64 7, .string ⟨#[]⟩])).run Tryd.prog w = .ok (.bool true) w := fun w => by
            have := ent_eq (⟨2, 7, ⟨#[]⟩⟩ : Ent) (⟨2, 7, ⟨#[]⟩⟩ : Ent) w
            rw [decide_eq_true rfl] at this
            exact this
          clear hpe hk0 hpq hget
          go_wp2_with (first
            | (go_at_call 15
               have := T1
               refine (HP.out _).mono ?_
               rintro e w1' ⟨rfl, hb1'⟩
               clear T1 this a0 a1 a2 a3 a4
               have HQ1 := Kept.mk (H.out.1.on hb1')
               clear hb1')
            | (go_at_call 15
               refine (HQ.out _).mono ?_
               rintro e w2' ⟨rfl, hb2'⟩
               have HQ2 := Kept.mk (HQ1.out.on hb2')
               clear hb2')
            | (go_at_call 16
               have := T2
               refine (HAt.out _ HQ2.out.p).mono ?_
               rintro e w3 ⟨rfl, hb3⟩
               clear T2 this
               have HQ3 := Kept.mk ((HQ2.out.on hb3).alloc (.cells #[.int .i64 k1, .int .i64 m1, .string d1] 23))
               have HW3 := Kept.mk (heap_alloc_new w3 (.cells #[.int .i64 k1, .int .i64 m1, .string d1] 23))
               have hbw : Kept (b < w3.heap.size) := ⟨(HQ2.out.p.below hb3).own.lt⟩
               obtain ⟨a0, a1, a2, a3, a4⟩ := box5 HQ3.out.box
               clear hb3)
            | (go_at_call 12
               have := T3
               refine (HEn.out _).mono ?_
               rintro e w4 ⟨rfl, hb4⟩
               clear T3 this a0 a1 a2 a3 a4
               have HQ4 := Kept.mk (HQ3.out.on hb4)
               have HW4 := Kept.mk ((hb4.block _ (blk HW3.out)).trans HW3.out)
               clear hb4)
            | (go_at_call 14
               refine (put_letters g b n t (place la.path) kn mn d _ HQ4.out.p (place_max _) (by have := H.out.2; omega)).mono ?_
               rintro e w5 ⟨rfl, hp5, ho5⟩
               have HQ5 := Kept.mk (HQ4.out.put hp5.out ho5)
               have HW5 := Kept.mk ((ho5.block _ (blk HW4.out) (fun e => by have := hbw.out; omega)).trans HW4.out)
               obtain ⟨a0, a1, a2, a3, a4⟩ := box5 HQ5.out.box
               clear hp5 ho5)
            | (go_at_call 12
               refine (HEn.out _).mono ?_
               rintro e w6 ⟨rfl, hb6⟩
               clear a0 a1 a2 a3 a4
               have HQ6 := Kept.mk ((HQ5.out.on hb6).alloc (.cells #[.int .i64 2, .int .i64 7, .string ⟨#[]⟩] 23))
               have HW6 : Kept ((w6.alloc (.cells #[.int .i64 2, .int .i64 7, .string ⟨#[]⟩] 23)).heap[w3.heap.size]? = some (.cells #[.int .i64 k1, .int .i64 m1, .string d1] 23 (0, 0))) := ⟨(Below.heap_alloc w6 _ _ (Nat.lt_of_lt_of_le (blk HW5.out) hb6.size)).trans ((hb6.block _ (blk HW5.out)).trans HW5.out)⟩
               have HF6 := Kept.mk (heap_alloc_new w6 (.cells #[.int .i64 2, .int .i64 7, .string ⟨#[]⟩] 23))
               clear hb6))
          generalize w6.alloc (.cells #[.int .i64 2, .int .i64 7, .string ⟨#[]⟩] 23) = w7 at *
          have HD := Kept.mk HQ6.out.drew
          obtain ⟨x0, x1, x2⟩ := box3 HF6.out
          obtain ⟨y0, y1, y2⟩ := box3 HW6.out
          refine wp_region_held_drew (S := fun w' => w'.cell? ⟨w6.heap.size, 0, none⟩ = some (.int .i64 2) ∧ w'.cell? ⟨w6.heap.size, 1, none⟩ = some (.int .i64 7) ∧ w'.cell? ⟨w6.heap.size, 2, none⟩ = some (.string ⟨#[]⟩)) (by kernel_rfl) ⟨x0, x1, x2⟩ (fun hHeld => ?_)
          refine Take.run (i := 0) (d := some 65) (v := .bool true) rfl (by kernel_rfl) (by kernel_rfl) (by kernel_rfl) (fun _ _ _ h => h) (by rfl) (by
            intro oi hoi w' hSw
            cases hoi
            go_simp) (by assumption) ?_
          simp only [Act.put, List.setIfInBounds_toArray, List.set_cons_zero, List.set_cons_succ]
          refine Take.run (i := 1) (d := some 66) (v := .bool true) rfl (by kernel_rfl) (by kernel_rfl) (by kernel_rfl) (fun _ _ _ h => h) (by rfl) (by
            intro oi hoi w' hSw
            cases hoi
            go_simp) (by assumption) ?_
          simp only [Act.put, List.setIfInBounds_toArray, List.set_cons_zero, List.set_cons_succ]
          refine Take.run (i := 2) (d := some 67) (v := .pointer (some ⟨g, 0, none⟩)) rfl (by kernel_rfl) (by kernel_rfl) (by kernel_rfl) (fun _ _ _ h => h) (by rfl) (by
            intro oi hoi w' hSw
            cases hoi
            go_simp) (by assumption) ?_
          simp only [Act.put, List.setIfInBounds_toArray, List.set_cons_zero, List.set_cons_succ]
          refine Take.run (i := 3) (d := some 68) (v := .string (place la.path)) rfl (by kernel_rfl) (by kernel_rfl) (by kernel_rfl) (fun _ _ _ h => h) (by rfl) (by
            intro oi hoi w' hSw
            cases hoi
            go_simp) (by assumption) ?_
          simp only [Act.put, List.setIfInBounds_toArray, List.set_cons_zero, List.set_cons_succ]
          refine Take.run (i := 5) (d := some 70) (v := .agg #[.int .i64 2, .int .i64 7, .string ⟨#[]⟩]) rfl (by kernel_rfl) (by kernel_rfl) (by kernel_rfl) (fun _ _ _ h => h) (by rfl) (by
            intro oi hoi w' hSw
            cases hoi
            obtain ⟨s0, s1, s2⟩ := hSw
            go_simp) (by assumption) ?_
          simp only [Act.put, List.setIfInBounds_toArray, List.set_cons_zero, List.set_cons_succ]
          refine wpAnyH_ready (rs := [4]) (by kernel_rfl) (by simp) ?_
          refine AllReadyH.cons rfl (fun K hK => ?_) AllReadyH.nil
          go_simp
          go_wp2_with (go_at_call 16
                       refine (HAp.out _ t H.out.1.p.good HD.out.p).mono ?_
                       rintro e w8 ⟨rfl, hb8⟩
                       have HQ8 := Kept.mk (HD.out.on hb8)
                       have HF8 := Kept.mk ((hb8.block _ (blk HF6.out)).trans HF6.out)
                       obtain ⟨u0, u1, u2⟩ := box3 HF8.out
                       clear hb8)
          refine hK.out _ _ ⟨u0, u1, u2⟩ (fun hHeld => ?_)
          clear hK
          try simp only [Act.put, List.setIfInBounds_toArray, List.set_cons_zero, List.set_cons_succ]
          refine Take.run (i := 6) (d := some 71) (v := .bool true) rfl (by kernel_rfl) (by kernel_rfl) (by kernel_rfl) (fun _ _ _ h => h) (by rfl) (by
            intro oi hoi w' hSw
            cases hoi
            go_simp) (by assumption) ?_
          simp only [Act.put, List.setIfInBounds_toArray, List.set_cons_zero, List.set_cons_succ]
          refine Take.run (i := 7) (d := some 72) (v := .bool true) rfl (by kernel_rfl) (by kernel_rfl) (by kernel_rfl) (fun _ _ _ h => h) (by rfl) (by
            intro oi hoi w' hSw
            cases hoi
            go_simp) (by assumption) ?_
          simp only [Act.put, List.setIfInBounds_toArray, List.set_cons_zero, List.set_cons_succ]
          refine Take.run (i := 8) (d := some 73) (v := .bool true) rfl (by kernel_rfl) (by kernel_rfl) (by kernel_rfl) (fun _ _ _ h => h) (by rfl) (by
            intro oi hoi w' hSw
            cases hoi
            go_simp) (by assumption) ?_
          simp only [Act.put, List.setIfInBounds_toArray, List.set_cons_zero, List.set_cons_succ]
          refine Take.run (i := 9) (d := some 74) (v := .string (place la.path)) rfl (by kernel_rfl) (by kernel_rfl) (by kernel_rfl) (fun _ _ _ h => h) (by rfl) (by
            intro oi hoi w' hSw
            cases hoi
            go_simp) (by assumption) ?_
          simp only [Act.put, List.setIfInBounds_toArray, List.set_cons_zero, List.set_cons_succ]
          refine Take.run (i := 10) (d := some 75) (v := .string (place la.path)) rfl (by kernel_rfl) (by kernel_rfl) (by kernel_rfl) (fun _ _ _ h => h) (by rfl) (by
            intro oi hoi w' hSw
            cases hoi
            go_simp) (by assumption) ?_
          simp only [Act.put, List.setIfInBounds_toArray, List.set_cons_zero, List.set_cons_succ]
          refine Take.run (i := 11) (d := some 76) (v := .bool true) rfl (by kernel_rfl) (by kernel_rfl) (by kernel_rfl) (fun _ _ _ h => h) (by rfl) (by
            intro oi hoi w' hSw
            cases hoi
            go_simp) (by assumption) ?_
          simp only [Act.put, List.setIfInBounds_toArray, List.set_cons_zero, List.set_cons_succ]
          refine Take.run (i := 12) (d := some 77) (v := .bool true) rfl (by kernel_rfl) (by kernel_rfl) (by kernel_rfl) (fun _ _ _ h => h) (by rfl) (by
            intro oi hoi w' hSw
            cases hoi
            go_simp) (by assumption) ?_
          simp only [Act.put, List.setIfInBounds_toArray, List.set_cons_zero, List.set_cons_succ]
          refine Take.skip (i := 13) (d := some 78) rfl (by kernel_rfl) (by kernel_rfl) (by kernel_rfl) (fun _ _ _ h => h) (by rfl) (by assumption) ?_
          simp only [Act.put, List.setIfInBounds_toArray, List.set_cons_zero, List.set_cons_succ]
          refine Take.skip (i := 14) (d := some 79) rfl (by kernel_rfl) (by kernel_rfl) (by kernel_rfl) (fun _ _ _ h => h) (by rfl) (by assumption) ?_
          simp only [Act.put, List.setIfInBounds_toArray, List.set_cons_zero, List.set_cons_succ]
          refine Take.skip (i := 15) (d := some 80) rfl (by kernel_rfl) (by kernel_rfl) (by kernel_rfl) (fun _ _ _ h => h) (by rfl) (by assumption) ?_
          simp only [Act.put, List.setIfInBounds_toArray, List.set_cons_zero, List.set_cons_succ]
          refine Take.skip (i := 16) (d := some 81) rfl (by kernel_rfl) (by kernel_rfl) (by kernel_rfl) (fun _ _ _ h => h) (by rfl) (by assumption) ?_
          simp only [Act.put, List.setIfInBounds_toArray, List.set_cons_zero, List.set_cons_succ]
          refine Take.skip (i := 17) (d := some 82) rfl (by kernel_rfl) (by kernel_rfl) (by kernel_rfl) (fun _ _ _ h => h) (by rfl) (by assumption) ?_
          simp only [Act.put, List.setIfInBounds_toArray, List.set_cons_zero, List.set_cons_succ]
          refine Take.run (i := 18) (d := some 83) (v := .bool true) rfl (by kernel_rfl) (by kernel_rfl) (by kernel_rfl) (fun _ _ _ h => h) (by rfl) (by
            intro oi hoi w' hSw
            cases hoi
            go_simp) (by assumption) ?_
          simp only [Act.put, List.setIfInBounds_toArray, List.set_cons_zero, List.set_cons_succ]
          refine Take.run (i := 19) (d := some 84) (v := .bool true) rfl (by kernel_rfl) (by kernel_rfl) (by kernel_rfl) (fun _ _ _ h => h) (by rfl) (by
            intro oi hoi w' hSw
            cases hoi
            go_simp) (by assumption) ?_
          simp only [Act.put, List.setIfInBounds_toArray, List.set_cons_zero, List.set_cons_succ]
          refine Take.run (i := 20) (d := some 6) (v := .bool true) rfl (by kernel_rfl) (by kernel_rfl) (by kernel_rfl) (fun _ _ _ h => h) (by rfl) (by
            intro oi hoi w' hSw
            cases hoi
            go_simp) (by assumption) ?_
          simp only [Act.put, List.setIfInBounds_toArray, List.set_cons_zero, List.set_cons_succ]
          refine wpAnyH_done (by kernel_rfl) ?_ _
          go_wp2
          go_ret
          exact ⟨rfl, HQ8.out.below⟩
        · have bE : ((place la.path).toList == ([] : List UInt8)) = true := by rw [str_emp, decide_eq_true hpe]
          have b0 : ((kn : Int) == 0) = true := by rw [beq_iff_eq]; omega
          have bQ : ((place la.path).toList == (place q).toList) = false := by rw [beq_str, decide_eq_false hpq]
          have HAp : Kept (∀ w t, Good t → PSto w g b (n + 1) lvNone (put t (place la.path) ⟨kn, mn, d⟩) → Calls Tryd.prog 16 #[.pointer (some ⟨g, 0, none⟩), .string (place la.path)] w fun e w' => e = .returned (.agg #[.int .i64 2, .int .i64 7, .string ⟨#[]⟩]) ∧ Below w.heap.size w w') := ⟨fun w t hg h => by
            have e : get (put t (place la.path) ⟨kn, mn, d⟩) (place la.path) = (⟨2, 7, ⟨#[]⟩⟩ : Ent) := by rw [get_put t hg, if_pos hpe]; rfl
            have := at_none g b (n + 1) _ (place la.path) w h (place_max _)
            rw [e] at this
            exact this⟩
          have HAq : Kept (∀ w, PSto w g b (n + 1) lvNone (put t (place la.path) ⟨kn, mn, d⟩) → Calls Tryd.prog 16 #[.pointer (some ⟨g, 0, none⟩), .string (place q)] w fun e w' => e = .returned (.agg #[.int .i64 k1, .int .i64 m1, .string d1]) ∧ Below w.heap.size w w') := ⟨fun w h => by
            have e : get (put t (place la.path) ⟨kn, mn, d⟩) (place q) = ⟨k1, m1, d1⟩ := by
              rw [get_put t H.out.1.p.good, if_neg hpq]
              by_cases hz : place q = emp
              · rw [if_pos hz, ← hget]; unfold get; rw [if_pos hz]
              · rw [if_neg hz, hget]
            have := at_none g b (n + 1) _ (place q) w h (place_max _)
            rw [e] at this
            exact this⟩
          have hq2 : ∀ w, (binOp .eql 23 (.agg #[.int .i64 k1, .int .i64 m1, .string d1]) (.agg #[.int .i64 k1, .int .i64 m1, .string d1])).run Tryd.prog w = .ok (.bool true) w := fun w => by
            have := ent_eq ⟨k1, m1, d1⟩ ⟨k1, m1, d1⟩ w
            rw [decide_eq_true rfl] at this
            exact this
          have hq1 : ∀ w, (binOp .eql 23 (.agg #[.int .i64 2, .int .i64 7, .string ⟨#[]⟩]) (.agg #[.int .i64 2, .int .i64 7, .string ⟨#[]⟩])).run Tryd.prog w = .ok (.bool true) w := fun w => by
            have := ent_eq (⟨2, 7, ⟨#[]⟩⟩ : Ent) (⟨2, 7, ⟨#[]⟩⟩ : Ent) w
            rw [decide_eq_true rfl] at this
            exact this
          clear hpe hk0 hpq hget
          go_wp2_with (first
            | (go_at_call 15
               have := T1
               refine (HP.out _).mono ?_
               rintro e w1' ⟨rfl, hb1'⟩
               clear T1 this a0 a1 a2 a3 a4
               have HQ1 := Kept.mk (H.out.1.on hb1')
               clear hb1')
            | (go_at_call 15
               refine (HQ.out _).mono ?_
               rintro e w2' ⟨rfl, hb2'⟩
               have HQ2 := Kept.mk (HQ1.out.on hb2')
               clear hb2')
            | (go_at_call 16
               have := T2
               refine (HAt.out _ HQ2.out.p).mono ?_
               rintro e w3 ⟨rfl, hb3⟩
               clear T2 this
               have HQ3 := Kept.mk ((HQ2.out.on hb3).alloc (.cells #[.int .i64 k1, .int .i64 m1, .string d1] 23))
               have HW3 := Kept.mk (heap_alloc_new w3 (.cells #[.int .i64 k1, .int .i64 m1, .string d1] 23))
               have hbw : Kept (b < w3.heap.size) := ⟨(HQ2.out.p.below hb3).own.lt⟩
               obtain ⟨a0, a1, a2, a3, a4⟩ := box5 HQ3.out.box
               clear hb3)
            | (go_at_call 12
               have := T3
               refine (HEn.out _).mono ?_
               rintro e w4 ⟨rfl, hb4⟩
               clear T3 this a0 a1 a2 a3 a4
               have HQ4 := Kept.mk (HQ3.out.on hb4)
               have HW4 := Kept.mk ((hb4.block _ (blk HW3.out)).trans HW3.out)
               clear hb4)
            | (go_at_call 14
               refine (put_letters g b n t (place la.path) kn mn d _ HQ4.out.p (place_max _) (by have := H.out.2; omega)).mono ?_
               rintro e w5 ⟨rfl, hp5, ho5⟩
               have HQ5 := Kept.mk (HQ4.out.put hp5.out ho5)
               have HW5 := Kept.mk ((ho5.block _ (blk HW4.out) (fun e => by have := hbw.out; omega)).trans HW4.out)
               obtain ⟨a0, a1, a2, a3, a4⟩ := box5 HQ5.out.box
               clear hp5 ho5)
            | (go_at_call 12
               refine (HEn.out _).mono ?_
               rintro e w6 ⟨rfl, hb6⟩
               clear a0 a1 a2 a3 a4
               have HQ6 := Kept.mk ((HQ5.out.on hb6).alloc (.cells #[.int .i64 2, .int .i64 7, .string ⟨#[]⟩] 23))
               have HW6 : Kept ((w6.alloc (.cells #[.int .i64 2, .int .i64 7, .string ⟨#[]⟩] 23)).heap[w3.heap.size]? = some (.cells #[.int .i64 k1, .int .i64 m1, .string d1] 23 (0, 0))) := ⟨(Below.heap_alloc w6 _ _ (Nat.lt_of_lt_of_le (blk HW5.out) hb6.size)).trans ((hb6.block _ (blk HW5.out)).trans HW5.out)⟩
               have HF6 := Kept.mk (heap_alloc_new w6 (.cells #[.int .i64 2, .int .i64 7, .string ⟨#[]⟩] 23))
               clear hb6))
          generalize w6.alloc (.cells #[.int .i64 2, .int .i64 7, .string ⟨#[]⟩] 23) = w7 at *
          have HD := Kept.mk HQ6.out.drew
          obtain ⟨x0, x1, x2⟩ := box3 HF6.out
          obtain ⟨y0, y1, y2⟩ := box3 HW6.out
          go_region_held3 (fun w' => w'.cell? ⟨w6.heap.size, 0, none⟩ = some (.int .i64 2) ∧ w'.cell? ⟨w6.heap.size, 1, none⟩ = some (.int .i64 7) ∧ w'.cell? ⟨w6.heap.size, 2, none⟩ = some (.string ⟨#[]⟩) ∧ w'.cell? ⟨w3.heap.size, 0, none⟩ = some (.int .i64 k1) ∧ w'.cell? ⟨w3.heap.size, 1, none⟩ = some (.int .i64 m1) ∧ w'.cell? ⟨w3.heap.size, 2, none⟩ = some (.string d1))
            (first
              | exact ⟨x0, x1, x2, y0, y1, y2⟩
              | exact ⟨u0, u1, u2, v0, v1, v2⟩
              | exact ⟨p0, p1, p2, q0, q1, q2⟩)
            (first
              | (go_at_call 16
                 have := T4
                 refine (HAp.out _ t H.out.1.p.good HD.out.p).mono ?_
                 rintro e w8 ⟨rfl, hb8⟩
                 clear T4 this
                 have HQ8 := Kept.mk (HD.out.on hb8)
                 have HF8 := Kept.mk ((hb8.block _ (blk HF6.out)).trans HF6.out)
                 have HW8 := Kept.mk ((hb8.block _ (blk HW6.out)).trans HW6.out)
                 obtain ⟨u0, u1, u2⟩ := box3 HF8.out
                 obtain ⟨v0, v1, v2⟩ := box3 HW8.out
                 clear hb8)
              | (go_at_call 16
                 refine (HAq.out _ HQ8.out.p).mono ?_
                 rintro e w9 ⟨rfl, hb9⟩
                 have HQ9 := Kept.mk (HQ8.out.on hb9)
                 have HF9 := Kept.mk ((hb9.block _ (blk HF8.out)).trans HF8.out)
                 have HW9 := Kept.mk ((hb9.block _ (blk HW8.out)).trans HW8.out)
                 obtain ⟨p0, p1, p2⟩ := box3 HF9.out
                 obtain ⟨q0, q1, q2⟩ := box3 HW9.out
                 clear hb9))
          go_wp2
          go_ret
          exact ⟨rfl, HQ9.out.below⟩
      · by_cases hpq : place la.path = place q
        · have bE : ((place la.path).toList == ([] : List UInt8)) = true := by rw [str_emp, decide_eq_true hpe]
          have b0 : ((kn : Int) == 0) = false := by rw [beq_eq_false_iff_ne]; omega
          rw [← hpq] at HQ HAt
          have HAp : Kept (∀ w t, Good t → PSto w g b (n + 1) lvNone (put t (place la.path) ⟨kn, mn, d⟩) → Calls Tryd.prog 16 #[.pointer (some ⟨g, 0, none⟩), .string (place la.path)] w fun e w' => e = .returned (.agg #[.int .i64 2, .int .i64 7, .string ⟨#[]⟩]) ∧ Below w.heap.size w w') := ⟨fun w t hg h => by
            have e : get (put t (place la.path) ⟨kn, mn, d⟩) (place la.path) = (⟨2, 7, ⟨#[]⟩⟩ : Ent) := by rw [get_put t hg, if_pos hpe]; rfl
            have := at_none g b (n + 1) _ (place la.path) w h (place_max _)
            rw [e] at this
            exact this⟩
          have hq1 : ∀ w, (binOp .eql 23 (.agg #[.int .i64 2, .int .i64 7, .string ⟨#[]⟩]) (.agg #[.int .i64 2, .int .i64 7, .string ⟨#[]⟩])).run Tryd.prog w = .ok (.bool true) w := fun w => by
            have := ent_eq (⟨2, 7, ⟨#[]⟩⟩ : Ent) (⟨2, 7, ⟨#[]⟩⟩ : Ent) w
            rw [decide_eq_true rfl] at this
            exact this
          clear hpe hk0 hpq hget
          go_wp2_with (first
            | (go_at_call 15
               have := T1
               refine (HP.out _).mono ?_
               rintro e w1' ⟨rfl, hb1'⟩
               clear T1 this a0 a1 a2 a3 a4
               have HQ1 := Kept.mk (H.out.1.on hb1')
               clear hb1')
            | (go_at_call 15
               refine (HQ.out _).mono ?_
               rintro e w2' ⟨rfl, hb2'⟩
               have HQ2 := Kept.mk (HQ1.out.on hb2')
               clear hb2')
            | (go_at_call 16
               have := T2
               refine (HAt.out _ HQ2.out.p).mono ?_
               rintro e w3 ⟨rfl, hb3⟩
               clear T2 this
               have HQ3 := Kept.mk ((HQ2.out.on hb3).alloc (.cells #[.int .i64 k1, .int .i64 m1, .string d1] 23))
               have HW3 := Kept.mk (heap_alloc_new w3 (.cells #[.int .i64 k1, .int .i64 m1, .string d1] 23))
               have hbw : Kept (b < w3.heap.size) := ⟨(HQ2.out.p.below hb3).own.lt⟩
               obtain ⟨a0, a1, a2, a3, a4⟩ := box5 HQ3.out.box
               clear hb3)
            | (go_at_call 12
               have := T3
               refine (HEn.out _).mono ?_
               rintro e w4 ⟨rfl, hb4⟩
               clear T3 this a0 a1 a2 a3 a4
               have HQ4 := Kept.mk (HQ3.out.on hb4)
               have HW4 := Kept.mk ((hb4.block _ (blk HW3.out)).trans HW3.out)
               clear hb4)
            | (go_at_call 14
               refine (put_letters g b n t (place la.path) kn mn d _ HQ4.out.p (place_max _) (by have := H.out.2; omega)).mono ?_
               rintro e w5 ⟨rfl, hp5, ho5⟩
               have HQ5 := Kept.mk (HQ4.out.put hp5.out ho5)
               have HW5 := Kept.mk ((ho5.block _ (blk HW4.out) (fun e => by have := hbw.out; omega)).trans HW4.out)
               obtain ⟨a0, a1, a2, a3, a4⟩ := box5 HQ5.out.box
               clear hp5 ho5)
            | (go_at_call 12
               refine (HEn.out _).mono ?_
               rintro e w6 ⟨rfl, hb6⟩
               clear a0 a1 a2 a3 a4
               have HQ6 := Kept.mk ((HQ5.out.on hb6).alloc (.cells #[.int .i64 2, .int .i64 7, .string ⟨#[]⟩] 23))
               have HW6 : Kept ((w6.alloc (.cells #[.int .i64 2, .int .i64 7, .string ⟨#[]⟩] 23)).heap[w3.heap.size]? = some (.cells #[.int .i64 k1, .int .i64 m1, .string d1] 23 (0, 0))) := ⟨(Below.heap_alloc w6 _ _ (Nat.lt_of_lt_of_le (blk HW5.out) hb6.size)).trans ((hb6.block _ (blk HW5.out)).trans HW5.out)⟩
               have HF6 := Kept.mk (heap_alloc_new w6 (.cells #[.int .i64 2, .int .i64 7, .string ⟨#[]⟩] 23))
               clear hb6))
          generalize w6.alloc (.cells #[.int .i64 2, .int .i64 7, .string ⟨#[]⟩] 23) = w7 at *
          have HD := Kept.mk HQ6.out.drew
          obtain ⟨x0, x1, x2⟩ := box3 HF6.out
          obtain ⟨y0, y1, y2⟩ := box3 HW6.out
          refine wp_region_held_drew (S := fun w' => w'.cell? ⟨w6.heap.size, 0, none⟩ = some (.int .i64 2) ∧ w'.cell? ⟨w6.heap.size, 1, none⟩ = some (.int .i64 7) ∧ w'.cell? ⟨w6.heap.size, 2, none⟩ = some (.string ⟨#[]⟩)) (by kernel_rfl) ⟨x0, x1, x2⟩ (fun hHeld => ?_)
          refine Take.run (i := 0) (d := some 65) (v := .bool true) rfl (by kernel_rfl) (by kernel_rfl) (by kernel_rfl) (fun _ _ _ h => h) (by rfl) (by
            intro oi hoi w' hSw
            cases hoi
            go_simp) (by assumption) ?_
          simp only [Act.put, List.setIfInBounds_toArray, List.set_cons_zero, List.set_cons_succ]
          refine Take.run (i := 1) (d := some 66) (v := .bool true) rfl (by kernel_rfl) (by kernel_rfl) (by kernel_rfl) (fun _ _ _ h => h) (by rfl) (by
            intro oi hoi w' hSw
            cases hoi
            go_simp) (by assumption) ?_
          simp only [Act.put, List.setIfInBounds_toArray, List.set_cons_zero, List.set_cons_succ]
          refine Take.run (i := 2) (d := some 67) (v := .pointer (some ⟨g, 0, none⟩)) rfl (by kernel_rfl) (by kernel_rfl) (by kernel_rfl) (fun _ _ _ h => h) (by rfl) (by
            intro oi hoi w' hSw
            cases hoi
            go_simp) (by assumption) ?_
          simp only [Act.put, List.setIfInBounds_toArray, List.set_cons_zero, List.set_cons_succ]
          refine Take.run (i := 3) (d := some 68) (v := .string (place la.path)) rfl (by kernel_rfl) (by kernel_rfl) (by kernel_rfl) (fun _ _ _ h => h) (by rfl) (by
            intro oi hoi w' hSw
            cases hoi
            go_simp) (by assumption) ?_
          simp only [Act.put, List.setIfInBounds_toArray, List.set_cons_zero, List.set_cons_succ]
          refine Take.run (i := 5) (d := some 70) (v := .agg #[.int .i64 2, .int .i64 7, .string ⟨#[]⟩]) rfl (by kernel_rfl) (by kernel_rfl) (by kernel_rfl) (fun _ _ _ h => h) (by rfl) (by
            intro oi hoi w' hSw
            cases hoi
            obtain ⟨s0, s1, s2⟩ := hSw
            go_simp) (by assumption) ?_
          simp only [Act.put, List.setIfInBounds_toArray, List.set_cons_zero, List.set_cons_succ]
          refine wpAnyH_ready (rs := [4]) (by kernel_rfl) (by simp) ?_
          refine AllReadyH.cons rfl (fun K hK => ?_) AllReadyH.nil
          go_simp
          go_wp2_with (go_at_call 16
                       refine (HAp.out _ t H.out.1.p.good HD.out.p).mono ?_
                       rintro e w8 ⟨rfl, hb8⟩
                       have HQ8 := Kept.mk (HD.out.on hb8)
                       have HF8 := Kept.mk ((hb8.block _ (blk HF6.out)).trans HF6.out)
                       obtain ⟨u0, u1, u2⟩ := box3 HF8.out
                       clear hb8)
          refine hK.out _ _ ⟨u0, u1, u2⟩ (fun hHeld => ?_)
          clear hK
          try simp only [Act.put, List.setIfInBounds_toArray, List.set_cons_zero, List.set_cons_succ]
          refine Take.run (i := 6) (d := some 71) (v := .bool true) rfl (by kernel_rfl) (by kernel_rfl) (by kernel_rfl) (fun _ _ _ h => h) (by rfl) (by
            intro oi hoi w' hSw
            cases hoi
            go_simp) (by assumption) ?_
          simp only [Act.put, List.setIfInBounds_toArray, List.set_cons_zero, List.set_cons_succ]
          refine Take.run (i := 7) (d := some 72) (v := .bool true) rfl (by kernel_rfl) (by kernel_rfl) (by kernel_rfl) (fun _ _ _ h => h) (by rfl) (by
            intro oi hoi w' hSw
            cases hoi
            go_simp) (by assumption) ?_
          simp only [Act.put, List.setIfInBounds_toArray, List.set_cons_zero, List.set_cons_succ]
          refine Take.run (i := 8) (d := some 73) (v := .bool true) rfl (by kernel_rfl) (by kernel_rfl) (by kernel_rfl) (fun _ _ _ h => h) (by rfl) (by
            intro oi hoi w' hSw
            cases hoi
            go_simp) (by assumption) ?_
          simp only [Act.put, List.setIfInBounds_toArray, List.set_cons_zero, List.set_cons_succ]
          refine Take.run (i := 9) (d := some 74) (v := .string (place la.path)) rfl (by kernel_rfl) (by kernel_rfl) (by kernel_rfl) (fun _ _ _ h => h) (by rfl) (by
            intro oi hoi w' hSw
            cases hoi
            go_simp) (by assumption) ?_
          simp only [Act.put, List.setIfInBounds_toArray, List.set_cons_zero, List.set_cons_succ]
          refine Take.run (i := 10) (d := some 75) (v := .string (place la.path)) rfl (by kernel_rfl) (by kernel_rfl) (by kernel_rfl) (fun _ _ _ h => h) (by rfl) (by
            intro oi hoi w' hSw
            cases hoi
            go_simp) (by assumption) ?_
          simp only [Act.put, List.setIfInBounds_toArray, List.set_cons_zero, List.set_cons_succ]
          refine Take.run (i := 11) (d := some 76) (v := .bool true) rfl (by kernel_rfl) (by kernel_rfl) (by kernel_rfl) (fun _ _ _ h => h) (by rfl) (by
            intro oi hoi w' hSw
            cases hoi
            go_simp) (by assumption) ?_
          simp only [Act.put, List.setIfInBounds_toArray, List.set_cons_zero, List.set_cons_succ]
          refine Take.run (i := 12) (d := some 77) (v := .bool true) rfl (by kernel_rfl) (by kernel_rfl) (by kernel_rfl) (fun _ _ _ h => h) (by rfl) (by
            intro oi hoi w' hSw
            cases hoi
            go_simp) (by assumption) ?_
          simp only [Act.put, List.setIfInBounds_toArray, List.set_cons_zero, List.set_cons_succ]
          refine Take.skip (i := 13) (d := some 78) rfl (by kernel_rfl) (by kernel_rfl) (by kernel_rfl) (fun _ _ _ h => h) (by rfl) (by assumption) ?_
          simp only [Act.put, List.setIfInBounds_toArray, List.set_cons_zero, List.set_cons_succ]
          refine Take.skip (i := 14) (d := some 79) rfl (by kernel_rfl) (by kernel_rfl) (by kernel_rfl) (fun _ _ _ h => h) (by rfl) (by assumption) ?_
          simp only [Act.put, List.setIfInBounds_toArray, List.set_cons_zero, List.set_cons_succ]
          refine Take.skip (i := 15) (d := some 80) rfl (by kernel_rfl) (by kernel_rfl) (by kernel_rfl) (fun _ _ _ h => h) (by rfl) (by assumption) ?_
          simp only [Act.put, List.setIfInBounds_toArray, List.set_cons_zero, List.set_cons_succ]
          refine Take.skip (i := 16) (d := some 81) rfl (by kernel_rfl) (by kernel_rfl) (by kernel_rfl) (fun _ _ _ h => h) (by rfl) (by assumption) ?_
          simp only [Act.put, List.setIfInBounds_toArray, List.set_cons_zero, List.set_cons_succ]
          refine Take.skip (i := 17) (d := some 82) rfl (by kernel_rfl) (by kernel_rfl) (by kernel_rfl) (fun _ _ _ h => h) (by rfl) (by assumption) ?_
          simp only [Act.put, List.setIfInBounds_toArray, List.set_cons_zero, List.set_cons_succ]
          refine Take.run (i := 18) (d := some 83) (v := .bool true) rfl (by kernel_rfl) (by kernel_rfl) (by kernel_rfl) (fun _ _ _ h => h) (by rfl) (by
            intro oi hoi w' hSw
            cases hoi
            go_simp) (by assumption) ?_
          simp only [Act.put, List.setIfInBounds_toArray, List.set_cons_zero, List.set_cons_succ]
          refine Take.run (i := 19) (d := some 84) (v := .bool true) rfl (by kernel_rfl) (by kernel_rfl) (by kernel_rfl) (fun _ _ _ h => h) (by rfl) (by
            intro oi hoi w' hSw
            cases hoi
            go_simp) (by assumption) ?_
          simp only [Act.put, List.setIfInBounds_toArray, List.set_cons_zero, List.set_cons_succ]
          refine Take.run (i := 20) (d := some 6) (v := .bool true) rfl (by kernel_rfl) (by kernel_rfl) (by kernel_rfl) (fun _ _ _ h => h) (by rfl) (by
            intro oi hoi w' hSw
            cases hoi
            go_simp) (by assumption) ?_
          simp only [Act.put, List.setIfInBounds_toArray, List.set_cons_zero, List.set_cons_succ]
          refine wpAnyH_done (by kernel_rfl) ?_ _
          go_wp2
          go_ret
          exact ⟨rfl, HQ8.out.below⟩
        · have bE : ((place la.path).toList == ([] : List UInt8)) = true := by rw [str_emp, decide_eq_true hpe]
          have b0 : ((kn : Int) == 0) = false := by rw [beq_eq_false_iff_ne]; omega
          have bQ : ((place la.path).toList == (place q).toList) = false := by rw [beq_str, decide_eq_false hpq]
          have HAp : Kept (∀ w t, Good t → PSto w g b (n + 1) lvNone (put t (place la.path) ⟨kn, mn, d⟩) → Calls Tryd.prog 16 #[.pointer (some ⟨g, 0, none⟩), .string (place la.path)] w fun e w' => e = .returned (.agg #[.int .i64 2, .int .i64 7, .string ⟨#[]⟩]) ∧ Below w.heap.size w w') := ⟨fun w t hg h => by
            have e : get (put t (place la.path) ⟨kn, mn, d⟩) (place la.path) = (⟨2, 7, ⟨#[]⟩⟩ : Ent) := by rw [get_put t hg, if_pos hpe]; rfl
            have := at_none g b (n + 1) _ (place la.path) w h (place_max _)
            rw [e] at this
            exact this⟩
          have HAq : Kept (∀ w, PSto w g b (n + 1) lvNone (put t (place la.path) ⟨kn, mn, d⟩) → Calls Tryd.prog 16 #[.pointer (some ⟨g, 0, none⟩), .string (place q)] w fun e w' => e = .returned (.agg #[.int .i64 k1, .int .i64 m1, .string d1]) ∧ Below w.heap.size w w') := ⟨fun w h => by
            have e : get (put t (place la.path) ⟨kn, mn, d⟩) (place q) = ⟨k1, m1, d1⟩ := by
              rw [get_put t H.out.1.p.good, if_neg hpq]
              by_cases hz : place q = emp
              · rw [if_pos hz, ← hget]; unfold get; rw [if_pos hz]
              · rw [if_neg hz, hget]
            have := at_none g b (n + 1) _ (place q) w h (place_max _)
            rw [e] at this
            exact this⟩
          have hq2 : ∀ w, (binOp .eql 23 (.agg #[.int .i64 k1, .int .i64 m1, .string d1]) (.agg #[.int .i64 k1, .int .i64 m1, .string d1])).run Tryd.prog w = .ok (.bool true) w := fun w => by
            have := ent_eq ⟨k1, m1, d1⟩ ⟨k1, m1, d1⟩ w
            rw [decide_eq_true rfl] at this
            exact this
          have hq1 : ∀ w, (binOp .eql 23 (.agg #[.int .i64 2, .int .i64 7, .string ⟨#[]⟩]) (.agg #[.int .i64 2, .int .i64 7, .string ⟨#[]⟩])).run Tryd.prog w = .ok (.bool true) w := fun w => by
            have := ent_eq (⟨2, 7, ⟨#[]⟩⟩ : Ent) (⟨2, 7, ⟨#[]⟩⟩ : Ent) w
            rw [decide_eq_true rfl] at this
            exact this
          clear hpe hk0 hpq hget
          go_wp2_with (first
            | (go_at_call 15
               have := T1
               refine (HP.out _).mono ?_
               rintro e w1' ⟨rfl, hb1'⟩
               clear T1 this a0 a1 a2 a3 a4
               have HQ1 := Kept.mk (H.out.1.on hb1')
               clear hb1')
            | (go_at_call 15
               refine (HQ.out _).mono ?_
               rintro e w2' ⟨rfl, hb2'⟩
               have HQ2 := Kept.mk (HQ1.out.on hb2')
               clear hb2')
            | (go_at_call 16
               have := T2
               refine (HAt.out _ HQ2.out.p).mono ?_
               rintro e w3 ⟨rfl, hb3⟩
               clear T2 this
               have HQ3 := Kept.mk ((HQ2.out.on hb3).alloc (.cells #[.int .i64 k1, .int .i64 m1, .string d1] 23))
               have HW3 := Kept.mk (heap_alloc_new w3 (.cells #[.int .i64 k1, .int .i64 m1, .string d1] 23))
               have hbw : Kept (b < w3.heap.size) := ⟨(HQ2.out.p.below hb3).own.lt⟩
               obtain ⟨a0, a1, a2, a3, a4⟩ := box5 HQ3.out.box
               clear hb3)
            | (go_at_call 12
               have := T3
               refine (HEn.out _).mono ?_
               rintro e w4 ⟨rfl, hb4⟩
               clear T3 this a0 a1 a2 a3 a4
               have HQ4 := Kept.mk (HQ3.out.on hb4)
               have HW4 := Kept.mk ((hb4.block _ (blk HW3.out)).trans HW3.out)
               clear hb4)
            | (go_at_call 14
               refine (put_letters g b n t (place la.path) kn mn d _ HQ4.out.p (place_max _) (by have := H.out.2; omega)).mono ?_
               rintro e w5 ⟨rfl, hp5, ho5⟩
               have HQ5 := Kept.mk (HQ4.out.put hp5.out ho5)
               have HW5 := Kept.mk ((ho5.block _ (blk HW4.out) (fun e => by have := hbw.out; omega)).trans HW4.out)
               obtain ⟨a0, a1, a2, a3, a4⟩ := box5 HQ5.out.box
               clear hp5 ho5)
            | (go_at_call 12
               refine (HEn.out _).mono ?_
               rintro e w6 ⟨rfl, hb6⟩
               clear a0 a1 a2 a3 a4
               have HQ6 := Kept.mk ((HQ5.out.on hb6).alloc (.cells #[.int .i64 2, .int .i64 7, .string ⟨#[]⟩] 23))
               have HW6 : Kept ((w6.alloc (.cells #[.int .i64 2, .int .i64 7, .string ⟨#[]⟩] 23)).heap[w3.heap.size]? = some (.cells #[.int .i64 k1, .int .i64 m1, .string d1] 23 (0, 0))) := ⟨(Below.heap_alloc w6 _ _ (Nat.lt_of_lt_of_le (blk HW5.out) hb6.size)).trans ((hb6.block _ (blk HW5.out)).trans HW5.out)⟩
               have HF6 := Kept.mk (heap_alloc_new w6 (.cells #[.int .i64 2, .int .i64 7, .string ⟨#[]⟩] 23))
               clear hb6))
          generalize w6.alloc (.cells #[.int .i64 2, .int .i64 7, .string ⟨#[]⟩] 23) = w7 at *
          have HD := Kept.mk HQ6.out.drew
          obtain ⟨x0, x1, x2⟩ := box3 HF6.out
          obtain ⟨y0, y1, y2⟩ := box3 HW6.out
          go_region_held3 (fun w' => w'.cell? ⟨w6.heap.size, 0, none⟩ = some (.int .i64 2) ∧ w'.cell? ⟨w6.heap.size, 1, none⟩ = some (.int .i64 7) ∧ w'.cell? ⟨w6.heap.size, 2, none⟩ = some (.string ⟨#[]⟩) ∧ w'.cell? ⟨w3.heap.size, 0, none⟩ = some (.int .i64 k1) ∧ w'.cell? ⟨w3.heap.size, 1, none⟩ = some (.int .i64 m1) ∧ w'.cell? ⟨w3.heap.size, 2, none⟩ = some (.string d1))
            (first
              | exact ⟨x0, x1, x2, y0, y1, y2⟩
              | exact ⟨u0, u1, u2, v0, v1, v2⟩
              | exact ⟨p0, p1, p2, q0, q1, q2⟩)
            (first
              | (go_at_call 16
                 have := T4
                 refine (HAp.out _ t H.out.1.p.good HD.out.p).mono ?_
                 rintro e w8 ⟨rfl, hb8⟩
                 clear T4 this
                 have HQ8 := Kept.mk (HD.out.on hb8)
                 have HF8 := Kept.mk ((hb8.block _ (blk HF6.out)).trans HF6.out)
                 have HW8 := Kept.mk ((hb8.block _ (blk HW6.out)).trans HW6.out)
                 obtain ⟨u0, u1, u2⟩ := box3 HF8.out
                 obtain ⟨v0, v1, v2⟩ := box3 HW8.out
                 clear hb8)
              | (go_at_call 16
                 refine (HAq.out _ HQ8.out.p).mono ?_
                 rintro e w9 ⟨rfl, hb9⟩
                 have HQ9 := Kept.mk (HQ8.out.on hb9)
                 have HF9 := Kept.mk ((hb9.block _ (blk HF8.out)).trans HF8.out)
                 have HW9 := Kept.mk ((hb9.block _ (blk HW8.out)).trans HW8.out)
                 obtain ⟨p0, p1, p2⟩ := box3 HF9.out
                 obtain ⟨q0, q1, q2⟩ := box3 HW9.out
                 clear hb9))
          go_wp2
          go_ret
          exact ⟨rfl, HQ9.out.below⟩
    · by_cases hk0 : kn = 0
      · by_cases hpq : place la.path = place q
        · have bE : ((place la.path).toList == ([] : List UInt8)) = false := by rw [str_emp, decide_eq_false hpe]
          have b0 : ((kn : Int) == 0) = true := by rw [beq_iff_eq]; omega
          rw [← hpq] at HQ HAt
          have HAp : Kept (∀ w t, Good t → PSto w g b (n + 1) lvNone (put t (place la.path) ⟨kn, mn, d⟩) → Calls Tryd.prog 16 #[.pointer (some ⟨g, 0, none⟩), .string (place la.path)] w fun e w' => e = .returned (.agg #[.int .i64 0, .int .i64 0, .string ⟨#[]⟩]) ∧ Below w.heap.size w w') := ⟨fun w t hg h => by
            have e : get (put t (place la.path) ⟨kn, mn, d⟩) (place la.path) = (⟨0, 0, ⟨#[]⟩⟩ : Ent) := by rw [get_put t hg, if_neg hpe, if_pos rfl, if_pos (by show  (kn : Int) = 0; omega)]; rfl
            have := at_none g b (n + 1) _ (place la.path) w h (place_max _)
            rw [e] at this
            exact this⟩
          have hq1 : ∀ w, (binOp .eql 23 (.agg #[.int .i64 0, .int .i64 0, .string ⟨#[]⟩]) (.agg #[.int .i64 0, .int .i64 0, .string ⟨#[]⟩])).run Tryd.prog w = .ok (.bool true) w := fun w => by
            have := ent_eq (⟨0, 0, ⟨#[]⟩⟩ : Ent) (⟨0, 0, ⟨#[]⟩⟩ : Ent) w
            rw [decide_eq_true rfl] at this
            exact this
          clear hpe hk0 hpq hget
          go_wp2_with (first
            | (go_at_call 15
               have := T1
               refine (HP.out _).mono ?_
               rintro e w1' ⟨rfl, hb1'⟩
               clear T1 this a0 a1 a2 a3 a4
               have HQ1 := Kept.mk (H.out.1.on hb1')
               clear hb1')
            | (go_at_call 15
               refine (HQ.out _).mono ?_
               rintro e w2' ⟨rfl, hb2'⟩
               have HQ2 := Kept.mk (HQ1.out.on hb2')
               clear hb2')
            | (go_at_call 16
               have := T2
               refine (HAt.out _ HQ2.out.p).mono ?_
               rintro e w3 ⟨rfl, hb3⟩
               clear T2 this
               have HQ3 := Kept.mk ((HQ2.out.on hb3).alloc (.cells #[.int .i64 k1, .int .i64 m1, .string d1] 23))
               have HW3 := Kept.mk (heap_alloc_new w3 (.cells #[.int .i64 k1, .int .i64 m1, .string d1] 23))
               have hbw : Kept (b < w3.heap.size) := ⟨(HQ2.out.p.below hb3).own.lt⟩
               obtain ⟨a0, a1, a2, a3, a4⟩ := box5 HQ3.out.box
               clear hb3)
            | (go_at_call 12
               have := T3
               refine (HEn.out _).mono ?_
               rintro e w4 ⟨rfl, hb4⟩
               clear T3 this a0 a1 a2 a3 a4
               have HQ4 := Kept.mk (HQ3.out.on hb4)
               have HW4 := Kept.mk ((hb4.block _ (blk HW3.out)).trans HW3.out)
               clear hb4)
            | (go_at_call 14
               refine (put_letters g b n t (place la.path) kn mn d _ HQ4.out.p (place_max _) (by have := H.out.2; omega)).mono ?_
               rintro e w5 ⟨rfl, hp5, ho5⟩
               have HQ5 := Kept.mk (HQ4.out.put hp5.out ho5)
               have HW5 := Kept.mk ((ho5.block _ (blk HW4.out) (fun e => by have := hbw.out; omega)).trans HW4.out)
               obtain ⟨a0, a1, a2, a3, a4⟩ := box5 HQ5.out.box
               clear hp5 ho5)
            | (go_at_call 12
               refine (HEn.out _).mono ?_
               rintro e w6 ⟨rfl, hb6⟩
               clear a0 a1 a2 a3 a4
               have HQ6 := Kept.mk ((HQ5.out.on hb6).alloc (.cells #[.int .i64 0, .int .i64 0, .string ⟨#[]⟩] 23))
               have HW6 : Kept ((w6.alloc (.cells #[.int .i64 0, .int .i64 0, .string ⟨#[]⟩] 23)).heap[w3.heap.size]? = some (.cells #[.int .i64 k1, .int .i64 m1, .string d1] 23 (0, 0))) := ⟨(Below.heap_alloc w6 _ _ (Nat.lt_of_lt_of_le (blk HW5.out) hb6.size)).trans ((hb6.block _ (blk HW5.out)).trans HW5.out)⟩
               have HF6 := Kept.mk (heap_alloc_new w6 (.cells #[.int .i64 0, .int .i64 0, .string ⟨#[]⟩] 23))
               clear hb6))
          generalize w6.alloc (.cells #[.int .i64 0, .int .i64 0, .string ⟨#[]⟩] 23) = w7 at *
          have HD := Kept.mk HQ6.out.drew
          obtain ⟨x0, x1, x2⟩ := box3 HF6.out
          obtain ⟨y0, y1, y2⟩ := box3 HW6.out
          refine wp_region_held_drew (S := fun w' => w'.cell? ⟨w6.heap.size, 0, none⟩ = some (.int .i64 0) ∧ w'.cell? ⟨w6.heap.size, 1, none⟩ = some (.int .i64 0) ∧ w'.cell? ⟨w6.heap.size, 2, none⟩ = some (.string ⟨#[]⟩)) (by kernel_rfl) ⟨x0, x1, x2⟩ (fun hHeld => ?_)
          refine Take.run (i := 0) (d := some 65) (v := .bool true) rfl (by kernel_rfl) (by kernel_rfl) (by kernel_rfl) (fun _ _ _ h => h) (by rfl) (by
            intro oi hoi w' hSw
            cases hoi
            go_simp) (by assumption) ?_
          simp only [Act.put, List.setIfInBounds_toArray, List.set_cons_zero, List.set_cons_succ]
          refine Take.run (i := 1) (d := some 66) (v := .bool true) rfl (by kernel_rfl) (by kernel_rfl) (by kernel_rfl) (fun _ _ _ h => h) (by rfl) (by
            intro oi hoi w' hSw
            cases hoi
            go_simp) (by assumption) ?_
          simp only [Act.put, List.setIfInBounds_toArray, List.set_cons_zero, List.set_cons_succ]
          refine Take.run (i := 2) (d := some 67) (v := .pointer (some ⟨g, 0, none⟩)) rfl (by kernel_rfl) (by kernel_rfl) (by kernel_rfl) (fun _ _ _ h => h) (by rfl) (by
            intro oi hoi w' hSw
            cases hoi
            go_simp) (by assumption) ?_
          simp only [Act.put, List.setIfInBounds_toArray, List.set_cons_zero, List.set_cons_succ]
          refine Take.run (i := 3) (d := some 68) (v := .string (place la.path)) rfl (by kernel_rfl) (by kernel_rfl) (by kernel_rfl) (fun _ _ _ h => h) (by rfl) (by
            intro oi hoi w' hSw
            cases hoi
            go_simp) (by assumption) ?_
          simp only [Act.put, List.setIfInBounds_toArray, List.set_cons_zero, List.set_cons_succ]
          refine Take.run (i := 5) (d := some 70) (v := .agg #[.int .i64 0, .int .i64 0, .string ⟨#[]⟩]) rfl (by kernel_rfl) (by kernel_rfl) (by kernel_rfl) (fun _ _ _ h => h) (by rfl) (by
            intro oi hoi w' hSw
            cases hoi
            obtain ⟨s0, s1, s2⟩ := hSw
            go_simp) (by assumption) ?_
          simp only [Act.put, List.setIfInBounds_toArray, List.set_cons_zero, List.set_cons_succ]
          refine wpAnyH_ready (rs := [4]) (by kernel_rfl) (by simp) ?_
          refine AllReadyH.cons rfl (fun K hK => ?_) AllReadyH.nil
          go_simp
          go_wp2_with (go_at_call 16
                       refine (HAp.out _ t H.out.1.p.good HD.out.p).mono ?_
                       rintro e w8 ⟨rfl, hb8⟩
                       have HQ8 := Kept.mk (HD.out.on hb8)
                       have HF8 := Kept.mk ((hb8.block _ (blk HF6.out)).trans HF6.out)
                       obtain ⟨u0, u1, u2⟩ := box3 HF8.out
                       clear hb8)
          refine hK.out _ _ ⟨u0, u1, u2⟩ (fun hHeld => ?_)
          clear hK
          try simp only [Act.put, List.setIfInBounds_toArray, List.set_cons_zero, List.set_cons_succ]
          refine Take.run (i := 6) (d := some 71) (v := .bool true) rfl (by kernel_rfl) (by kernel_rfl) (by kernel_rfl) (fun _ _ _ h => h) (by rfl) (by
            intro oi hoi w' hSw
            cases hoi
            go_simp) (by assumption) ?_
          simp only [Act.put, List.setIfInBounds_toArray, List.set_cons_zero, List.set_cons_succ]
          refine Take.run (i := 7) (d := some 72) (v := .bool true) rfl (by kernel_rfl) (by kernel_rfl) (by kernel_rfl) (fun _ _ _ h => h) (by rfl) (by
            intro oi hoi w' hSw
            cases hoi
            go_simp) (by assumption) ?_
          simp only [Act.put, List.setIfInBounds_toArray, List.set_cons_zero, List.set_cons_succ]
          refine Take.run (i := 8) (d := some 73) (v := .bool true) rfl (by kernel_rfl) (by kernel_rfl) (by kernel_rfl) (fun _ _ _ h => h) (by rfl) (by
            intro oi hoi w' hSw
            cases hoi
            go_simp) (by assumption) ?_
          simp only [Act.put, List.setIfInBounds_toArray, List.set_cons_zero, List.set_cons_succ]
          refine Take.run (i := 9) (d := some 74) (v := .string (place la.path)) rfl (by kernel_rfl) (by kernel_rfl) (by kernel_rfl) (fun _ _ _ h => h) (by rfl) (by
            intro oi hoi w' hSw
            cases hoi
            go_simp) (by assumption) ?_
          simp only [Act.put, List.setIfInBounds_toArray, List.set_cons_zero, List.set_cons_succ]
          refine Take.run (i := 10) (d := some 75) (v := .string (place la.path)) rfl (by kernel_rfl) (by kernel_rfl) (by kernel_rfl) (fun _ _ _ h => h) (by rfl) (by
            intro oi hoi w' hSw
            cases hoi
            go_simp) (by assumption) ?_
          simp only [Act.put, List.setIfInBounds_toArray, List.set_cons_zero, List.set_cons_succ]
          refine Take.run (i := 11) (d := some 76) (v := .bool true) rfl (by kernel_rfl) (by kernel_rfl) (by kernel_rfl) (fun _ _ _ h => h) (by rfl) (by
            intro oi hoi w' hSw
            cases hoi
            go_simp) (by assumption) ?_
          simp only [Act.put, List.setIfInBounds_toArray, List.set_cons_zero, List.set_cons_succ]
          refine Take.run (i := 12) (d := some 77) (v := .bool true) rfl (by kernel_rfl) (by kernel_rfl) (by kernel_rfl) (fun _ _ _ h => h) (by rfl) (by
            intro oi hoi w' hSw
            cases hoi
            go_simp) (by assumption) ?_
          simp only [Act.put, List.setIfInBounds_toArray, List.set_cons_zero, List.set_cons_succ]
          refine Take.skip (i := 13) (d := some 78) rfl (by kernel_rfl) (by kernel_rfl) (by kernel_rfl) (fun _ _ _ h => h) (by rfl) (by assumption) ?_
          simp only [Act.put, List.setIfInBounds_toArray, List.set_cons_zero, List.set_cons_succ]
          refine Take.skip (i := 14) (d := some 79) rfl (by kernel_rfl) (by kernel_rfl) (by kernel_rfl) (fun _ _ _ h => h) (by rfl) (by assumption) ?_
          simp only [Act.put, List.setIfInBounds_toArray, List.set_cons_zero, List.set_cons_succ]
          refine Take.skip (i := 15) (d := some 80) rfl (by kernel_rfl) (by kernel_rfl) (by kernel_rfl) (fun _ _ _ h => h) (by rfl) (by assumption) ?_
          simp only [Act.put, List.setIfInBounds_toArray, List.set_cons_zero, List.set_cons_succ]
          refine Take.skip (i := 16) (d := some 81) rfl (by kernel_rfl) (by kernel_rfl) (by kernel_rfl) (fun _ _ _ h => h) (by rfl) (by assumption) ?_
          simp only [Act.put, List.setIfInBounds_toArray, List.set_cons_zero, List.set_cons_succ]
          refine Take.skip (i := 17) (d := some 82) rfl (by kernel_rfl) (by kernel_rfl) (by kernel_rfl) (fun _ _ _ h => h) (by rfl) (by assumption) ?_
          simp only [Act.put, List.setIfInBounds_toArray, List.set_cons_zero, List.set_cons_succ]
          refine Take.run (i := 18) (d := some 83) (v := .bool true) rfl (by kernel_rfl) (by kernel_rfl) (by kernel_rfl) (fun _ _ _ h => h) (by rfl) (by
            intro oi hoi w' hSw
            cases hoi
            go_simp) (by assumption) ?_
          simp only [Act.put, List.setIfInBounds_toArray, List.set_cons_zero, List.set_cons_succ]
          refine Take.run (i := 19) (d := some 84) (v := .bool true) rfl (by kernel_rfl) (by kernel_rfl) (by kernel_rfl) (fun _ _ _ h => h) (by rfl) (by
            intro oi hoi w' hSw
            cases hoi
            go_simp) (by assumption) ?_
          simp only [Act.put, List.setIfInBounds_toArray, List.set_cons_zero, List.set_cons_succ]
          refine Take.run (i := 20) (d := some 6) (v := .bool true) rfl (by kernel_rfl) (by kernel_rfl) (by kernel_rfl) (fun _ _ _ h => h) (by rfl) (by
            intro oi hoi w' hSw
            cases hoi
            go_simp) (by assumption) ?_
          simp only [Act.put, List.setIfInBounds_toArray, List.set_cons_zero, List.set_cons_succ]
          refine wpAnyH_done (by kernel_rfl) ?_ _
          go_wp2
          go_ret
          exact ⟨rfl, HQ8.out.below⟩
        · have bE : ((place la.path).toList == ([] : List UInt8)) = false := by rw [str_emp, decide_eq_false hpe]
          have b0 : ((kn : Int) == 0) = true := by rw [beq_iff_eq]; omega
          have bQ : ((place la.path).toList == (place q).toList) = false := by rw [beq_str, decide_eq_false hpq]
          have HAp : Kept (∀ w t, Good t → PSto w g b (n + 1) lvNone (put t (place la.path) ⟨kn, mn, d⟩) → Calls Tryd.prog 16 #[.pointer (some ⟨g, 0, none⟩), .string (place la.path)] w fun e w' => e = .returned (.agg #[.int .i64 0, .int .i64 0, .string ⟨#[]⟩]) ∧ Below w.heap.size w w') := ⟨fun w t hg h => by
            have e : get (put t (place la.path) ⟨kn, mn, d⟩) (place la.path) = (⟨0, 0, ⟨#[]⟩⟩ : Ent) := by rw [get_put t hg, if_neg hpe, if_pos rfl, if_pos (by show  (kn : Int) = 0; omega)]; rfl
            have := at_none g b (n + 1) _ (place la.path) w h (place_max _)
            rw [e] at this
            exact this⟩
          have HAq : Kept (∀ w, PSto w g b (n + 1) lvNone (put t (place la.path) ⟨kn, mn, d⟩) → Calls Tryd.prog 16 #[.pointer (some ⟨g, 0, none⟩), .string (place q)] w fun e w' => e = .returned (.agg #[.int .i64 k1, .int .i64 m1, .string d1]) ∧ Below w.heap.size w w') := ⟨fun w h => by
            have e : get (put t (place la.path) ⟨kn, mn, d⟩) (place q) = ⟨k1, m1, d1⟩ := by
              rw [get_put t H.out.1.p.good, if_neg hpq]
              by_cases hz : place q = emp
              · rw [if_pos hz, ← hget]; unfold get; rw [if_pos hz]
              · rw [if_neg hz, hget]
            have := at_none g b (n + 1) _ (place q) w h (place_max _)
            rw [e] at this
            exact this⟩
          have hq2 : ∀ w, (binOp .eql 23 (.agg #[.int .i64 k1, .int .i64 m1, .string d1]) (.agg #[.int .i64 k1, .int .i64 m1, .string d1])).run Tryd.prog w = .ok (.bool true) w := fun w => by
            have := ent_eq ⟨k1, m1, d1⟩ ⟨k1, m1, d1⟩ w
            rw [decide_eq_true rfl] at this
            exact this
          have hq1 : ∀ w, (binOp .eql 23 (.agg #[.int .i64 0, .int .i64 0, .string ⟨#[]⟩]) (.agg #[.int .i64 0, .int .i64 0, .string ⟨#[]⟩])).run Tryd.prog w = .ok (.bool true) w := fun w => by
            have := ent_eq (⟨0, 0, ⟨#[]⟩⟩ : Ent) (⟨0, 0, ⟨#[]⟩⟩ : Ent) w
            rw [decide_eq_true rfl] at this
            exact this
          clear hpe hk0 hpq hget
          go_wp2_with (first
            | (go_at_call 15
               have := T1
               refine (HP.out _).mono ?_
               rintro e w1' ⟨rfl, hb1'⟩
               clear T1 this a0 a1 a2 a3 a4
               have HQ1 := Kept.mk (H.out.1.on hb1')
               clear hb1')
            | (go_at_call 15
               refine (HQ.out _).mono ?_
               rintro e w2' ⟨rfl, hb2'⟩
               have HQ2 := Kept.mk (HQ1.out.on hb2')
               clear hb2')
            | (go_at_call 16
               have := T2
               refine (HAt.out _ HQ2.out.p).mono ?_
               rintro e w3 ⟨rfl, hb3⟩
               clear T2 this
               have HQ3 := Kept.mk ((HQ2.out.on hb3).alloc (.cells #[.int .i64 k1, .int .i64 m1, .string d1] 23))
               have HW3 := Kept.mk (heap_alloc_new w3 (.cells #[.int .i64 k1, .int .i64 m1, .string d1] 23))
               have hbw : Kept (b < w3.heap.size) := ⟨(HQ2.out.p.below hb3).own.lt⟩
               obtain ⟨a0, a1, a2, a3, a4⟩ := box5 HQ3.out.box
               clear hb3)
            | (go_at_call 12
               have := T3
               refine (HEn.out _).mono ?_
               rintro e w4 ⟨rfl, hb4⟩
               clear T3 this a0 a1 a2 a3 a4
               have HQ4 := Kept.mk (HQ3.out.on hb4)
               have HW4 := Kept.mk ((hb4.block _ (blk HW3.out)).trans HW3.out)
               clear hb4)
            | (go_at_call 14
               refine (put_letters g b n t (place la.path) kn mn d _ HQ4.out.p (place_max _) (by have := H.out.2; omega)).mono ?_
               rintro e w5 ⟨rfl, hp5, ho5⟩
               have HQ5 := Kept.mk (HQ4.out.put hp5.out ho5)
               have HW5 := Kept.mk ((ho5.block _ (blk HW4.out) (fun e => by have := hbw.out; omega)).trans HW4.out)
               obtain ⟨a0, a1, a2, a3, a4⟩ := box5 HQ5.out.box
               clear hp5 ho5)
            | (go_at_call 12
               refine (HEn.out _).mono ?_
               rintro e w6 ⟨rfl, hb6⟩
               clear a0 a1 a2 a3 a4
               have HQ6 := Kept.mk ((HQ5.out.on hb6).alloc (.cells #[.int .i64 0, .int .i64 0, .string ⟨#[]⟩] 23))
               have HW6 : Kept ((w6.alloc (.cells #[.int .i64 0, .int .i64 0, .string ⟨#[]⟩] 23)).heap[w3.heap.size]? = some (.cells #[.int .i64 k1, .int .i64 m1, .string d1] 23 (0, 0))) := ⟨(Below.heap_alloc w6 _ _ (Nat.lt_of_lt_of_le (blk HW5.out) hb6.size)).trans ((hb6.block _ (blk HW5.out)).trans HW5.out)⟩
               have HF6 := Kept.mk (heap_alloc_new w6 (.cells #[.int .i64 0, .int .i64 0, .string ⟨#[]⟩] 23))
               clear hb6))
          generalize w6.alloc (.cells #[.int .i64 0, .int .i64 0, .string ⟨#[]⟩] 23) = w7 at *
          have HD := Kept.mk HQ6.out.drew
          obtain ⟨x0, x1, x2⟩ := box3 HF6.out
          obtain ⟨y0, y1, y2⟩ := box3 HW6.out
          go_region_held3 (fun w' => w'.cell? ⟨w6.heap.size, 0, none⟩ = some (.int .i64 0) ∧ w'.cell? ⟨w6.heap.size, 1, none⟩ = some (.int .i64 0) ∧ w'.cell? ⟨w6.heap.size, 2, none⟩ = some (.string ⟨#[]⟩) ∧ w'.cell? ⟨w3.heap.size, 0, none⟩ = some (.int .i64 k1) ∧ w'.cell? ⟨w3.heap.size, 1, none⟩ = some (.int .i64 m1) ∧ w'.cell? ⟨w3.heap.size, 2, none⟩ = some (.string d1))
            (first
              | exact ⟨x0, x1, x2, y0, y1, y2⟩
              | exact ⟨u0, u1, u2, v0, v1, v2⟩
              | exact ⟨p0, p1, p2, q0, q1, q2⟩)
            (first
              | (go_at_call 16
                 have := T4
                 refine (HAp.out _ t H.out.1.p.good HD.out.p).mono ?_
                 rintro e w8 ⟨rfl, hb8⟩
                 clear T4 this
                 have HQ8 := Kept.mk (HD.out.on hb8)
                 have HF8 := Kept.mk ((hb8.block _ (blk HF6.out)).trans HF6.out)
                 have HW8 := Kept.mk ((hb8.block _ (blk HW6.out)).trans HW6.out)
                 obtain ⟨u0, u1, u2⟩ := box3 HF8.out
                 obtain ⟨v0, v1, v2⟩ := box3 HW8.out
                 clear hb8)
              | (go_at_call 16
                 refine (HAq.out _ HQ8.out.p).mono ?_
                 rintro e w9 ⟨rfl, hb9⟩
                 have HQ9 := Kept.mk (HQ8.out.on hb9)
                 have HF9 := Kept.mk ((hb9.block _ (blk HF8.out)).trans HF8.out)
                 have HW9 := Kept.mk ((hb9.block _ (blk HW8.out)).trans HW8.out)
                 obtain ⟨p0, p1, p2⟩ := box3 HF9.out
                 obtain ⟨q0, q1, q2⟩ := box3 HW9.out
                 clear hb9))
          go_wp2
          go_ret
          exact ⟨rfl, HQ9.out.below⟩
      · by_cases hpq : place la.path = place q
        · have bE : ((place la.path).toList == ([] : List UInt8)) = false := by rw [str_emp, decide_eq_false hpe]
          have b0 : ((kn : Int) == 0) = false := by rw [beq_eq_false_iff_ne]; omega
          rw [← hpq] at HQ HAt
          have HAp : Kept (∀ w t, Good t → PSto w g b (n + 1) lvNone (put t (place la.path) ⟨kn, mn, d⟩) → Calls Tryd.prog 16 #[.pointer (some ⟨g, 0, none⟩), .string (place la.path)] w fun e w' => e = .returned (.agg #[.int .i64 (kn : Int), .int .i64 (mn : Int), .string d]) ∧ Below w.heap.size w w') := ⟨fun w t hg h => by
            have e : get (put t (place la.path) ⟨kn, mn, d⟩) (place la.path) = (⟨(kn : Int), (mn : Int), d⟩ : Ent) := by rw [get_put t hg, if_neg hpe, if_pos rfl, if_neg (by show ¬ (kn : Int) = 0; omega)]
            have := at_none g b (n + 1) _ (place la.path) w h (place_max _)
            rw [e] at this
            exact this⟩
          have hq1 : ∀ w, (binOp .eql 23 (.agg #[.int .i64 (kn : Int), .int .i64 (mn : Int), .string d]) (.agg #[.int .i64 (kn : Int), .int .i64 (mn : Int), .string d])).run Tryd.prog w = .ok (.bool true) w := fun w => by
            have := ent_eq (⟨(kn : Int), (mn : Int), d⟩ : Ent) (⟨(kn : Int), (mn : Int), d⟩ : Ent) w
            rw [decide_eq_true rfl] at this
            exact this
          clear hpe hk0 hpq hget
          go_wp2_with (first
            | (go_at_call 15
               have := T1
               refine (HP.out _).mono ?_
               rintro e w1' ⟨rfl, hb1'⟩
               clear T1 this a0 a1 a2 a3 a4
               have HQ1 := Kept.mk (H.out.1.on hb1')
               clear hb1')
            | (go_at_call 15
               refine (HQ.out _).mono ?_
               rintro e w2' ⟨rfl, hb2'⟩
               have HQ2 := Kept.mk (HQ1.out.on hb2')
               clear hb2')
            | (go_at_call 16
               have := T2
               refine (HAt.out _ HQ2.out.p).mono ?_
               rintro e w3 ⟨rfl, hb3⟩
               clear T2 this
               have HQ3 := Kept.mk ((HQ2.out.on hb3).alloc (.cells #[.int .i64 k1, .int .i64 m1, .string d1] 23))
               have HW3 := Kept.mk (heap_alloc_new w3 (.cells #[.int .i64 k1, .int .i64 m1, .string d1] 23))
               have hbw : Kept (b < w3.heap.size) := ⟨(HQ2.out.p.below hb3).own.lt⟩
               obtain ⟨a0, a1, a2, a3, a4⟩ := box5 HQ3.out.box
               clear hb3)
            | (go_at_call 12
               have := T3
               refine (HEn.out _).mono ?_
               rintro e w4 ⟨rfl, hb4⟩
               clear T3 this a0 a1 a2 a3 a4
               have HQ4 := Kept.mk (HQ3.out.on hb4)
               have HW4 := Kept.mk ((hb4.block _ (blk HW3.out)).trans HW3.out)
               clear hb4)
            | (go_at_call 14
               refine (put_letters g b n t (place la.path) kn mn d _ HQ4.out.p (place_max _) (by have := H.out.2; omega)).mono ?_
               rintro e w5 ⟨rfl, hp5, ho5⟩
               have HQ5 := Kept.mk (HQ4.out.put hp5.out ho5)
               have HW5 := Kept.mk ((ho5.block _ (blk HW4.out) (fun e => by have := hbw.out; omega)).trans HW4.out)
               obtain ⟨a0, a1, a2, a3, a4⟩ := box5 HQ5.out.box
               clear hp5 ho5)
            | (go_at_call 12
               refine (HEn.out _).mono ?_
               rintro e w6 ⟨rfl, hb6⟩
               clear a0 a1 a2 a3 a4
               have HQ6 := Kept.mk ((HQ5.out.on hb6).alloc (.cells #[.int .i64 (kn : Int), .int .i64 (mn : Int), .string d] 23))
               have HW6 : Kept ((w6.alloc (.cells #[.int .i64 (kn : Int), .int .i64 (mn : Int), .string d] 23)).heap[w3.heap.size]? = some (.cells #[.int .i64 k1, .int .i64 m1, .string d1] 23 (0, 0))) := ⟨(Below.heap_alloc w6 _ _ (Nat.lt_of_lt_of_le (blk HW5.out) hb6.size)).trans ((hb6.block _ (blk HW5.out)).trans HW5.out)⟩
               have HF6 := Kept.mk (heap_alloc_new w6 (.cells #[.int .i64 (kn : Int), .int .i64 (mn : Int), .string d] 23))
               clear hb6))
          generalize w6.alloc (.cells #[.int .i64 (kn : Int), .int .i64 (mn : Int), .string d] 23) = w7 at *
          have HD := Kept.mk HQ6.out.drew
          obtain ⟨x0, x1, x2⟩ := box3 HF6.out
          obtain ⟨y0, y1, y2⟩ := box3 HW6.out
          refine wp_region_held_drew (S := fun w' => w'.cell? ⟨w6.heap.size, 0, none⟩ = some (.int .i64 (kn : Int)) ∧ w'.cell? ⟨w6.heap.size, 1, none⟩ = some (.int .i64 (mn : Int)) ∧ w'.cell? ⟨w6.heap.size, 2, none⟩ = some (.string d)) (by kernel_rfl) ⟨x0, x1, x2⟩ (fun hHeld => ?_)
          refine Take.run (i := 0) (d := some 65) (v := .bool true) rfl (by kernel_rfl) (by kernel_rfl) (by kernel_rfl) (fun _ _ _ h => h) (by rfl) (by
            intro oi hoi w' hSw
            cases hoi
            go_simp) (by assumption) ?_
          simp only [Act.put, List.setIfInBounds_toArray, List.set_cons_zero, List.set_cons_succ]
          refine Take.run (i := 1) (d := some 66) (v := .bool true) rfl (by kernel_rfl) (by kernel_rfl) (by kernel_rfl) (fun _ _ _ h => h) (by rfl) (by
            intro oi hoi w' hSw
            cases hoi
            go_simp) (by assumption) ?_
          simp only [Act.put, List.setIfInBounds_toArray, List.set_cons_zero, List.set_cons_succ]
          refine Take.run (i := 2) (d := some 67) (v := .pointer (some ⟨g, 0, none⟩)) rfl (by kernel_rfl) (by kernel_rfl) (by kernel_rfl) (fun _ _ _ h => h) (by rfl) (by
            intro oi hoi w' hSw
            cases hoi
            go_simp) (by assumption) ?_
          simp only [Act.put, List.setIfInBounds_toArray, List.set_cons_zero, List.set_cons_succ]
          refine Take.run (i := 3) (d := some 68) (v := .string (place la.path)) rfl (by kernel_rfl) (by kernel_rfl) (by kernel_rfl) (fun _ _ _ h => h) (by rfl) (by
            intro oi hoi w' hSw
            cases hoi
            go_simp) (by assumption) ?_
          simp only [Act.put, List.setIfInBounds_toArray, List.set_cons_zero, List.set_cons_succ]
          refine Take.run (i := 5) (d := some 70) (v := .agg #[.int .i64 (kn : Int), .int .i64 (mn : Int), .string d]) rfl (by kernel_rfl) (by kernel_rfl) (by kernel_rfl) (fun _ _ _ h => h) (by rfl) (by
            intro oi hoi w' hSw
            cases hoi
            obtain ⟨s0, s1, s2⟩ := hSw
            go_simp) (by assumption) ?_
          simp only [Act.put, List.setIfInBounds_toArray, List.set_cons_zero, List.set_cons_succ]
          refine wpAnyH_ready (rs := [4]) (by kernel_rfl) (by simp) ?_
          refine AllReadyH.cons rfl (fun K hK => ?_) AllReadyH.nil
          go_simp
          go_wp2_with (go_at_call 16
                       refine (HAp.out _ t H.out.1.p.good HD.out.p).mono ?_
                       rintro e w8 ⟨rfl, hb8⟩
                       have HQ8 := Kept.mk (HD.out.on hb8)
                       have HF8 := Kept.mk ((hb8.block _ (blk HF6.out)).trans HF6.out)
                       obtain ⟨u0, u1, u2⟩ := box3 HF8.out
                       clear hb8)
          refine hK.out _ _ ⟨u0, u1, u2⟩ (fun hHeld => ?_)
          clear hK
          try simp only [Act.put, List.setIfInBounds_toArray, List.set_cons_zero, List.set_cons_succ]
          refine Take.run (i := 6) (d := some 71) (v := .bool true) rfl (by kernel_rfl) (by kernel_rfl) (by kernel_rfl) (fun _ _ _ h => h) (by rfl) (by
            intro oi hoi w' hSw
            cases hoi
            go_simp) (by assumption) ?_
          simp only [Act.put, List.setIfInBounds_toArray, List.set_cons_zero, List.set_cons_succ]
          refine Take.run (i := 7) (d := some 72) (v := .bool true) rfl (by kernel_rfl) (by kernel_rfl) (by kernel_rfl) (fun _ _ _ h => h) (by rfl) (by
            intro oi hoi w' hSw
            cases hoi
            go_simp) (by assumption) ?_
          simp only [Act.put, List.setIfInBounds_toArray, List.set_cons_zero, List.set_cons_succ]
          refine Take.run (i := 8) (d := some 73) (v := .bool true) rfl (by kernel_rfl) (by kernel_rfl) (by kernel_rfl) (fun _ _ _ h => h) (by rfl) (by
            intro oi hoi w' hSw
            cases hoi
            go_simp) (by assumption) ?_
          simp only [Act.put, List.setIfInBounds_toArray, List.set_cons_zero, List.set_cons_succ]
          refine Take.run (i := 9) (d := some 74) (v := .string (place la.path)) rfl (by kernel_rfl) (by kernel_rfl) (by kernel_rfl) (fun _ _ _ h => h) (by rfl) (by
            intro oi hoi w' hSw
            cases hoi
            go_simp) (by assumption) ?_
          simp only [Act.put, List.setIfInBounds_toArray, List.set_cons_zero, List.set_cons_succ]
          refine Take.run (i := 10) (d := some 75) (v := .string (place la.path)) rfl (by kernel_rfl) (by kernel_rfl) (by kernel_rfl) (fun _ _ _ h => h) (by rfl) (by
            intro oi hoi w' hSw
            cases hoi
            go_simp) (by assumption) ?_
          simp only [Act.put, List.setIfInBounds_toArray, List.set_cons_zero, List.set_cons_succ]
          refine Take.run (i := 11) (d := some 76) (v := .bool true) rfl (by kernel_rfl) (by kernel_rfl) (by kernel_rfl) (fun _ _ _ h => h) (by rfl) (by
            intro oi hoi w' hSw
            cases hoi
            go_simp) (by assumption) ?_
          simp only [Act.put, List.setIfInBounds_toArray, List.set_cons_zero, List.set_cons_succ]
          refine Take.run (i := 12) (d := some 77) (v := .bool true) rfl (by kernel_rfl) (by kernel_rfl) (by kernel_rfl) (fun _ _ _ h => h) (by rfl) (by
            intro oi hoi w' hSw
            cases hoi
            go_simp) (by assumption) ?_
          simp only [Act.put, List.setIfInBounds_toArray, List.set_cons_zero, List.set_cons_succ]
          refine Take.skip (i := 13) (d := some 78) rfl (by kernel_rfl) (by kernel_rfl) (by kernel_rfl) (fun _ _ _ h => h) (by rfl) (by assumption) ?_
          simp only [Act.put, List.setIfInBounds_toArray, List.set_cons_zero, List.set_cons_succ]
          refine Take.skip (i := 14) (d := some 79) rfl (by kernel_rfl) (by kernel_rfl) (by kernel_rfl) (fun _ _ _ h => h) (by rfl) (by assumption) ?_
          simp only [Act.put, List.setIfInBounds_toArray, List.set_cons_zero, List.set_cons_succ]
          refine Take.skip (i := 15) (d := some 80) rfl (by kernel_rfl) (by kernel_rfl) (by kernel_rfl) (fun _ _ _ h => h) (by rfl) (by assumption) ?_
          simp only [Act.put, List.setIfInBounds_toArray, List.set_cons_zero, List.set_cons_succ]
          refine Take.skip (i := 16) (d := some 81) rfl (by kernel_rfl) (by kernel_rfl) (by kernel_rfl) (fun _ _ _ h => h) (by rfl) (by assumption) ?_
          simp only [Act.put, List.setIfInBounds_toArray, List.set_cons_zero, List.set_cons_succ]
          refine Take.skip (i := 17) (d := some 82) rfl (by kernel_rfl) (by kernel_rfl) (by kernel_rfl) (fun _ _ _ h => h) (by rfl) (by assumption) ?_
          simp only [Act.put, List.setIfInBounds_toArray, List.set_cons_zero, List.set_cons_succ]
          refine Take.run (i := 18) (d := some 83) (v := .bool true) rfl (by kernel_rfl) (by kernel_rfl) (by kernel_rfl) (fun _ _ _ h => h) (by rfl) (by
            intro oi hoi w' hSw
            cases hoi
            go_simp) (by assumption) ?_
          simp only [Act.put, List.setIfInBounds_toArray, List.set_cons_zero, List.set_cons_succ]
          refine Take.run (i := 19) (d := some 84) (v := .bool true) rfl (by kernel_rfl) (by kernel_rfl) (by kernel_rfl) (fun _ _ _ h => h) (by rfl) (by
            intro oi hoi w' hSw
            cases hoi
            go_simp) (by assumption) ?_
          simp only [Act.put, List.setIfInBounds_toArray, List.set_cons_zero, List.set_cons_succ]
          refine Take.run (i := 20) (d := some 6) (v := .bool true) rfl (by kernel_rfl) (by kernel_rfl) (by kernel_rfl) (fun _ _ _ h => h) (by rfl) (by
            intro oi hoi w' hSw
            cases hoi
            go_simp) (by assumption) ?_
          simp only [Act.put, List.setIfInBounds_toArray, List.set_cons_zero, List.set_cons_succ]
          refine wpAnyH_done (by kernel_rfl) ?_ _
          go_wp2
          go_ret
          exact ⟨rfl, HQ8.out.below⟩
        · have bE : ((place la.path).toList == ([] : List UInt8)) = false := by rw [str_emp, decide_eq_false hpe]
          have b0 : ((kn : Int) == 0) = false := by rw [beq_eq_false_iff_ne]; omega
          have bQ : ((place la.path).toList == (place q).toList) = false := by rw [beq_str, decide_eq_false hpq]
          have HAp : Kept (∀ w t, Good t → PSto w g b (n + 1) lvNone (put t (place la.path) ⟨kn, mn, d⟩) → Calls Tryd.prog 16 #[.pointer (some ⟨g, 0, none⟩), .string (place la.path)] w fun e w' => e = .returned (.agg #[.int .i64 (kn : Int), .int .i64 (mn : Int), .string d]) ∧ Below w.heap.size w w') := ⟨fun w t hg h => by
            have e : get (put t (place la.path) ⟨kn, mn, d⟩) (place la.path) = (⟨(kn : Int), (mn : Int), d⟩ : Ent) := by rw [get_put t hg, if_neg hpe, if_pos rfl, if_neg (by show ¬ (kn : Int) = 0; omega)]
            have := at_none g b (n + 1) _ (place la.path) w h (place_max _)
            rw [e] at this
            exact this⟩
          have HAq : Kept (∀ w, PSto w g b (n + 1) lvNone (put t (place la.path) ⟨kn, mn, d⟩) → Calls Tryd.prog 16 #[.pointer (some ⟨g, 0, none⟩), .string (place q)] w fun e w' => e = .returned (.agg #[.int .i64 k1, .int .i64 m1, .string d1]) ∧ Below w.heap.size w w') := ⟨fun w h => by
            have e : get (put t (place la.path) ⟨kn, mn, d⟩) (place q) = ⟨k1, m1, d1⟩ := by
              rw [get_put t H.out.1.p.good, if_neg hpq]
              by_cases hz : place q = emp
              · rw [if_pos hz, ← hget]; unfold get; rw [if_pos hz]
              · rw [if_neg hz, hget]
            have := at_none g b (n + 1) _ (place q) w h (place_max _)
            rw [e] at this
            exact this⟩
          have hq2 : ∀ w, (binOp .eql 23 (.agg #[.int .i64 k1, .int .i64 m1, .string d1]) (.agg #[.int .i64 k1, .int .i64 m1, .string d1])).run Tryd.prog w = .ok (.bool true) w := fun w => by
            have := ent_eq ⟨k1, m1, d1⟩ ⟨k1, m1, d1⟩ w
            rw [decide_eq_true rfl] at this
            exact this
          have hq1 : ∀ w, (binOp .eql 23 (.agg #[.int .i64 (kn : Int), .int .i64 (mn : Int), .string d]) (.agg #[.int .i64 (kn : Int), .int .i64 (mn : Int), .string d])).run Tryd.prog w = .ok (.bool true) w := fun w => by
            have := ent_eq (⟨(kn : Int), (mn : Int), d⟩ : Ent) (⟨(kn : Int), (mn : Int), d⟩ : Ent) w
            rw [decide_eq_true rfl] at this
            exact this
          clear hpe hk0 hpq hget
          go_wp2_with (first
            | (go_at_call 15
               have := T1
               refine (HP.out _).mono ?_
               rintro e w1' ⟨rfl, hb1'⟩
               clear T1 this a0 a1 a2 a3 a4
               have HQ1 := Kept.mk (H.out.1.on hb1')
               clear hb1')
            | (go_at_call 15
               refine (HQ.out _).mono ?_
               rintro e w2' ⟨rfl, hb2'⟩
               have HQ2 := Kept.mk (HQ1.out.on hb2')
               clear hb2')
            | (go_at_call 16
               have := T2
               refine (HAt.out _ HQ2.out.p).mono ?_
               rintro e w3 ⟨rfl, hb3⟩
               clear T2 this
               have HQ3 := Kept.mk ((HQ2.out.on hb3).alloc (.cells #[.int .i64 k1, .int .i64 m1, .string d1] 23))
               have HW3 := Kept.mk (heap_alloc_new w3 (.cells #[.int .i64 k1, .int .i64 m1, .string d1] 23))
               have hbw : Kept (b < w3.heap.size) := ⟨(HQ2.out.p.below hb3).own.lt⟩
               obtain ⟨a0, a1, a2, a3, a4⟩ := box5 HQ3.out.box
               clear hb3)
            | (go_at_call 12
               have := T3
               refine (HEn.out _).mono ?_
               rintro e w4 ⟨rfl, hb4⟩
               clear T3 this a0 a1 a2 a3 a4
               have HQ4 := Kept.mk (HQ3.out.on hb4)
               have HW4 := Kept.mk ((hb4.block _ (blk HW3.out)).trans HW3.out)
               clear hb4)
            | (go_at_call 14
               refine (put_letters g b n t (place la.path) kn mn d _ HQ4.out.p (place_max _) (by have := H.out.2; omega)).mono ?_
               rintro e w5 ⟨rfl, hp5, ho5⟩
               have HQ5 := Kept.mk (HQ4.out.put hp5.out ho5)
               have HW5 := Kept.mk ((ho5.block _ (blk HW4.out) (fun e => by have := hbw.out; omega)).trans HW4.out)
               obtain ⟨a0, a1, a2, a3, a4⟩ := box5 HQ5.out.box
               clear hp5 ho5)
            | (go_at_call 12
               refine (HEn.out _).mono ?_
               rintro e w6 ⟨rfl, hb6⟩
               clear a0 a1 a2 a3 a4
               have HQ6 := Kept.mk ((HQ5.out.on hb6).alloc (.cells #[.int .i64 (kn : Int), .int .i64 (mn : Int), .string d] 23))
               have HW6 : Kept ((w6.alloc (.cells #[.int .i64 (kn : Int), .int .i64 (mn : Int), .string d] 23)).heap[w3.heap.size]? = some (.cells #[.int .i64 k1, .int .i64 m1, .string d1] 23 (0, 0))) := ⟨(Below.heap_alloc w6 _ _ (Nat.lt_of_lt_of_le (blk HW5.out) hb6.size)).trans ((hb6.block _ (blk HW5.out)).trans HW5.out)⟩
               have HF6 := Kept.mk (heap_alloc_new w6 (.cells #[.int .i64 (kn : Int), .int .i64 (mn : Int), .string d] 23))
               clear hb6))
          generalize w6.alloc (.cells #[.int .i64 (kn : Int), .int .i64 (mn : Int), .string d] 23) = w7 at *
          have HD := Kept.mk HQ6.out.drew
          obtain ⟨x0, x1, x2⟩ := box3 HF6.out
          obtain ⟨y0, y1, y2⟩ := box3 HW6.out
          go_region_held3 (fun w' => w'.cell? ⟨w6.heap.size, 0, none⟩ = some (.int .i64 (kn : Int)) ∧ w'.cell? ⟨w6.heap.size, 1, none⟩ = some (.int .i64 (mn : Int)) ∧ w'.cell? ⟨w6.heap.size, 2, none⟩ = some (.string d) ∧ w'.cell? ⟨w3.heap.size, 0, none⟩ = some (.int .i64 k1) ∧ w'.cell? ⟨w3.heap.size, 1, none⟩ = some (.int .i64 m1) ∧ w'.cell? ⟨w3.heap.size, 2, none⟩ = some (.string d1))
            (first
              | exact ⟨x0, x1, x2, y0, y1, y2⟩
              | exact ⟨u0, u1, u2, v0, v1, v2⟩
              | exact ⟨p0, p1, p2, q0, q1, q2⟩)
            (first
              | (go_at_call 16
                 have := T4
                 refine (HAp.out _ t H.out.1.p.good HD.out.p).mono ?_
                 rintro e w8 ⟨rfl, hb8⟩
                 clear T4 this
                 have HQ8 := Kept.mk (HD.out.on hb8)
                 have HF8 := Kept.mk ((hb8.block _ (blk HF6.out)).trans HF6.out)
                 have HW8 := Kept.mk ((hb8.block _ (blk HW6.out)).trans HW6.out)
                 obtain ⟨u0, u1, u2⟩ := box3 HF8.out
                 obtain ⟨v0, v1, v2⟩ := box3 HW8.out
                 clear hb8)
              | (go_at_call 16
                 refine (HAq.out _ HQ8.out.p).mono ?_
                 rintro e w9 ⟨rfl, hb9⟩
                 have HQ9 := Kept.mk (HQ8.out.on hb9)
                 have HF9 := Kept.mk ((hb9.block _ (blk HF8.out)).trans HF8.out)
                 have HW9 := Kept.mk ((hb9.block _ (blk HW8.out)).trans HW8.out)
                 obtain ⟨p0, p1, p2⟩ := box3 HF9.out
                 obtain ⟨q0, q1, q2⟩ := box3 HW9.out
                 clear hb9))
          go_wp2
          go_ret
          exact ⟨rfl, HQ9.out.below⟩
end St
end Go.Proofs.YtjmblgahoejoiaaDoor
