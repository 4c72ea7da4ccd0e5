/-
  The program's Entry.
-/
import Derived.Test.YtjmblgahoejoiaaGreatDoorPval
import Derived.Laws.ResultCell
namespace Go.Proofs.YtjmblgahoejoiaaGreatDoor
open Go.RowKit Tx
namespace St

theorem res_two {P : Program} {fn : Func} {p u : Tmp} {ty : TypeId} (h : fn.results = #[.cell p ty, .tmp u]) (tmps : Array Value) (w : World) (g : Nat) (t : TypeId) (cs : Array Value) (fr : Nat × Nat) (d : TypeDesc)
    (hp : tmps.getD p undef = .pointer (some ⟨g, 0, none⟩)) (hg : w.heap[g]? = some (.cells cs t fr))
    (hu : P.underlying ty = some d) (hd : (match d with | .struct _ | .array _ _ => true | _ => false) = true) (hi : (P.info? ty).map (·.size) = some cs.size) :
    (results fn tmps).run P w = .ok (.tuple #[.agg cs, tmps.getD u undef]) w := by
  rw [results_cell_tmp h, hp]
  simp [asAddr, run_loadVar_row w g t ty cs fr d hg hu hd hi, Result.andThen]
theorem ne_emp {s : ByteArray} (h : s ≠ emp) : toL s ≠ [] := fun e => h (toL_inj (e.trans (show ([] : List UInt8) = toL emp from rfl)))
theorem res_bad1 {s : ByteArray} (h : s ≠ emp) (hv : ¬ valid (likelyE (toL s))) : entRes s = (zeroE, 20) := by
  unfold entRes entOf
  rw [if_neg (ne_emp h), if_neg (fun k => hv k.1)]
theorem res_bad2 {s : ByteArray} (h : s ≠ emp) (hv : valL (likelyE (toL s)) ≠ toL s) : entRes s = (zeroE, 20) := by
  unfold entRes entOf
  rw [if_neg (ne_emp h), if_neg (fun k => hv k.2)]
theorem res_good {s : ByteArray} (h : s ≠ emp) (hv : valid (likelyE (toL s))) (hq : valL (likelyE (toL s)) = toL s) : entRes s = (likelyE (toL s), 0) := by
  unfold entRes entOf
  rw [if_neg (ne_emp h), if_pos ⟨hv, hq⟩]
theorem likely_data (s : List UInt8) : (toL (likelyE s).data).length ≤ s.length := by
  unfold likelyE
  split
  · simp [zeroE, emp, toL]
  · simp only [toL_bs]
    have h1 := cut_le (s.drop 8)
    have h2 : (Lib.trimSuffix (Lib.cut (s.drop 8) [58]).2.1 [44]).length ≤ (Lib.cut (s.drop 8) [58]).2.1.length := by
      unfold Lib.trimSuffix
      split
      · rw [List.length_take]; omega
      · omega
    rw [List.length_drop] at h1
    omega

set_option maxHeartbeats 1000000 in
set_option maxRecDepth 100000 in
theorem entry_any (s : ByteArray) (w : World) (hs : s.size ≤ 1000000) (hK : Tup.Kit w) :
    Calls Tryz.prog 22 #[.string s] w fun e w' => e = .returned (.tuple #[entV (entRes s).1, .int .i64 (entRes s).2]) ∧ Below w.heap.size w w' := by
  have hE := str_emp' s
  have hB : Below w.heap.size w (w.alloc (.cells #[.int .i64 0, .int .i64 0, .string ⟨#[]⟩] 37)) := (Below.refl _ _).alloc (Nat.le_refl _) _
  by_cases hse : s = emp
  · rw [decide_eq_true hse] at hE
    have HR : Kept (entRes s = (zeroE, 0)) := ⟨by rw [hse]; exact entRes_emp⟩
    clear hse
    go_enter Tryz.func22, Tryz.ntmps22
    go_wp2
    refine bodyPost_ret (res_two rfl _ _ w.heap.size _ _ (0, 0) _ rfl (heap_alloc_new w _) Tryz.underlying37 rfl (by kernel_rfl)) rfl ?_
    exact ⟨by rw [HR.out]; rfl, hB⟩
  · rw [decide_eq_false hse] at hE
    have HX0 : Kept (BoxIn w (w.alloc (.cells #[.int .i64 0, .int .i64 0, .string ⟨#[]⟩] 37)) #[.int .i64 0, .int .i64 0, .string ⟨#[]⟩]) := ⟨⟨heap_alloc_new w _, hB⟩⟩
    have HK := Kept.mk (Tup.KitB.below hK.toB hB)
    have hdl := likely_data (toL s)
    rw [toL_length, toL_length] at hdl
    obtain ⟨k, m, d, hEq⟩ : ∃ k m d, likelyE (toL s) = ⟨k, m, d⟩ := ⟨_, _, _, rfl⟩
    have hL : ∀ w, s.size ≤ 4000000000 → Tup.Kit w → Calls Tryz.prog 43 #[.string s] w fun e w' => e = .returned (.agg #[.int .i64 k, .int .i64 m, .string d]) ∧ Below w.heap.size w w' := fun w h1 h2 => by
      have := likely_any s w h1 h2
      rw [hEq] at this
      exact this
    have HL := Kept.mk hL
    rw [hEq] at hdl
    have hdd : d.size ≤ 1000000 := by simp only at hdl; omega
    have HD := Kept.mk hdd
    by_cases hv : valid ⟨k, m, d⟩
    · have hD : decide (valid ⟨k, m, d⟩) = true := decide_eq_true hv
      obtain ⟨kn, hkn⟩ := Int.eq_ofNat_of_zero_le (show 0 ≤ k by have := (valid_kind hv).1; simp only at this; omega)
      obtain ⟨mn, hmn⟩ := Int.eq_ofNat_of_zero_le (show 0 ≤ m from hv.2.1)
      have hk9 : kn ≤ 3 := by have := (valid_kind hv).2; simp only at this; omega
      have hm9 : mn ≤ 7 := by have := hv.2.2; simp only at this; omega
      have HI : Kept (∀ w, Calls Tryz.prog 44 #[.agg #[.int .i64 k, .int .i64 m, .string d]] w fun e w' => e = .returned (.bool true) ∧ Below w.heap.size w w') := ⟨fun w => by have := isIn_any k m d w; rw [hD] at this; exact this⟩
      by_cases hq : valL ⟨k, m, d⟩ = toL s
      · have HR : Kept (entRes s = (⟨k, m, d⟩, 0)) := ⟨by rw [← hEq]; exact res_good hse (by rw [hEq]; exact hv) (by rw [hEq]; exact hq)⟩
        have HQ := Kept.mk hq
        clear hse hK hB hL hEq hdl hv hD hdd hq
        subst hkn hmn
        have HVal : Kept (∀ w, Tup.Kit w → Calls Tryz.prog 23 #[.agg #[.int .i64 (kn : Int), .int .i64 (mn : Int), .string d]] w fun e w' => ∃ t : ByteArray, e = .returned (.string t) ∧ Below w.heap.size w w' ∧ Kept (toL t = valL ⟨kn, mn, d⟩)) := ⟨fun w h => value_any kn mn d w (by omega) (by omega) HD.out h⟩
        go_enter Tryz.func22, Tryz.ntmps22
        go_wp2_with (first
          | (go_at_call 43
             refine (HL.out _ (by omega) HK.out.kit).mono ?_
             rintro e w1 ⟨rfl, hb1⟩
             have HX1 := Kept.mk ((HX0.out.on hb1).on ((Below.refl _ _).alloc (Nat.le_refl _) (.cells #[.int .i64 (kn : Int), .int .i64 (mn : Int), .string d] 37)))
             have HK1 := Kept.mk (HK.out.below ((hb1.mono (by simp)).trans ((Below.refl _ _).alloc (Nat.le_trans (by simp) hb1.size) (.cells #[.int .i64 (kn : Int), .int .i64 (mn : Int), .string d] 37))))
             have hw1 : w.heap.size ≤ w1.heap.size := Nat.le_trans (by simp) hb1.size
             clear hb1)
          | (go_at_call 44
             refine (HI.out _).mono ?_
             rintro e w2 ⟨rfl, hb2⟩
             have HX2 := Kept.mk (HX1.out.on hb2)
             have HK2 := Kept.mk (HK1.out.below (hb2.mono (by simp; omega)))
             have HY2 : Kept (w2.heap[w1.heap.size]? = some (.cells #[.int .i64 (kn : Int), .int .i64 (mn : Int), .string d] 37 (0, 0))) := ⟨(hb2.block _ (by simp)).trans (heap_alloc_new w1 _)⟩
             have d0 := cell_of_row w2 w1.heap.size 0 _ _ _ HY2.out
             have d1 := cell_of_row w2 w1.heap.size 1 _ _ _ HY2.out
             have d2 := cell_of_row w2 w1.heap.size 2 _ _ _ HY2.out
             clear hb2)
          | (go_at_call 23
             refine (HVal.out _ HK2.out.kit).mono ?_
             rintro e w3 ⟨t, rfl, hb3, ht⟩
             have HX3 := Kept.mk (HX2.out.on hb3)
             have HY3 : Kept (w3.heap[w1.heap.size]? = some (.cells #[.int .i64 (kn : Int), .int .i64 (mn : Int), .string d] 37 (0, 0))) := ⟨(hb3.block _ (Array.getElem?_eq_some_iff.1 HY2.out).1).trans HY2.out⟩
             have d0 := cell_of_row w3 w1.heap.size 0 _ _ _ HY3.out
             have d1 := cell_of_row w3 w1.heap.size 1 _ _ _ HY3.out
             have d2 := cell_of_row w3 w1.heap.size 2 _ _ _ HY3.out
             have hts : (t.toList == s.toList) = true := by rw [beq_str]; exact decide_eq_true (toL_inj (ht.out.trans HQ.out))
             clear hb3)
          | (refine wpList_store_row rfl 37 _ _ rfl _ _ rfl rfl _ _ HX3.out.box (by kernel_rfl) rfl (by simp [Value.oneCell']) ?_))
        have HX4 := HX3.out.set #[.int .i64 (kn : Int), .int .i64 (mn : Int), .string d]
        refine bodyPost_ret (res_two rfl _ _ w.heap.size _ _ (0, 0) _ rfl HX4.box Tryz.underlying37 rfl (by kernel_rfl)) rfl ?_
        exact ⟨by rw [HR.out]; rfl, HX4.below⟩
      · have HR : Kept (entRes s = (zeroE, 20)) := ⟨res_bad2 hse (by rw [hEq]; exact hq)⟩
        have HQ := Kept.mk hq
        clear hse hK hB hL hEq hdl hv hD hdd hq
        subst hkn hmn
        have HVal : Kept (∀ w, Tup.Kit w → Calls Tryz.prog 23 #[.agg #[.int .i64 (kn : Int), .int .i64 (mn : Int), .string d]] w fun e w' => ∃ t : ByteArray, e = .returned (.string t) ∧ Below w.heap.size w w' ∧ Kept (toL t = valL ⟨kn, mn, d⟩)) := ⟨fun w h => value_any kn mn d w (by omega) (by omega) HD.out h⟩
        go_enter Tryz.func22, Tryz.ntmps22
        go_wp2_with (first
          | (go_at_call 43
             refine (HL.out _ (by omega) HK.out.kit).mono ?_
             rintro e w1 ⟨rfl, hb1⟩
             have HX1 := Kept.mk ((HX0.out.on hb1).on ((Below.refl _ _).alloc (Nat.le_refl _) (.cells #[.int .i64 (kn : Int), .int .i64 (mn : Int), .string d] 37)))
             have HK1 := Kept.mk (HK.out.below ((hb1.mono (by simp)).trans ((Below.refl _ _).alloc (Nat.le_trans (by simp) hb1.size) (.cells #[.int .i64 (kn : Int), .int .i64 (mn : Int), .string d] 37))))
             have hw1 : w.heap.size ≤ w1.heap.size := Nat.le_trans (by simp) hb1.size
             clear hb1)
          | (go_at_call 44
             refine (HI.out _).mono ?_
             rintro e w2 ⟨rfl, hb2⟩
             have HX2 := Kept.mk (HX1.out.on hb2)
             have HK2 := Kept.mk (HK1.out.below (hb2.mono (by simp; omega)))
             have HY2 : Kept (w2.heap[w1.heap.size]? = some (.cells #[.int .i64 (kn : Int), .int .i64 (mn : Int), .string d] 37 (0, 0))) := ⟨(hb2.block _ (by simp)).trans (heap_alloc_new w1 _)⟩
             have d0 := cell_of_row w2 w1.heap.size 0 _ _ _ HY2.out
             have d1 := cell_of_row w2 w1.heap.size 1 _ _ _ HY2.out
             have d2 := cell_of_row w2 w1.heap.size 2 _ _ _ HY2.out
             clear hb2)
          | (go_at_call 23
             refine (HVal.out _ HK2.out.kit).mono ?_
             rintro e w3 ⟨t, rfl, hb3, ht⟩
             have HX3 := Kept.mk (HX2.out.on hb3)
             have HY3 : Kept (w3.heap[w1.heap.size]? = some (.cells #[.int .i64 (kn : Int), .int .i64 (mn : Int), .string d] 37 (0, 0))) := ⟨(hb3.block _ (Array.getElem?_eq_some_iff.1 HY2.out).1).trans HY2.out⟩
             have d0 := cell_of_row w3 w1.heap.size 0 _ _ _ HY3.out
             have d1 := cell_of_row w3 w1.heap.size 1 _ _ _ HY3.out
             have d2 := cell_of_row w3 w1.heap.size 2 _ _ _ HY3.out
             have hts : (t.toList == s.toList) = false := by rw [beq_str]; exact decide_eq_false (fun e => HQ.out (by rw [← e]; exact ht.out.symm))
             clear hb3)
          | (refine wpList_store_row rfl 37 _ _ rfl _ _ rfl rfl _ _ HX3.out.box (by kernel_rfl) rfl (by simp [Value.oneCell']) ?_))
        have HX4 := HX3.out.set #[.int .i64 0, .int .i64 0, .string ⟨#[]⟩]
        refine bodyPost_ret (res_two rfl _ _ w.heap.size _ _ (0, 0) _ rfl HX4.box Tryz.underlying37 rfl (by kernel_rfl)) rfl ?_
        exact ⟨by rw [HR.out]; rfl, HX4.below⟩
    · have hD : decide (valid ⟨k, m, d⟩) = false := decide_eq_false hv
      have HR : Kept (entRes s = (zeroE, 20)) := ⟨res_bad1 hse (by rw [hEq]; exact hv)⟩
      have HI : Kept (∀ w, Calls Tryz.prog 44 #[.agg #[.int .i64 k, .int .i64 m, .string d]] w fun e w' => e = .returned (.bool false) ∧ Below w.heap.size w w') := ⟨fun w => by have := isIn_any k m d w; rw [hD] at this; exact this⟩
      clear hse hK hB hL hEq hdl hv hD hdd
      go_enter Tryz.func22, Tryz.ntmps22
      go_wp2_with (first
        | (go_at_call 43
           refine (HL.out _ (by omega) HK.out.kit).mono ?_
           rintro e w1 ⟨rfl, hb1⟩
           have HX1 := Kept.mk ((HX0.out.on hb1).on ((Below.refl _ _).alloc (Nat.le_refl _) (.cells #[.int .i64 k, .int .i64 m, .string d] 37)))
           clear hb1)
        | (go_at_call 44
           refine (HI.out _).mono ?_
           rintro e w2 ⟨rfl, hb2⟩
           have HX2 := Kept.mk (HX1.out.on hb2)
           clear hb2)
        | (refine wpList_store_row rfl 37 _ _ rfl _ _ rfl rfl _ _ HX2.out.box (by kernel_rfl) rfl (by simp [Value.oneCell']) ?_))
      have HX3 := HX2.out.set #[.int .i64 0, .int .i64 0, .string ⟨#[]⟩]
      refine bodyPost_ret (res_two rfl _ _ w.heap.size _ _ (0, 0) _ rfl HX3.box Tryz.underlying37 rfl (by kernel_rfl)) rfl ?_
      exact ⟨by rw [HR.out]; rfl, HX3.below⟩
end St
end Go.Proofs.YtjmblgahoejoiaaGreatDoor
