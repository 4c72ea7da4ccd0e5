/-
  The document's store: Put of an entry that is not missing, where nothing is recorded.
-/
import Derived.Test.YtjmblgahoejoiaaDoorRput
import Derived.Test.YtjmblgahoejoiaaDoorPat
import Derived.Test.YtjmblgahoejoiaaDoorSbox
namespace Go.Proofs.YtjmblgahoejoiaaDoor
open Go.RowKit Tx
namespace St

set_option maxHeartbeats 2000000 in
set_option maxRecDepth 100000 in
theorem refPut_any (r : Nat) (lv : Value) (t : Tree) (p : ByteArray) (K m : Int) (d : ByteArray) (w : World) (h : RSto w r lv t) (ht : t.length ≤ 1000000) (hp : p.size ≤ maxLen) (hK : K ≠ 0) :
    Calls Tryd.prog 18 #[.pointer (some ⟨r, 0, none⟩), .string p, .agg #[.int .i64 K, .int .i64 m, .string d]] w fun e w' => e = .returned (.tuple #[]) ∧
      ∃ lv', Kept (RSto w' r lv' (put t p ⟨K, m, d⟩)) ∧ (lv' = lv ∨ ∀ k, lv'.ownBlock = some k → w.heap.size ≤ k) ∧ Only (· = r) w w' := by
  obtain ⟨i0, hi, hz0, hz1, hz2⟩ := info_parts pairInfo
  have H := Kept.mk h
  clear h
  by_cases hpe : p = emp
  · have bE : (p.toList == ([] : List UInt8)) = true := by rw [str_emp, decide_eq_true hpe]
    have HP : Kept (put t p ⟨K, m, d⟩ = t) := ⟨by unfold put; rw [if_pos hpe]⟩
    clear hpe
    go_enter Tryd.func18, Tryd.ntmps18
    go_wp2
    refine bodyPost_ret (results_none rfl _ _ _) rfl ?_
    exact ⟨rfl, lv, ⟨by rw [HP.out]; exact H.out.alloc _⟩, .inl rfl, (Only.refl _ _).alloc _⟩
  · have bE : (p.toList == ([] : List UInt8)) = false := by rw [str_emp, decide_eq_false hpe]
    have HPe := Kept.mk hpe
    have bK : (K == 0) = false := by simpa using hK
    have bK2 : (K != 0) = true := by simpa using hK
    have HK := Kept.mk hK
    clear hpe hK
    have HX : Kept (BoxIn w (w.alloc (.cells #[.int .i64 K, .int .i64 m, .string d] 23)) #[.int .i64 K, .int .i64 m, .string d]) := ⟨⟨heap_alloc_new w _, (Below.refl _ _).alloc (Nat.le_refl _) _⟩⟩
    have H0 : Kept (PutIn w (w.alloc (.cells #[.int .i64 K, .int .i64 m, .string d] 23)) #[.int .i64 K, .int .i64 m, .string d] (.slice none 0 0) t p 0 [] 0) := ⟨⟨HX.out, World.ownsRow_nil _ _ _ _, fun q hq => by simp at hq⟩⟩
    have c4 := (H.out.alloc (.cells #[.int .i64 K, .int .i64 m, .string d] 23)).c4
    clear HX
    go_enter Tryd.func18, Tryd.ntmps18
    go_wp2
    clear c4
    go_loopw [8, 9] (fun v x wr => ∃ k : Nat, k ≤ t.length ∧ x = .int .i64 k ∧ Kept (PutIn w wr #[.int .i64 K, .int .i64 m, .string d] v t p k [] k)) (fun _ x _ => t.length - (intOf x).toNat)
    case atStart => exact ⟨0, by omega, rfl, H0⟩
    case round =>
      clear H0
      obtain ⟨k, hk, rfl, hD⟩ := hrel
      have k0 : (0 : Int) ≤ k := by omega
      have HR := Kept.mk (H.out.below hD.out.box.below)
      have c0 := HR.out.c0
      obtain ⟨x0, x1, x2⟩ := box3 hD.out.box.box
      rcases HR.out.list with ⟨rfl, rfl⟩ | ⟨q, cap, rfl, hcap, -⟩
      · obtain rfl : k = 0 := by simpa using hk
        have hPut : Kept (put [] p ⟨K, m, d⟩ = [(p, ⟨K, m, d⟩)]) := ⟨by have := put_end (t := []) ⟨K, m, d⟩ HPe.out (k := 0) (fun q hq => by simp at hq) (by simp); rw [this]; unfold midE; rw [if_neg HK.out]; rfl⟩
        have k1 : ¬ (0 : Int) < 0 := by omega
        have T1 : Kept True := ⟨trivial⟩
        go_wp2_with (first
          | (have := T1
             at_builtin
             refine wpList_append_own _ rfl _ _ 66 rfl (w.heap.size + 1) 71 i0 _ 4 48 Tryd.underlying66 hi hz0 hz1 hz2 rfl (by decide) _ _ _ rfl (hD.out.own.alloc _) ⟨wr.heap.size, 0, none⟩ 1 1 (pv (p, ⟨K, m, d⟩)) rfl rfl (pv_new wr (p, ⟨K, m, d⟩) _) (pv_one _) (by unfold maxLen; omega) (by omega) (by have := hD.out.size; simp; omega) ?_
             intro v2 w2 ho2 hg2 _
             obtain ⟨A2, k2, rfl⟩ := own_form ho2
             clear T1 this
             have HO2 := Kept.mk ho2
             have HB2 : Kept (BoxIn w w2 #[.int .i64 K, .int .i64 m, .string d]) := ⟨hD.out.on (v2 := .slice none 0 0) ((World.grownBy_alloc wr _ _).trans hg2)⟩
             have HR2 := Kept.mk (H.out.below HB2.out.below)
             have c2 := HR2.out.c0
             have f2 := HR2.out.f0
             clear ho2 hg2 c0 x0 x1 x2)
          | (at_builtin
             have c9 := HO2.out.2
             refine wpList_append_own_none rfl _ _ 66 rfl (w.heap.size + 1) 71 i0 4 Tryd.underlying66 hi _ _ _ rfl HO2.out rfl ?_))
        refine bodyPost_end (results_none rfl _ _ _) rfl ?_
        refine ⟨rfl, put_fin H.out HB2.out.below hp (n := 0 + 1) ?_⟩
        have ho := HO2.out
        rw [hPut.out]
        simpa [ents] using ho
      · have HC := Kept.mk hcap
        clear hcap
        by_cases hlt : k < t.length
        · have k1 : (k : Int) < (t.length : Int) := by omega
          obtain ⟨y0, y1, y2, y3⟩ := HR.out.list.four hlt
          by_cases hl : lt t[k].1 p
          · have bL : Op.bytesLess t[k].1.toList p.toList = true := by rw [less_str, decide_eq_true hl]
            have HPush : Kept (∀ v2 w2, w2.ownsRow (w.heap.size + 1) 71 4 v2 (k + 1) (ents (t.take k) ++ [] ++ pv t[k]) → wr.grownBy w2 u8.ownBlock → PutIn w w2 #[.int .i64 K, .int .i64 m, .string d] v2 t p (k + 1) [] (k + 1)) := ⟨fun v2 w2 ho hg => hD.out.push hlt hl ho hg⟩
            clear hl
            generalize t[k] = x at y0 y1 y2 y3 bL HPush
            obtain ⟨s, a, b, cc⟩ := x
            simp only at y0 y1 y2 y3 bL
            go_wp2_with (at_builtin
                         refine wpList_append_own _ rfl _ _ 66 rfl (w.heap.size + 1) 71 i0 _ 4 48 Tryd.underlying66 hi hz0 hz1 hz2 rfl (by decide) _ _ _ rfl (hD.out.own.alloc _) ⟨wr.heap.size, 0, none⟩ 1 1 (pv (s, ⟨a, b, cc⟩)) rfl rfl (pv_new wr (s, ⟨a, b, cc⟩) _) (pv_one _) (by unfold maxLen; omega) (by omega) (by have := hD.out.size; simp; omega) ?_
                         intro v2 w2 ho2 hg2 _
                         have hE3 := Kept.mk (HPush.out v2 w2 ho2 ((World.grownBy_alloc wr _ _).trans hg2))
                         clear ho2 hg2 c0 x0 x1 x2 y0 y1 y2 y3)
            go_roundw
            case rel => exact ⟨k + 1, by omega, by go_num, hE3⟩
            case measure => simp [intOf]; omega
          · have bL : Op.bytesLess t[k].1.toList p.toList = false := by rw [less_str, decide_eq_false hl]
            by_cases hs : t[k].1 = p
            · have bS : (t[k].1.toList == p.toList) = true := by rw [beq_str, decide_eq_true hs]
              have hkk : ((k + 1 : Nat) : Int) = (k : Int) + 1 := by omega
              obtain ⟨off, m0, c, hm0, hsl, hnw⟩ := RL.tail q cap t HC.out (k + 1) (by omega)
              have HNw := Kept.mk hnw
              have HM0 := Kept.mk hm0
              have hPut : Kept (put t p ⟨K, m, d⟩ = t.take k ++ midE p ⟨K, m, d⟩ ++ t.drop (k + 1)) := ⟨put_same H.out.good ⟨K, m, d⟩ HPe.out hD.out.lo hlt hs⟩
              clear hnw hm0
              have T1 : Kept True := ⟨trivial⟩
              rw [hkk] at hsl
              clear hs hl
              have HY : Kept (∀ w', RL w' (.slice (some ⟨q, 0, none⟩) t.length cap) t → w'.cell? ⟨q, k * 4, none⟩ = some (.string t[k].1)) := ⟨fun w' h => (h.four hlt).1⟩
              generalize t[k] = x at y0 y1 y2 y3 bL bS HY
              obtain ⟨s, a, b, cc⟩ := x
              simp only at y0 y1 y2 y3 bL bS HY
              go_wp2_with (first
                | (have := T1
                   at_builtin
                   refine wpList_append_own _ rfl _ _ 66 rfl (w.heap.size + 1) 71 i0 _ 4 48 Tryd.underlying66 hi hz0 hz1 hz2 rfl (by decide) _ _ _ rfl (hD.out.own.alloc _) ⟨wr.heap.size, 0, none⟩ 1 1 (pv (p, ⟨K, m, d⟩)) rfl rfl (pv_new wr (p, ⟨K, m, d⟩) _) (pv_one _) (by unfold maxLen; omega) (by omega) (by have := hD.out.size; simp; omega) ?_
                   intro v2 w2 ho2 hg2 _
                   clear T1 this
                   have HO2 := Kept.mk ho2
                   have HB2 : Kept (BoxIn w w2 #[.int .i64 K, .int .i64 m, .string d]) := ⟨hD.out.on (v2 := .slice none 0 0) ((World.grownBy_alloc wr _ _).trans hg2)⟩
                   have HR2 := Kept.mk (H.out.below HB2.out.below)
                   have c2 := HR2.out.c0
                   have f2 := HR2.out.f0
                   have y4 := HY.out _ HR2.out.list
                   clear ho2 hg2 c0 x0 x1 x2 y0 y1 y2 y3)
                | (at_builtin
                   have c9 := HO2.out.2
                   refine wpList_append_own _ rfl _ _ 66 rfl (w.heap.size + 1) 71 i0 _ 4 48 Tryd.underlying66 hi hz0 hz1 hz2 rfl (by decide) _ _ _ rfl HO2.out ⟨q, off, none⟩ m0 c (ents (t.drop (k + 1))) rfl (by rw [ents_length, List.length_drop, HM0.out]) (HNw.out _ HR2.out.list) (ents_one _) (by have := HM0.out; unfold maxLen; omega) (by have := HM0.out; omega) (by have := blk HB2.out.box; omega) ?_
                   intro v3 w3 ho3 hg3 _
                   obtain ⟨A3, k3, rfl⟩ := own_form ho3
                   have HO3 := Kept.mk ho3
                   have HB3 : Kept (BoxIn w w3 #[.int .i64 K, .int .i64 m, .string d]) := ⟨⟨(hg3.block _ (blk HB2.out.box) (fun e => by have := (HO2.out.lt _ e.symm).1; omega)).trans HB2.out.box, HB2.out.below.grown hg3 HB2.out.below.size (fun j hj => by have := (HO2.out.lt j hj).1; omega)⟩⟩
                   have HR3 := Kept.mk (H.out.below HB3.out.below)
                   have c3 := HR3.out.c0
                   have f3 := HR3.out.f0
                   clear ho3 hg3 c2 f2 y4))
              refine bodyPost_end (results_none rfl _ _ _) rfl ?_
              refine ⟨rfl, put_fin H.out HB3.out.below hp (n := k + 1 + m0) ?_⟩
              have ho := HO3.out
              rw [hPut.out, ents_append, ents_append]
              have e1 : midE p ⟨K, m, d⟩ = [(p, ⟨K, m, d⟩)] := by unfold midE; rw [if_neg HK.out]
              rw [e1]
              simpa [ents] using ho
            · have bS : (t[k].1.toList == p.toList) = false := by rw [beq_str, decide_eq_false hs]
              obtain ⟨off, m0, c, hm0, hsl, hnw⟩ := RL.tail q cap t HC.out k (by omega)
              have HNw := Kept.mk hnw
              have HM0 := Kept.mk hm0
              have hPut : Kept (put t p ⟨K, m, d⟩ = t.take k ++ midE p ⟨K, m, d⟩ ++ t.drop k) := ⟨put_other H.out.good ⟨K, m, d⟩ HPe.out hD.out.lo hlt hl hs⟩
              clear hnw hm0
              have T1 : Kept True := ⟨trivial⟩
              clear hs hl
              have HY : Kept (∀ w', RL w' (.slice (some ⟨q, 0, none⟩) t.length cap) t → w'.cell? ⟨q, k * 4, none⟩ = some (.string t[k].1)) := ⟨fun w' h => (h.four hlt).1⟩
              generalize t[k] = x at y0 y1 y2 y3 bL bS HY
              obtain ⟨s, a, b, cc⟩ := x
              simp only at y0 y1 y2 y3 bL bS HY
              go_wp2_with (first
                | (have := T1
                   at_builtin
                   refine wpList_append_own _ rfl _ _ 66 rfl (w.heap.size + 1) 71 i0 _ 4 48 Tryd.underlying66 hi hz0 hz1 hz2 rfl (by decide) _ _ _ rfl (hD.out.own.alloc _) ⟨wr.heap.size, 0, none⟩ 1 1 (pv (p, ⟨K, m, d⟩)) rfl rfl (pv_new wr (p, ⟨K, m, d⟩) _) (pv_one _) (by unfold maxLen; omega) (by omega) (by have := hD.out.size; simp; omega) ?_
                   intro v2 w2 ho2 hg2 _
                   clear T1 this
                   have HO2 := Kept.mk ho2
                   have HB2 : Kept (BoxIn w w2 #[.int .i64 K, .int .i64 m, .string d]) := ⟨hD.out.on (v2 := .slice none 0 0) ((World.grownBy_alloc wr _ _).trans hg2)⟩
                   have HR2 := Kept.mk (H.out.below HB2.out.below)
                   have c2 := HR2.out.c0
                   have f2 := HR2.out.f0
                   have y4 := HY.out _ HR2.out.list
                   clear ho2 hg2 c0 x0 x1 x2 y0 y1 y2 y3)
                | (at_builtin
                   have c9 := HO2.out.2
                   refine wpList_append_own _ rfl _ _ 66 rfl (w.heap.size + 1) 71 i0 _ 4 48 Tryd.underlying66 hi hz0 hz1 hz2 rfl (by decide) _ _ _ rfl HO2.out ⟨q, off, none⟩ m0 c (ents (t.drop (k))) rfl (by rw [ents_length, List.length_drop, HM0.out]) (HNw.out _ HR2.out.list) (ents_one _) (by have := HM0.out; unfold maxLen; omega) (by have := HM0.out; omega) (by have := blk HB2.out.box; omega) ?_
                   intro v3 w3 ho3 hg3 _
                   obtain ⟨A3, k3, rfl⟩ := own_form ho3
                   have HO3 := Kept.mk ho3
                   have HB3 : Kept (BoxIn w w3 #[.int .i64 K, .int .i64 m, .string d]) := ⟨⟨(hg3.block _ (blk HB2.out.box) (fun e => by have := (HO2.out.lt _ e.symm).1; omega)).trans HB2.out.box, HB2.out.below.grown hg3 HB2.out.below.size (fun j hj => by have := (HO2.out.lt j hj).1; omega)⟩⟩
                   have HR3 := Kept.mk (H.out.below HB3.out.below)
                   have c3 := HR3.out.c0
                   have f3 := HR3.out.f0
                   clear ho3 hg3 c2 f2 y4))
              refine bodyPost_end (results_none rfl _ _ _) rfl ?_
              refine ⟨rfl, put_fin H.out HB3.out.below hp (n := k + 1 + m0) ?_⟩
              have ho := HO3.out
              rw [hPut.out, ents_append, ents_append]
              have e1 : midE p ⟨K, m, d⟩ = [(p, ⟨K, m, d⟩)] := by unfold midE; rw [if_neg HK.out]
              rw [e1]
              simpa [ents] using ho
        · have k1 : ¬ (k : Int) < (t.length : Int) := by omega
          obtain ⟨off, m0, c, hm0, hsl, hnw⟩ := RL.tail q cap t HC.out k (by omega)
          have HNw := Kept.mk hnw
          have HM0 := Kept.mk hm0
          have hPut : Kept (put t p ⟨K, m, d⟩ = t.take k ++ midE p ⟨K, m, d⟩ ++ t.drop k) := ⟨by rw [put_end ⟨K, m, d⟩ HPe.out hD.out.lo (by omega), List.drop_eq_nil_of_le (by omega)]⟩
          clear hnw hm0
          have T1 : Kept True := ⟨trivial⟩
          skip
          go_wp2_with (first
            | (have := T1
               at_builtin
               refine wpList_append_own _ rfl _ _ 66 rfl (w.heap.size + 1) 71 i0 _ 4 48 Tryd.underlying66 hi hz0 hz1 hz2 rfl (by decide) _ _ _ rfl (hD.out.own.alloc _) ⟨wr.heap.size, 0, none⟩ 1 1 (pv (p, ⟨K, m, d⟩)) rfl rfl (pv_new wr (p, ⟨K, m, d⟩) _) (pv_one _) (by unfold maxLen; omega) (by omega) (by have := hD.out.size; simp; omega) ?_
               intro v2 w2 ho2 hg2 _
               clear T1 this
               have HO2 := Kept.mk ho2
               have HB2 : Kept (BoxIn w w2 #[.int .i64 K, .int .i64 m, .string d]) := ⟨hD.out.on (v2 := .slice none 0 0) ((World.grownBy_alloc wr _ _).trans hg2)⟩
               have HR2 := Kept.mk (H.out.below HB2.out.below)
               have c2 := HR2.out.c0
               have f2 := HR2.out.f0
               clear ho2 hg2 c0 x0 x1 x2)
            | (at_builtin
               have c9 := HO2.out.2
               refine wpList_append_own _ rfl _ _ 66 rfl (w.heap.size + 1) 71 i0 _ 4 48 Tryd.underlying66 hi hz0 hz1 hz2 rfl (by decide) _ _ _ rfl HO2.out ⟨q, off, none⟩ m0 c (ents (t.drop (k))) rfl (by rw [ents_length, List.length_drop, HM0.out]) (HNw.out _ HR2.out.list) (ents_one _) (by have := HM0.out; unfold maxLen; omega) (by have := HM0.out; omega) (by have := blk HB2.out.box; omega) ?_
               intro v3 w3 ho3 hg3 _
               obtain ⟨A3, k3, rfl⟩ := own_form ho3
               have HO3 := Kept.mk ho3
               have HB3 : Kept (BoxIn w w3 #[.int .i64 K, .int .i64 m, .string d]) := ⟨⟨(hg3.block _ (blk HB2.out.box) (fun e => by have := (HO2.out.lt _ e.symm).1; omega)).trans HB2.out.box, HB2.out.below.grown hg3 HB2.out.below.size (fun j hj => by have := (HO2.out.lt j hj).1; omega)⟩⟩
               have HR3 := Kept.mk (H.out.below HB3.out.below)
               have c3 := HR3.out.c0
               have f3 := HR3.out.f0
               clear ho3 hg3 c2 f2))
          refine bodyPost_end (results_none rfl _ _ _) rfl ?_
          refine ⟨rfl, put_fin H.out HB3.out.below hp (n := k + 1 + m0) ?_⟩
          have ho := HO3.out
          rw [hPut.out, ents_append, ents_append]
          have e1 : midE p ⟨K, m, d⟩ = [(p, ⟨K, m, d⟩)] := by unfold midE; rw [if_neg HK.out]
          rw [e1]
          simpa [ents] using ho
end St
end Go.Proofs.YtjmblgahoejoiaaDoor
