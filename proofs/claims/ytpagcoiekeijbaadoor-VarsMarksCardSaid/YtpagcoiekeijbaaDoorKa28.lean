/-
  Parts of the proof, merged.
-/
import Derived.Test.YtpagcoiekeijbaaDoorKa05
import Derived.Test.YtpagcoiekeijbaaDoorKa10
import Derived.Test.YtpagcoiekeijbaaDoorKa27
namespace Go.Proofs.YtpagcoiekeijbaaDoor
section
open Go.RowKit Tx
namespace Va
def Rd (w : World) (A : Option Addr) (l : List ByteArray) : Prop := ∀ j (hj : j < l.length), ∃ g off, A = some ⟨g, off, none⟩ ∧ g < w.heap.size ∧ w.cell? ⟨g, off + j, none⟩ = some (.string l[j])
theorem Rd.below {w w' : World} {A : Option Addr} {l : List ByteArray} (h : Rd w A l) (hb : Below w.heap.size w w') : Rd w' A l := by
 intro j hj
 obtain ⟨g, off, e, hg, hc⟩ := h j hj
 exact ⟨g, off, e, Nat.lt_of_lt_of_le hg hb.size, (hb.cell hg).trans hc⟩
theorem Rd.of_at {w : World} {g off : Nat} {l : List ByteArray} (h : Own.At Value.string w g off l) : Rd w (some ⟨g, off, none⟩) l :=
 fun j hj => ⟨g, off, rfl, h.1, h.cell j hj⟩
theorem Rd.nil (w : World) (A : Option Addr) : Rd w A [] := fun j hj => by simp at hj
theorem Rd.at {w : World} {g off : Nat} {l : List ByteArray} (hg : g < w.heap.size) (h : Rd w (some ⟨g, off, none⟩) l) : Own.At Value.string w g off l := by
 refine ⟨hg, fun j u hu => ?_⟩
 rw [List.getElem?_map, Option.map_eq_some_iff] at hu
 obtain ⟨x, hx, rfl⟩ := hu
 obtain ⟨hj, rfl⟩ := List.getElem?_eq_some_iff.1 hx
 obtain ⟨g', off', e, _, hc⟩ := h j hj
 injection e with e
 injection e with e1 e2
 subst e1 e2
 exact hc
theorem Rd.of_es {w : World} {B : Nat} {v : Value} {l : List ByteArray} (h : Own.Es Value.string w B v l) : ∃ A k, v = .slice A l.length k ∧ Rd w A l := by
 rcases h with ⟨rfl, rfl⟩ | ⟨g, cap, rfl, h1, h2, h3, h4, h5, h6⟩
 · exact ⟨none, 0, rfl, Rd.nil _ _⟩
 · refine ⟨_, _, rfl, fun j hj => ⟨g, 0, rfl, h2, ?_⟩⟩
   rw [Nat.zero_add]
   exact h6 j _ (by simp [hj])
theorem take_same {l m : List ByteArray} {j : Nat} (h : l.take j = m.take j) (hl : j < l.length) (hm : j < m.length) (he : l[j] = m[j]) : l.take (j + 1) = m.take (j + 1) := by
 rw [List.take_succ_eq_append_getElem hl, List.take_succ_eq_append_getElem hm, h, he]
set_option maxRecDepth 100000 in
theorem same_any (l m : List ByteArray) (A C : Option Addr) (n k p q : Nat) (w : World) (hR : Rd w A l) (hQ : Rd w C m) (hn : l.length = n) (hp : m.length = p) (hn2 : n ≤ 140737488351232) (hp2 : p ≤ 140737488351232) :
   Calls Tryd.prog 12 #[.slice A n k, .slice C p q] w fun e w' => e = .returned (.bool (decide (l = m))) ∧ Below w.heap.size w w' := by
 have HR := Kept.mk hR
 have HQ := Kept.mk hQ
 have HN := Kept.mk hn
 have HP := Kept.mk hp
 clear hR hQ hn hp
 by_cases hnp : n = p
 · subst hnp
   go_enter Tryd.func12, Tryd.ntmps12
   go_wp2
   go_loopw [5] (fun i wr => ∃ j : Nat, j ≤ n ∧ i = .int .i64 j ∧ Below w.heap.size w wr ∧ Kept (l.take j = m.take j)) (fun i _ => n - (intOf i).toNat)
   case atStart => exact ⟨0, by omega, rfl, Below.refl _ _, ⟨rfl⟩⟩
   case round =>
     obtain ⟨j, hj, rfl, hb, ht⟩ := hrel
     by_cases hlt : j < n
     · obtain ⟨g, off, rfl, hg, hc⟩ := (HR.out.below hb) j (by rw [HN.out]; exact hlt)
       obtain ⟨g2, off2, rfl, hg2, hc2⟩ := (HQ.out.below hb) j (by rw [HP.out]; exact hlt)
       have hne : Kept (l[j]'(by rw [HN.out]; exact hlt) ≠ m[j]'(by rw [HP.out]; exact hlt) → l ≠ m) := ⟨fun h e => h (by subst e; rfl)⟩
       have heq : Kept (l[j]'(by rw [HN.out]; exact hlt) = m[j]'(by rw [HP.out]; exact hlt) → l.take (j + 1) = m.take (j + 1)) := ⟨fun h => take_same ht.out _ _ h⟩
       generalize l[j]'(by rw [HN.out]; exact hlt) = s at hc hne heq
       generalize m[j]'(by rw [HP.out]; exact hlt) = u at hc2 hne heq
       have HB := Kept.mk hb
       clear hb ht
       have z0 : (0 : Int) ≤ (j : Int) := by omega
       have z1 : (j : Int) < n := by omega
       by_cases hsu : s = u
       · have hE : (s.toList == u.toList) = true := by rw [beq_str, decide_eq_true hsu]
         have hT := Kept.mk (heq.out hsu)
         clear heq hne hsu
         go_wp2
         refine wp_region_still_lit (by kernel_rfl) (by kernel_rfl) ?_
         repeat (first | still_step)
         refine wpStill_nil ?_
         go_wp2
         go_roundw
         case rel => exact ⟨j + 1, by omega, by go_num, HB.out.drew, hT⟩
         case measure => simp [intOf]; omega
       · have hE : (s.toList == u.toList) = false := by rw [beq_str, decide_eq_false hsu]
         have hF : Kept (decide (l = m) = false) := ⟨decide_eq_false (hne.out hsu)⟩
         clear heq hne hsu
         go_wp2
         refine wp_region_still_lit (by kernel_rfl) (by kernel_rfl) ?_
         repeat (first | still_step)
         refine wpStill_nil ?_
         go_wp2
         go_ret
         exact ⟨by rw [hF.out]; rfl, HB.out.drew⟩
     · have hT : Kept (decide (l = m) = true) := ⟨by
         have := ht.out
         rw [List.take_of_length_le (by rw [HN.out]; omega), List.take_of_length_le (by rw [HP.out]; omega)] at this
         exact decide_eq_true this⟩
       clear ht
       go_wp2
       go_ret
       exact ⟨by rw [hT.out]; rfl, hb⟩
 · have hF : Kept (decide (l = m) = false) := ⟨decide_eq_false (fun e => hnp (by rw [← HN.out, ← HP.out, e]))⟩
   go_enter Tryd.func12, Tryd.ntmps12
   go_wp2
   go_ret
   exact ⟨by rw [hF.out]; rfl, Below.refl _ _⟩
end Va
end
section
open Go.RowKit Tx
namespace Va
theorem strTy : Own.Ty Tryd.prog 36 9 (.string ⟨#[]⟩) 16 := ⟨by kernel_rfl, by kernel_rfl, rfl⟩
def Few (l : List Vr) : Prop := ∀ v ∈ l, v.name.size ≤ 1000000000000000 ∧ v.value.size ≤ 1000000000000000
theorem environ_succ {l : List Vr} {j : Nat} {v : Vr} (h : l[j]? = some v) : environ (l.take (j + 1)) = environ (l.take j) ++ if v.ex then [envOf v] else [] := by
 obtain ⟨hj, rfl⟩ := List.getElem?_eq_some_iff.1 h
 rw [List.take_succ_eq_append_getElem hj]
 unfold environ
 rw [List.filter_append, List.map_append]
 congr 1
 cases e : l[j].ex <;> simp [e]
theorem environ_le (l : List Vr) : (environ l).length ≤ l.length := by
 unfold environ
 rw [List.length_map]
 exact List.length_filter_le ..
def EEnd (w : World) (l : List ByteArray) (e : Ending) (w' : World) : Prop := ∃ A n k, e = .returned (.slice A n k) ∧ l.length = n ∧ Kept (Rd w' A l) ∧ Below w.heap.size w w'
set_option maxHeartbeats 2000000 in
set_option maxRecDepth 100000 in
theorem refEnviron_any (l : List Vr) (A : Option Addr) (ln k : Nat) (w : World) (hV : VS w A k l) (hn : l.length = ln) (hl : ln ≤ 100000) (hf : Few l) :
   Calls Tryd.prog 14 #[.slice A ln k] w (EEnd w (environ l)) := by
 have HV := Kept.mk hV
 have HN := Kept.mk hn
 have HF := Kept.mk hf
 clear hV hn hf
 go_enter Tryd.func14, Tryd.ntmps14
 go_wp2_with fail
 go_loopw [3, 4] (fun v i wr => ∃ (j : Nat) (L : List ByteArray), j ≤ ln ∧ i = .int .i64 (j : Int) ∧ Kept (Own.Es Value.string wr w.heap.size v L) ∧ Kept (L = environ (l.take j)) ∧ Kept (Below w.heap.size w wr)) (fun _ i _ => ln - (intOf i).toNat)
 case atStart => exact ⟨0, [], by omega, rfl, ⟨Own.Es.nil _ _ _⟩, ⟨rfl⟩, ⟨Below.refl _ _⟩⟩
 case round =>
   obtain ⟨j, L, hj, rfl, hE, hL, hB⟩ := hrel
   have j0 : (0 : Int) ≤ (j : Int) := by omega
   obtain ⟨LA, LK, rfl⟩ := hE.out.len
   by_cases hlt : j < ln
   · obtain ⟨u, hu⟩ : ∃ u, l[j]? = some u := ⟨_, List.getElem?_eq_getElem (by rw [HN.out]; exact hlt)⟩
     obtain ⟨g, off, rfl, hg, c0, c1, c2, _⟩ := HV.out.at hu
     replace c0 := (hB.out.cell (p := ⟨g, off + j * 4, none⟩) hg).trans c0
     replace c1 := (hB.out.cell (p := ⟨g, off + j * 4 + 1, none⟩) hg).trans c1
     replace c2 := (hB.out.cell (p := ⟨g, off + j * 4 + 2, none⟩) hg).trans c2
     have HG := Kept.mk hg
     have j1 : (j : Int) < (ln : Int) := by omega
     have hfu := HF.out u (List.mem_iff_getElem?.2 ⟨j, hu⟩)
     have hsucc := environ_succ hu
     have hLl : L.length ≤ 100000 := by rw [hL.out]; have := environ_le (l.take j); rw [List.length_take] at this; omega
     obtain ⟨un, uv, ue, ur⟩ := u
     simp only at c0 c1 c2 hfu hsucc
     clear hu hg
     cases ue with
     | false =>
       have HL2 : Kept (L = environ (l.take (j + 1))) := ⟨by rw [hsucc, ← hL.out]; simp⟩
       clear hsucc hL
       go_wp2_with fail
       go_round
       case rel => exact ⟨j + 1, L, by omega, by go_num, hE, HL2, hB⟩
       case measure => simp [intOf]; omega
     | true =>
       have HL2 : Kept (L ++ [un ++ ⟨#[61]⟩ ++ uv] = environ (l.take (j + 1))) := ⟨by rw [hsucc, ← hL.out]; rfl⟩
       have b1 : ¬ 9223372036854775807 < un.size + 1 := by omega
       have b2 : ¬ 9223372036854775807 < un.size + 1 + uv.size := by omega
       clear hsucc hL hfu
       go_wp2_with fail
       go_region_held3 (fun w' => w'.cell? ⟨g, off + j * 4, none⟩ = some (.string un) ∧ w'.cell? ⟨g, off + j * 4 + 1, none⟩ = some (.string uv))
         (first
           | go_keep
           | exact ⟨hg2.cell c0 hne.out.symm, hg2.cell c1 hne.out.symm⟩)
         ((refine Own.step_append1 strTy (fun _ => rfl) (by rfl) _ _ (by rfl) (by rfl) hE.out.drew (by have := hB.out.size; simpa using this) (un ++ ⟨#[61]⟩ ++ uv) _ rfl (by rfl) (by omega) (by unfold maxLen; omega) ?_; intro v2 w2 hE2 hg2 _; have hne : Kept ((Value.slice LA L.length LK).ownBlock ≠ some g) := ⟨fun e => by have := (hE.out.lt g e).1; have := HG.out; omega⟩))
       have HE2 := Kept.mk hE2
       have HB2 : Kept (Below w.heap.size w w2) := ⟨hB.out.drew.grown hg2 hB.out.size (fun k hk => (hE.out.lt k hk).1)⟩
       clear hE2 hg2 hne
       go_wp2_with fail
       go_round
       case rel => exact ⟨j + 1, _, by omega, by go_num, HE2, HL2, HB2⟩
       case measure => simp [intOf]; omega
   · obtain rfl : j = ln := by omega
     have HL2 : Kept (L = environ l) := ⟨by rw [hL.out, List.take_of_length_le (by have := HN.out; omega)]⟩
     have j1 : ¬ (j : Int) < (j : Int) := by omega
     clear hL
     obtain ⟨A2, k2, e2, hR⟩ := Rd.of_es hE.out
     injection e2 with e3 e4 e5
     subst e3 e5
     go_wp2_with fail
     go_ret
     exact ⟨_, _, _, rfl, by rw [HL2.out], ⟨by rw [← HL2.out]; exact hR⟩, hB.out⟩
set_option maxHeartbeats 2000000 in
set_option maxRecDepth 100000 in
theorem same_vars (l : List Vr) (A C : Option Addr) (ln k q : Nat) (w : World) (hV : VS w A k l) (hU : VS w C q l) (hn : l.length = ln) (hl : ln ≤ 100000) :
   Calls Tryd.prog 23 #[.slice A ln k, .slice C ln q] w fun e w' => e = .returned (.bool true) ∧ Below w.heap.size w w' := by
 have HV := Kept.mk hV
 have HU := Kept.mk hU
 have HN := Kept.mk hn
 clear hV hU hn
 go_enter Tryd.func23, Tryd.ntmps23
 go_wp2_with fail
 go_loopw [5] (fun i wr => ∃ j : Nat, j ≤ ln ∧ i = .int .i64 (j : Int) ∧ Kept (Below w.heap.size w wr)) (fun i _ => ln - (intOf i).toNat)
 case atStart => exact ⟨0, by omega, rfl, ⟨Below.refl _ _⟩⟩
 case round =>
   obtain ⟨j, hj, rfl, hB⟩ := hrel
   have j0 : (0 : Int) ≤ (j : Int) := by omega
   by_cases hlt : j < ln
   · obtain ⟨u, hu⟩ : ∃ u, l[j]? = some u := ⟨_, List.getElem?_eq_getElem (by rw [HN.out]; exact hlt)⟩
     obtain ⟨g, off, rfl, hg, c0, c1, c2, c3⟩ := (HV.out.below hB.out).at hu
     obtain ⟨g2, off2, rfl, hg2, d0, d1, d2, d3⟩ := (HU.out.below hB.out).at hu
     have j1 : (j : Int) < (ln : Int) := by omega
     obtain ⟨un, uv, ue, ur⟩ := u
     simp only at c0 c1 c2 c3 d0 d1 d2 d3
     clear hu hg hg2
     have b0 : (un.toList == un.toList) = true := beq_true rfl
     have b1 : (uv.toList == uv.toList) = true := beq_true rfl
     go_wp2_with fail
     go_quiet (fail)
     go_wp2_with fail
     go_round
     case rel => exact ⟨j + 1, by omega, by go_num, ⟨below_drewN hB.out _⟩⟩
     case measure => simp [intOf]; omega
   · obtain rfl : j = ln := by omega
     have j1 : ¬ (j : Int) < (j : Int) := by omega
     go_wp2_with fail
     go_ret
     exact ⟨rfl, hB.out⟩
end Va
end
section
open Go.RowKit Tx
namespace Va
set_option maxHeartbeats 2000000 in
set_option maxRecDepth 100000 in
theorem pUnset_any (l : List Vr) (A : Option Addr) (ln k : Nat) (n : ByteArray) (w : World) (hV : VS w A k l) (hn : l.length = ln) (hl : ln ≤ 100000) (hs : Sorted l) :
   Calls Tryd.prog 18 #[.slice A ln k, .string n] w (SEnd w (unset l n)) := by
 have HV := Kept.mk hV
 have HN := Kept.mk hn
 have HS0 := Kept.mk hs
 clear hV hn hs
 obtain ⟨b, hb⟩ : ∃ b, found l n = b := ⟨_, rfl⟩
 obtain ⟨v, hv⟩ : ∃ v, getD l n = v := ⟨_, rfl⟩
 have HB := Kept.mk hb
 have HD := Kept.mk hv
 have HS : Kept (unset l n = if v.ro = true then .error 150 else .ok (put l n [])) := ⟨by unfold unset; rw [hv]⟩
 rw [HS.out]
 clear hb hv HS
 obtain ⟨ro, hro⟩ : ∃ ro, ro = v.ro := ⟨_, rfl⟩
 have HRo : Kept (v.ro = ro) := ⟨hro.symm⟩
 rw [HRo.out]
 clear hro
 have T1 : Kept True := ⟨trivial⟩
 cases ro with
 | true =>
   rw [if_pos rfl]
   go_enter Tryd.func18, Tryd.ntmps18
   go_wp2_with (first
     | (go_at_call 8; refine (get_any l A ln k n w HV.out HN.out hl HS0.out v b HD.out HB.out).mono ?_; rintro e w1 ⟨rfl, hb1⟩
        have HX := Kept.mk (VX.zero hb1); clear hb1)
     | (have := T1; refine wpList_store_row rfl 30 _ _ rfl _ _ rfl rfl 30 _ HX.out.r (by kernel_rfl) rfl (by simp [Value.oneCell']) ?_
        clear T1
        have HO := Kept.mk (HX.out.row v)
        generalize World.setRow _ _ _ = W at HO ⊢
        have c3 := HO.out.c3
        rw [HRo.out] at c3))
   go_ret2
   exact ⟨_, _, _, rfl, rfl, ⟨VS.empty _⟩, HO.out.bl⟩
 | false =>
   rw [if_neg (by decide)]
   go_enter Tryd.func18, Tryd.ntmps18
   go_wp2_with (first
     | (go_at_call 8; refine (get_any l A ln k n w HV.out HN.out hl HS0.out v b HD.out HB.out).mono ?_; rintro e w1 ⟨rfl, hb1⟩
        have HX := Kept.mk (VX.zero hb1); clear hb1)
     | (have := T1; refine wpList_store_row rfl 30 _ _ rfl _ _ rfl rfl 30 _ HX.out.r (by kernel_rfl) rfl (by simp [Value.oneCell']) ?_
        clear T1
        have HO := Kept.mk (HX.out.row v)
        generalize World.setRow _ _ _ = W at HO ⊢
        have c3 := HO.out.c3
        rw [HRo.out] at c3)
     | (go_at_call 27; refine (replace_any l [] A none ln k 0 0 n _ (HV.out.below HO.out.bl) HN.out hl HS0.out (VS.empty _) rfl (by omega)).mono ?_; rintro e w4 ⟨A2, n2, k2, rfl, hO, hn2, hb4⟩
        have HN2 := Kept.mk hn2
        have HB4 := Kept.mk (HO.out.bl.trans (hb4.mono HO.out.bl.size))
        clear hn2 hb4))
   go_ret2
   exact ⟨_, _, _, rfl, HN2.out, ⟨hO.out.vs.1⟩, HB4.out⟩
set_option maxHeartbeats 2000000 in
set_option maxRecDepth 100000 in
theorem pEnviron_any (l : List Vr) (A : Option Addr) (ln k : Nat) (w : World) (hV : VS w A k l) (hn : l.length = ln) (hl : ln ≤ 100000) (hf : Few l) :
   Calls Tryd.prog 13 #[.slice A ln k] w (EEnd w (environ l)) := by
 have HV := Kept.mk hV
 have HN := Kept.mk hn
 have HF := Kept.mk hf
 clear hV hn hf
 go_enter Tryd.func13, Tryd.ntmps13
 go_wp2_with fail
 go_loopw [3, 8] (fun v i wr => ∃ (j : Nat) (L : List ByteArray), j ≤ ln ∧ i = .int .i64 (j : Int) ∧ Kept (Own.Es Value.string wr w.heap.size v L) ∧ Kept (L = environ (l.take j)) ∧ Kept (Below w.heap.size w wr)) (fun _ i _ => ln - (intOf i).toNat)
 case atStart => exact ⟨0, [], by omega, rfl, ⟨Own.Es.nil _ _ _⟩, ⟨rfl⟩, ⟨Below.refl _ _⟩⟩
 case round =>
   obtain ⟨j, L, hj, rfl, hE, hL, hB⟩ := hrel
   have j0 : (0 : Int) ≤ (j : Int) := by omega
   obtain ⟨LA, LK, rfl⟩ := hE.out.len
   have T1 : Kept True := ⟨trivial⟩
   by_cases hlt : j < ln
   · obtain ⟨u, hu⟩ : ∃ u, l[j]? = some u := ⟨_, List.getElem?_eq_getElem (by rw [HN.out]; exact hlt)⟩
     obtain ⟨g, off, rfl, hg, c0, c1, c2, c3⟩ := (HV.out.below hB.out).at hu
     have j1 : (j : Int) < (ln : Int) := by omega
     have hfu := HF.out u (List.mem_iff_getElem?.2 ⟨j, hu⟩)
     have hsucc := environ_succ hu
     have hLl : L.length ≤ 100000 := by rw [hL.out]; have := environ_le (l.take j); rw [List.length_take] at this; omega
     have HX := Kept.mk (VX.zero (Below.refl wr.heap.size wr))
     have hjs : IntKind.i64.wrap ((j : Int) + 1) = (j : Int) + 1 := IntWalk.i64_in _ (by omega)
     obtain ⟨un, uv, ue, ur⟩ := u
     simp only at c0 c1 c2 c3 hfu hsucc
     clear hu hg
     cases ue with
     | false =>
       have HL2 : Kept (L = environ (l.take (j + 1))) := ⟨by rw [hsucc, ← hL.out]; simp⟩
       clear hsucc hL
       go_wp2_with (have := T1; refine wpList_store_row rfl 30 _ _ rfl _ _ rfl rfl 30 _ HX.out.r (by kernel_rfl) rfl (by simp [Value.oneCell']) ?_
                    clear T1
                    have HO := Kept.mk (HX.out.row ⟨un, uv, false, ur⟩)
                    generalize World.setRow _ _ _ = W at HO ⊢
                    have d2 := HO.out.c2)
       go_round
       case rel => exact ⟨j + 1, L, by omega, by go_num, ⟨hE.out.below HO.out.bl⟩, HL2, ⟨hB.out.trans (HO.out.bl.mono hB.out.size)⟩⟩
       case measure => simp [intOf]; omega
     | true =>
       have HL2 : Kept (L ++ [un ++ ⟨#[61]⟩ ++ uv] = environ (l.take (j + 1))) := ⟨by rw [hsucc, ← hL.out]; rfl⟩
       have b1 : ¬ 9223372036854775807 < un.size + 1 := by omega
       have b2 : ¬ 9223372036854775807 < un.size + 1 + uv.size := by omega
       have hl1 : (L.length + 1) * 16 ≤ 140737488355328 := by omega
       have hl2 : L.length + 1 ≤ maxLen := by unfold maxLen; omega
       clear hsucc hL hfu
       go_wp2_with (first
         | (have := T1; refine wpList_store_row rfl 30 _ _ rfl _ _ rfl rfl 30 _ HX.out.r (by kernel_rfl) rfl (by simp [Value.oneCell']) ?_
            clear T1
            have HO := Kept.mk (HX.out.row ⟨un, uv, true, ur⟩)
            generalize World.setRow _ _ _ = W at HO ⊢
            have d2 := HO.out.c2
            have d0 := HO.out.c0
            have d1 := HO.out.c1
            have HEW := Kept.mk (hE.out.below HO.out.bl)
            have HBW := Kept.mk (hB.out.trans (HO.out.bl.mono hB.out.size)))
         | (at_builtin
            refine Own.wpList_append1 strTy (fun _ => rfl) rfl _ _ rfl rfl HEW.out HBW.out.size (un ++ ⟨#[61]⟩ ++ uv) _ rfl rfl hl1 hl2 ?_
            intro v2 w2 hE2 hg2 _
            have HE2 := Kept.mk hE2
            have HB2 := Kept.mk (HBW.out.grown hg2 HBW.out.size (fun k hk => (HEW.out.lt k hk).1))
            clear hE2 hg2))
       go_round
       case rel => exact ⟨j + 1, _, by omega, by go_num, HE2, HL2, HB2⟩
       case measure => simp [intOf]; omega
   · obtain rfl : j = ln := by omega
     have HL2 : Kept (L = environ l) := ⟨by rw [hL.out, List.take_of_length_le (by have := HN.out; omega)]⟩
     have j1 : ¬ (j : Int) < (j : Int) := by omega
     clear hL
     obtain ⟨A2, k2, e2, hR⟩ := Rd.of_es hE.out
     injection e2 with e3 e4 e5
     subst e3 e5
     go_wp2_with fail
     go_ret
     exact ⟨_, _, _, rfl, by rw [HL2.out], ⟨by rw [← HL2.out]; exact hR⟩, hB.out⟩
end Va
end
section
open Go.RowKit Tx
namespace Va
structure Good (l : List Vr) : Prop where
 rise : Sorted l
 names : ∀ v ∈ l, isName v.name = true
 small : ∀ v ∈ l, v.name.size ≤ 2000000
theorem isName_same (s : ByteArray) (w : World) (hs : s.size ≤ 2000000) (h : isName s = true) : Calls Tryd.prog 17 #[.string s] w fun e w' => e = .returned (.bool true) ∧ w' = w :=
 (isName_any s w hs true h).mono fun _ _ ⟨h1, h2⟩ => ⟨h1, h2.symm⟩
set_option maxHeartbeats 2000000 in
set_option maxRecDepth 100000 in
theorem right_any (l : List Vr) (A : Option Addr) (ln k : Nat) (w : World) (hV : VS w A k l) (hn : l.length = ln) (hl : ln ≤ 100000) (hg : Good l) :
   Calls Tryd.prog 11 #[.slice A ln k] w fun e w' => e = .returned (.bool true) ∧ Below w.heap.size w w' := by
 have HV := Kept.mk hV
 have HN := Kept.mk hn
 have HG := Kept.mk hg
 clear hV hn hg
 go_enter Tryd.func11, Tryd.ntmps11
 go_wp2_with fail
 go_loopw [3] (fun i wr => ∃ j : Nat, j ≤ ln ∧ i = .int .i64 (j : Int) ∧ Kept (Below w.heap.size w wr)) (fun i _ => ln - (intOf i).toNat)
 case atStart => exact ⟨0, by omega, rfl, ⟨Below.refl _ _⟩⟩
 case round =>
   obtain ⟨j, hj, rfl, hB⟩ := hrel
   have j0 : (0 : Int) ≤ (j : Int) := by omega
   by_cases hlt : j < ln
   · obtain ⟨u, hu⟩ : ∃ u, l[j]? = some u := ⟨_, List.getElem?_eq_getElem (by rw [HN.out]; exact hlt)⟩
     obtain ⟨g, off, rfl, hg, c0, _⟩ := (HV.out.below hB.out).at hu
     have j1 : (j : Int) < (ln : Int) := by omega
     have hmem := List.mem_iff_getElem?.2 ⟨j, hu⟩
     have HI := Kept.mk (fun W => isName_same u.name W (HG.out.small u hmem) (HG.out.names u hmem))
     by_cases hj0 : j = 0
     · subst hj0
       clear hu hmem hg
       generalize u.name = x at c0 HI
       rw [Nat.zero_mul, Nat.add_zero] at c0
       go_wp2_with fail
       go_quiet ((go_at_call 17; exact Calls.quiet_of_same (HI.out _)))
       go_wp2_with fail
       go_round
       case rel => exact ⟨1, by omega, rfl, ⟨below_drewN hB.out _⟩⟩
       case measure => simp [intOf]; omega
     · obtain ⟨m, rfl⟩ : ∃ m, j = m + 1 := ⟨j - 1, by omega⟩
       obtain ⟨v, hv⟩ : ∃ v, l[m]? = some v := ⟨_, List.getElem?_eq_getElem (by rw [HN.out]; omega)⟩
       obtain ⟨g2, off2, e2, _, d0, _⟩ := (HV.out.below hB.out).at hv
       injection e2 with e2
       injection e2 with e2 e3
       subst e2 e3
       have hlt2 : lt v.name u.name := by
         obtain ⟨h1, rfl⟩ := List.getElem?_eq_some_iff.1 hu
         obtain ⟨h2, rfl⟩ := List.getElem?_eq_some_iff.1 hv
         exact List.pairwise_iff_getElem.1 HG.out.rise m (m + 1) h2 h1 (by omega)
       clear hu hv hmem hg
       obtain ⟨J, hJ⟩ : ∃ J, m + 1 = J := ⟨_, rfl⟩
       rw [hJ] at c0 j0 j1 hlt hj ⊢
       generalize u.name = x at c0 HI hlt2
       generalize v.name = y at d0 hlt2
       have bL : Op.bytesLess y.toList x.toList = true := by rw [less_str, decide_eq_true hlt2]
       have hw : IntKind.i64.wrap ((J : Int) - 1) = (m : Int) := by rw [← hJ]; exact (IntWalk.i64_in _ (by omega)).trans (by omega)
       have hp : decide (0 < J) = true := decide_eq_true (by omega)
       have m0 : (0 : Int) ≤ (m : Int) := by omega
       have m1 : (m : Int) < (ln : Int) := by omega
       clear hlt2 hj0 hJ
       go_wp2_with fail
       go_quiet ((go_at_call 17; exact Calls.quiet_of_same (HI.out _)))
       go_wp2_with fail
       go_round
       case rel => exact ⟨J + 1, by omega, by go_num, ⟨below_drewN hB.out _⟩⟩
       case measure => simp [intOf]; omega
   · obtain rfl : j = ln := by omega
     have j1 : ¬ (j : Int) < (j : Int) := by omega
     go_wp2_with fail
     go_ret
     exact ⟨rfl, hB.out⟩
end Va
end
section
open Go.RowKit Tx
namespace Va
open Wx (Kit)
theorem SEnd.ok {w w' : World} {e : Ending} {m : List Vr} {mn : Nat} (h : SEnd w (.ok m) e w') (hm : m.length = mn) : ∃ A k, e = .returned (.tuple #[.slice A mn k, .int .i64 0]) ∧ Kept (VS w' A k m) ∧ Below w.heap.size w w' := by
 obtain ⟨A, n, k, he, hn, hV, hb⟩ := h
 have : n = mn := hn.trans hm
 subst this
 exact ⟨A, k, he, hV, hb⟩
theorem SEnd.no {w w' : World} {e : Ending} {c : Int} (h : SEnd w (.error c) e w') : ∃ A k, e = .returned (.tuple #[.slice A 0 k, .int .i64 c]) ∧ Kept (VS w' A k []) ∧ Below w.heap.size w w' := by
 obtain ⟨A, n, k, he, hn, hV, hb⟩ := h
 have : n = 0 := hn
 subst this
 exact ⟨A, k, he, hV, hb⟩
theorem set_err {l : List Vr} {n x : ByteArray} {c : Int} (h : set l n x = .error c) : c = 1 ∨ c = 150 := by
 unfold set at h
 split at h
 · cases h; exact .inl rfl
 · split at h
   · cases h; exact .inr rfl
   · cases h
theorem mark_err {l : List Vr} {n : ByteArray} {e r : Bool} {c : Int} (h : mark l n e r = .error c) : c = 1 ∨ c = 150 := by
 unfold mark at h
 split at h
 · cases h; exact .inl rfl
 · cases h
theorem unset_err {l : List Vr} {n : ByteArray} {c : Int} (h : unset l n = .error c) : c = 1 ∨ c = 150 := by
 unfold unset at h
 split at h
 · cases h; exact .inr rfl
 · cases h
structure Fine (l : List Vr) : Prop where
 good : Good l
 few : Few l
theorem Fine.nil : Fine [] := ⟨⟨List.Pairwise.nil, fun _ h => (by cases h), fun _ h => (by cases h)⟩, fun _ h => (by cases h)⟩
theorem put_mem {l : List Vr} {n : ByteArray} {m : List Vr} {v : Vr} (h : v ∈ put l n m) : v ∈ l ∨ v ∈ m := by
 unfold put before behind at h
 rcases List.mem_append.1 h with h | h
 · rcases List.mem_append.1 h with h | h
   · exact .inl (List.mem_of_mem_take h)
   · exact .inr h
 · exact .inl (List.mem_of_mem_drop h)
theorem Fine.put {l : List Vr} {n : ByteArray} {m : List Vr} (h : Fine l) (hm : m = [] ∨ ∃ v, m = [v] ∧ v.name = n) (hi : m ≠ [] → isName n = true) (hn : n.size ≤ 1400000) (hv : ∀ v ∈ m, v.value.size ≤ 1000000000000000) : Fine (put l n m) := by
 have hname : ∀ v ∈ m, v.name = n := by
   rcases hm with rfl | ⟨u, rfl, rfl⟩
   · intro v hv; cases hv
   · intro v hv; rw [List.mem_singleton.1 hv]
 refine ⟨⟨put_sorted h.good.rise hm, fun v hv2 => ?_, fun v hv2 => ?_⟩, fun v hv2 => ?_⟩
 · rcases put_mem hv2 with h2 | h2
   · exact h.good.names v h2
   · rw [hname v h2]; exact hi (fun e => by rw [e] at h2; cases h2)
 · rcases put_mem hv2 with h2 | h2
   · exact h.good.small v h2
   · rw [hname v h2]; omega
 · rcases put_mem hv2 with h2 | h2
   · exact h.few v h2
   · exact ⟨by rw [hname v h2]; omega, hv v h2⟩
theorem getD_few {l : List Vr} (h : Fine l) (n : ByteArray) : (getD l n).value.size ≤ 1000000000000000 := by
 cases e : found l n with
 | true => rw [getD_at e]; exact (h.few _ (List.getElem_mem _)).2
 | false => rw [getD_no e]; show (0 : Nat) ≤ _; omega
theorem fine_set {l m : List Vr} {n x : ByteArray} (h : Fine l) (hr : set l n x = .ok m) (hn : n.size ≤ 1400000) (hx : x.size ≤ 1000000000000000) : Fine m := by
 unfold set at hr
 split at hr
 · cases hr
 · rename_i hi
   split at hr
   · cases hr
   · cases hr
     exact h.put (.inr ⟨_, rfl, rfl⟩) (fun _ => by simpa using hi) hn (fun v hv => by rw [List.mem_singleton.1 hv]; exact hx)
theorem fine_mark {l m : List Vr} {n : ByteArray} {a b : Bool} (h : Fine l) (hr : mark l n a b = .ok m) (hn : n.size ≤ 1400000) : Fine m := by
 unfold mark at hr
 split at hr
 · cases hr
 · rename_i hi
   cases hr
   exact h.put (.inr ⟨_, rfl, rfl⟩) (fun _ => by simpa using hi) hn (fun v hv => by rw [List.mem_singleton.1 hv]; exact getD_few h n)
theorem fine_unset {l m : List Vr} {n : ByteArray} (h : Fine l) (hr : unset l n = .ok m) (hn : n.size ≤ 1400000) : Fine m := by
 unfold unset at hr
 split at hr
 · cases hr
 · cases hr
   exact h.put (.inl rfl) (fun e => absurd rfl e) hn (fun v hv => by cases hv)
theorem put_le (l : List Vr) (n : ByteArray) (m : List Vr) : (put l n m).length ≤ l.length + m.length := by
 have := put_len l n m; omega
theorem set_le {l m : List Vr} {n x : ByteArray} (hr : set l n x = .ok m) : m.length ≤ l.length + 1 := by
 unfold set at hr
 split at hr
 · cases hr
 · split at hr
   · cases hr
   · cases hr; exact put_le ..
theorem mark_le {l m : List Vr} {n : ByteArray} {a b : Bool} (hr : mark l n a b = .ok m) : m.length ≤ l.length + 1 := by
 unfold mark at hr
 split at hr
 · cases hr
 · cases hr; exact put_le ..
theorem unset_le {l m : List Vr} {n : ByteArray} (hr : unset l n = .ok m) : m.length ≤ l.length + 1 := by
 unfold unset at hr
 split at hr
 · cases hr
 · cases hr; exact Nat.le_trans (put_le ..) (by simp)
def v1 : ByteArray := ⟨#[49]⟩
def v2 : ByteArray := ⟨#[50]⟩
def l1 : List Vr := [⟨⟨#[97]⟩, ⟨#[49]⟩, false, false⟩]
def l2 : List Vr := [⟨⟨#[97]⟩, ⟨#[49]⟩, true, true⟩]
theorem step_1 : set [] ⟨#[97]⟩ ⟨#[49]⟩ = .ok l1 := by kernel_rfl
theorem step_2 : mark l1 ⟨#[97]⟩ true true = .ok l2 := by kernel_rfl
theorem step_3 : set l2 ⟨#[97]⟩ ⟨#[50]⟩ = .error 150 := by kernel_rfl
theorem same_texts (l : List ByteArray) (A C : Option Addr) (n k q : Nat) (w : World) (hR : Rd w A l) (hQ : Rd w C l) (hn : l.length = n) (hn2 : n ≤ 140737488351232) :
   Calls Tryd.prog 12 #[.slice A n k, .slice C n q] w fun e w' => e = .returned (.bool true) ∧ Below w.heap.size w w' :=
 (same_any l l A C n k n q w hR hQ hn hn hn2 hn2).mono fun _ _ ⟨h1, h2⟩ => ⟨by rw [h1, decide_eq_true rfl], h2⟩
theorem env_2 : environ l2 = [⟨#[97, 61, 49]⟩] := by kernel_rfl
theorem sorted_1 : Sorted l1 := List.pairwise_singleton _ _
theorem sorted_2 : Sorted l2 := List.pairwise_singleton _ _
theorem few_2 : Few l2 := fun v hv => by rw [List.mem_singleton.1 hv]; exact ⟨by decide, by decide⟩
theorem EEnd.len {w w' : World} {l : List ByteArray} {e : Ending} {n : Nat} (h : EEnd w l e w') (hn : l.length = n) : ∃ A k, e = .returned (.slice A n k) ∧ Kept (Rd w' A l) ∧ Below w.heap.size w w' := by
 obtain ⟨A, m, k, he, hm, hR, hb⟩ := h
 have : m = n := hm.symm.trans hn
 subst this
 exact ⟨A, k, he, hR, hb⟩
set_option maxHeartbeats 2000000 in
set_option maxRecDepth 100000 in
theorem awake_any (w : World) (hK : Kit w) : Calls Tryd.prog 6 #[] w fun e w' => e = .returned (.bool true) ∧ Below w.heap.size w w' := by
 have HK := Kept.mk hK
 have H1 := Kept.mk (pSet_any [] none 0 0 ⟨#[97]⟩ ⟨#[49]⟩ w (VS.empty w) rfl (by omega) (by decide) List.Pairwise.nil hK)
 rw [step_1] at H1
 clear hK
 have T1 : Kept True := ⟨trivial⟩
 have T2 : Kept True := ⟨trivial⟩
 have T3 : Kept True := ⟨trivial⟩
 go_enter Tryd.func6, Tryd.ntmps6
 go_wp2_with (first
   | (go_at_call 16; have := T1; refine H1.out.mono ?_; clear T1; intro e w1 h1; obtain ⟨A1, k1, rfl, hV1, hb1⟩ := h1.ok (mn := 1) rfl
      have HB1 := Kept.mk hb1
      have H2 := Kept.mk (pMark_any l1 A1 1 k1 ⟨#[97]⟩ true true w1 hV1.out rfl (by omega) (by decide) sorted_1 (HK.out.below hb1))
      rw [step_2] at H2
      clear hb1)
   | (go_at_call 19; refine H2.out.mono ?_; intro e w2 h2; obtain ⟨A2, k2, rfl, hV2, hb2⟩ := h2.ok (mn := 1) rfl
      have HB2 := Kept.mk (HB1.out.trans (hb2.mono HB1.out.size))
      have H3 := Kept.mk (pSet_any l2 A2 1 k2 ⟨#[97]⟩ ⟨#[50]⟩ w2 hV2.out rfl (by omega) (by decide) sorted_2 (HK.out.below HB2.out))
      rw [step_3] at H3
      clear hb2)
   | (go_at_call 16; have := T2; refine H3.out.mono ?_; clear T2; intro e w3 h3; obtain ⟨A3, k3, rfl, _, hb3⟩ := h3.no
      have HB3 := Kept.mk (HB2.out.trans (hb3.mono HB2.out.size))
      have HV3 := Kept.mk (hV2.out.below hb3)
      clear hb3)
   | (go_at_call 13; refine (pEnviron_any l2 A2 1 k2 w3 HV3.out rfl (by omega) few_2).mono ?_; intro e w4 h4; rw [env_2] at h4; obtain ⟨A4, k4, rfl, hR4, hb4⟩ := h4.len (n := 1) rfl
      have HB4 := Kept.mk (HB3.out.trans (hb4.mono HB3.out.size))
      clear hb4)
   | (go_at_call 12
      refine (same_texts [⟨#[97, 61, 49]⟩] A4 (some ⟨w4.heap.size, 0, none⟩) 1 k4 1 _ (hR4.out.below ((Below.refl _ _).alloc (Nat.le_refl _) _)) (Rd.of_at (Own.At.fresh (c := Value.string) w4 #[.string ⟨#[97, 61, 49]⟩] 9 [⟨#[97, 61, 49]⟩] rfl)) rfl (by omega)).mono ?_
      rintro e w5 ⟨rfl, hb5⟩
      have HB5 := Kept.mk ((HB4.out.alloc HB4.out.size _).trans (hb5.mono (by have := HB4.out.size; simp; omega)))
      clear hb5))
 go_ret
 exact ⟨rfl, HB5.out⟩
end Va
end
section
open Go.RowKit Tx
namespace Va
open Wx (Kit)
structure Do where
 what : Nat
 name : Nat
 raw : ByteArray
 value : ByteArray
 a : Bool
 b : Bool
structure Do.ok (d : Do) : Prop where
 what : d.what < 256
 name : d.name < 256
 raw : d.raw.size ≤ 1000000000000000
 value : d.value.size ≤ 1000000000000000
def names : List ByteArray := [⟨#[97]⟩, ⟨#[98]⟩, ⟨#[120, 49]⟩, ⟨#[95]⟩, ⟨#[66]⟩, ⟨#[49]⟩, ⟨#[]⟩, ⟨#[97, 45, 98]⟩]
def few (n : Nat) : ByteArray := names.getD (n % 8) ⟨#[]⟩
def nameOf (d : Do) : ByteArray := if 128 ≤ d.name then d.raw else few d.name
theorem few_small (n : Nat) : (few n).size ≤ 3 := by
 have : ∀ j : Fin 8, (names.getD j.val ⟨#[]⟩).size ≤ 3 := by decide +kernel
 exact this ⟨n % 8, Nat.mod_lt _ (by omega)⟩
theorem nameOf_small {d : Do} {N : Nat} (h : d.raw.size ≤ N) (hN : 3 ≤ N) : (nameOf d).size ≤ N := by
 unfold nameOf
 split
 · exact h
 · exact Nat.le_trans (few_small _) hN
theorem u8_i64 (n : Nat) (h : n < 256) : IntKind.i64.wrap (n : Int) = (n : Int) := IntWalk.i64_in _ (by omega)
set_option maxHeartbeats 1000000 in
set_option maxRecDepth 100000 in
theorem name_law (d : Do) (hd : d.ok) (w : World) :
   Calls Tryd.prog 9 #[.agg #[.int .u8 (d.what : Int), .int .u8 (d.name : Int), .string d.raw, .string d.value, .bool d.a, .bool d.b]] w fun e w' => e = .returned (.string (nameOf d)) ∧ Below w.heap.size w w' := by
 have HB : Kept (∀ o p : Obj, Below w.heap.size w ((w.alloc o).alloc p)) := ⟨fun o p => ((Below.refl _ _).alloc (Nat.le_refl _) _).alloc (by simp) _⟩
 have hn := hd.name
 clear hd
 obtain ⟨wh, nm, raw, val, da, db⟩ := d
 simp only at hn ⊢
 by_cases h : 128 ≤ nm
 · have HN : Kept (nameOf ⟨wh, nm, raw, val, da, db⟩ = raw) := ⟨by unfold nameOf; rw [if_pos h]⟩
   rw [HN.out]
   have h1 : (128 : Int) ≤ (nm : Int) := by omega
   clear h HN
   go_enter Tryd.func9, Tryd.ntmps9
   go_wp2_with fail
   go_ret
   exact ⟨rfl, HB.out _ _⟩
 · have HN : Kept (nameOf ⟨wh, nm, raw, val, da, db⟩ = few nm) := ⟨by unfold nameOf; rw [if_neg h]⟩
   rw [HN.out]
   have h1 : ¬ (128 : Int) ≤ (nm : Int) := by omega
   have q1 := u8_i64 nm hn
   have q2 : (nm : Int).tmod 8 = ((nm % 8 : Nat) : Int) := by rw [Int.tmod_eq_emod_of_nonneg (by omega)]; omega
   have hm : nm % 8 < 8 := Nat.mod_lt _ (by omega)
   have hA := Own.At.fresh (c := Value.string) (w.alloc (.cells #[.int .u8 (wh : Int), .int .u8 (nm : Int), .string raw, .string val, .bool da, .bool db] 26)) _ 9 names rfl
   have hc := hA.cell (nm % 8) (by simpa [names] using hm)
   rw [Nat.zero_add, World.size_alloc] at hc
   have hp : Kept (names[nm % 8]'(by simpa [names] using hm) = few nm) := ⟨by unfold few; rw [List.getD_eq_getElem?_getD, List.getElem?_eq_getElem (by simpa [names] using hm), Option.getD_some]⟩
   generalize names[nm % 8]'(by simpa [names] using hm) = s at hc hp
   simp only [names, List.map_cons, List.map_nil, List.toArray] at hc
   have z0 : (0 : Int) ≤ ((nm % 8 : Nat) : Int) := by omega
   have z1 : ((nm % 8 : Nat) : Int) < 8 := by omega
   clear hA h HN
   go_enter Tryd.func9, Tryd.ntmps9
   go_wp2_with fail
   go_ret
   exact ⟨by rw [← hp.out]; rfl, HB.out _ _⟩
end Va
end
end Go.Proofs.YtpagcoiekeijbaaDoor
