/-
  Parts of the proof, merged.
-/
import Derived.Test.YtlggpefmojacoaaGreatDoorLa35
import Derived.Test.YtlggpefmojacoaaGreatDoorLa36
namespace Go.Proofs.YtlggpefmojacoaaGreatDoor
section
open Go.RowKit Tx
namespace Wx
open Lx
theorem wt_map (q : Bool) : ∀ (l : List Pt), wt (l.map (qP q)) ≤ wt l
 | [] => by rw [List.map_nil]; exact Nat.le_refl _
 | p :: l => by
   rw [List.map_cons, wt, wt]
   have h1 := wt_map q l
   have h2 : wtP (qP q p) ≤ wtP p := by
     cases q
     · exact Nat.le_refl _
     · exact wt_quoteP p
   omega
theorem wt_qf (q : Bool) (l : List Pt) : wt (qf q l) ≤ wt l := by
 cases q
 · exact Nat.le_refl _
 · exact wt_quotes l
theorem wt_step (q : Bool) (l acc : List Pt) : wt (qf q (l.foldl add acc)) ≤ wt (qf q acc) + wt l := by
 rw [qf_fold]
 have h1 := wt_foldl (l.map (qP q)) (qf q acc)
 have h2 := wt_map q l
 omega
set_option maxHeartbeats 8000000 in
set_option maxRecDepth 100000 in
theorem outside_any (d : Nat) (dep : Int) (HDl : DolC d dep) (HQl : QuoC d dep) (s : ByteArray) (q : Bool) (w : World) (b : Nat) (acc0 : List Pt) (pv tv : Value) (hs : s.size ≤ 1500000) (hw : wt (qf q acc0) + 2 * s.size ≤ 15000000) (hK : Kit w) (hA : Ahead b) (hS : St w b dep (qf q acc0) pv tv) :
   Calls Tryz.prog 136 #[.pointer (some ⟨b, 0, none⟩), .string s, .bool q] w (WEnd ((partsOn (parts d) (toL s) acc0).map (qf q)) w b dep pv tv) := by
 have HK := Kept.mk hK
 have HA := Kept.mk hA
 have HS := Kept.mk hS
 have HD := Kept.mk HDl
 have HQ := Kept.mk HQl
 have HW0 : Kept (wt (qf q acc0) + 2 * s.size ≤ 15000000) := ⟨hw⟩
 obtain ⟨R, hR⟩ : ∃ R, R = (partsOn (parts d) (toL s) acc0).map (qf q) := ⟨_, rfl⟩
 have HR := Kept.mk hR
 rw [← hR]
 clear hK hA hS hw HDl HQl hR
 go_enter Tryz.func136, Tryz.ntmps136
 go_wp2_with fail
 go_loopg [1] s.size (fun m sv wr => ∃ (x : ByteArray) (acc : List Pt) (pv' tv' : Value), sv = .string x ∧ x.size ≤ 1500000 ∧ x.size ≤ m ∧ Kept (R = (partsOn (parts d) (toL x) acc).map (qf q)) ∧ Kept (St wr b dep (qf q acc) pv' tv') ∧ Kept (Fr b pv tv pv' tv' w wr) ∧ Kept (wt (qf q acc) + 2 * x.size ≤ 15000000))
 case atStart => exact ⟨s, acc0, pv, tv, rfl, hs, Nat.le_refl _, HR, HS, ⟨Fr.refl _ _ _ _⟩, HW0⟩
 case round =>
   obtain ⟨x, acc, pv', tv', rfl, hx5, hxm, HRx, HSx, HF, HW⟩ := hrel
   have HKr : Kept (Kit wr) := ⟨HK.out.far HA.out HF.out.bl⟩
   by_cases h0 : 0 < x.size
   · have hne := not_empty h0
     have hne2 : (x.toList != ([] : List UInt8)) = true := by unfold bne; rw [hne]; rfl
     have HX0 : Kept (toL x ≠ []) := ⟨fun e => by have := toL_length x; rw [e] at this; simp at this; omega⟩
     go_wp2_with fail
     go_at_call 150
     refine (readOn_any d dep HD.out HQ.out x q wr b acc pv' tv' h0 hx5 HW.out HKr.out HA.out HSx.out).mono ?_
     intro e w2 hE
     cases hE with
     | no w2 c n h hc0 hb =>
       have HE : Kept (R = .error c) := ⟨by rw [HRx.out, big_no HX0.out h]; rfl⟩
       have HB : Kept (Below b w w2) := ⟨HF.out.bl.trans hb.out⟩
       have hc1 := neq_zero hc0
       clear h hb
       go_wp2_with fail
       go_ret
       exact .no _ c HE.out hc0 HB
     | ok w2 l k pv2 tv2 h hs2 hf2 =>
       have HS2 := hs2
       have HF2 := hf2
       obtain ⟨hb1, hk1, hk2⟩ := big_ok (acc := acc) HX0.out h
       rw [toL_length] at hk2
       have hbw := big_wt (parts_wt d) h
       have hws := wt_step q l acc
       obtain ⟨X, hX⟩ : ∃ X, X = x.extract k x.size := ⟨_, rfl⟩
       have hsl : ∀ W : World, (Instr.slice 9 (.string x) (some (.int .i64 (k : Int))) none none).run Tryz.prog W = .ok (.string X) W := fun W => by rw [hX]; exact str_from hk2 (by omega) W
       have HXl : Kept (toL X = (toL x).drop k) := ⟨by rw [hX]; exact toL_rest x k⟩
       have hXs : X.size = x.size - k := by rw [hX]; exact size_rest x k
       have HXs : Kept (X.size = x.size - k ∧ 1 ≤ k ∧ k ≤ x.size ∧ wt (qf q (l.foldl add acc)) + 2 * X.size ≤ 15000000) := ⟨hXs, hk1, hk2, by have := HW.out; omega⟩
       have HR2 : Kept (R = (partsOn (parts d) (toL X) (l.foldl add acc)).map (qf q)) := ⟨by rw [HRx.out, hb1, HXl.out]⟩
       clear hs2 hf2 hb1 hk1 hk2 hbw hws hX hXs h
       go_wp2_with fail
       go_roundg X.size
       case measure => have := HXs.out; omega
       case rel => exact ⟨X, l.foldl add acc, pv2, tv2, rfl, by have := HXs.out; omega, Nat.le_refl _, HR2, HS2, ⟨HF.out.trans HF2.out⟩, ⟨HXs.out.2.2.2⟩⟩
   · have hx0 := empty_of (s := x) (by omega)
     subst hx0
     have HE : Kept (R = .ok (qf q acc)) := ⟨HRx.out⟩
     clear h0
     go_wp2_with fail
     go_ret
     exact .ok _ _ pv' tv' HE.out HSx HF
structure ParseC (d : Nat) (dep : Int) : Prop where
 ok : ∀ (s : ByteArray) (q : Bool) (w : World) (l : List Pt), Kept (parts d (toL s) = .ok l) → s.size ≤ 1500000 → Kit w →
   Calls Tryz.prog 118 #[.int .i64 dep, .string s, .bool q] w fun e w' => ∃ A k, e = .returned (.tuple #[.slice A (qf q l).length k, .int .i64 0]) ∧ Kept (LV (Nw w.heap.size) w' (.slice A (qf q l).length k) (qf q l)) ∧ Below w.heap.size w w'
 no : ∀ (s : ByteArray) (q : Bool) (w : World) (c : Int), Kept (parts d (toL s) = .error c) → s.size ≤ 1500000 → Kit w →
   Calls Tryz.prog 118 #[.int .i64 dep, .string s, .bool q] w fun e w' => e = .returned (.tuple #[.slice none 0 0, .int .i64 c]) ∧ (c == 0) = false ∧ Below w.heap.size w w'
set_option maxRecDepth 100000 in
theorem parse_zero (dep : Int) (hd : 30 < dep) : ParseC 0 dep := by
 refine ⟨fun s q w l h => ?_, fun s q w c h hs hK => ?_⟩
 · have := h.out
   rw [parts] at this; cases this
 · have hc : c = 2 := by have := h.out; rw [parts] at this; cases this; rfl
   subst hc
   clear h hK
   go_enter Tryz.func118, Tryz.ntmps118
   go_wp2_with fail
   go_ret2
   exact ⟨rfl, rfl, Below.refl _ _⟩
theorem St.start (w : World) (dep : Int) : St (w.alloc (.cells #[.int .i64 dep, .slice none 0 0, .bool false, .slice none 0 0, .bool false] 149)) w.heap.size dep [] (.slice none 0 0) (.slice none 0 0) :=
 ⟨[], false, false, [], ⟨heap_alloc_new w _, ⟨[], World.ownsRow_nil _ _ _ _, .nil⟩, By.Bs.nil _ _, fun g h => by cases h⟩, Acc.start⟩
theorem RdM.lv {w : World} {b m : Nat} {dep : Int} {ps : List Pt} {it q : Bool} {t : List UInt8} {pv tv : Value} (h : RdM w b dep ps it t q pv tv) (hm : m ≤ b) : LV (Nw m) w pv ps := by
 obtain ⟨xs, ho, hx⟩ := h.parts
 have hx2 := hx.mono (Q := Nw m) fun g hg _ => by have := hg.1; show m ≤ g; omega
 rcases ho.2 with ⟨rfl, h0⟩ | ⟨g, cap, cur, rfl, hB, hg, hnc, hcm, hcs, htake⟩
 · obtain rfl := List.eq_nil_of_length_eq_zero h0
   exact .nil _ _ (fun _ => rfl)
 · refine .at g 0 _ cap xs ps rfl hnc (by show m ≤ g; omega) (Array.getElem?_eq_some_iff.1 hg).1 (fun i u hu => ?_) hx2
   rw [Nat.zero_add, cell_of_row w g i cur _ (0, 0) hg]
   rw [← htake, List.getElem?_take] at hu
   split at hu
   · simpa using hu
   · cases hu
set_option maxHeartbeats 4000000 in
set_option maxRecDepth 100000 in
theorem parse_next (d : Nat) (dep : Int) (hd : dep ≤ 30) (HDl : DolC d dep) (HQl : QuoC d dep) : ParseC (d + 1) dep := by
 have HD := Kept.mk HDl
 have HQ := Kept.mk HQl
 have hd1 : ¬ 30 < dep := by omega
 have HIn : ∀ (s : ByteArray) (q : Bool) (w : World), s.size ≤ 1500000 → Kit w → Kept (Calls Tryz.prog 136 #[.pointer (some ⟨w.heap.size, 0, none⟩), .string s, .bool q] (w.alloc (.cells #[.int .i64 dep, .slice none 0 0, .bool false, .slice none 0 0, .bool false] 149)) (WEnd ((parts (d + 1) (toL s)).map (qf q)) (w.alloc (.cells #[.int .i64 dep, .slice none 0 0, .bool false, .slice none 0 0, .bool false] 149)) w.heap.size dep (.slice none 0 0) (.slice none 0 0))) := fun s q w hs hK => ⟨by
   rw [parts_is]
   refine outside_any d dep HD.out HQ.out s q _ w.heap.size [] _ _ hs ?_ ?_ ?_ ?_
   · rw [qf_nil, wt_nil]; omega
   · exact hK.below ((Below.refl _ _).alloc (Nat.le_refl _) _)
   · exact hK.ahead (Nat.le_refl _)
   · rw [qf_nil]; exact St.start w dep⟩
 clear HDl HQl HD HQ
 refine ⟨fun s q w l h hs hK => ?_, fun s q w c h hs hK => ?_⟩
 · have HI := HIn s q w hs hK
   have hwl := parts_wt (d + 1) _ _ h.out
   rw [toL_length] at hwl
   have HWl : Kept (wt (qf q l) ≤ 3000000) := ⟨by have := wt_qf q l; omega⟩
   rw [h.out] at HI
   clear HIn hK h hs hwl
   go_enter Tryz.func118, Tryz.ntmps118
   go_wp2_with fail
   go_at_call 136
   refine HI.out.mono ?_
   intro e w2 hE
   cases hE with
   | no w2 c h => cases h
   | ok w2 l2 pv2 tv2 h hs2 hf2 =>
     cases h
     have HS2 := hs2
     have HB2 : Kept (Below w.heap.size w w2) := ⟨((Below.refl _ _).alloc (Nat.le_refl _) _).trans hf2.out.bl⟩
     clear hs2 hf2 HI
     obtain ⟨ps, it, q2, t, h1, h2⟩ := HS2.out
     have HAc := Kept.mk h2.done
     have HR := Kept.mk h1
     have HPl : Kept (ps.length ≤ 30000000) := ⟨by have := h2.sizes.1; have := HWl.out; omega⟩
     clear h1 h2
     go_wp2_with fail
     go_at_call 137
     refine (endText_any w2 w.heap.size dep ps it t q2 pv2 tv2 HR.out HPl.out).mono ?_
     rw [HAc.out]
     rintro e w3 ⟨rfl, pv3, tv3, H3, HF3⟩
     have c1 := H3.out.c1
     have hlv := H3.out.lv (m := w.heap.size) (Nat.le_refl _)
     obtain ⟨A3, k3, rfl⟩ := hlv.slice
     have HL3 := Kept.mk hlv
     have HB3 : Kept (Below w.heap.size w w3) := ⟨HB2.out.trans HF3.out.bl⟩
     clear hlv HAc HR HPl HS2 H3 HF3
     go_wp2_with fail
     go_ret2
     exact ⟨A3, k3, rfl, HL3, HB3.out⟩
 · have HI := HIn s q w hs hK
   rw [h.out] at HI
   clear HIn hK h hs
   go_enter Tryz.func118, Tryz.ntmps118
   go_wp2_with fail
   go_at_call 136
   refine HI.out.mono ?_
   intro e w2 hE
   cases hE with
   | ok w2 l2 pv2 tv2 h => cases h
   | no w2 c h hc0 hb =>
     cases h
     have HB2 : Kept (Below w.heap.size w w2) := ⟨((Below.refl _ _).alloc (Nat.le_refl _) _).trans hb.out⟩
     have hc1 := neq_zero hc0
     clear hb HI
     go_wp2_with fail
     go_ret2
     exact ⟨rfl, hc0, HB2.out⟩
end Wx
end
section
open Go.RowKit Tx
namespace Wx
open Lx
theorem addPart_any (w0 w : World) (b : Nat) (dep : Int) (acc : List Pt) (pv tv : Value) (kk : Int) (q2 : Bool) (tt nn oo : List UInt8) (wd : List Pt) (A : Option Addr) (wl k : Nat) (h : Kept (St w0 b dep acc pv tv)) (hb : Below w0.heap.size w0 w) (hk : kk ≠ 0) (hw : LV (Nw w0.heap.size) w (.slice A wl k) wd) (hwt : wt acc ≤ 27000000) (acc2 : List Pt) (ha : Kept (acc2 = add acc (.mk kk q2 tt nn oo wd))) :
   Calls Tryz.prog 164 #[.pointer (some ⟨b, 0, none⟩), .agg #[.int .i64 kk, .bool q2, .string (bs tt), .string (bs nn), .string (bs oo), .slice A wl k]] w fun e w' => e = .returned (.tuple #[]) ∧ ∃ pv' tv', Kept (St w' b dep acc2 pv' tv') ∧ Kept (Fr b pv tv pv' tv' w0 w') := by
 obtain ⟨ps, it, q, t, h1, h2⟩ := h.out
 have hs := h2.sizes.1
 have hkeep := h1.keepB hb
 have hlt := h1.lt
 have hot : LV (Ot b pv tv) w (.slice A wl k) wd := hw.mono fun g hg _ => by
   have hg : w0.heap.size ≤ g := hg
   refine ⟨by omega, fun e => ?_, fun e => ?_⟩
   · obtain ⟨xs, ho, _⟩ := h1.parts
     have := (own_lt ho g e).2
     omega
   · have := (h1.text.lt g e).2
     omega
 refine (addP_any w b dep ps it t q pv tv hkeep (by omega) kk q2 tt nn oo wd A wl k hot).mono ?_
 rintro e w' ⟨he, pv', tv', k1, k2⟩
 refine ⟨he, pv', tv', ⟨⟨_, false, q, [], k1.out, ?_⟩⟩, ⟨?_⟩⟩
 · rw [ha.out]
   exact h2.part (p := .mk kk q2 tt nn oo wd) hk q
 · have hf : Fr b pv tv pv tv w0 w := ⟨hb.mono (Nat.le_of_lt hlt), fun g hg hgl => ⟨hg, hb.block g hgl⟩⟩
   exact hf.trans k2.out
theorem LV.empty (P : Nat → Prop) (w : World) : LV P w (.slice Option.none 0 0) [] := .nil _ _ (fun _ => rfl)
theorem BoxM.put {w w1 : World} {cs : Array Value} (h : BoxM w w1 cs) (j : Nat) (v : Value) : BoxM w (w1.setCell ⟨w.heap.size, j, none⟩ v) (cs.setIfInBounds j v) :=
 ⟨heap_setCell_same w1 w.heap.size j _ _ v h.r, h.bl.setCell (p := ⟨w.heap.size, j, none⟩) (Nat.le_refl _) v⟩
def lenB (s : List UInt8) : Bool := decide (1 < s.length ∧ s.head? = some 35 ∧ paramL (s.drop 1) = s.length - 1)
theorem cutPrefix_any (s : ByteArray) (w : World) (n : ByteArray) (t : Bool) (ht : t = decide ((toL s).head? = some 35)) (hn : Kept (n = if t then s.extract 1 s.size else s)) : Calls Tryz.prog 75 #[.string s, .string ⟨#[35]⟩] w fun e w' => e = .returned (.tuple #[.string n, .bool t]) ∧ w' = w := by
 have h := Tryz.strings_CutPrefix s ⟨#[35]⟩ w
 have hp : Lib.hasPrefix s.data.toList [35] = t := by
   rw [ht]
   show [35].isPrefixOf (toL s) = _
   cases toL s with
   | nil => rfl
   | cons c r =>
     show ((35 : UInt8) == c && [].isPrefixOf r) = _
     simp [List.isPrefixOf]
     by_cases hc : c = 35
     · subst hc; simp
     · have : ¬ (35 : UInt8) = c := fun e => hc e.symm
       simp [hc, this]
 have ht2 : (Lib.trimPrefix s.data.toList [35]).toArray = n.data := by
   rw [hn.out]
   show (if Lib.hasPrefix s.data.toList [35] = true then s.data.toList.drop 1 else s.data.toList).toArray = _
   rw [hp]
   cases t with
   | true =>
     rw [if_pos rfl, if_pos rfl]
     show ((toL s).drop 1).toArray = _
     rw [← toL_rest s 1]
     show (s.extract 1 s.size).data.toList.toArray = _
     rw [Array.toArray_toList]
   | false => rw [if_neg (by simp), if_neg (by simp)]
 refine h.mono ?_
 rintro e w' ⟨rfl, rfl⟩
 refine ⟨?_, rfl⟩
 have e1 : (⟨#[35]⟩ : ByteArray).data.toList = [35] := rfl
 rw [e1, hp, ht2]
def bracesX (w : List UInt8 → Except Int (List Pt)) (q : Bool) (n r : List UInt8) : Except Int Pt :=
 if n = [] then .error 90
 else if r = [] then .ok (.mk 1 q [] n [] [])
 else match opL r with
   | none => .error 90
   | some o =>
     if (o = [61] ∨ o = [58, 61]) ∧ nameL n = 0 then .error 90
     else match w (r.drop o.length) with
       | .error e => .error e
       | .ok l => if cmds l then .error 90 else .ok (.mk 1 q [] n o (qf q l))
theorem braces_is (w : List UInt8 → Except Int (List Pt)) (q : Bool) {s : List UInt8} (h : lenB s = false) : braces w q s = bracesX w q (s.take (paramL s)) (s.drop (paramL s)) := by
 have h1 := of_decide_eq_false h
 unfold braces bracesX
 rw [if_neg h1]
 have e : (s.take (paramL s) = []) ↔ paramL s = 0 := by
   have := paramL_le s
   constructor
   · intro e
     have h2 := congrArg List.length e
     rw [List.length_take] at h2
     simp at h2
     rcases h2 with h2 | h2
     · exact h2
     · rw [h2]; rfl
   · intro e; rw [e, List.take_zero]
 by_cases h0 : paramL s = 0
 · rw [if_pos h0, if_pos (e.2 h0)]
 · rw [if_neg h0, if_neg (fun h => h0 (e.1 h))]
   by_cases h2 : s.drop (paramL s) = []
   · rw [if_pos h2, if_pos h2]
   · rw [if_neg h2, if_neg h2]
     cases opL (s.drop (paramL s)) with
     | none => rfl
     | some o =>
       simp only []
       by_cases h3 : (o = [61] ∨ o = [58, 61]) ∧ nameL (s.take (paramL s)) = 0
       · rw [if_pos h3, if_pos h3]
       · rw [if_neg h3, if_neg h3, List.drop_drop]
         rfl
theorem bracesX_end {w : List UInt8 → Except Int (List Pt)} {q : Bool} {n : List UInt8} (h : n ≠ []) : bracesX w q n (toL ⟨#[]⟩) = .ok (.mk 1 q [] n [] []) := by
 unfold bracesX
 rw [if_neg h]
 exact if_pos rfl
theorem bracesX_none {w : List UInt8 → Except Int (List Pt)} {q : Bool} {n r : List UInt8} (h : n ≠ []) (h2 : r ≠ []) (h3 : opL r = none) : bracesX w q n r = .error 90 := by
 unfold bracesX
 rw [if_neg h, if_neg h2, h3]
theorem bracesX_op {w : List UInt8 → Except Int (List Pt)} {q : Bool} {n r o : List UInt8} (h : n ≠ []) (h2 : r ≠ []) (h3 : opL r = some o) : bracesX w q n r =
     if (o = [61] ∨ o = [58, 61]) ∧ nameL n = 0 then .error 90
     else match w (r.drop o.length) with
       | .error e => .error e
       | .ok l => if cmds l then .error 90 else .ok (.mk 1 q [] n o (qf q l)) := by
 unfold bracesX
 rw [if_neg h, if_neg h2, h3]
set_option maxHeartbeats 8000000 in
set_option maxRecDepth 100000 in
theorem braces_len (_d : Nat) (dep : Int) (s : ByteArray) (q : Bool) (w : World) (b : Nat) (acc : List Pt) (pv tv : Value) (hs : s.size ≤ 1500000) (hw : wt acc ≤ 27000000) (hS : St w b dep acc pv tv) (hl : lenB (toL s) = true) (P : List UInt8 → Except Int (List Pt)) :
   Calls Tryz.prog 161 #[.pointer (some ⟨b, 0, none⟩), .string s, .bool q] w (WEnd ((braces P q (toL s)).map (add acc)) w b dep pv tv) := by
 have h3 := of_decide_eq_true hl
 have HS := Kept.mk hS
 have hbr : braces P q (toL s) = .ok (.mk 1 q [] ((toL s).drop 1) lenOp []) := by unfold braces; rw [if_pos h3]
 obtain ⟨R, hR⟩ : ∃ R, R = (braces P q (toL s)).map (add acc) := ⟨_, rfl⟩
 rw [← hR]
 have HE : Kept (R = .ok (add acc (.mk 1 q [] ((toL s).drop 1) lenOp []))) := ⟨by rw [hR, hbr]; rfl⟩
 obtain ⟨X, hX⟩ : ∃ X, X = s.extract 1 s.size := ⟨_, rfl⟩
 have hXl : toL X = (toL s).drop 1 := by rw [hX]; exact toL_rest s 1
 have hXs : X.size = s.size - 1 := by rw [hX]; exact size_rest s 1
 have hsl : 1 < s.size := by rw [← toL_length]; exact h3.1
 have HC := Kept.mk (cutPrefix_any s (w.alloc (.cells #[.int .i64 1, .bool q, .string ⟨#[]⟩, .string ⟨#[]⟩, .string ⟨#[]⟩, .slice none 0 0] 125)) X true (by rw [decide_eq_true h3.2.1]) ⟨by rw [if_pos rfl]; exact hX⟩)
 have hne := not_empty (s := X) (by omega)
 have hne2 : (X.toList != ([] : List UInt8)) = true := by unfold bne; rw [hne]; rfl
 have hall : X.extract 0 (paramL (toL X)) = X := by
   rw [hXl, h3.2.2, toL_length, show s.size - 1 = X.size by omega]; exact all_of X
 have HP : ∀ W : World, Kept (Calls Tryz.prog 168 #[.string X] W fun e w' => e = .returned (.string X) ∧ Below W.heap.size W w') := fun W => ⟨by
   have := leadingP_any X W (by omega) _ rfl
   rwa [hall] at this⟩
 have HXb : Kept (bs ((toL s).drop 1) = X) := ⟨by rw [← hXl]; exact bs_toL X⟩
 have HB0 := Kept.mk (BoxM.begin w #[.int .i64 1, .bool q, .string ⟨#[]⟩, .string ⟨#[]⟩, .string ⟨#[]⟩, .slice none 0 0])
 have hxx : (X.toList == X.toList) = true := by rw [beq_str]; exact decide_eq_true rfl
 have HP := Kept.mk HP
 clear hS h3 hbr hR hX hXl hXs hsl hall hl
 go_enter Tryz.func161, Tryz.ntmps161
 go_wp2_with fail
 go_at_call 75
 refine HC.out.mono ?_
 rintro e w1 ⟨rfl, rfl⟩
 go_wp2_with fail
 go_at_call 168
 refine (HP.out _).out.mono ?_
 rintro e w2 ⟨rfl, hb2⟩
 have HB2 := Kept.mk (HB0.out.below hb2)
 have x0 := cell_of_row _ _ 0 _ _ _ HB2.out.r
 have x1 := cell_of_row _ _ 1 _ _ _ HB2.out.r
 have x2 := cell_of_row _ _ 2 _ _ _ HB2.out.r
 have x3 := cell_of_row _ _ 3 _ _ _ HB2.out.r
 have x4 := cell_of_row _ _ 4 _ _ _ HB2.out.r
 have x5 := cell_of_row _ _ 5 _ _ _ HB2.out.r
 have f3 := frozen_of_row _ _ 3 _ _ HB2.out.r
 have f4 := frozen_of_row _ _ 4 _ _ HB2.out.r
 simp at x0 x1 x2 x3 x4 x5
 clear hb2
 go_wp2_with fail
 go_at_call 164
 have HAd := addPart_any w ((w2.setCell ⟨w.heap.size, 3, none⟩ (.string X)).setCell ⟨w.heap.size, 4, none⟩ (.string ⟨#[108, 101, 110]⟩)) b dep acc pv tv 1 q [] ((toL s).drop 1) lenOp [] none 0 0 HS ((HB2.out.put 3 _).put 4 _).bl (by decide) (LV.empty _ _) hw _ ⟨rfl⟩
 rw [HXb.out] at HAd
 refine HAd.mono ?_
 rintro e w3 ⟨rfl, pv2, tv2, HS2, HF2⟩
 clear HAd
 go_wp2_with fail
 go_ret
 exact .ok _ _ pv2 tv2 HE.out HS2 HF2
end Wx
end
end Go.Proofs.YtlggpefmojacoaaGreatDoor
