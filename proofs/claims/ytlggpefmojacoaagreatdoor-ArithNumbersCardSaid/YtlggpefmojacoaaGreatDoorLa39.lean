/-
  Parts of the proof, merged.
-/
import Derived.Deep.RegionLaw
import Derived.IntWalk
import Derived.Test.YtlggpefmojacoaaGreatDoorLa37
namespace Go.Proofs.YtlggpefmojacoaaGreatDoor
section
open Go.RowKit Tx
namespace Wx
open Lx
set_option maxHeartbeats 1600000 in
set_option maxRecDepth 100000 in
theorem braces_b (d : Nat) (dep : Int) (hd0 : 0 ≤ dep) (hd1 : dep ≤ 30) (HPa : ParseC d (dep + 1)) (s : ByteArray) (q : Bool) (w : World) (b : Nat) (acc : List Pt) (pv tv : Value) (_hs : s.size ≤ 1500000) (hw : wt acc ≤ 27000000) (hK : Kit w) (hS : St w b dep acc pv tv) (hl : lenB (toL s) = false) (h35 : (toL s).head? = some 35) (h1 : s.size = 1) :
   Calls Tryz.prog 161 #[.pointer (some ⟨b, 0, none⟩), .string s, .bool q] w (WEnd ((braces (parts d) q (toL s)).map (add acc)) w b dep pv tv) := by
 have HS := Kept.mk hS
 have HK := Kept.mk hK
 have HPa := Kept.mk HPa
 have hbr := braces_is (parts d) q hl
 obtain ⟨R, hR⟩ : ∃ R, R = (braces (parts d) q (toL s)).map (add acc) := ⟨_, rfl⟩
 rw [← hR]
 obtain ⟨m, hm⟩ : ∃ m, m = paramL (toL s) := ⟨_, rfl⟩
 have hmle : m ≤ s.size := by rw [hm, ← toL_length]; exact paramL_le _
 obtain ⟨N, hN⟩ : ∃ N, N = s.extract 0 m := ⟨_, rfl⟩
 have hNs : N.size = m := by rw [hN]; exact size_to s m hmle
 have hNl : toL N = (toL s).take m := by rw [hN, toL_to]
 have HNm : Kept (∀ W : World, Calls Tryz.prog 168 #[.string s] W fun e w' => e = .returned (.string N) ∧ Below W.heap.size W w') := ⟨fun W => by rw [hN]; exact leadingP_any s W (by omega) m hm⟩
 have HNb : Kept (bs ((toL s).take m) = N) := ⟨by rw [← hNl]; exact bs_toL N⟩
 obtain ⟨Y, hY⟩ : ∃ Y, Y = s.extract m s.size := ⟨_, rfl⟩
 have hYl : toL Y = (toL s).drop m := by rw [hY]; exact toL_rest s m
 have hYs : Y.size = s.size - m := by rw [hY]; exact size_rest s m
 have hslY : ∀ W : World, (Instr.slice 9 (.string s) (some (.int .i64 (N.size : Int))) none none).run Tryz.prog W = .ok (.string Y) W := fun W => by rw [hY, hNs]; exact str_from hmle (by omega) W
 have HB0 := Kept.mk (BoxM.begin w #[.int .i64 1, .bool q, .string ⟨#[]⟩, .string ⟨#[]⟩, .string ⟨#[]⟩, .slice none 0 0])
 have HM : Kept (R = (bracesX (parts d) q (toL N) (toL Y)).map (add acc)) := ⟨by rw [hR, hbr, ← hm, ← hNl, ← hYl]⟩
 have HNs : Kept (N.size ≤ 1500000 ∧ Y.size ≤ 1500000) := ⟨by omega⟩
 have hblt := hS.lt
 have HC0 : Kept (w.cell? ⟨b, 0, none⟩ = some (.int .i64 dep)) := ⟨by obtain ⟨_, _, _, _, h1, _⟩ := hS; exact cell_of_row _ _ 0 _ _ _ h1.row⟩
 clear hS hK hbr hR hm hmle hN hNs hNl hY hYl hYs
 have HC := Kept.mk (cutPrefix_any s (w.alloc (.cells #[.int .i64 1, .bool q, .string ⟨#[]⟩, .string ⟨#[]⟩, .string ⟨#[]⟩, .slice none 0 0] 125)) ⟨#[]⟩ true (by rw [decide_eq_true h35]) ⟨by rw [if_pos rfl]; exact (empty_of (by rw [size_rest]; omega)).symm⟩)
 clear hl h35 h1
 go_enter Tryz.func161, Tryz.ntmps161
 go_wp2_with fail
 go_at_call 75
 refine HC.out.mono ?_
 rintro e w1 ⟨rfl, rfl⟩
 go_wp2_with fail
 go_at_call 168
 refine (HNm.out _).mono ?_
 rintro e w3 ⟨rfl, hb3⟩
 have HBX := Kept.mk (HB0.out.below hb3)
 clear hb3
 have HB2 := HBX
 have x0 := cell_of_row _ _ 0 _ _ _ HB2.out.r
 have x1 := cell_of_row _ _ 1 _ _ _ HB2.out.r
 have x2 := cell_of_row _ _ 2 _ _ _ HB2.out.r
 have x3 := cell_of_row _ _ 3 _ _ _ HB2.out.r
 have x4 := cell_of_row _ _ 4 _ _ _ HB2.out.r
 have x5 := cell_of_row _ _ 5 _ _ _ HB2.out.r
 have f3 := frozen_of_row _ _ 3 _ _ HB2.out.r
 have f4 := frozen_of_row _ _ 4 _ _ HB2.out.r
 have f5 := frozen_of_row _ _ 5 _ _ HB2.out.r
 simp at x0 x1 x2 x3 x4 x5
 by_cases hN0 : N.size = 0
 · have hn := empty_of hN0
   have HE : Kept (R = .error 90) := ⟨by rw [HM.out, hn]; rfl⟩
   have HBo : Kept (Below b w (w3.setCell ⟨w.heap.size, 3, none⟩ (.string N))) := ⟨((HB2.out.put 3 _).bl).mono (Nat.le_of_lt hblt)⟩
   clear hN0
   subst hn
   go_wp2_with fail
   go_ret
   exact .no _ 90 HE.out rfl HBo
 · have hne := not_empty (s := N) (by omega)
   have hneq : (N.toList != ([] : List UInt8)) = true := by unfold bne; rw [hne]; rfl
   have HNt : Kept (toL N ≠ []) := ⟨fun e => by have := toL_length N; rw [e] at this; exact hN0 this.symm⟩
   clear hN0
   have HB3 := Kept.mk (HB2.out.put 3 (.string N))
   by_cases hY0 : Y.size = 0
   · have hy := empty_of hY0
     have HE : Kept (R = .ok (add acc (.mk 1 q [] (toL N) [] []))) := ⟨by rw [HM.out, hy, bracesX_end HNt.out]; rfl⟩
     clear hY0
     subst hy
     have HAd := addPart_any w (w3.setCell ⟨w.heap.size, 3, none⟩ (.string N)) b dep acc pv tv 1 q [] (toL N) [] [] none 0 0 HS HB3.out.bl (by decide) (LV.empty _ _) hw _ ⟨rfl⟩
     rw [bs_toL] at HAd
     have HAd := Kept.mk HAd
     go_wp2_with fail
     go_at_call 164
     refine HAd.out.mono ?_
     rintro e w4 ⟨rfl, pv2, tv2, HS2, HF2⟩
     clear HAd
     go_wp2_with fail
     go_ret
     exact .ok _ _ pv2 tv2 HE.out HS2 HF2
   · have hye := not_empty (s := Y) (by omega)
     have hyne : (Y.toList != ([] : List UInt8)) = true := by unfold bne; rw [hye]; rfl
     have HYt : Kept (toL Y ≠ []) := ⟨fun e => by have := toL_length Y; rw [e] at this; exact hY0 this.symm⟩
     clear hY0
     have HK3 : Kept (Kit (w3.setCell ⟨w.heap.size, 3, none⟩ (.string N))) := ⟨HK.out.below HB3.out.bl⟩
     cases ho : opL (toL Y) with
     | none =>
       have HE : Kept (R = .error 90) := ⟨by rw [HM.out, bracesX_none HNt.out HYt.out ho]; rfl⟩
       have HO : Kept (opS (toL Y) = ⟨#[]⟩) := ⟨opS_none ho⟩
       have HBo : Kept (Below b w ((w3.setCell ⟨w.heap.size, 3, none⟩ (.string N)).setCell ⟨w.heap.size, 4, none⟩ (.string ⟨#[]⟩))) := ⟨((HB3.out.put 4 _).bl).mono (Nat.le_of_lt hblt)⟩
       clear ho
       go_wp2_with fail
       go_at_call 169
       refine (leadingOp_any Y (w3.setCell ⟨w.heap.size, 3, none⟩ (.string N)) HK3.out).mono ?_
       rw [HO.out]
       rintro e w4 ⟨rfl, rfl⟩
       go_wp2_with fail
       go_ret
       exact .no _ 90 HE.out rfl HBo
     | some o =>
       have HO : Kept (opS (toL Y) = bs o) := ⟨opS_some ho⟩
       obtain ⟨ol1, ol2, ol3, ol4, _⟩ := opL_le ho
       have hoe := not_empty (s := bs o) (by rw [bs_size]; omega)
       rw [toL_length] at ol3
       obtain ⟨Z, hZ⟩ : ∃ Z, Z = Y.extract o.length Y.size := ⟨_, rfl⟩
       have hslZ : ∀ W : World, (Instr.slice 9 (.string Y) (some (.int .i64 ((bs o).size : Int))) none none).run Tryz.prog W = .ok (.string Z) W := fun W => by rw [hZ, bs_size]; exact str_from ol3 (by have := HNs.out; omega) W
       have hZl : toL Z = (toL Y).drop o.length := by rw [hZ]; exact toL_rest Y o.length
       have hZs : Z.size ≤ 1500000 := by rw [hZ, size_rest]; have := HNs.out; omega
       have HMo := Kept.mk (bracesX_op (w := parts d) (q := q) HNt.out HYt.out ho)
       rw [← hZl] at HMo
       have HZ := Kept.mk hZl
       clear hZ hZl ol3 ho
       have HAs : ∀ (W : World) (t : Bool), t = decide (o = [61] ∨ o = [58, 61]) → Kept (Calls Tryz.prog 170 #[.string (bs o)] W fun e w' => e = .returned (.bool t) ∧ w' = W) := fun W t ht => ⟨assigns_any o W t ht⟩
       have HAs := Kept.mk HAs
       have HB4 := Kept.mk (HB3.out.put 4 (.string (bs o)))
       have HOL : Kept (1 ≤ o.length ∧ o.length ≤ 2) := ⟨ol1, ol2⟩
       clear ol1 ol2 ol4
       generalize hxo : bs o = xo at *
       have HXo := Kept.mk hxo
       clear hxo
       go_wp2_with fail
       go_at_call 169
       refine (leadingOp_any Y (w3.setCell ⟨w.heap.size, 3, none⟩ (.string N)) HK3.out).mono ?_
       rw [HO.out]
       rintro e w4 ⟨rfl, rfl⟩
       clear HK3
       have HB5a : Kept (BoxM w ((w3.setCell ⟨w.heap.size, 3, none⟩ (.string N)).setCell ⟨w.heap.size, 4, none⟩ (.string xo)) #[.int .i64 1, .bool q, .string ⟨#[]⟩, .string N, .string xo, .slice none 0 0]) := ⟨HB4.out⟩
       clear HB4 HB2 HBX HB0 HNm HC
       go_wp2_with fail
       by_cases hAg : o = [61] ∨ o = [58, 61]
       · go_at_call 170
         refine (HAs.out _ true (by rw [decide_eq_true hAg])).out.mono ?_
         rintro e w4 ⟨rfl, rfl⟩
         obtain ⟨vm, hvm⟩ : ∃ vm, vm = nameL (toL N) := ⟨_, rfl⟩
         have hvle : vm ≤ N.size := by rw [hvm, ← toL_length]; exact nameL_le _
         obtain ⟨V, hV⟩ : ∃ V, V = N.extract 0 vm := ⟨_, rfl⟩
         have hVs : V.size = vm := by rw [hV]; exact size_to N vm hvle
         have HLv := leadingV_any N ((w3.setCell ⟨w.heap.size, 3, none⟩ (.string N)).setCell ⟨w.heap.size, 4, none⟩ (.string xo)) (by have := HNs.out; omega) vm hvm
         rw [← hV] at HLv
         have HLv := Kept.mk HLv
         clear HAs
         by_cases hv0 : vm = 0
         · have HE : Kept (R = .error 90) := ⟨by rw [HM.out, HMo.out, if_pos ⟨hAg, by rw [← hvm]; exact hv0⟩]; rfl⟩
           have hVe := empty_of (s := V) (by omega)
           clear hV hVs hvm hvle hv0 hAg
           subst hVe
           go_wp2_with fail
           go_at_call 171
           refine HLv.out.mono ?_
           rintro e w5 ⟨rfl, hb5⟩
           have HB5 : Kept (Below b w w5) := ⟨(HB5a.out.below hb5).bl.mono (Nat.le_of_lt hblt)⟩
           clear hb5
           go_wp2_with fail
           go_ret
           exact .no _ 90 HE.out rfl HB5
         · have HIf : Kept (¬ ((o = [61] ∨ o = [58, 61]) ∧ nameL (toL N) = 0)) := ⟨fun h => hv0 (by rw [hvm]; exact h.2)⟩
           have hVe := not_empty (s := V) (by omega)
           clear hV hVs hvm hvle hv0 hAg
           go_wp2_with fail
           go_at_call 171
           refine HLv.out.mono ?_
           rintro e w5 ⟨rfl, hb5⟩
           have HB5 : Kept (BoxM w w5 #[.int .i64 1, .bool q, .string ⟨#[]⟩, .string N, .string xo, .slice none 0 0]) := ⟨HB5a.out.below hb5⟩
           clear hb5 x0 x1 x2 x3 x4 x5 f3 f4 f5 HB3 HB5a HLv
           go_wp2_with fail
           have hwr : IntKind.i64.wrap (dep + 1) = dep + 1 := IntWalk.i64_in _ (by omega)
           have hd2 : 0 ≤ dep + 1 := by omega
           have y4 := cell_of_row _ _ 4 _ _ _ HB5.out.r
           simp at y4
           have f5 := frozen_of_row _ _ 5 _ _ HB5.out.r
           have y4d : w5.drew.cell? ⟨w.heap.size, 4, none⟩ = some (.string xo) := y4
           have hcd : w5.cell? ⟨b, 0, none⟩ = some (.int .i64 dep) := (World.cell?_of_block (w := w) (a := ⟨b, 0, none⟩) (HB5.out.bl.block b hblt)).trans HC0.out
           have hcdd : w5.drew.cell? ⟨b, 0, none⟩ = some (.int .i64 dep) := hcd
           have HKd : Kept (Kit w5.drew) := ⟨HK.out.below HB5.out.bl.drew⟩
           have HB5d : Kept (BoxM w w5.drew #[.int .i64 1, .bool q, .string ⟨#[]⟩, .string N, .string xo, .slice none 0 0]) := ⟨⟨HB5.out.r, HB5.out.bl.drew⟩⟩
           cases hp : parts d (toL Z) with
           | error c =>
             have HE : Kept (R = .error c) := ⟨by rw [HM.out, HMo.out, if_neg HIf.out, hp]; rfl⟩
             have HP := Kept.mk hp
             clear hp
             go_region_law (first
               | (go_simp; go_at_call 118
                  refine (HPa.out.no Z q _ c HP hZs HKd.out).mono ?_
                  rintro e w6 ⟨rfl, hc0, hb6⟩
                  have hc1 := neq_zero hc0
                  have HB6 : Kept (Below b w w6) := ⟨(HB5d.out.below hb6).bl.mono (Nat.le_of_lt hblt)⟩
                  clear hb6)
               | go_simp)
             all_goals
               go_wp2_with fail
               go_ret
               exact .no _ c HE.out hc0 HB6
           | ok l =>
             have HP := Kept.mk hp
             have hwl := parts_wt d _ _ hp
             rw [toL_length] at hwl
             have hql := wt_qf q l
             have hln := wt_len (qf q l)
             have HLn : Kept ((qf q l).length ≤ 3000000) := ⟨by omega⟩
             have HC2 : Kept (any2 (qf q l) = cmds l) := ⟨by rw [any2_qf, (parts_inn d hp).cmds]⟩
             have HMl : Kept (R = (if cmds l then .error 90 else .ok (.mk 1 q [] (toL N) o (qf q l)) : Except Int Pt).map (add acc)) := ⟨by rw [HM.out, HMo.out, if_neg HIf.out, hp]⟩
             clear hp hwl hql hln
             go_region_law (first
               | (go_simp; go_at_call 118
                  refine (HPa.out.ok Z q _ l HP hZs HKd.out).mono ?_
                  rintro e w6 ⟨A, kc, rfl, hlv, hb6⟩
                  have HB6 : Kept (BoxM w w6 #[.int .i64 1, .bool q, .string ⟨#[]⟩, .string N, .string xo, .slice none 0 0]) := ⟨HB5d.out.below hb6⟩
                  have HL6 : Kept (LV (Nw (w.heap.size + 1)) w6 (.slice A (qf q l).length kc) (qf q l)) := ⟨hlv.out.nw HB5d.out.lt⟩
                  clear hlv hb6)
               | go_simp)
             all_goals
               generalize hn : (qf q l).length = n at *
               have HNn := Kept.mk hn
               clear hn
               cases hcm : cmds l with
               | true =>
                 have HE : Kept (R = .error 90) := ⟨by rw [HMl.out, hcm, if_pos rfl]; rfl⟩
                 have HT : Kept (true = any2 (qf q l)) := ⟨by rw [HC2.out, hcm]⟩
                 have HHc := Kept.mk (hasCommand_any _ (qf q l) A n kc w6 true HL6.out (by have := HLn.out; have := HNn.out; omega) HT.out)
                 clear hcm
                 go_wp2_with fail
                 go_at_call 172
                 refine HHc.out.mono ?_
                 rintro e w7 ⟨rfl, hb7⟩
                 have HB7 : Kept (Below b w w7) := ⟨(HB6.out.below hb7).bl.mono (Nat.le_of_lt hblt)⟩
                 clear hb7
                 go_wp2_with fail
                 go_ret
                 exact .no _ 90 HE.out rfl HB7
               | false =>
                 have HE : Kept (R = .ok (add acc (.mk 1 q [] (toL N) o (qf q l)))) := ⟨by rw [HMl.out, hcm, if_neg (by simp)]; rfl⟩
                 have HT : Kept (false = any2 (qf q l)) := ⟨by rw [HC2.out, hcm]⟩
                 have HHc := Kept.mk (hasCommand_any _ (qf q l) A n kc w6 false HL6.out (by have := HLn.out; have := HNn.out; omega) HT.out)
                 clear hcm
                 go_wp2_with fail
                 go_at_call 172
                 refine HHc.out.mono ?_
                 rintro e w7 ⟨rfl, hb7⟩
                 have HB7 : Kept (BoxM w w7 #[.int .i64 1, .bool q, .string ⟨#[]⟩, .string N, .string xo, .slice none 0 0]) := ⟨HB6.out.below hb7⟩
                 have HL7 : Kept (LV (Nw (w.heap.size + 1)) w7 (.slice A n kc) (qf q l)) := ⟨HL6.out.keep hb7⟩
                 clear hb7 y4 y4d hcd hcdd f5
                 have x0 := cell_of_row _ _ 0 _ _ _ HB7.out.r
                 have x1 := cell_of_row _ _ 1 _ _ _ HB7.out.r
                 have x2 := cell_of_row _ _ 2 _ _ _ HB7.out.r
                 have x3 := cell_of_row _ _ 3 _ _ _ HB7.out.r
                 have x4 := cell_of_row _ _ 4 _ _ _ HB7.out.r
                 have x5 := cell_of_row _ _ 5 _ _ _ HB7.out.r
                 have f5 := frozen_of_row _ _ 5 _ _ HB7.out.r
                 simp at x0 x1 x2 x3 x4 x5
                 have HL8 : Kept (LV (Nw w.heap.size) (w7.setCell ⟨w.heap.size, 5, none⟩ (.slice A n kc)) (.slice A n kc) (qf q l)) := ⟨HL7.out.same (fun g hg _ => by have hg : w.heap.size + 1 ≤ g := hg; exact ⟨by show w.heap.size ≤ g; omega, Below.heap_setCell _ _ _ g (by show g ≠ w.heap.size; omega)⟩) (by simp [World.setCell])⟩
                 have HAd := addPart_any w (w7.setCell ⟨w.heap.size, 5, none⟩ (.slice A n kc)) b dep acc pv tv 1 q [] (toL N) o (qf q l) A n kc HS (HB7.out.put 5 _).bl (by decide) HL8.out hw _ ⟨rfl⟩
                 rw [bs_toL, HXo.out] at HAd
                 have HAd := Kept.mk HAd
                 go_wp2_with fail
                 go_at_call 164
                 refine HAd.out.mono ?_
                 rintro e w8 ⟨rfl, pv2, tv2, HS2, HF2⟩
                 clear HAd
                 go_wp2_with fail
                 go_ret
                 exact .ok _ _ pv2 tv2 HE.out HS2 HF2
       · have HIf : Kept (¬ ((o = [61] ∨ o = [58, 61]) ∧ nameL (toL N) = 0)) := ⟨fun h => hAg h.1⟩
         go_at_call 170
         refine (HAs.out _ false (by rw [decide_eq_false hAg])).out.mono ?_
         rintro e w4 ⟨rfl, rfl⟩
         clear hAg HAs
         go_wp2_with fail
         clear x0 x1 x2 x3 x4 x5 f3 f4 f5 HB3
         have HB5 := HB5a
         clear HB5a
         generalize (w3.setCell ⟨w.heap.size, 3, none⟩ (.string N)).setCell ⟨w.heap.size, 4, none⟩ (.string xo) = w5 at *
         have hwr : IntKind.i64.wrap (dep + 1) = dep + 1 := IntWalk.i64_in _ (by omega)
         have hd2 : 0 ≤ dep + 1 := by omega
         have y4 := cell_of_row _ _ 4 _ _ _ HB5.out.r
         simp at y4
         have f5 := frozen_of_row _ _ 5 _ _ HB5.out.r
         have y4d : w5.drew.cell? ⟨w.heap.size, 4, none⟩ = some (.string xo) := y4
         have hcd : w5.cell? ⟨b, 0, none⟩ = some (.int .i64 dep) := (World.cell?_of_block (w := w) (a := ⟨b, 0, none⟩) (HB5.out.bl.block b hblt)).trans HC0.out
         have hcdd : w5.drew.cell? ⟨b, 0, none⟩ = some (.int .i64 dep) := hcd
         have HKd : Kept (Kit w5.drew) := ⟨HK.out.below HB5.out.bl.drew⟩
         have HB5d : Kept (BoxM w w5.drew #[.int .i64 1, .bool q, .string ⟨#[]⟩, .string N, .string xo, .slice none 0 0]) := ⟨⟨HB5.out.r, HB5.out.bl.drew⟩⟩
         cases hp : parts d (toL Z) with
         | error c =>
           have HE : Kept (R = .error c) := ⟨by rw [HM.out, HMo.out, if_neg HIf.out, hp]; rfl⟩
           have HP := Kept.mk hp
           clear hp
           go_region_law (first
             | (go_simp; go_at_call 118
                refine (HPa.out.no Z q _ c HP hZs HKd.out).mono ?_
                rintro e w6 ⟨rfl, hc0, hb6⟩
                have hc1 := neq_zero hc0
                have HB6 : Kept (Below b w w6) := ⟨(HB5d.out.below hb6).bl.mono (Nat.le_of_lt hblt)⟩
                clear hb6)
             | go_simp)
           all_goals
             go_wp2_with fail
             go_ret
             exact .no _ c HE.out hc0 HB6
         | ok l =>
           have HP := Kept.mk hp
           have hwl := parts_wt d _ _ hp
           rw [toL_length] at hwl
           have hql := wt_qf q l
           have hln := wt_len (qf q l)
           have HLn : Kept ((qf q l).length ≤ 3000000) := ⟨by omega⟩
           have HC2 : Kept (any2 (qf q l) = cmds l) := ⟨by rw [any2_qf, (parts_inn d hp).cmds]⟩
           have HMl : Kept (R = (if cmds l then .error 90 else .ok (.mk 1 q [] (toL N) o (qf q l)) : Except Int Pt).map (add acc)) := ⟨by rw [HM.out, HMo.out, if_neg HIf.out, hp]⟩
           clear hp hwl hql hln
           go_region_law (first
             | (go_simp; go_at_call 118
                refine (HPa.out.ok Z q _ l HP hZs HKd.out).mono ?_
                rintro e w6 ⟨A, kc, rfl, hlv, hb6⟩
                have HB6 : Kept (BoxM w w6 #[.int .i64 1, .bool q, .string ⟨#[]⟩, .string N, .string xo, .slice none 0 0]) := ⟨HB5d.out.below hb6⟩
                have HL6 : Kept (LV (Nw (w.heap.size + 1)) w6 (.slice A (qf q l).length kc) (qf q l)) := ⟨hlv.out.nw HB5d.out.lt⟩
                clear hlv hb6)
             | go_simp)
           all_goals
             generalize hn : (qf q l).length = n at *
             have HNn := Kept.mk hn
             clear hn
             cases hcm : cmds l with
             | true =>
               have HE : Kept (R = .error 90) := ⟨by rw [HMl.out, hcm, if_pos rfl]; rfl⟩
               have HT : Kept (true = any2 (qf q l)) := ⟨by rw [HC2.out, hcm]⟩
               have HHc := Kept.mk (hasCommand_any _ (qf q l) A n kc w6 true HL6.out (by have := HLn.out; have := HNn.out; omega) HT.out)
               clear hcm
               go_wp2_with fail
               go_at_call 172
               refine HHc.out.mono ?_
               rintro e w7 ⟨rfl, hb7⟩
               have HB7 : Kept (Below b w w7) := ⟨(HB6.out.below hb7).bl.mono (Nat.le_of_lt hblt)⟩
               clear hb7
               go_wp2_with fail
               go_ret
               exact .no _ 90 HE.out rfl HB7
             | false =>
               have HE : Kept (R = .ok (add acc (.mk 1 q [] (toL N) o (qf q l)))) := ⟨by rw [HMl.out, hcm, if_neg (by simp)]; rfl⟩
               have HT : Kept (false = any2 (qf q l)) := ⟨by rw [HC2.out, hcm]⟩
               have HHc := Kept.mk (hasCommand_any _ (qf q l) A n kc w6 false HL6.out (by have := HLn.out; have := HNn.out; omega) HT.out)
               clear hcm
               go_wp2_with fail
               go_at_call 172
               refine HHc.out.mono ?_
               rintro e w7 ⟨rfl, hb7⟩
               have HB7 : Kept (BoxM w w7 #[.int .i64 1, .bool q, .string ⟨#[]⟩, .string N, .string xo, .slice none 0 0]) := ⟨HB6.out.below hb7⟩
               have HL7 : Kept (LV (Nw (w.heap.size + 1)) w7 (.slice A n kc) (qf q l)) := ⟨HL6.out.keep hb7⟩
               clear hb7 y4 y4d hcd hcdd f5
               have x0 := cell_of_row _ _ 0 _ _ _ HB7.out.r
               have x1 := cell_of_row _ _ 1 _ _ _ HB7.out.r
               have x2 := cell_of_row _ _ 2 _ _ _ HB7.out.r
               have x3 := cell_of_row _ _ 3 _ _ _ HB7.out.r
               have x4 := cell_of_row _ _ 4 _ _ _ HB7.out.r
               have x5 := cell_of_row _ _ 5 _ _ _ HB7.out.r
               have f5 := frozen_of_row _ _ 5 _ _ HB7.out.r
               simp at x0 x1 x2 x3 x4 x5
               have HL8 : Kept (LV (Nw w.heap.size) (w7.setCell ⟨w.heap.size, 5, none⟩ (.slice A n kc)) (.slice A n kc) (qf q l)) := ⟨HL7.out.same (fun g hg _ => by have hg : w.heap.size + 1 ≤ g := hg; exact ⟨by show w.heap.size ≤ g; omega, Below.heap_setCell _ _ _ g (by show g ≠ w.heap.size; omega)⟩) (by simp [World.setCell])⟩
               have HAd := addPart_any w (w7.setCell ⟨w.heap.size, 5, none⟩ (.slice A n kc)) b dep acc pv tv 1 q [] (toL N) o (qf q l) A n kc HS (HB7.out.put 5 _).bl (by decide) HL8.out hw _ ⟨rfl⟩
               rw [bs_toL, HXo.out] at HAd
               have HAd := Kept.mk HAd
               go_wp2_with fail
               go_at_call 164
               refine HAd.out.mono ?_
               rintro e w8 ⟨rfl, pv2, tv2, HS2, HF2⟩
               clear HAd
               go_wp2_with fail
               go_ret
               exact .ok _ _ pv2 tv2 HE.out HS2 HF2
end Wx
end
end Go.Proofs.YtlggpefmojacoaaGreatDoor
