/-
  Parts of the proof, merged.
-/
import Derived.Deep.LoopGhost
import Derived.Test.YtlggpefmojacoaaGreatDoorLa03
import Derived.Test.YtlggpefmojacoaaGreatDoorLa21
namespace Go.Proofs.YtlggpefmojacoaaGreatDoor
section
open Go.RowKit Tx
namespace Ar
theorem cutT_le (x : List UInt8) : (cutT x).length ≤ x.length := by
 have h := trim_le x
 unfold cutT
 rw [List.length_take]
 omega
theorem PM.small {w : World} {g d : Nat} {ts : List Tok} (h : PM w g d ts) : (bs (textT ts)).size ≤ 1000000 := by
 obtain ⟨x, hx, hl, _⟩ := h.row
 rw [← hx, text_toks, bs_size]
 exact Nat.le_trans (cutT_le x) hl
theorem node_new {n : Nat} {w : World} (h : n ≤ w.heap.size) : Nw n w.heap.size := h
set_option maxRecDepth 100000 in
theorem operand_deep (w : World) (g : Nat) (ts : List Tok) (h : PM w g 31 ts) (r : R) (hr : r = .error 2) :
   Calls Tryz.prog 106 #[.pointer (some ⟨g, 0, none⟩)] w (RE w g 31 r) := by
 have H := Kept.mk h
 subst hr
 clear h
 go_enter Tryz.func106, Tryz.ntmps106
 go_wp2_with (go_at_call 60; refine (depth_any _ g 31 ts H.out false rfl).mono ?_; rintro e w1 ⟨rfl, rfl⟩)
 first | exact ⟨rfl, rfl, ⟨Only.refl _ _⟩⟩ | exact ⟨rfl, ⟨Only.refl _ _⟩⟩
set_option maxHeartbeats 8000000 in
set_option maxRecDepth 100000 in
theorem operand_any (w : World) (g d : Nat) (ts : List Tok) (h : PM w g d ts) (hd : d ≤ 30) (ex op : P) (HE : Kept (RdC 43 g (d + 1) ex)) (HO : Kept (RdC 106 g (d + 1) op)) :
   Calls Tryz.prog 106 #[.pointer (some ⟨g, 0, none⟩)] w (RE w g d (operF ex op ts)) := by
 have H := Kept.mk h
 have HD := Kept.mk hd
 have HDt : Kept (true = decide (d ≤ 30)) := ⟨(decide_eq_true hd).symm⟩
 obtain ⟨tk, htk⟩ : ∃ tk, tk = bs (textT ts) := ⟨_, rfl⟩
 have HTk : Kept (toL tk = textT ts) := ⟨by rw [htk, toL_bs]⟩
 have HBs := Kept.mk htk.symm
 have HSm : Kept (tk.size ≤ 281474976710656) := ⟨by have := h.small; rw [← htk] at this; omega⟩
 have c0 := h.c0
 rw [← htk] at c0
 have hq : (tk.toList == [40]) = decide (textT ts = [40]) := by
   rw [tl, HTk.out]
   by_cases e : textT ts = [40]
   · rw [e]; rfl
   · rw [decide_eq_false e, beq_eq_false_iff_ne]; exact e
 have HGl := Kept.mk h.lt
 obtain ⟨R0, hR⟩ : ∃ R0, R0 = operF ex op ts := ⟨_, rfl⟩
 rw [← hR]
 have HR := Kept.mk hR
 clear h hd htk hR
 cases hp : isPre (textT ts) with
 | true =>
   have HP := Kept.mk hp
   cases ts with
   | nil => cases hp
   | cons t r =>
     have HRr : Kept (R0 = match op r with | .error c => .error c | .ok (e, r') => .ok (.pre t e, r')) := ⟨by rw [HR.out, operF, if_pos (show isPre t = true from hp)]; cases op r <;> rfl⟩
     clear hp HR hq
     go_enter Tryz.func106, Tryz.ntmps106
     go_wp2_with (first
       | (go_at_call 60; refine (depth_any _ g d _ H.out true HDt.out).mono ?_; rintro e w1 ⟨rfl, rfl⟩)
       | (go_at_call 124; refine (prefix_any tk _).mono ?_; rintro e w1 ⟨rfl, rfl⟩; rw [HTk.out, HP.out])
       | (go_at_call 64; refine (take_any _ g d _ H.out).mono ?_; rintro e w1 ⟨rfl, hp1, ho1⟩; have HP1 := hp1; have HO1 := ho1; clear hp1 ho1))
     go_at_call 65
     refine (deeper_operand w1 g d r HP1.out HD.out op HO).mono ?_
     intro e w2 hE
     cases hcu : op r with
     | error e2 =>
       rw [hcu] at hE HRr
       obtain ⟨rfl, ho⟩ := hE
       rw [HRr.out]
       first | exact ⟨rfl, rfl, ⟨only_two HO1.out ho.out⟩⟩ | exact ⟨rfl, ⟨only_two HO1.out ho.out⟩⟩
     | ok z =>
       obtain ⟨x, us⟩ := z
       rw [hcu] at hE HRr
       obtain ⟨u, rfl, hu, hp2, ho2⟩ := hE
       obtain ⟨b, hub, _, _⟩ := hu.out.ptr
       subst hub
       have HU := hu
       have HP2 := hp2
       have HO2 := ho2
       clear hu hp2 ho2 hcu
       go_wp2_with fail
       go_ret
       rw [HRr.out]
       have hs1 := HO1.out.size
       have hs2 := HO2.out.size
       have hB := (Below.refl w2.heap.size w2).alloc (Nat.le_refl _) (.cells #[.int .i64 3, .int .i64 0, .string ⟨#[]⟩, .string (bs t), .pointer (some ⟨b, 0, none⟩), .pointer none, .pointer none] 74)
       exact ⟨_, rfl, ⟨⟨w2.heap.size, _, rfl, node_new (by omega), heap_alloc_new w2 _, (HU.out.more hs1).below hB⟩⟩, ⟨HP2.out.below hB⟩, ⟨only_on (only_two HO1.out HO2.out) hB⟩⟩
 | false =>
   have HP := Kept.mk hp
   by_cases h40 : textT ts = [40]
   · rw [decide_eq_true h40] at hq
     cases ts with
     | nil => cases h40
     | cons t r =>
       have HRr : Kept (R0 = match ex r with | .error c => .error c | .ok (e, [41] :: r') => .ok (e, r') | .ok _ => .error 130) := ⟨by rw [HR.out, operF, if_neg (show ¬ isPre t = true by rw [show isPre t = false from hp]; decide), if_pos (show t = [40] from h40)]; cases ex r <;> rfl⟩
       clear hp HR
       go_enter Tryz.func106, Tryz.ntmps106
       go_wp2_with (first
         | (go_at_call 60; refine (depth_any _ g d _ H.out true HDt.out).mono ?_; rintro e w1 ⟨rfl, rfl⟩)
         | (go_at_call 124; refine (prefix_any tk _).mono ?_; rintro e w1 ⟨rfl, rfl⟩; rw [HTk.out, HP.out])
         | (go_at_call 37; refine (skip_any _ g d _ H.out).mono ?_; rintro e w1 ⟨rfl, hp1, ho1⟩; have HP1 := hp1; have HO1 := ho1; clear hp1 ho1))
       go_at_call 65
       refine (deeper_expression w1 g d r HP1.out HD.out ex HE).mono ?_
       intro e w2 hE
       cases hcu : ex r with
       | error e2 =>
         rw [hcu] at hE HRr
         obtain ⟨rfl, ho⟩ := hE
         rw [HRr.out]
         first | exact ⟨rfl, rfl, ⟨only_two HO1.out ho.out⟩⟩ | exact ⟨rfl, ⟨only_two HO1.out ho.out⟩⟩
       | ok z =>
         obtain ⟨x, us⟩ := z
         rw [hcu] at hE HRr
         obtain ⟨u, rfl, hu, hp2, ho2⟩ := hE
         obtain ⟨b, hub, _, _⟩ := hu.out.ptr
         subst hub
         have HU := hu
         have HP2 := hp2
         have HO2 := ho2
         have hs1 := HO1.out.size
         have hs2 := HO2.out.size
         clear hu hp2 ho2 hcu
         by_cases hcl : textT us = [41]
         · cases us with
           | nil => cases hcl
           | cons c q =>
             obtain rfl : c = [41] := hcl
             have HX := HP2
             go_wp2_with (go_at_call 85; refine (expect_yes _ g d ⟨#[41]⟩ q HX.out).mono ?_; rintro e w3 ⟨rfl, hp3, ho3⟩; have HP3 := hp3; have HO3 := ho3; clear hp3 ho3)
             go_ret
             rw [HRr.out]
             exact ⟨_, rfl, ⟨(HU.out.more hs1).only HO3.out HGl.out⟩, HP3, ⟨only_two (only_two HO1.out HO2.out) HO3.out⟩⟩
         · have HRe : Kept (R0 = .error 130) := ⟨by
             rw [HRr.out]
             cases us with
             | nil => rfl
             | cons c q =>
               have hc : c ≠ [41] := hcl
               split
               · rename_i h; cases h
               · rename_i h; cases h; exact absurd rfl hc
               · rfl⟩
           have HCl := Kept.mk hcl
           clear hcl
           go_wp2_with (go_at_call 85; refine (expect_no _ g d ⟨#[41]⟩ us HP2.out HCl.out).mono ?_; rintro e w3 ⟨rfl, rfl⟩)
           rw [HRe.out]
           first | exact ⟨rfl, rfl, ⟨only_two HO1.out HO2.out⟩⟩ | exact ⟨rfl, ⟨only_two HO1.out HO2.out⟩⟩
   · rw [decide_eq_false h40] at hq
     have H40 := Kept.mk h40
     cases hn : isNm (textT ts) with
     | true =>
       have HN := Kept.mk hn
       cases ts with
       | nil => cases hn
       | cons t r =>
         have HRr : Kept (R0 = .ok (.var t, r)) := ⟨by rw [HR.out, operF, if_neg (show ¬ isPre t = true by rw [show isPre t = false from hp]; decide), if_neg (show ¬ t = [40] from h40), if_pos (show isNm t = true from hn)]⟩
         clear hp HR hn h40
         go_enter Tryz.func106, Tryz.ntmps106
         go_wp2_with (first
           | (go_at_call 60; refine (depth_any _ g d _ H.out true HDt.out).mono ?_; rintro e w1 ⟨rfl, rfl⟩)
           | (go_at_call 124; refine (prefix_any tk _).mono ?_; rintro e w1 ⟨rfl, rfl⟩; rw [HTk.out, HP.out])
           | (go_at_call 61; refine (isName_tok tk _).mono ?_; rintro e w1 ⟨rfl, rfl⟩; rw [HTk.out, HN.out])
           | (go_at_call 64; refine (take_any _ g d _ H.out).mono ?_; rintro e w1 ⟨rfl, hp1, ho1⟩; have HP1 := hp1; have HO1 := ho1; clear hp1 ho1))
         go_ret
         rw [HRr.out]
         have hs1 := HO1.out.size
         have hB := (Below.refl w1.heap.size w1).alloc (Nat.le_refl _) (.cells #[.int .i64 1, .int .i64 0, .string (bs t), .string ⟨#[]⟩, .pointer none, .pointer none, .pointer none] 74)
         exact ⟨_, rfl, ⟨⟨w1.heap.size, rfl, node_new hs1, heap_alloc_new w1 _⟩⟩, ⟨HP1.out.below hB⟩, ⟨only_on HO1.out hB⟩⟩
     | false =>
       have HN := Kept.mk hn
       have HRr : Kept (R0 = match litV (textT ts) with | some n => .ok (.lit n, ts.tail) | none => .error 130) := ⟨by
         rw [HR.out]
         cases ts with
         | nil => rfl
         | cons t r =>
           rw [operF, if_neg (show ¬ isPre t = true by rw [show isPre t = false from hp]; decide), if_neg (show ¬ t = [40] from h40), if_neg (show ¬ isNm t = true by rw [show isNm t = false from hn]; decide)]
           rfl⟩
       have HLt : Kept (∀ W, KT W → Calls Tryz.prog 76 #[.string tk] W fun e w' => LitE (litV (textT ts)) e ∧ Below W.heap.size W w') := ⟨fun W hW => by have := lit_any tk HSm.out W hW; rwa [HTk.out] at this⟩
       have HKt := Kept.mk H.out.kt
       clear hp HR hn h40
       cases ho : litV (textT ts) with
       | some n =>
         rw [ho] at HLt HRr
         clear ho
         go_enter Tryz.func106, Tryz.ntmps106
         go_wp2_with (first
           | (go_at_call 60; refine (depth_any _ g d _ H.out true HDt.out).mono ?_; rintro e w1 ⟨rfl, rfl⟩)
           | (go_at_call 124; refine (prefix_any tk _).mono ?_; rintro e w1 ⟨rfl, rfl⟩; rw [HTk.out, HP.out])
           | (go_at_call 61; refine (isName_tok tk _).mono ?_; rintro e w1 ⟨rfl, rfl⟩; rw [HTk.out, HN.out])
           | (go_at_call 76; refine (HLt.out _ HKt.out).mono ?_; rintro e w1 ⟨he, hb⟩; have HB := Kept.mk hb; obtain rfl := he; clear hb)
           | (go_at_call 44; refine (check_any _ true 130).mono ?_; rintro e w2 ⟨rfl, rfl⟩)
           | (go_at_call 37; refine (skip_any _ g d _ (H.out.below HB.out)).mono ?_; rintro e w3 ⟨rfl, hp1, ho1⟩; have HP1 := hp1; have HO1 := Kept.mk (only_below HB.out ho1.out); clear hp1 ho1))
         go_ret
         rw [HRr.out]
         have hs1 := HO1.out.size
         have hB := (Below.refl w3.heap.size w3).alloc (Nat.le_refl _) (.cells #[.int .i64 0, .int .i64 (n : Int), .string ⟨#[]⟩, .string ⟨#[]⟩, .pointer none, .pointer none, .pointer none] 74)
         exact ⟨_, rfl, ⟨⟨w3.heap.size, rfl, node_new hs1, heap_alloc_new w3 _⟩⟩, ⟨HP1.out.below hB⟩, ⟨only_on HO1.out hB⟩⟩
       | none =>
         rw [ho] at HLt HRr
         clear ho
         go_enter Tryz.func106, Tryz.ntmps106
         go_wp2_with (first
           | (go_at_call 60; refine (depth_any _ g d _ H.out true HDt.out).mono ?_; rintro e w1 ⟨rfl, rfl⟩)
           | (go_at_call 124; refine (prefix_any tk _).mono ?_; rintro e w1 ⟨rfl, rfl⟩; rw [HTk.out, HP.out])
           | (go_at_call 61; refine (isName_tok tk _).mono ?_; rintro e w1 ⟨rfl, rfl⟩; rw [HTk.out, HN.out])
           | (go_at_call 76; refine (HLt.out _ HKt.out).mono ?_; rintro e w1 ⟨he, hb⟩; have HB := Kept.mk hb; obtain rfl := he; clear hb)
           | (go_at_call 44; refine (check_any _ false 130).mono ?_; rintro e w2 ⟨rfl, rfl⟩))
         rw [HRr.out]
         first | exact ⟨rfl, rfl, ⟨(Only.refl _ _).below HB.out⟩⟩ | exact ⟨rfl, ⟨(Only.refl _ _).below HB.out⟩⟩
end Ar
end
section
open Go.RowKit Tx
namespace Ar
def LvC (g d : Nat) (k : Int) (c : P) : Prop := ∀ W us, PM W g d us → Calls Tryz.prog 84 #[.pointer (some ⟨g, 0, none⟩), .int .i64 k] W (RE W g d (c us))
set_option maxHeartbeats 2000000 in
set_option maxRecDepth 100000 in
theorem level_top (g d : Nat) (op : P) (HO : Kept (RdC 106 g d op)) : LvC g d 11 op := by
 intro w ts h
 have H := Kept.mk h
 obtain ⟨R0, hR⟩ : ∃ R0, R0 = op ts := ⟨_, rfl⟩
 have HC := Kept.mk (HO.out w ts h)
 rw [← hR] at HC ⊢
 clear h hR
 go_enter Tryz.func84, Tryz.ntmps84
 go_wp2_with fail
 go_at_call 106
 refine HC.out.mono ?_
 intro e w2 hE
 cases R0 with
 | error c =>
   obtain ⟨rfl, ho⟩ := hE
   first | exact ⟨rfl, rfl, ho⟩ | exact ⟨rfl, ho⟩
 | ok z =>
   obtain ⟨x, us⟩ := z
   obtain ⟨u, rfl, hu, hp2, ho2⟩ := hE
   obtain ⟨b, hub, _, _⟩ := hu.out.ptr
   subst hub
   have HU := hu
   clear hu
   go_wp2_with fail
   go_ret
   exact ⟨_, rfl, HU, hp2, ho2⟩
set_option maxHeartbeats 8000000 in
set_option maxRecDepth 100000 in
theorem level_next (g d k : Nat) (c : P) (hk1 : 1 ≤ k) (hk : k ≤ 10) (hs : ∀ ts e r, c ts = .ok (e, r) → r <:+ ts) (HC : Kept (LvC g d ((k : Int) + 1) c)) :
   LvC g d (k : Int) (fun ts => match c ts with | .error e => .error e | .ok (e, r) => lp c k r.length e r) := by
 intro w ts h
 have H := Kept.mk h
 have HSf := Kept.mk hs
 have HGl := Kept.mk h.lt
 have hk11 : ((k : Int) == 11) = false := beq_eq_false_iff_ne.2 (by omega)
 have hwk : IntKind.i64.wrap ((k : Int) + 1) = (k : Int) + 1 := IntWalk.i64_in _ (by omega)
 have HK1 := Kept.mk hk1
 obtain ⟨R0, hR⟩ : ∃ R0 : R, R0 = match c ts with | .error e => .error e | .ok (e, r) => lp c k r.length e r := ⟨_, rfl⟩
 have HR := Kept.mk hR
 show Calls _ _ _ _ (RE w g d (match c ts with | .error e => .error e | .ok (e, r) => lp c k r.length e r))
 rw [← hR]
 clear h hs hR hk1
 go_enter Tryz.func84, Tryz.ntmps84
 go_wp2_with fail
 go_at_call 84
 refine (HC.out w ts H.out).mono ?_
 intro e w2 hE
 cases hcu : c ts with
 | error c2 =>
   rw [hcu] at hE HR
   obtain ⟨rfl, ho⟩ := hE
   rw [HR.out]
   first | exact ⟨rfl, rfl, ho⟩ | exact ⟨rfl, ho⟩
 | ok z =>
   obtain ⟨x0, us0⟩ := z
   rw [hcu] at hE HR
   obtain ⟨u0, rfl, hu0, hp0, ho0⟩ := hE
   clear hcu
   obtain ⟨b0, hub, _, _⟩ := hu0.out.ptr
   subst hub
   have HU0 := hu0
   have HP0 := hp0
   have HO0 := ho0
   clear hu0 hp0 ho0
   go_wp2_with fail
   go_loopg [5] us0.length (fun m eV wr => ∃ x us b, us.length ≤ m ∧ eV = .pointer (some ⟨b, 0, none⟩) ∧ Kept (ET (Nw w.heap.size) wr x (.pointer (some ⟨b, 0, none⟩))) ∧ Kept (PM wr g d us) ∧ Kept (Only (· = g) w wr) ∧ ∃ q, Kept (us.length ≤ q) ∧ Kept (R0 = lp c k q x us))
   case atStart => exact ⟨x0, us0, b0, Nat.le_refl _, rfl, HU0, HP0, HO0, us0.length, ⟨Nat.le_refl _⟩, HR⟩
   case round =>
     obtain ⟨x, us, b, hm, rfl, HU, HP, HOn, q, HQ, HL⟩ := hrel
     have HM := Kept.mk hm
     have c0 := HP.out.c0
     obtain ⟨tk, htk⟩ : ∃ tk, tk = bs (textT us) := ⟨_, rfl⟩
     have HTk : Kept (toL tk = textT us) := ⟨by rw [htk, toL_bs]⟩
     rw [← htk] at c0
     clear htk hm
     by_cases hl : levelOf (textT us) = k
     · cases us with
       | nil => exact absurd hl (by have := HK1.out; show ¬ (0 : Nat) = k; omega)
       | cons t r =>
         obtain ⟨q, rfl⟩ : ∃ p, q = p + 1 := ⟨q - 1, by have := HQ.out; simp only [List.length_cons] at this; omega⟩
         have HRr : Kept (R0 = match c r with | .error c => .error c | .ok (b, r') => lp c k q (.bin t x b) r') := ⟨by rw [HL.out, lp, if_pos (show levelOf t = k from hl)]; cases c r <;> rfl⟩
         have hz : ((k : Int) == (k : Int)) = true := beq_self_eq_true _
         have HLv : Kept (((levelOf (toL tk) : Nat) : Int) = (k : Int)) := ⟨by rw [HTk.out, hl]⟩
         clear hl HL HR
         go_wp2_with (first
           | (go_at_call 107; refine (levelOf_any tk _).mono ?_; rintro e w1 ⟨rfl, rfl⟩; rw [HLv.out])
           | (go_at_call 64; refine (take_any _ g d _ HP.out).mono ?_; rintro e w1 ⟨rfl, hp1, ho1⟩; have HP1 := hp1; have HO1 := ho1; clear hp1 ho1))
         go_at_call 84
         refine (HC.out w1 r HP1.out).mono ?_
         intro e w3 hE
         cases hcu : c r with
         | error c2 =>
           rw [hcu] at hE HRr
           obtain ⟨rfl, ho⟩ := hE
           rw [HRr.out]
           first | exact ⟨rfl, rfl, ⟨only_two HOn.out (only_two HO1.out ho.out)⟩⟩ | exact ⟨rfl, ⟨only_two HOn.out (only_two HO1.out ho.out)⟩⟩
         | ok z =>
           obtain ⟨y, r'⟩ := z
           rw [hcu] at hE HRr
           have HLe : Kept (r'.length ≤ r.length) := ⟨(HSf.out _ _ _ hcu).length_le⟩
           obtain ⟨u, rfl, hu, hp3, ho3⟩ := hE
           obtain ⟨b2, hub, _, _⟩ := hu.out.ptr
           subst hub
           have HU3 := hu
           have HP3 := hp3
           have HO3 := ho3
           clear hu hp3 ho3 hcu
           go_wp2_with fail
           have hs1 := HOn.out.size
           have hs2 := HO1.out.size
           have hs3 := HO3.out.size
           have hB := (Below.refl w3.heap.size w3).alloc (Nat.le_refl _) (.cells #[.int .i64 4, .int .i64 0, .string ⟨#[]⟩, .string (bs t), .pointer (some ⟨b, 0, none⟩), .pointer (some ⟨b2, 0, none⟩), .pointer none] 74)
           go_roundg r'.length
           case measure => have := HM.out; have := HLe.out; simp only [List.length_cons] at *; omega
           case rel => exact ⟨.bin t x y, r', w3.heap.size, Nat.le_refl _, rfl, ⟨⟨w3.heap.size, _, _, rfl, node_new (by omega), heap_alloc_new w3 _, ((HU.out.only HO1.out HGl.out).only HO3.out HGl.out).below hB, (HU3.out.more (by omega)).below hB⟩⟩, ⟨HP3.out.below hB⟩, ⟨only_on (only_two HOn.out (only_two HO1.out HO3.out)) hB⟩, q, ⟨by have := HLe.out; have := HQ.out; simp only [List.length_cons] at *; omega⟩, HRr⟩
     · have HRr : Kept (R0 = .ok (x, us)) := ⟨by rw [HL.out]; exact lp_stop _ _ _ _ fun t r e => by subst e; exact hl⟩
       have hz : (((levelOf (toL tk) : Nat) : Int) == (k : Int)) = false := beq_eq_false_iff_ne.2 (by rw [HTk.out]; omega)
       clear HL HR hl
       go_wp2_with (go_at_call 107; refine (levelOf_any tk _).mono ?_; rintro e w1 ⟨rfl, rfl⟩)
       go_ret
       rw [HRr.out]
       exact ⟨_, rfl, HU, HP, HOn⟩
theorem level_all (g d : Nat) (op : P) (hs : ∀ ts e r, op ts = .ok (e, r) → r <:+ ts) (HO : Kept (RdC 106 g d op)) : ∀ j : Nat, j ≤ 10 → LvC g d ((11 : Int) - j) (lev op j)
 | 0, _ => level_top g d op HO
 | j + 1, hj => by
   have h := level_next g d (10 - j) (lev op j) (by omega) (by omega) (lev_suf hs j) ⟨by
     have := level_all g d op hs HO j (by omega)
     rwa [show (((10 - j : Nat) : Int) + 1) = (11 : Int) - j by omega]⟩
   rw [show ((11 : Int) - ((j + 1 : Nat) : Int)) = ((10 - j : Nat) : Int) by omega]
   exact h
end Ar
end
section
open Go.RowKit Tx
namespace Ar
theorem condF_q {op ex cd : P} {ts r : List Tok} {x : Ex} (h : lev op 10 ts = .ok (x, [63] :: r)) : condF op ex cd ts = (match ex r with
         | .error e => .error e
         | .ok (a, [58] :: r') => (match cd r' with | .error e => .error e | .ok (b, r2) => .ok (.cho x a b, r2))
         | .ok _ => .error 130) := by
 unfold condF
 rw [h]
 rfl
def Bt (n m : Nat) (b : Nat) : Prop := n ≤ b ∧ b < m
theorem ET.cap {n : Nat} {w : World} {e : Ex} {v : Value} (h : ET (Nw n) w e v) : ET (Bt n w.heap.size) w e v := h.same fun _ hp hl => ⟨⟨hp, hl⟩, rfl⟩
theorem ET.bt {n m : Nat} {w w' : World} {e : Ex} {v : Value} (h : ET (Bt n m) w e v) (hb : ∀ b, n ≤ b → b < m → b < w.heap.size → w'.heap[b]? = w.heap[b]?) : ET (Bt n m) w' e v := h.same fun b hp hl => ⟨hp, hb b hp.1 hp.2 hl⟩
theorem ET.un {n m k : Nat} {w : World} {e : Ex} {v : Value} (h : ET (Bt n m) w e v) (hk : k ≤ n) : ET (Nw k) w e v := h.same fun _ hp _ => ⟨Nat.le_trans hk hp.1, rfl⟩
theorem PM.other {w : World} {g d nb j : Nat} {ts : List Tok} {v : Value} (h : PM w g d ts) (hn : g < nb) : PM (w.setCell ⟨nb, j, none⟩ v) g d ts := by
 obtain ⟨x, h1, h2, hr⟩ := h.row
 obtain ⟨B, hB, hk⟩ := h.kb
 have hb : ∀ k, k ≠ nb → (w.setCell ⟨nb, j, none⟩ v).heap[k]? = w.heap[k]? := fun k hk => Below.heap_setCell _ _ _ _ hk
 exact ⟨⟨x, h1, h2, (hb g (Nat.ne_of_lt hn)).trans hr⟩, ⟨B, hB, hk.below ⟨rfl, rfl, rfl, by simp [World.setCell], fun k hkB => hb k (by omega)⟩⟩, h.deep⟩
set_option maxHeartbeats 8000000 in
set_option maxRecDepth 100000 in
theorem conditional_any (w : World) (g d : Nat) (ts : List Tok) (h : PM w g d ts) (hd : d ≤ 30) (op ex cd : P) (HL : Kept (LvC g d 1 (lev op 10))) (HE : Kept (RdC 43 g (d + 1) ex)) (HC : Kept (RdC 63 g (d + 1) cd)) :
   Calls Tryz.prog 63 #[.pointer (some ⟨g, 0, none⟩)] w (RE w g d (condF op ex cd ts)) := by
 have H := Kept.mk h
 have HD := Kept.mk hd
 have HGl := Kept.mk h.lt
 obtain ⟨R0, hR⟩ : ∃ R0, R0 = condF op ex cd ts := ⟨_, rfl⟩
 have HR := Kept.mk hR
 rw [← hR]
 clear h hd hR
 go_enter Tryz.func63, Tryz.ntmps63
 go_wp2_with fail
 go_at_call 84
 refine (HL.out w ts H.out).mono ?_
 intro e w1 hE
 cases hcu : lev op 10 ts with
 | error c =>
   have HRr : Kept (R0 = .error c) := ⟨by rw [HR.out]; unfold condF; rw [hcu]⟩
   rw [hcu] at hE
   obtain ⟨rfl, ho⟩ := hE
   rw [HRr.out]
   first | exact ⟨rfl, rfl, ho⟩ | exact ⟨rfl, ho⟩
 | ok z =>
   obtain ⟨x, us⟩ := z
   have HCu := Kept.mk hcu
   rw [hcu] at hE
   obtain ⟨u, rfl, hu, hp, ho⟩ := hE
   obtain ⟨b, hub, _, _⟩ := hu.out.ptr
   subst hub
   have HU := hu
   have HP := hp
   have HO := ho
   have c0 := HP.out.c0
   obtain ⟨tk, htk⟩ : ∃ tk, tk = bs (textT us) := ⟨_, rfl⟩
   have hq : (tk.toList == [63]) = decide (textT us = [63]) := by
     rw [tl, htk, toL_bs]
     by_cases e : textT us = [63]
     · rw [e]; rfl
     · rw [decide_eq_false e, beq_eq_false_iff_ne]; exact e
   rw [← htk] at c0
   clear hu hp ho hcu htk
   by_cases hq1 : textT us = [63]
   · rw [decide_eq_true hq1] at hq
     cases us with
     | nil => cases hq1
     | cons t r =>
       obtain rfl : t = [63] := hq1
       have HRr : Kept (R0 = match ex r with
         | .error e => .error e
         | .ok (a, [58] :: r') => (match cd r' with | .error e => .error e | .ok (b, r2) => .ok (.cho x a b, r2))
         | .ok _ => .error 130) := ⟨by rw [HR.out]; exact condF_q HCu.out⟩
       clear HR HCu
       go_wp2_with (go_at_call 37; refine (skip_any _ g d _ HP.out).mono ?_; rintro e w2 ⟨rfl, hp2, ho2⟩; have HP2 := hp2; have HO2 := ho2; clear hp2 ho2)
       have hs1 := HO.out.size
       have hs2 := HO2.out.size
       have hB := (Below.refl w2.heap.size w2).alloc (Nat.le_refl _) (.cells #[.int .i64 5, .int .i64 0, .string ⟨#[]⟩, .string ⟨#[]⟩, .pointer (some ⟨b, 0, none⟩), .pointer none, .pointer none] 74)
       have HN3 : Kept ((w2.alloc (.cells #[.int .i64 5, .int .i64 0, .string ⟨#[]⟩, .string ⟨#[]⟩, .pointer (some ⟨b, 0, none⟩), .pointer none, .pointer none] 74)).heap[w2.heap.size]? = some (.cells #[.int .i64 5, .int .i64 0, .string ⟨#[]⟩, .string ⟨#[]⟩, .pointer (some ⟨b, 0, none⟩), .pointer none, .pointer none] 74 (0, 0))) := ⟨heap_alloc_new w2 _⟩
       have HX3 := Kept.mk (((HU.out.only HO2.out HGl.out).cap).bt (w' := w2.alloc (.cells #[.int .i64 5, .int .i64 0, .string ⟨#[]⟩, .string ⟨#[]⟩, .pointer (some ⟨b, 0, none⟩), .pointer none, .pointer none] 74)) fun k _ _ hl => hB.block k hl)
       have HP3 := Kept.mk (HP2.out.below hB)
       have HO3 : Kept (Only (· = g) w _) := ⟨only_on (only_two HO.out HO2.out) hB⟩
       have HSz : Kept ((w2.alloc (.cells #[.int .i64 5, .int .i64 0, .string ⟨#[]⟩, .string ⟨#[]⟩, .pointer (some ⟨b, 0, none⟩), .pointer none, .pointer none] 74)).heap.size = w2.heap.size + 1) := ⟨by simp⟩
       have HNb : Kept (w.heap.size ≤ w2.heap.size) := ⟨by omega⟩
       obtain ⟨nb, hnb⟩ : ∃ nb, nb = w2.heap.size := ⟨_, rfl⟩
       rw [← hnb] at HN3 HX3 HSz HNb ⊢
       generalize w2.alloc (.cells #[.int .i64 5, .int .i64 0, .string ⟨#[]⟩, .string ⟨#[]⟩, .pointer (some ⟨b, 0, none⟩), .pointer none, .pointer none] 74) = w3 at *
       have HgN : Kept (g < nb) := ⟨Nat.lt_of_lt_of_le HGl.out HNb.out⟩
       clear hB hs1 hs2 hnb HU HP HO HP2 HO2 c0
       go_at_call 65
       refine (deeper_expression w3 g d r HP3.out HD.out ex HE).mono ?_
       intro e w4 hE
       cases hcu : ex r with
       | error c =>
         rw [hcu] at hE HRr
         obtain ⟨rfl, ho⟩ := hE
         rw [HRr.out]
         first | exact ⟨rfl, rfl, ⟨only_two HO3.out ho.out⟩⟩ | exact ⟨rfl, ⟨only_two HO3.out ho.out⟩⟩
       | ok z =>
         obtain ⟨y, us⟩ := z
         rw [hcu] at hE HRr
         obtain ⟨u, rfl, hu, hp, ho⟩ := hE
         obtain ⟨b1, hub, _, _⟩ := hu.out.ptr
         subst hub
         have HN4 := Kept.mk ((ho.out.block nb (Array.getElem?_eq_some_iff.1 HN3.out).1 (Nat.ne_of_gt HgN.out)).trans HN3.out)
         have e4 := cell_of_row w4 nb 5 _ _ _ HN4.out
         have f4 := frozen_of_row w4 nb 5 _ _ HN4.out
         have HX4 := Kept.mk (HX3.out.bt (w' := w4) fun k h1 _ hl => ho.out.block k hl (by have := HGl.out; omega))
         have HY4 := Kept.mk (hu.out.cap)
         have HP4 := hp
         have HO4 : Kept (Only (· = g) w w4) := ⟨only_two HO3.out ho.out⟩
         have HS4 : Kept (w3.heap.size ≤ w4.heap.size) := ⟨ho.out.size⟩
         clear hu hp ho hcu
         have HN5 : Kept ((w4.setCell ⟨nb, 5, none⟩ (.pointer (some ⟨b1, 0, none⟩))).heap[nb]? = some (.cells #[.int .i64 5, .int .i64 0, .string ⟨#[]⟩, .string ⟨#[]⟩, .pointer (some ⟨b, 0, none⟩), .pointer (some ⟨b1, 0, none⟩), .pointer none] 74 (0, 0))) := ⟨by have := heap_setCell_same w4 nb 5 _ _ (.pointer (some ⟨b1, 0, none⟩)) HN4.out; simpa using this⟩
         have HX5 := Kept.mk (HX4.out.bt (w' := w4.setCell ⟨nb, 5, none⟩ (.pointer (some ⟨b1, 0, none⟩))) fun k _ h2 _ => Below.heap_setCell _ _ _ _ (by show k ≠ nb; omega))
         have HY5 := Kept.mk (HY4.out.bt (w' := w4.setCell ⟨nb, 5, none⟩ (.pointer (some ⟨b1, 0, none⟩))) fun k h1 _ _ => Below.heap_setCell _ _ _ _ (by show k ≠ nb; have := HSz.out; omega))
         have HP5 := Kept.mk (HP4.out.other (j := 5) (v := .pointer (some ⟨b1, 0, none⟩)) HgN.out)
         have HO5 : Kept (Only (· = g) w (w4.setCell ⟨nb, 5, none⟩ (.pointer (some ⟨b1, 0, none⟩)))) := ⟨HO4.out.setCell _ _ (fun h => absurd h (by show ¬ nb < w.heap.size; have := HNb.out; omega))⟩
         have HS5 : Kept ((w4.setCell ⟨nb, 5, none⟩ (.pointer (some ⟨b1, 0, none⟩))).heap.size = w4.heap.size) := ⟨by simp [World.setCell]⟩
         by_cases hcl : textT us = [58]
         · cases us with
           | nil => cases hcl
           | cons c q =>
             obtain rfl : c = [58] := hcl
             have HRq : Kept (R0 = match cd q with | .error e => .error e | .ok (b, r2) => .ok (.cho x y b, r2)) := ⟨HRr.out⟩
             clear HRr
             go_wp2_with (have := HP5; go_at_call 85; refine (expect_yes _ g d ⟨#[58]⟩ q HP5.out).mono ?_; rintro e w6 ⟨rfl, hp6, ho6⟩; have HP6 := hp6; have HO6 := ho6; clear hp6 ho6 HP5)
             have HN6 := Kept.mk ((HO6.out.block nb (Array.getElem?_eq_some_iff.1 HN5.out).1 (Nat.ne_of_gt HgN.out)).trans HN5.out)
             have HX6 := Kept.mk (HX5.out.bt (w' := w6) fun k h1 _ hl => HO6.out.block k hl (by have := HGl.out; omega))
             have HY6 := Kept.mk (HY5.out.bt (w' := w6) fun k h1 _ hl => HO6.out.block k hl (by have := HSz.out; have := HgN.out; omega))
             have HO6' : Kept (Only (· = g) w w6) := ⟨only_two HO5.out HO6.out⟩
             have HS6 : Kept (w4.heap.size ≤ w6.heap.size) := ⟨by have := HO6.out.size; have := HS5.out; omega⟩
             clear HN5 HX5 HY5 HO5 HS5 e4 f4
             go_at_call 65
             refine (deeper_conditional w6 g d q HP6.out HD.out cd HC).mono ?_
             intro e w7 hE
             cases hcu : cd q with
             | error c =>
               rw [hcu] at hE HRq
               obtain ⟨rfl, ho⟩ := hE
               rw [HRq.out]
               first | exact ⟨rfl, rfl, ⟨only_two HO6'.out ho.out⟩⟩ | exact ⟨rfl, ⟨only_two HO6'.out ho.out⟩⟩
             | ok z =>
               obtain ⟨v, us⟩ := z
               rw [hcu] at hE HRq
               obtain ⟨u, rfl, hu, hp, ho⟩ := hE
               obtain ⟨b2, hub, _, _⟩ := hu.out.ptr
               subst hub
               have HN7 := Kept.mk ((ho.out.block nb (Array.getElem?_eq_some_iff.1 HN6.out).1 (Nat.ne_of_gt HgN.out)).trans HN6.out)
               have e7 := cell_of_row w7 nb 6 _ _ _ HN7.out
               have f7 := frozen_of_row w7 nb 6 _ _ HN7.out
               have HX7 := Kept.mk (HX6.out.bt (w' := w7) fun k h1 _ hl => ho.out.block k hl (by have := HGl.out; omega))
               have HY7 := Kept.mk (HY6.out.bt (w' := w7) fun k h1 _ hl => ho.out.block k hl (by have := HSz.out; have := HgN.out; omega))
               have HV7 := Kept.mk (hu.out.cap)
               have HP8 := Kept.mk (hp.out.other (j := 6) (v := .pointer (some ⟨b2, 0, none⟩)) HgN.out)
               have HO8 : Kept (Only (· = g) w (w7.setCell ⟨nb, 6, none⟩ (.pointer (some ⟨b2, 0, none⟩)))) := ⟨(only_two HO6'.out ho.out).setCell _ _ (fun h => absurd h (by show ¬ nb < w.heap.size; have := HNb.out; omega))⟩
               have HN8 : Kept ((w7.setCell ⟨nb, 6, none⟩ (.pointer (some ⟨b2, 0, none⟩))).heap[nb]? = some (.cells #[.int .i64 5, .int .i64 0, .string ⟨#[]⟩, .string ⟨#[]⟩, .pointer (some ⟨b, 0, none⟩), .pointer (some ⟨b1, 0, none⟩), .pointer (some ⟨b2, 0, none⟩)] 74 (0, 0))) := ⟨by have := heap_setCell_same w7 nb 6 _ _ (.pointer (some ⟨b2, 0, none⟩)) HN7.out; simpa using this⟩
               have HX8 := Kept.mk (HX7.out.bt (w' := w7.setCell ⟨nb, 6, none⟩ (.pointer (some ⟨b2, 0, none⟩))) fun k _ h2 _ => Below.heap_setCell _ _ _ _ (by show k ≠ nb; omega))
               have HY8 := Kept.mk (HY7.out.bt (w' := w7.setCell ⟨nb, 6, none⟩ (.pointer (some ⟨b2, 0, none⟩))) fun k h1 _ _ => Below.heap_setCell _ _ _ _ (by show k ≠ nb; have := HSz.out; omega))
               have HV8 := Kept.mk (HV7.out.bt (w' := w7.setCell ⟨nb, 6, none⟩ (.pointer (some ⟨b2, 0, none⟩))) fun k h1 _ _ => Below.heap_setCell _ _ _ _ (by show k ≠ nb; have := HSz.out; have := HS4.out; have := HS6.out; omega))
               clear hu hp ho hcu
               go_wp2_with fail
               go_ret
               rw [HRq.out]
               exact ⟨_, rfl, ⟨⟨nb, _, _, _, rfl, HNb.out, HN8.out, HX8.out.un (Nat.le_refl _), HY8.out.un (by have := HSz.out; have := HNb.out; omega), HV8.out.un (by have := HSz.out; have := HNb.out; have := HS4.out; have := HS6.out; omega)⟩⟩, HP8, HO8⟩
         · have HRe : Kept (R0 = .error 130) := ⟨by
             rw [HRr.out]
             cases us with
             | nil => rfl
             | cons c q =>
               have hc : c ≠ [58] := hcl
               split
               · rename_i h; cases h
               · rename_i h; cases h; exact absurd rfl hc
               · rfl⟩
           have HCl := Kept.mk hcl
           clear hcl HRr
           go_wp2_with (have := HP5; go_at_call 85; refine (expect_no _ g d ⟨#[58]⟩ us HP5.out HCl.out).mono ?_; rintro e w6 ⟨rfl, rfl⟩)
           rw [HRe.out]
           first | exact ⟨rfl, rfl, HO5⟩ | exact ⟨rfl, HO5⟩
   · rw [decide_eq_false hq1] at hq
     have HRr : Kept (R0 = .ok (x, us)) := ⟨by
       rw [HR.out]
       unfold condF
       rw [HCu.out]
       cases us with
       | nil => rfl
       | cons t r =>
         have ht : t ≠ [63] := hq1
         split
         · rename_i h; cases h
         · rename_i h; cases h; exact absurd rfl ht
         · rename_i h; cases h; rfl⟩
     clear hq1 HR HCu
     go_wp2_with fail
     go_ret
     rw [HRr.out]
     exact ⟨_, rfl, HU, HP, HO⟩
end Ar
end
section
namespace Ar
abbrev cl : Tok := [41]
def Cl (f : P) : Prop := ∀ ts e r, f ts = .ok (e, r) → f (ts ++ [cl]) = .ok (e, r ++ [cl])
structure ClP (p : Ps) : Prop where
 ex : Cl p.ex
 cd : Cl p.cd
 op : Cl p.op
def nb (s : List UInt8) : Nat := (s.filter fun c => !wordB c).length
theorem whole_ok {ts : List Tok} {e : Ex} : whole ts = .ok e ↔ (ps 30).ex ts = .ok (e, []) := by
 unfold whole
 constructor
 · intro h
   split at h
   · cases h
   · rename_i hb; cases h; exact hb
   · cases h
 · intro h; rw [h]
end Ar
end
end Go.Proofs.YtlggpefmojacoaaGreatDoor
