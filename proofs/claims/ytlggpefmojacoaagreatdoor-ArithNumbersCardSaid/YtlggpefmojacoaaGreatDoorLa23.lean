/-
  Parts of the proof, merged.
-/
import Derived.Test.YtlggpefmojacoaaGreatDoorLa22
namespace Go.Proofs.YtlggpefmojacoaaGreatDoor
section
open Go.RowKit Tx
namespace Ar
theorem exprF_no {cd ex : P} {ts : List Tok} (h : ¬ (isNm (textT ts) = true ∧ assigns (textT ts.tail) = true)) : exprF cd ex ts = cd ts := by
 match ts, h with
 | [], _ => rfl
 | [x], _ => rfl
 | x :: o :: r, h =>
   show (if isNm x = true ∧ assigns o = true then (match ex r with | .error c => (Except.error c : R) | .ok (e, r') => .ok (.asg x o e, r')) else cd (x :: o :: r)) = _
   exact if_neg h
theorem second {w : World} {g d : Nat} {ts : List Tok} (h : PM w g d ts) : ∃ s : ByteArray, w.cell? ⟨g, 1, none⟩ = some (.string s) ∧ s.size ≤ 1000000 ∧ cutT (toL s) = textT ts.tail := by
 obtain ⟨x, hx, hl, hr⟩ := h.row
 exact ⟨bs (cutR x), cell_of_row w g 1 _ _ _ hr, by rw [bs_size]; exact Nat.le_trans (cutR_le x) hl, by rw [toL_bs, ← hx, ← tail_toks, text_toks]⟩
set_option maxRecDepth 100000 in
theorem expression_deep (w : World) (g : Nat) (ts : List Tok) (h : PM w g 31 ts) (r : R) (hr : r = .error 2) :
   Calls Tryz.prog 43 #[.pointer (some ⟨g, 0, none⟩)] w (RE w g 31 r) := by
 have H := Kept.mk h
 subst hr
 clear h
 go_enter Tryz.func43, Tryz.ntmps43
 go_wp2_with (go_at_call 60; refine (depth_any _ g 31 ts H.out false rfl).mono ?_; rintro e w1 ⟨rfl, rfl⟩)
 first | exact ⟨rfl, rfl, ⟨Only.refl _ _⟩⟩ | exact ⟨rfl, ⟨Only.refl _ _⟩⟩
set_option maxHeartbeats 8000000 in
set_option maxRecDepth 100000 in
theorem expression_any (w : World) (g d : Nat) (ts : List Tok) (h : PM w g d ts) (hd : d ≤ 30) (cd ex : P) (HC : Kept (RdC 63 g d cd)) (HE : Kept (RdC 43 g (d + 1) ex)) :
   Calls Tryz.prog 43 #[.pointer (some ⟨g, 0, none⟩)] w (RE w g d (exprF cd ex ts)) := by
 have H := Kept.mk h
 have HD := Kept.mk hd
 have HDt : Kept (true = decide (d ≤ 30)) := ⟨(decide_eq_true hd).symm⟩
 have HGl := Kept.mk h.lt
 have c0 := h.c0
 obtain ⟨tk, htk⟩ : ∃ tk, tk = bs (textT ts) := ⟨_, rfl⟩
 have HTk : Kept (toL tk = textT ts) := ⟨by rw [htk, toL_bs]⟩
 rw [← htk] at c0
 obtain ⟨s, c1, hs, hcs⟩ := second h
 have HS := Kept.mk hs
 have HCs := Kept.mk hcs
 obtain ⟨R0, hR⟩ : ∃ R0, R0 = exprF cd ex ts := ⟨_, rfl⟩
 have HR := Kept.mk hR
 rw [← hR]
 have HT2 : Kept (toL (bs (cutT (toL s))) = textT ts.tail) := ⟨by rw [toL_bs, hcs]⟩
 generalize bs (cutT (toL s)) = t2 at HT2
 have HCut : Kept (∀ W, Calls Tryz.prog 50 #[.string s] W fun e w' => (∃ y, e = .returned (.tuple #[.string (bs (textT ts.tail)), .string y])) ∧ Below W.heap.size W w') := ⟨fun W => (cut_any s W HS.out).mono fun e w' h => ⟨⟨bs (cutR (toL s)), by rw [h.1, HCs.out]⟩, h.2⟩⟩
 clear h hd hR htk hs hcs
 cases hn : isNm (textT ts) with
 | false =>
   have HN := Kept.mk hn
   have HRr : Kept (R0 = cd ts) := ⟨by rw [HR.out]; exact exprF_no fun e => by rw [hn] at e; cases e.1⟩
   clear hn HR
   go_enter Tryz.func43, Tryz.ntmps43
   go_wp2_with (first
     | (go_at_call 60; refine (depth_any _ g d _ H.out true HDt.out).mono ?_; rintro e w1 ⟨rfl, rfl⟩)
     | (go_at_call 50; refine (HCut.out _).mono ?_; rintro e w1 ⟨⟨y, rfl⟩, hb⟩; have HB := Kept.mk hb; have H1 := Kept.mk (H.out.below hb); have d0 : w1.cell? ⟨g, 0, none⟩ = some (.string tk) := (World.cell?_of_block (w := w) (a := ⟨g, 0, none⟩) (hb.block g H.out.lt)).trans c0; clear hb)
     | (go_at_call 61; refine (isName_tok tk _).mono ?_; rintro e w2 ⟨rfl, rfl⟩; rw [HTk.out, HN.out]))
   go_at_call 63
   refine (HC.out _ ts H1.out).mono ?_
   intro e w2 hE
   cases hcu : cd ts with
   | error c =>
     rw [hcu] at hE HRr
     obtain ⟨rfl, ho⟩ := hE
     rw [HRr.out]
     first | exact ⟨rfl, rfl, ⟨only_below HB.out ho.out⟩⟩ | exact ⟨rfl, ⟨only_below HB.out ho.out⟩⟩
   | ok z =>
     obtain ⟨x, us⟩ := z
     rw [hcu] at hE HRr
     obtain ⟨u, rfl, hu, hp, ho⟩ := hE
     obtain ⟨b, hub, _, _⟩ := hu.out.ptr
     subst hub
     have HU := Kept.mk (hu.out.more HB.out.size)
     clear hu hcu
     go_wp2_with fail
     go_ret
     rw [HRr.out]
     exact ⟨_, rfl, HU, hp, ⟨only_below HB.out ho.out⟩⟩
 | true =>
   have HN := Kept.mk hn
   cases ha : assigns (textT ts.tail) with
   | false =>
     have HA := Kept.mk ha
     have HRr : Kept (R0 = cd ts) := ⟨by rw [HR.out]; exact exprF_no fun e => by rw [ha] at e; cases e.2⟩
     have HTb : Kept (toL (bs (textT ts.tail)) = textT ts.tail) := ⟨toL_bs _⟩
     clear hn ha HR
     go_enter Tryz.func43, Tryz.ntmps43
     go_wp2_with (first
       | (go_at_call 60; refine (depth_any _ g d _ H.out true HDt.out).mono ?_; rintro e w1 ⟨rfl, rfl⟩)
       | (go_at_call 50; refine (HCut.out _).mono ?_; rintro e w1 ⟨⟨y, rfl⟩, hb⟩; have HB := Kept.mk hb; have H1 := Kept.mk (H.out.below hb); have d0 : w1.cell? ⟨g, 0, none⟩ = some (.string tk) := (World.cell?_of_block (w := w) (a := ⟨g, 0, none⟩) (hb.block g H.out.lt)).trans c0; clear hb)
       | (go_at_call 61; refine (isName_tok tk _).mono ?_; rintro e w2 ⟨rfl, rfl⟩; rw [HTk.out, HN.out])
       | (go_at_call 62; refine (assigns_any _ _).mono ?_; rintro e w2 ⟨rfl, rfl⟩; rw [HTb.out, HA.out]))
     go_at_call 63
     refine (HC.out _ ts H1.out).mono ?_
     intro e w2 hE
     cases hcu : cd ts with
     | error c =>
       rw [hcu] at hE HRr
       obtain ⟨rfl, ho⟩ := hE
       rw [HRr.out]
       first | exact ⟨rfl, rfl, ⟨only_below HB.out ho.out⟩⟩ | exact ⟨rfl, ⟨only_below HB.out ho.out⟩⟩
     | ok z =>
       obtain ⟨x, us⟩ := z
       rw [hcu] at hE HRr
       obtain ⟨u, rfl, hu, hp, ho⟩ := hE
       obtain ⟨b, hub, _, _⟩ := hu.out.ptr
       subst hub
       have HU := Kept.mk (hu.out.more HB.out.size)
       clear hu hcu
       go_wp2_with fail
       go_ret
       rw [HRr.out]
       exact ⟨_, rfl, HU, hp, ⟨only_below HB.out ho.out⟩⟩
   | true =>
     have HA := Kept.mk ha
     match ts, H, HTk, HCut, HR, HN, HA, hn, ha with
     | [], _, _, _, _, _, _, hn, _ => cases hn
     | [x], _, _, _, _, _, _, _, ha => cases ha
     | x :: o :: r, H, HTk, HCut, HR, HN, HA, hn, ha =>
       have HRr : Kept (R0 = match ex r with | .error c => .error c | .ok (e, r') => .ok (.asg x o e, r')) := ⟨by
         rw [HR.out]
         show (if isNm x = true ∧ assigns o = true then (match ex r with | .error c => (Except.error c : R) | .ok (e, r') => .ok (.asg x o e, r')) else cd (x :: o :: r)) = _
         rw [if_pos (show isNm x = true ∧ assigns o = true from ⟨hn, ha⟩)]⟩
       have HA2 : Kept (assigns o = true) := ⟨ha⟩
       have T1 : Kept True := ⟨trivial⟩
       clear hn ha HR
       go_enter Tryz.func43, Tryz.ntmps43
       go_wp2_with (first
         | (go_at_call 60; refine (depth_any _ g d _ H.out true HDt.out).mono ?_; rintro e w1 ⟨rfl, rfl⟩)
         | (go_at_call 50; refine (HCut.out _).mono ?_; rintro e w1 ⟨⟨y, rfl⟩, hb⟩; have HB := Kept.mk hb; have H1 := Kept.mk (H.out.below hb); have d0 : w1.cell? ⟨g, 0, none⟩ = some (.string tk) := (World.cell?_of_block (w := w) (a := ⟨g, 0, none⟩) (hb.block g H.out.lt)).trans c0; clear hb)
         | (go_at_call 61; refine (isName_tok tk _).mono ?_; rintro e w2 ⟨rfl, rfl⟩; rw [HTk.out, HN.out])
         | (go_at_call 62; refine (assigns_any _ _).mono ?_; rintro e w2 ⟨rfl, rfl⟩; (first | rw [toL_bs, HA2.out] | rw [toL_bs, HA.out] | rw [toL_bs, show assigns (textT (o :: r)) = true from HA2.out]))
         | (have := T1; go_at_call 64; refine (take_any _ g d _ H1.out).mono ?_; rintro e w3 ⟨rfl, hp1, ho1⟩; have HP3 := hp1; have HO3 := Kept.mk (only_below HB.out ho1.out); clear hp1 ho1 T1)
         | (go_at_call 64; refine (take_any _ g d _ HP3.out).mono ?_; rintro e w4 ⟨rfl, hp1, ho1⟩; have HP4 := hp1; have HO4 := Kept.mk (only_two HO3.out ho1.out); clear hp1 ho1))
       go_at_call 65
       refine (deeper_expression w4 g d r HP4.out HD.out ex HE).mono ?_
       intro e w5 hE
       cases hcu : ex r with
       | error c =>
         rw [hcu] at hE HRr
         obtain ⟨rfl, ho⟩ := hE
         rw [HRr.out]
         first | exact ⟨rfl, rfl, ⟨only_two HO4.out ho.out⟩⟩ | exact ⟨rfl, ⟨only_two HO4.out ho.out⟩⟩
       | ok z =>
         obtain ⟨y, us⟩ := z
         rw [hcu] at hE HRr
         obtain ⟨u, rfl, hu, hp, ho⟩ := hE
         obtain ⟨b, hub, _, _⟩ := hu.out.ptr
         subst hub
         have HU := hu
         have HP5 := hp
         have HO5 := Kept.mk (only_two HO4.out ho.out)
         have HS := Kept.mk ho.out.size
         clear hu hp ho hcu
         go_wp2_with fail
         go_ret
         rw [HRr.out]
         have hs := HO4.out.size
         have hs5 := HO5.out.size
         have hB := (Below.refl w5.heap.size w5).alloc (Nat.le_refl _) (.cells #[.int .i64 2, .int .i64 0, .string (bs x), .string (bs o), .pointer (some ⟨b, 0, none⟩), .pointer none, .pointer none] 74)
         exact ⟨_, rfl, ⟨⟨w5.heap.size, _, rfl, node_new hs5, heap_alloc_new w5 _, (HU.out.more hs).below hB⟩⟩, ⟨HP5.out.below hB⟩, ⟨only_on HO5.out hB⟩⟩
structure AllC (g d : Nat) (p : Ps) : Prop where
 ex : RdC 43 g d p.ex
 cd : RdC 63 g d p.cd
 op : RdC 106 g d p.op
set_option maxHeartbeats 2000000 in
set_option maxRecDepth 100000 in
theorem cond_deep (g : Nat) (HO : Kept (RdC 106 g 31 (ps 0).op)) : RdC 63 g 31 (ps 0).cd := by
 intro w ts h
 have H := Kept.mk h
 have hL : ∀ j, lev (ps 0).op j ts = .error 2 := by
   intro j
   induction j with
   | zero => rfl
   | succ j ih => rw [lev, ih]
 have HLv := Kept.mk (level_all g 31 _ (ps_suf 0).op HO 10 (by omega))
 have HR := Kept.mk (hL 10)
 clear h hL
 show Calls _ _ _ _ (RE w g 31 (.error 2))
 go_enter Tryz.func63, Tryz.ntmps63
 go_wp2_with fail
 go_at_call 84
 refine (HLv.out w ts H.out).mono ?_
 intro e w1 hE
 rw [HR.out] at hE
 obtain ⟨rfl, ho⟩ := hE
 first | exact ⟨rfl, rfl, ho⟩ | exact ⟨rfl, ho⟩
theorem all_any (g : Nat) : ∀ n d : Nat, d + n = 31 → AllC g d (ps n)
 | 0, d, hd => by
   obtain rfl : d = 31 := by omega
   have ho : RdC 106 g 31 (ps 0).op := fun W us hp => operand_deep W g us hp _ rfl
   exact ⟨fun W us hp => expression_deep W g us hp _ rfl, cond_deep g ⟨ho⟩, ho⟩
 | n + 1, d, hd => by
   have I := all_any g n (d + 1) (by omega)
   have ho : RdC 106 g d (ps (n + 1)).op := fun W us hp => operand_any W g d us hp (by omega) _ _ ⟨I.ex⟩ ⟨I.op⟩
   have hl := level_all g d _ (ps_suf (n + 1)).op ⟨ho⟩ 10 (by omega)
   have hc : RdC 63 g d (ps (n + 1)).cd := fun W us hp => conditional_any W g d us hp (by omega) _ _ _ ⟨hl⟩ ⟨I.ex⟩ ⟨I.cd⟩
   exact ⟨fun W us hp => expression_any W g d us hp (by omega) _ _ ⟨hc⟩ ⟨I.ex⟩, hc, ho⟩
def WE (w : World) (g : Nat) (r : Except Int Ex) (e : Ending) (w' : World) : Prop :=
 match r with
 | .ok x => ∃ u, e = .returned u ∧ Kept (ET (Nw w.heap.size) w' x u) ∧ Kept (Only (· = g) w w')
 | .error c => e = .panicked (pan c) ∧ Kept (Only (· = g) w w')
set_option maxHeartbeats 2000000 in
set_option maxRecDepth 100000 in
theorem whole_any (w : World) (g : Nat) (ts : List Tok) (h : PM w g 1 ts) : Calls Tryz.prog 31 #[.pointer (some ⟨g, 0, none⟩)] w (WE w g (whole ts)) := by
 have H := Kept.mk h
 have HX := Kept.mk ((all_any g 30 1 rfl).ex w ts h)
 clear h
 obtain ⟨R0, hR⟩ : ∃ R0, R0 = whole ts := ⟨_, rfl⟩
 have HR := Kept.mk hR
 rw [← hR]
 clear hR
 go_enter Tryz.func31, Tryz.ntmps31
 go_wp2_with fail
 go_at_call 43
 refine HX.out.mono ?_
 intro e w1 hE
 cases hcu : (ps 30).ex ts with
 | error c =>
   have HRr : Kept (R0 = .error c) := ⟨by rw [HR.out]; unfold whole; rw [hcu]⟩
   rw [hcu] at hE
   obtain ⟨rfl, ho⟩ := hE
   rw [HRr.out]
   first | exact ⟨rfl, rfl, ho⟩ | exact ⟨rfl, ho⟩
 | ok z =>
   obtain ⟨x, us⟩ := z
   have HCu := Kept.mk hcu
   rw [hcu] at hE
   obtain ⟨u, rfl, hu, hp, ho⟩ := hE
   obtain ⟨b, hub, _, _⟩ := hu.out.ptr
   subst hub
   have HU := hu
   have HP := hp
   have HO := ho
   clear hu hp ho hcu HX
   cases us with
   | nil =>
     have HRr : Kept (R0 = .ok x) := ⟨by rw [HR.out]; exact whole_ok.2 HCu.out⟩
     go_wp2_with (first
       | (go_at_call 29; refine (ended_any _ g 1 _ HP.out true rfl).mono ?_; rintro e w2 ⟨rfl, rfl⟩)
       | (go_at_call 44; refine (check_any _ true 130).mono ?_; rintro e w2 ⟨rfl, rfl⟩))
     go_ret
     rw [HRr.out]
     exact ⟨_, rfl, HU, HO⟩
   | cons t r =>
     have HRr : Kept (R0 = .error 130) := ⟨by rw [HR.out]; unfold whole; rw [HCu.out]⟩
     go_wp2_with (first
       | (go_at_call 29; refine (ended_any _ g 1 _ HP.out false rfl).mono ?_; rintro e w2 ⟨rfl, rfl⟩)
       | (go_at_call 44; refine (check_any _ false 130).mono ?_; rintro e w2 ⟨rfl, rfl⟩))
     rw [HRr.out]
     first | exact ⟨rfl, rfl, HO⟩ | exact ⟨rfl, HO⟩
end Ar
end
end Go.Proofs.YtlggpefmojacoaaGreatDoor
