/-
  Parts of the proof, merged.
-/
import Derived.Test.YtahjonfmhejoeaaGreatDoorVa36
namespace Go.Proofs.YtahjonfmhejoeaaGreatDoor
section
open Go.RowKit Tx
namespace Sy
open Lx (Tok tv tvs tvs_at Qt pan)
open Wx (Pt LV Nw parts)
theorem isName_word {ts : List Tok} (h : GoodL ts) : isName (textT ts) = !decide (wordT ts = false ∨ Wx.nameL (textT ts) ≠ (textT ts).length) := by
 cases ts with
 | nil => rfl
 | cons t r =>
   have ht := h t (by simp)
   show isName t.text = !decide ((t.kind == 0) = false ∨ Wx.nameL t.text ≠ t.text.length)
   rcases ht.k with k | k | k
   · have hne := (ht.word k).2.2
     have hk : (t.kind == 0) = true := by rw [k]; rfl
     rw [hk]
     unfold isName
     by_cases e : Wx.nameL t.text = t.text.length
     · have : 0 < t.text.length := List.length_pos_iff.2 hne
       simp [e, this]
     · simp [e]
   · have ho := ht.op k
     rw [k]
     revert ho
     generalize t.text = x
     intro ho
     unfold Lx.opers at ho
     simp only [List.mem_cons, List.not_mem_nil, or_false] at ho
     rcases ho with rfl | rfl | rfl | rfl | rfl | rfl | rfl | rfl | rfl | rfl | rfl <;> decide
   · rw [k, ht.line k]; decide
theorem BS.set {w0 w : World} {g d nb : Nat} {cs : Array Value} {us : List Tok} (h : BS w0 w g d nb cs us) (o : Obj) (off : Nat) (v : Value) : BS w0 ((w.alloc o).setCell ⟨nb, off, none⟩ v) g d nb (cs.setIfInBounds off v) us := by
 obtain ⟨old, hr, h8⟩ := h.res
 have h1 := h.nr
 have h2 := h.gn
 have hlt := (Array.getElem?_eq_some_iff.1 h.row).1
 have hrow : (w.alloc o).heap[nb]? = some (.cells cs 31 (0, 0)) := (Below.heap_alloc w _ nb hlt).trans h.row
 refine ⟨by have := heap_setCell_same _ nb off _ _ v hrow; simpa using this, ⟨old, (Below.heap_setCell _ _ _ _ (by show w0.heap.size ≠ nb; omega)).trans ((Below.heap_alloc w _ _ (Array.getElem?_eq_some_iff.1 hr).1).trans hr), h8⟩, (h.pm.below ((Below.refl _ _).alloc (Nat.le_refl _) _)).low (fun i hi _ => Below.heap_setCell _ _ _ i (by show i ≠ nb; omega)) (by simp [World.setCell]), ?_, h2, h1⟩
 exact (h.only.alloc _).setCell _ _ (fun hlt => by have : nb < w0.heap.size := hlt; omega)
theorem gr_text {w : World} {nb off : Nat} {x : List UInt8} {v : Value} (hn : nb < w.heap.size) : Gr (fun b => b = w.heap.size) ((w.alloc (.cells #[.string (bs x)] 9)).setCell ⟨nb, off, none⟩ v) (nb + 1) 9 1 OCw (.slice (some ⟨w.heap.size, 0, none⟩) 1 1) [x] :=
 ⟨⟨[.string (bs x)], ⟨rfl, .inr ⟨w.heap.size, 1, _, rfl, by omega, (Below.heap_setCell _ _ _ _ (by show w.heap.size ≠ nb; omega)).trans (heap_alloc_new w _), Nat.le_refl _, by decide, rfl, rfl⟩⟩, rfl⟩, fun o h => by injection h with h; exact h.symm⟩
theorem past_not {ts : List Tok} (h : (isT 1 [59] ts || isT 2 [10] ts) = false) : past ts = ts := by
 obtain ⟨h1, h2⟩ := Bool.or_eq_false_iff.1 h
 unfold past
 rw [h1, if_neg (by decide)]
 exact lines_not h2
set_option maxHeartbeats 16000000 in
set_option maxRecDepth 100000 in
theorem each_any (w : World) (g d : Nat) (ts : List Tok) (h : PM w g d ts) (ht : isT 0 kFor ts = true) (c : List Tok → R Nd) (HC : Kept (InC g d c)) (R0 : R Nd) (hR0 : R0 = each (list c) ts.tail) :
   Calls Tryz.prog 53 #[.pointer (some ⟨g, 0, none⟩)] w (RE w g d (nodR w) R0) := by
 have H := Kept.mk h
 have HGl := Kept.mk h.lt
 have HT := Kept.mk ht.symm
 have HBo := Kept.mk (body_c g d c HC)
 obtain ⟨us, hus⟩ : ∃ us, us = ts.tail := ⟨_, rfl⟩
 have hin := isName_word h.good.tail
 rw [← hus] at hin hR0
 have HR : Kept (R0 = if isName (textT us) = true then (if isT 0 kIn (lines us.tail) then andThen (wordsF ((lines us.tail).tail.length + 1) [] (lines us.tail).tail) fun ws r => if isT 1 [59] r || isT 2 [10] r then andThen (body (list c) (past r)) fun b r2 => .ok (.mk 8 false (textT us) ws [] [] [kIn] [b], r2) else .error 100 else andThen (body (list c) (past (lines us.tail))) fun b r2 => .ok (.mk 8 false (textT us) [] [] [] [] [b], r2)) else .error 100) := ⟨by
   rw [hR0, hin]
   unfold each
   by_cases hw : wordT us = false ∨ Wx.nameL (textT us) ≠ (textT us).length
   · rw [if_pos hw, decide_eq_true hw]; rfl
   · rw [if_neg hw, decide_eq_false hw]; rfl⟩
 have HUs := Kept.mk hus
 clear h ht hR0 hin hus
 go_enter Tryz.func53, Tryz.ntmps53
 go_wp2_with (first
   | (go_at_call 90; refine (expWord_any _ g d ts ⟨#[102, 111, 114]⟩ (H.out.below ((Below.refl _ _).alloc (Nat.le_refl _) _)) (by decide) true HT.out).mono ?_; rintro e w1 ⟨u9, rfl, hu, hp, ho⟩; have hu : u9 = .tuple #[] := hu.out; subst hu; have HP1 := hp; have HO1 := ho; clear hp ho))
 rw [← HUs.out] at HP1
 go_at_call 99
 refine (name_any _ g d us HP1.out).mono ?_
 intro e w2 hE
 have HA : Kept (Only (· = g) w w1) := ⟨only_alloc HO1.out⟩
 unfold nameR at hE
 cases hnm : isName (textT us) with
 | false =>
   rw [hnm, if_neg (by decide)] at hE
   obtain ⟨rfl, ho⟩ := hE
   obtain rfl : R0 = .error 100 := by rw [HR.out, hnm, if_neg (by decide)]
   first | exact ⟨rfl, rfl, ⟨only_two HA.out ho.out⟩⟩ | exact ⟨rfl, ⟨only_two HA.out ho.out⟩⟩
 | true =>
   rw [hnm, if_pos rfl] at hE
   obtain ⟨u, rfl, hu, hp, ho⟩ := hE
   obtain rfl : u = .string (bs (textT us)) := hu.out
   have HR2 : Kept (R0 = if isT 0 kIn (lines us.tail) then andThen (wordsF ((lines us.tail).tail.length + 1) [] (lines us.tail).tail) fun ws r => if isT 1 [59] r || isT 2 [10] r then andThen (body (list c) (past r)) fun b r2 => .ok (.mk 8 false (textT us) ws [] [] [kIn] [b], r2) else .error 100 else andThen (body (list c) (past (lines us.tail))) fun b r2 => .ok (.mk 8 false (textT us) [] [] [] [] [b], r2)) := ⟨by rw [HR.out, hnm, if_pos rfl]⟩
   have HB := Kept.mk (BS.hold (res_on (only_two HO1.out ho.out) HGl.out rfl) hp.out (only_two HA.out ho.out) HGl.out #[.int .i64 8, .bool false, .string (bs (textT us)), .slice none 0 0, .slice none 0 0, .slice none 0 0, .slice none 0 0, .slice none 0 0])
   clear hu hp ho HR hnm HA HO1 HP1
   go_wp2_with (first
     | (go_at_call 55; refine (skipLines_any _ g d us.tail HB.out.pm).mono ?_; rintro e w4 ⟨rfl, hp, ho⟩; have HB4 := Kept.mk (HB.out.mv ho.out hp.out); clear hp ho))
   generalize hnb : w2.heap.size = nb at *
   clear hnb HB
   obtain ⟨r, hr⟩ : ∃ r, r = lines us.tail := ⟨_, rfl⟩
   rw [← hr] at HB4 HR2
   clear hr
   cases hin : isT 0 kIn r with
   | false =>
     have HI : Kept (false = decide (textT r = toL ⟨#[105, 110]⟩)) := ⟨hin.symm.trans (at_word HB4.out.pm.good (by decide)).symm⟩
     have HRb : Kept (R0 = andThen (body (list c) (past r)) fun b r2 => .ok (.mk 8 false (textT us) [] [] [] [] [b], r2)) := ⟨by rw [HR2.out, hin, if_neg (by decide)]⟩
     clear hin HR2
     go_wp2_with (first
       | (go_at_call 93; refine (at_any _ g d r ⟨#[105, 110]⟩ HB4.out.pm false HI.out).mono ?_; rintro e w5 ⟨rfl, hb⟩; have HB5 := Kept.mk (HB4.out.below hb); clear hb)
       | (go_at_call 58; refine (skipEnd_any _ g d r HB5.out.pm _ rfl).mono ?_; rintro e w6 ⟨rfl, hp, ho⟩; have HB9 := Kept.mk (HB5.out.mv ho.out hp.out); clear hp ho))
     have hpe : (if (isT 1 [59] r || isT 2 [10] r) = true then past r else r) = past r := by
       cases hx : (isT 1 [59] r || isT 2 [10] r) with
       | true => rw [if_pos rfl]
       | false => rw [if_neg (by decide), past_not hx]
     rw [hpe] at HB9
     clear hpe HB5 HB4
     have HGw : Kept (Gr (fun _ => False) w6 (nb + 1) 61 1 WC (.slice none 0 0) []) := ⟨Gr.nil wc_stable _ _ _ _ _⟩
     have HGo : Kept (Gr (fun _ => False) w6 (nb + 1) 9 1 OCw (.slice none 0 0) []) := ⟨Gr.nil oc_stable _ _ _ _ _⟩
     go_at_call 98
     refine (HBo.out w6 (past r) HB9.out.pm).mono ?_
     intro e wb hE
     cases hcu : body (list c) (past r) with
     | error e2 =>
       rw [hcu] at hE
       obtain ⟨rfl, ho⟩ := hE
       obtain rfl : R0 = .error e2 := by rw [HRb.out, hcu]; rfl
       first | exact ⟨rfl, rfl, ⟨only_two HB9.out.only ho.out⟩⟩ | exact ⟨rfl, ⟨only_two HB9.out.only ho.out⟩⟩
     | ok z =>
       obtain ⟨x, xs⟩ := z
       rw [hcu] at hE
       obtain ⟨u, rfl, hu, hp, ho⟩ := hE
       obtain ⟨k, q, n, A1, n1, k1, A2, n2, k2, A3, n3, k3, A4, n4, k4, A5, n5, k5, ws5, gs5, rs5, os5, ks5, rfl, hxe, _, hkd⟩ := nv_parts hu.out
       have HRes : Kept (R0 = .ok (.mk 8 false (textT us) [] [] [] [] [x], xs)) := ⟨by rw [HRb.out, hcu]; rfl⟩
       have HB6 := Kept.mk (HB9.out.mv ho.out hp.out)
       have HGw6 : Kept (Gr (fun _ => False) wb (nb + 1) 61 1 WC _ []) := ⟨HGw.out.on wc_stable (B := (· = g)) ho.out (fun b h1 h2 => by have := HB9.out.gn; have := HB9.out.nr; omega) (fun o h1 h2 => by have := HGw.out.lt o h1; have := HB9.out.gn; have := HB9.out.nr; omega) (fun _ h => h) (fun _ _ h => h)⟩
       have HGo6 : Kept (Gr (fun _ => False) wb (nb + 1) 9 1 OCw _ []) := ⟨HGo.out.on oc_stable (B := (· = g)) ho.out (fun b h1 h2 => by have := HB9.out.gn; have := HB9.out.nr; omega) (fun o h1 h2 => by have := HGo.out.lt o h1; have := HB9.out.gn; have := HB9.out.nr; omega) (fun _ h => h) (fun _ _ h => h)⟩
       have hlt := (Array.getElem?_eq_some_iff.1 HB9.out.row).1
       have HK7 := Kept.mk (nl_one2 (nb := nb) (off := 7) (v := .slice (some ⟨wb.heap.size, 0, none⟩) 1 1) hu.out hlt ho.out.size)
       have HB7 := Kept.mk (HB6.out.one #[.int .i64 k, .bool q, .string (bs n), .slice A1 n1 k1, .slice A2 n2 k2, .slice A3 n3 k3, .slice A4 n4 k4, .slice A5 n5 k5] 7 (.slice (some ⟨wb.heap.size, 0, none⟩) 1 1))
       have HGw7 := Kept.mk (HGw6.out.one wc_stable #[.int .i64 k, .bool q, .string (bs n), .slice A1 n1 k1, .slice A2 n2 k2, .slice A3 n3 k3, .slice A4 n4 k4, .slice A5 n5 k5] 7 (.slice (some ⟨wb.heap.size, 0, none⟩) 1 1))
       have HGo7 := Kept.mk (HGo6.out.one oc_stable #[.int .i64 k, .bool q, .string (bs n), .slice A1 n1 k1, .slice A2 n2 k2, .slice A3 n3 k3, .slice A4 n4 k4, .slice A5 n5 k5] 7 (.slice (some ⟨wb.heap.size, 0, none⟩) 1 1))
       have hlt6 := (Array.getElem?_eq_some_iff.1 HB6.out.row).1
       have c7 : (wb.alloc (.cells #[.int .i64 k, .bool q, .string (bs n), .slice A1 n1 k1, .slice A2 n2 k2, .slice A3 n3 k3, .slice A4 n4 k4, .slice A5 n5 k5] 31)).cell? ⟨nb, 7, none⟩ = some (.slice none 0 0) := cell_of_row _ _ 7 _ _ _ ((Below.heap_alloc wb _ nb hlt6).trans HB6.out.row)
       have f7 : (wb.alloc (.cells #[.int .i64 k, .bool q, .string (bs n), .slice A1 n1 k1, .slice A2 n2 k2, .slice A3 n3 k3, .slice A4 n4 k4, .slice A5 n5 k5] 31)).frozen? ⟨nb, 7, none⟩ = false := frozen_of_row _ _ 7 _ _ ((Below.heap_alloc wb _ nb hlt6).trans HB6.out.row)
       obtain ⟨A9, k9, hA9⟩ := HGw7.out.slice
       obtain ⟨A8, k8, hA8⟩ := HGo7.out.slice
       try subst hA9
       try subst hA8
       clear hu hp ho hxe hkd hcu HRb HB6 HGw6 HGo6 hlt hlt6
       go_upto_region 11 with fail
       clear c7 f7
       generalize (wb.alloc (.cells #[.int .i64 k, .bool q, .string (bs n), .slice A1 n1 k1, .slice A2 n2 k2, .slice A3 n3 k3, .slice A4 n4 k4, .slice A5 n5 k5] 31)).setCell ⟨nb, 7, none⟩ (.slice (some ⟨wb.heap.size, 0, none⟩) 1 1) = w7 at *
       obtain ⟨old, hres, ho8⟩ := HB7.out.res
       have HOld := Kept.mk hres
       have HDn := Kept.mk HB7.out.done
       have HFw := Kept.mk (fun cs : Array Value => sl_done wc_stable (HGw7.out.read wc_stable (by decide)) (r := w.heap.size) (n := w.heap.size) (by have := HB7.out.nr; omega) (by have := HB7.out.nr; omega) cs)
       have HFo := Kept.mk (fun cs : Array Value => sl_done oc_stable (HGo7.out.read oc_stable (by decide)) (r := w.heap.size) (n := w.heap.size) (by have := HB7.out.nr; omega) (by have := HB7.out.nr; omega) cs)
       have HFk := Kept.mk (fun cs : Array Value => nl_done HK7.out (r := w.heap.size) (n := w.heap.size) (by have := HB7.out.nr; omega) (by have := HB7.out.nr; omega) cs)
       clear hres
       refine App.give (n := 3) (r := 2) (t := 35) (nt := 31) (rb := w.heap.size) HB7.out.row HOld.out Tryz.underlying31 rfl (by kernel_rfl) ho8 (all_node _ _ _ _ _ _ _ _ _ _ _ _ _ _ _ _ _ _) rfl rfl (by decide) (by simp) ?_
       go_wp2_with fail
       refine bodyPost_ret (results_cell_row rfl _ _ w.heap.size _ _ (0, 0) _ rfl HDn.out.1 Tryz.underlying31 rfl (by kernel_rfl)) rfl ?_
       rw [HRes.out]
       exact ⟨_, rfl, ⟨nv_wk (HFw.out _) (HFo.out _) (HFk.out _), rfl⟩, ⟨HDn.out.2.1⟩, ⟨HDn.out.2.2⟩⟩
   | true =>
     have HI : Kept (true = decide (textT r = toL ⟨#[105, 110]⟩)) := ⟨hin.symm.trans (at_word HB4.out.pm.good (by decide)).symm⟩
     obtain ⟨t1, r1, rfl⟩ : ∃ t1 r1, r = t1 :: r1 := by
       cases r with
       | nil => cases hin
       | cons a b => exact ⟨a, b, rfl⟩
     have htx : t1.text = kIn := by
       have hin : (t1.kind == 0 && t1.text == kIn) = true := hin
       rw [Bool.and_eq_true, beq_iff_eq, beq_iff_eq] at hin
       exact hin.2
     have HRw : Kept (R0 = andThen (wordsF (r1.length + 1) [] r1) fun ws r => if isT 1 [59] r || isT 2 [10] r then andThen (body (list c) (past r)) fun b r2 => .ok (.mk 8 false (textT us) ws [] [] [kIn] [b], r2) else .error 100) := ⟨by rw [HR2.out, hin, if_pos rfl]; rfl⟩
     clear hin HR2
     have HTx := Kept.mk htx
     clear htx
     go_wp2_with (first
       | (go_at_call 93; refine (at_any _ g d (t1 :: r1) ⟨#[105, 110]⟩ HB4.out.pm true HI.out).mono ?_; rintro e w5 ⟨rfl, hb⟩; have HB5 := Kept.mk (HB4.out.below hb); clear hb)
       | (go_at_call 97; refine (take_any _ g d t1 r1 HB5.out.pm).mono ?_; rintro e w6 ⟨rfl, hp, ho⟩; have HB6 := Kept.mk (HB5.out.mv ho.out hp.out); have c6 : (w6.alloc (.cells #[.string (bs t1.text)] 9)).cell? ⟨nb, 6, none⟩ = some (.slice none 0 0) := cell_of_row _ _ 6 _ _ _ ((Below.heap_alloc w6 _ nb (Array.getElem?_eq_some_iff.1 HB6.out.row).1).trans HB6.out.row); have f6 : (w6.alloc (.cells #[.string (bs t1.text)] 9)).frozen? ⟨nb, 6, none⟩ = false := frozen_of_row _ _ 6 _ _ ((Below.heap_alloc w6 _ nb (Array.getElem?_eq_some_iff.1 HB6.out.row).1).trans HB6.out.row); clear hp ho))
     clear c6 f6
     have HB7 := Kept.mk (HB6.out.set (.cells #[.string (bs t1.text)] 9) 6 (.slice (some ⟨w6.heap.size, 0, none⟩) 1 1))
     have HGo7 : Kept (Gr (fun b => b = w6.heap.size) ((w6.alloc (.cells #[.string (bs t1.text)] 9)).setCell ⟨nb, 6, none⟩ (.slice (some ⟨w6.heap.size, 0, none⟩) 1 1)) (nb + 1) 9 1 OCw (.slice (some ⟨w6.heap.size, 0, none⟩) 1 1) [kIn]) := ⟨by
       have := gr_text (w := w6) (nb := nb) (off := 6) (x := t1.text) (v := .slice (some ⟨w6.heap.size, 0, none⟩) 1 1) (Array.getElem?_eq_some_iff.1 HB6.out.row).1
       rw [HTx.out] at this ⊢
       exact this⟩
     have HZ7 : Kept (∀ b, (fun b => b = w6.heap.size) b → b < ((w6.alloc (.cells #[.string (bs t1.text)] 9)).setCell ⟨nb, 6, none⟩ (.slice (some ⟨w6.heap.size, 0, none⟩) 1 1)).heap.size) := ⟨fun b h => by have h : b = w6.heap.size := h; rw [h]; simp [World.setCell]⟩
     generalize hvo : Value.slice (some ⟨w6.heap.size, 0, none⟩) 1 1 = vo at *
     generalize (w6.alloc (.cells #[.string (bs t1.text)] 9)).setCell ⟨nb, 6, none⟩ vo = w7 at *
     have HFr := Kept.mk HB7.out.pm.few
     clear HB4 HB5 HB6 HI hvo
     obtain ⟨tiWords, zWords, hftWords⟩ := fitsWords (nb) g 101 (fun W => by kernel_rfl)
     have FTWords := Kept.mk hftWords
     clear hftWords
     go_loopg [] r1.length (fun m wr => ∃ vs ws vw bz k, vs.length ≤ m ∧ Kept (BS w wr g d nb #[.int .i64 8, .bool false, .string (bs (textT us)), vw, .slice none 0 0, .slice none 0 0, vo, .slice none 0 0] vs) ∧ Kept (Gr bz wr (nb + 1) 61 1 WC vw ws) ∧ Kept (Gr bz wr (nb + 1) 9 1 OCw vo [kIn]) ∧ Kept (Apart vo vw) ∧ Kept (∀ b, bz b → b < wr.heap.size) ∧ Kept (ws.length + vs.length ≤ 20000) ∧ Kept (vs.length + 1 ≤ k) ∧ Kept (R0 = andThen (wordsF k ws vs) fun ws r => if isT 1 [59] r || isT 2 [10] r then andThen (body (list c) (past r)) fun b r2 => .ok (.mk 8 false (textT us) ws [] [] [kIn] [b], r2) else .error 100))
     case atStart => exact ⟨r1, [], .slice none 0 0, _, r1.length + 1, Nat.le_refl _, HB7, ⟨Gr.nil wc_stable _ _ _ _ _⟩, HGo7, ⟨fun o h1 h2 => by cases h2⟩, HZ7, ⟨by have := HFr.out; simpa using this⟩, ⟨Nat.le_refl _⟩, HRw⟩
     case round =>
       obtain ⟨vs, ws, vw, bz, k, hm, HB, HG, HGo, HAp, HZ, HKs, HN, HRr⟩ := hrel
       have HM := Kept.mk hm
       clear hm HRw HB7 HGo7 HZ7 HFr
       cases he : wordT vs with
       | false =>
         have HE := Kept.mk he.symm
         have HRes : Kept (R0 = if isT 1 [59] vs || isT 2 [10] vs then andThen (body (list c) (past vs)) fun b r2 => .ok (.mk 8 false (textT us) ws [] [] [kIn] [b], r2) else .error 100) := ⟨by
           rw [HRr.out]
           obtain ⟨k, rfl⟩ : ∃ j, k = j + 1 := ⟨k - 1, by have := HN.out; omega⟩
           rw [wordsF, if_neg (by rw [he]; decide)]; rfl⟩
         clear he HRr
         cases hse : (isT 1 [59] vs || isT 2 [10] vs) with
         | false =>
           have HSe := Kept.mk hse.symm
           obtain rfl : R0 = .error 100 := by rw [HRes.out, hse, if_neg (by decide)]
           clear hse HRes
           go_wp2_with (first
             | (go_at_call 100; refine (atWord_any _ g d vs HB.out.pm false HE.out).mono ?_; rintro e w8 ⟨rfl, hb⟩; have HB5 := Kept.mk (HB.out.below hb); clear hb)
             | (go_at_call 58; refine (skipEnd_any _ g d vs HB5.out.pm false HSe.out).mono ?_; rintro e w9 ⟨rfl, hp, ho⟩; have HB6 := Kept.mk (HB5.out.mv ho.out hp.out); clear hp ho)
             | (go_at_call 26; refine (check_any _ false 100).mono ?_; rintro e w10 ⟨rfl, rfl⟩))
           first | exact ⟨rfl, rfl, ⟨HB6.out.only⟩⟩ | exact ⟨rfl, ⟨HB6.out.only⟩⟩
         | true =>
           have HSe := Kept.mk hse.symm
           have HRb : Kept (R0 = andThen (body (list c) (past vs)) fun b r2 => .ok (.mk 8 false (textT us) ws [] [] [kIn] [b], r2)) := ⟨by rw [HRes.out, hse, if_pos rfl]⟩
           clear hse HRes
           go_wp2_with (first
             | (go_at_call 100; refine (atWord_any _ g d vs HB.out.pm false HE.out).mono ?_; rintro e w8 ⟨rfl, hb⟩; have HB5 := Kept.mk (HB.out.below hb); have HOa := Kept.mk hb; clear hb)
             | (go_at_call 58; refine (skipEnd_any _ g d vs HB5.out.pm true HSe.out).mono ?_; rintro e w9 ⟨rfl, hp, ho⟩; have HB9 := Kept.mk (HB5.out.mv ho.out hp.out); have HOb : Kept (Only (· = g) wr w9) := ⟨only_below HOa.out ho.out⟩; clear hp ho)
             | (go_at_call 26; refine (check_any _ true 100).mono ?_; rintro e w10 ⟨rfl, rfl⟩))
           have HGw : Kept (Gr bz w9 (nb + 1) 61 1 WC vw ws) := ⟨HG.out.on wc_stable (B := (· = g)) HOb.out (fun b h1 h2 => by have := HB.out.gn; have := HB.out.nr; omega) (fun o h1 h2 => by have := HG.out.lt o h1; have := HB.out.gn; have := HB.out.nr; omega) (fun _ h => h) (fun _ _ h => h)⟩
           have HGp : Kept (Gr bz w9 (nb + 1) 9 1 OCw vo [kIn]) := ⟨HGo.out.on oc_stable (B := (· = g)) HOb.out (fun b h1 h2 => by have := HB.out.gn; have := HB.out.nr; omega) (fun o h1 h2 => by have := HGo.out.lt o h1; have := HB.out.gn; have := HB.out.nr; omega) (fun _ h => h) (fun _ _ h => h)⟩
           clear HB HG HGo HZ HB5 HOa HOb
           go_at_call 98
           refine (HBo.out w9 (past vs) HB9.out.pm).mono ?_
           intro e wb hE
           cases hcu : body (list c) (past vs) with
           | error e2 =>
             rw [hcu] at hE
             obtain ⟨rfl, ho⟩ := hE
             obtain rfl : R0 = .error e2 := by rw [HRb.out, hcu]; rfl
             first | exact ⟨rfl, rfl, ⟨only_two HB9.out.only ho.out⟩⟩ | exact ⟨rfl, ⟨only_two HB9.out.only ho.out⟩⟩
           | ok z =>
             obtain ⟨x, xs⟩ := z
             rw [hcu] at hE
             obtain ⟨u, rfl, hu, hp, ho⟩ := hE
             obtain ⟨k, q, n, A1, n1, k1, A2, n2, k2, A3, n3, k3, A4, n4, k4, A5, n5, k5, ws5, gs5, rs5, os5, ks5, rfl, hxe, _, hkd⟩ := nv_parts hu.out
             have HRes : Kept (R0 = .ok (.mk 8 false (textT us) ws [] [] [kIn] [x], xs)) := ⟨by rw [HRb.out, hcu]; rfl⟩
             have HB6 := Kept.mk (HB9.out.mv ho.out hp.out)
             have HGw6 : Kept (Gr bz wb (nb + 1) 61 1 WC _ ws) := ⟨HGw.out.on wc_stable (B := (· = g)) ho.out (fun b h1 h2 => by have := HB9.out.gn; have := HB9.out.nr; omega) (fun o h1 h2 => by have := HGw.out.lt o h1; have := HB9.out.gn; have := HB9.out.nr; omega) (fun _ h => h) (fun _ _ h => h)⟩
             have HGo6 : Kept (Gr bz wb (nb + 1) 9 1 OCw _ [kIn]) := ⟨HGp.out.on oc_stable (B := (· = g)) ho.out (fun b h1 h2 => by have := HB9.out.gn; have := HB9.out.nr; omega) (fun o h1 h2 => by have := HGp.out.lt o h1; have := HB9.out.gn; have := HB9.out.nr; omega) (fun _ h => h) (fun _ _ h => h)⟩
             have hlt := (Array.getElem?_eq_some_iff.1 HB9.out.row).1
             have HK7 := Kept.mk (nl_one2 (nb := nb) (off := 7) (v := .slice (some ⟨wb.heap.size, 0, none⟩) 1 1) hu.out hlt ho.out.size)
             have HB7 := Kept.mk (HB6.out.one #[.int .i64 k, .bool q, .string (bs n), .slice A1 n1 k1, .slice A2 n2 k2, .slice A3 n3 k3, .slice A4 n4 k4, .slice A5 n5 k5] 7 (.slice (some ⟨wb.heap.size, 0, none⟩) 1 1))
             have HGw7 := Kept.mk (HGw6.out.one wc_stable #[.int .i64 k, .bool q, .string (bs n), .slice A1 n1 k1, .slice A2 n2 k2, .slice A3 n3 k3, .slice A4 n4 k4, .slice A5 n5 k5] 7 (.slice (some ⟨wb.heap.size, 0, none⟩) 1 1))
             have HGo7 := Kept.mk (HGo6.out.one oc_stable #[.int .i64 k, .bool q, .string (bs n), .slice A1 n1 k1, .slice A2 n2 k2, .slice A3 n3 k3, .slice A4 n4 k4, .slice A5 n5 k5] 7 (.slice (some ⟨wb.heap.size, 0, none⟩) 1 1))
             have hlt6 := (Array.getElem?_eq_some_iff.1 HB6.out.row).1
             have c7 : (wb.alloc (.cells #[.int .i64 k, .bool q, .string (bs n), .slice A1 n1 k1, .slice A2 n2 k2, .slice A3 n3 k3, .slice A4 n4 k4, .slice A5 n5 k5] 31)).cell? ⟨nb, 7, none⟩ = some (.slice none 0 0) := cell_of_row _ _ 7 _ _ _ ((Below.heap_alloc wb _ nb hlt6).trans HB6.out.row)
             have f7 : (wb.alloc (.cells #[.int .i64 k, .bool q, .string (bs n), .slice A1 n1 k1, .slice A2 n2 k2, .slice A3 n3 k3, .slice A4 n4 k4, .slice A5 n5 k5] 31)).frozen? ⟨nb, 7, none⟩ = false := frozen_of_row _ _ 7 _ _ ((Below.heap_alloc wb _ nb hlt6).trans HB6.out.row)
             obtain ⟨A9, k9, hA9⟩ := HGw7.out.slice
             obtain ⟨A8, k8, hA8⟩ := HGo7.out.slice
             try subst hA9
             try subst hA8
             clear hu hp ho hxe hkd hcu HRb HB6 HGw6 HGo6 hlt hlt6
             go_upto_region 11 with fail
             clear c7 f7
             generalize (wb.alloc (.cells #[.int .i64 k, .bool q, .string (bs n), .slice A1 n1 k1, .slice A2 n2 k2, .slice A3 n3 k3, .slice A4 n4 k4, .slice A5 n5 k5] 31)).setCell ⟨nb, 7, none⟩ (.slice (some ⟨wb.heap.size, 0, none⟩) 1 1) = w7 at *
             obtain ⟨old, hres, ho8⟩ := HB7.out.res
             have HOld := Kept.mk hres
             have HDn := Kept.mk HB7.out.done
             have HFw := Kept.mk (fun cs : Array Value => sl_done wc_stable (HGw7.out.read wc_stable (by decide)) (r := w.heap.size) (n := w.heap.size) (by have := HB7.out.nr; omega) (by have := HB7.out.nr; omega) cs)
             have HFo := Kept.mk (fun cs : Array Value => sl_done oc_stable (HGo7.out.read oc_stable (by decide)) (r := w.heap.size) (n := w.heap.size) (by have := HB7.out.nr; omega) (by have := HB7.out.nr; omega) cs)
             have HFk := Kept.mk (fun cs : Array Value => nl_done HK7.out (r := w.heap.size) (n := w.heap.size) (by have := HB7.out.nr; omega) (by have := HB7.out.nr; omega) cs)
             clear hres
             refine App.give (n := 3) (r := 2) (t := 35) (nt := 31) (rb := w.heap.size) HB7.out.row HOld.out Tryz.underlying31 rfl (by kernel_rfl) ho8 (all_node _ _ _ _ _ _ _ _ _ _ _ _ _ _ _ _ _ _) rfl rfl (by decide) (by simp) ?_
             go_wp2_with fail
             refine bodyPost_ret (results_cell_row rfl _ _ w.heap.size _ _ (0, 0) _ rfl HDn.out.1 Tryz.underlying31 rfl (by kernel_rfl)) rfl ?_
             rw [HRes.out]
             exact ⟨_, rfl, ⟨nv_wk (HFw.out _) (HFo.out _) (HFk.out _), rfl⟩, ⟨HDn.out.2.1⟩, ⟨HDn.out.2.2⟩⟩
       | true =>
         have HE := Kept.mk he.symm
         have HRc : Kept (match partsT vs with | .error e => R0 = .error e | .ok (x, r2) => ∃ j, k = j + 1 ∧ r2.length < vs.length ∧ R0 = andThen (wordsF j (ws ++ [x]) r2) fun ws r => if isT 1 [59] r || isT 2 [10] r then andThen (body (list c) (past r)) fun b r2 => .ok (.mk 8 false (textT us) ws [] [] [kIn] [b], r2) else .error 100) := ⟨by
           obtain ⟨j, rfl⟩ : ∃ j, k = j + 1 := ⟨k - 1, by have := HN.out; omega⟩
           have := HRr.out
           rw [wordsF, if_pos he] at this
           cases hcu : partsT vs with
           | error e => rw [hcu] at this; exact this
           | ok z =>
             rw [hcu] at this
             exact ⟨j, rfl, partsT_lt _ _ _ hcu, this⟩⟩
         clear he HRr
         go_upto_region 7 with (first
           | (go_at_call 100; refine (atWord_any _ g d vs HB.out.pm true HE.out).mono ?_; rintro e w8 ⟨rfl, hb⟩; have HB4 := Kept.mk (HB.out.below hb); have HOe : Kept (Only (· = g) wr w8) := ⟨(Only.refl _ _).below hb⟩; clear hb))
         have HG4 : Kept (Gr bz w8 (nb + 1) 61 1 WC vw ws) := ⟨HG.out.on wc_stable (B := (· = g)) HOe.out (fun b h1 h2 => by have := HB.out.gn; have := HB.out.nr; omega) (fun o h1 h2 => by have := HG.out.lt o h1; have := HB.out.gn; have := HB.out.nr; omega) (fun _ h => h) (fun _ _ h => h)⟩
         have HGo4 : Kept (Gr bz w8 (nb + 1) 9 1 OCw vo [kIn]) := ⟨HGo.out.on oc_stable (B := (· = g)) HOe.out (fun b h1 h2 => by have := HB.out.gn; have := HB.out.nr; omega) (fun o h1 h2 => by have := HGo.out.lt o h1; have := HB.out.gn; have := HB.out.nr; omega) (fun _ h => h) (fun _ _ h => h)⟩
         have HZ4 : Kept (∀ b, bz b → b < w8.heap.size) := ⟨fun b h => Nat.lt_of_lt_of_le (HZ.out b h) HOe.out.size⟩
         clear HB HG HGo HZ HOe
         refine grow wc_stable (n := 3) (p := 0) (t := 19) (fo := 3) (off := 3) (nt := 31) (lt := 26) (et := 61) (pt := 94) (rt := 61) (f := 101) (fun d _ _ _ _ h => by cases d <;> exact h) FTWords.out (by kernel_rfl) (by kernel_rfl) (by decide) (by decide) (by simp) rfl rfl HB4.out.row rfl HG4.out HB4.out.pm HZ4.out rfl (by have := HB4.out.gn; have := HB4.out.nr; omega) (by have := HKs.out; omega) (by decide) (fun W h => word_c g d W vs h) (val := fun W w9 => LV (Nw W.heap.size) w9) valWord ?_ ?_
         · intro e w6 he ho a' hd
           have hR := HRc.out
           rw [he] at hR
           refine ⟨hd, ?_⟩
           rw [hR]
           exact ⟨rfl, ⟨only_two HB4.out.only ho.out⟩⟩
         · intro x r2 hx w10 v2 bz2 u2 s2 q2 hrow hgr hpm hz1 hz2 hz3 honly hlies
           have hR := HRc.out
           rw [hx] at hR
           obtain ⟨j, rfl, hlt, hRj⟩ := hR
           have HRj := Kept.mk hRj
           have HLt2 := Kept.mk hlt
           have HB5 := Kept.mk (HB4.out.grown hrow.out hpm.out honly.out (fun o h => by have := HG4.out.lt o h; omega))
           have HG5 := hgr
           have HGo5 := Kept.mk (HGo4.out.beside oc_stable honly.out (by have := HB4.out.gn; have := HB4.out.nr; omega) HG4.out.busy HAp.out hz1 hz2)
           have HAp5 := Kept.mk (apart_new (fun o h => (HGo4.out.lt o h).2) HAp.out hlies)
           have HZ5 := Kept.mk hz3
           clear hrow hpm honly hlies hz1 hz2 hz3 hRj hlt hgr HRc hx
           simp only [Act.put, List.setIfInBounds_toArray, List.set_cons_zero, List.set_cons_succ]
           go_wp2_with fail
           go_roundg r2.length
           case measure => have := HM.out; have := HLt2.out; omega
           case rel => exact ⟨r2, ws ++ [x], v2, bz2, j, Nat.le_refl _, HB5, HG5, HGo5, HAp5, HZ5, ⟨by have := HKs.out; have := HLt2.out; rw [List.length_append, List.length_singleton]; omega⟩, ⟨by have := HN.out; have := HLt2.out; omega⟩, HRj⟩
end Sy
end
end Go.Proofs.YtahjonfmhejoeaaGreatDoor
