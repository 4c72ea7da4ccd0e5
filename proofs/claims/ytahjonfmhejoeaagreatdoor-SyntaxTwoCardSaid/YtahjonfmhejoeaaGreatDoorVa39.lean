/-
  Parts of the proof, merged.
-/
import Derived.Test.YtahjonfmhejoeaaGreatDoorVa38
namespace Go.Proofs.YtahjonfmhejoeaaGreatDoor
section
open Go.RowKit Tx
namespace Sy
open Lx (Tok tv tvs tvs_at Qt pan)
open Wx (Pt LV Nw parts)
theorem asg_word {ts : List Tok} (h : GoodL ts) (ha : asgT (textT ts) = true) : wordT ts = true := by
 cases ts with
 | nil => revert ha; decide
 | cons t r =>
   have ht := h t (by simp)
   have ha : asgT t.text = true := ha
   show (t.kind == 0) = true
   rcases ht.k with k | k | k
   · rw [k]; rfl
   · have ho := ht.op k
     revert ho ha
     generalize t.text = x
     intro ha ho
     unfold Lx.opers at ho
     simp only [List.mem_cons, List.not_mem_nil, or_false] at ho
     rcases ho with rfl | rfl | rfl | rfl | rfl | rfl | rfl | rfl | rfl | rfl | rfl <;> (exfalso; revert ha; decide)
   · rw [ht.line k] at ha; exfalso; revert ha; decide
theorem nv_simple {P : Nat → Prop} {w : World} {ws : List (List Pt)} {gs rs : List (List UInt8 × List Pt)} {A1 A2 A3 : Option Addr} {n1 n2 n3 k1 k2 k3 : Nat} (hw : SL P w (WC P w) (.slice A1 n1 k1) ws) (hg : SL P w (AC P w) (.slice A2 n2 k2) gs) (hr : SL P w (AC P w) (.slice A3 n3 k3) rs) : NV P w (.agg #[.int .i64 0, .bool false, .string ⟨#[]⟩, .slice A1 n1 k1, .slice A2 n2 k2, .slice A3 n3 k3, .slice none 0 0, .slice none 0 0]) (.mk 0 false [] ws gs rs [] []) :=
 .mk 0 false [] ws gs rs [] [] _ _ _ _ _ ⟨rfl, rfl, rfl, rfl, hw, hg, hr, sl_nil _ _ _⟩ rfl (.nil none 0 fun _ => rfl)
theorem redirection_c (g d : Nat) (u : Tok) (s : List Tok) (W : World) (h : PM W g d (u :: s)) : Calls Tryz.prog 141 #[.pointer (some ⟨g, 0, none⟩)] W (RE W g d (fun w' => redV (Nw W.heap.size) w') (redirect (u :: s))) := redirection_any W g d u s h _ rfl
theorem assignment_c (g d : Nat) (u : Tok) (s : List Tok) (ha : asgT u.text = true) (W : World) (h : PM W g d (u :: s)) : Calls Tryz.prog 165 #[.pointer (some ⟨g, 0, none⟩)] W (RE W g d (fun w' => redV (Nw W.heap.size) w') (asgR u s)) := assignment_any W g d u s h ha _ rfl
set_option maxHeartbeats 16000000 in
set_option maxRecDepth 100000 in
theorem simple_any (w : World) (g d : Nat) (ts : List Tok) (h : PM w g d ts) (R0 : R Nd) (hR0 : R0 = simple ts) :
   Calls Tryz.prog 144 #[.pointer (some ⟨g, 0, none⟩)] w (RE w g d (nodV w) R0) := by
 have H := Kept.mk (h.below ((Below.refl w.heap.size w).alloc (Nat.le_refl _) (.cells #[.int .i64 0, .bool false, .string ⟨#[]⟩, .slice none 0 0, .slice none 0 0, .slice none 0 0, .slice none 0 0, .slice none 0 0] 31)))
 have HGl := Kept.mk h.lt
 have HFew := Kept.mk h.few
 have HR : Kept (R0 = andThen (simpleF (ts.length + 1) ⟨[], [], []⟩ ts) fun s r => if s.words.isEmpty && s.assigns.isEmpty && s.redirs.isEmpty then .error 100 else .ok (.mk 0 false [] s.words s.assigns s.redirs [] [], r)) := ⟨hR0⟩
 cases hw : wordT ts with
 | true =>
   have HW0 := Kept.mk hw.symm
   have HFst : Kept ((wordT ts || redir ts) = true) := ⟨by rw [hw]; rfl⟩
   clear h hR0 hw
   go_enter Tryz.func144, Tryz.ntmps144
   go_wp2_with (first
     | (go_at_call 100; refine (atWord_any _ g d ts H.out true HW0.out).mono ?_; rintro e w2 ⟨rfl, hb⟩; have HB := Kept.mk (BS.hold (w0 := w) (res_on ((Only.refl _ _).below hb) HGl.out rfl) (H.out.below hb) (only_alloc ((Only.refl _ _).below hb)) HGl.out #[.int .i64 0, .bool false, .string ⟨#[]⟩, .slice none 0 0, .slice none 0 0, .slice none 0 0, .slice none 0 0, .slice none 0 0]); clear hb)
     | (go_at_call 26; refine (check_any _ true 100).mono ?_; rintro e w3 ⟨rfl, rfl⟩))
   generalize w2.alloc (.cells #[.int .i64 0, .bool false, .string ⟨#[]⟩, .slice none 0 0, .slice none 0 0, .slice none 0 0, .slice none 0 0, .slice none 0 0] 31) = w4 at *
   generalize w2.heap.size = nb at *
   clear H HW0
   go_loopg [] ts.length (fun m wr => ∃ us ws gs rs vw va vr bz k, us.length ≤ m ∧ Kept (BS w wr g d nb #[.int .i64 0, .bool false, .string ⟨#[]⟩, vw, va, vr, .slice none 0 0, .slice none 0 0] us) ∧ Kept (Gr bz wr (nb + 1) 61 1 WC vw ws) ∧ Kept (Gr bz wr (nb + 1) 63 2 AC va gs) ∧ Kept (Gr bz wr (nb + 1) 66 2 AC vr rs) ∧ Kept (Apart vw va ∧ Apart vw vr ∧ Apart va vr) ∧ Kept (∀ b, bz b → b < wr.heap.size) ∧ Kept (ws.length + gs.length + rs.length + us.length ≤ 20000) ∧ Kept (us.length + 1 ≤ k) ∧ Kept (ws.length + gs.length + rs.length = 0 → us = ts) ∧ Kept (R0 = andThen (simpleF k ⟨ws, gs, rs⟩ us) fun s r => if s.words.isEmpty && s.assigns.isEmpty && s.redirs.isEmpty then .error 100 else .ok (.mk 0 false [] s.words s.assigns s.redirs [] [], r)))
   case atStart => exact ⟨ts, [], [], [], .slice none 0 0, .slice none 0 0, .slice none 0 0, fun _ => False, ts.length + 1, Nat.le_refl _, HB, ⟨Gr.nil wc_stable _ _ _ _ _⟩, ⟨Gr.nil ac_stable _ _ _ _ _⟩, ⟨Gr.nil ac_stable _ _ _ _ _⟩, ⟨⟨fun o h => (by cases h), fun o h => (by cases h), fun o h => (by cases h)⟩⟩, ⟨fun _ h => h.elim⟩, ⟨by have := HFew.out; simpa using this⟩, ⟨Nat.le_refl _⟩, ⟨fun _ => rfl⟩, HR⟩
   case round =>
     obtain ⟨us, ws, gs, rs, vw, va, vr, bz, k, hm, HB, HGw, HGa, HGr, HAp, HZ, HKs, HN, HEm, HRr⟩ := hrel
     have HM := Kept.mk hm
     clear hm HR
     cases hrd : redir us with
     | true =>
       have HRd := Kept.mk hrd.symm
       obtain ⟨u1, us1, rfl⟩ : ∃ u1 us1, us = u1 :: us1 := by
         cases us with
         | nil => cases hrd
         | cons a b => exact ⟨a, b, rfl⟩
       have HRc : Kept (match redirect (u1 :: us1) with | .error e => R0 = .error e | .ok (x, r2) => ∃ j, k = j + 1 ∧ r2.length < (u1 :: us1).length ∧ R0 = andThen (simpleF j ⟨ws, gs, rs ++ [x]⟩ r2) fun s r => if s.words.isEmpty && s.assigns.isEmpty && s.redirs.isEmpty then .error 100 else .ok (.mk 0 false [] s.words s.assigns s.redirs [] [], r)) := ⟨by
         obtain ⟨j, rfl⟩ : ∃ j, k = j + 1 := ⟨k - 1, by have := HN.out; omega⟩
         have := HRr.out
         rw [simpleF, if_pos hrd] at this
         cases hcu : redirect (u1 :: us1) with
         | error e => rw [hcu] at this; exact this
         | ok z =>
           rw [hcu] at this
           exact ⟨j, rfl, redirect_lt hcu, this⟩⟩
       clear hrd HRr
       go_upto_region 5 with (first
         | (go_at_call 140; refine (atRedirection_any _ g d (u1 :: us1) HB.out.pm true HRd.out).mono ?_; rintro e w8 ⟨rfl, hb⟩; have HB4 := Kept.mk (HB.out.below hb); have HO4 : Kept (Only (· = g) wr w8) := ⟨(Only.refl _ _).below hb⟩; clear hb))
       have HGw4 : Kept (Gr bz w8 (nb + 1) 61 1 WC vw ws) := ⟨HGw.out.on wc_stable (B := (· = g)) HO4.out (fun b h1 h2 => by have := HB.out.gn; have := HB.out.nr; omega) (fun o h1 h2 => by have := HGw.out.lt o h1; have := HB.out.gn; have := HB.out.nr; omega) (fun _ h => h) (fun _ _ h => h)⟩
       have HGa4 : Kept (Gr bz w8 (nb + 1) 63 2 AC va gs) := ⟨HGa.out.on ac_stable (B := (· = g)) HO4.out (fun b h1 h2 => by have := HB.out.gn; have := HB.out.nr; omega) (fun o h1 h2 => by have := HGa.out.lt o h1; have := HB.out.gn; have := HB.out.nr; omega) (fun _ h => h) (fun _ _ h => h)⟩
       have HGr4 : Kept (Gr bz w8 (nb + 1) 66 2 AC vr rs) := ⟨HGr.out.on ac_stable (B := (· = g)) HO4.out (fun b h1 h2 => by have := HB.out.gn; have := HB.out.nr; omega) (fun o h1 h2 => by have := HGr.out.lt o h1; have := HB.out.gn; have := HB.out.nr; omega) (fun _ h => h) (fun _ _ h => h)⟩
       have HZ4 : Kept (∀ b, bz b → b < w8.heap.size) := ⟨fun b h => Nat.lt_of_lt_of_le (HZ.out b h) (HO4.out).size⟩
       clear HB HGw HGa HGr HZ HO4
       obtain ⟨tiRedirs, zRedirs, hftRedirs⟩ := fitsRedirs (nb) g 141 (fun W => by kernel_rfl)
       have FTRedirs := Kept.mk hftRedirs
       clear hftRedirs
       refine grow ac_stable (n := 3) (p := 0) (t := 16) (fo := 5) (off := 5) (nt := 31) (lt := 28) (et := 66) (pt := 94) (rt := 66) (f := 141) (fun d _ _ _ _ h => by cases d <;> exact h) FTRedirs.out (by kernel_rfl) (by kernel_rfl) (by decide) (by decide) (by simp) rfl rfl HB4.out.row rfl HGr4.out HB4.out.pm HZ4.out rfl (by have := HB4.out.gn; have := HB4.out.nr; omega) (by have := HKs.out; omega) (by decide) (fun W h => redirection_c g d u1 us1 W h) (val := fun W w9 => redV (Nw W.heap.size) w9) valRed ?_ ?_
       · intro e we he ho a' hd
         have hR := HRc.out
         rw [he] at hR
         refine ⟨hd, ?_⟩
         rw [hR]
         exact ⟨rfl, ⟨only_two HB4.out.only ho.out⟩⟩
       · intro x r2 hx w6 v2 bz2 u2 s2 q2 hrow hgr hpm hz1 hz2 hz3 honly hlies
         have hR := HRc.out
         rw [hx] at hR
         obtain ⟨j, rfl, hlt, hRj⟩ := hR
         have HRj := Kept.mk hRj
         have HLt2 := Kept.mk hlt
         have HB5 := Kept.mk (HB4.out.grown hrow.out hpm.out honly.out (fun o h => by have := HGr4.out.lt o h; omega))
         have HGr5 := hgr
         have HGw5 := Kept.mk (HGw4.out.beside wc_stable honly.out (by have := HB4.out.gn; have := HB4.out.nr; omega) HGr4.out.busy HAp.out.2.1 hz1 hz2)
         have HGa5 := Kept.mk (HGa4.out.beside ac_stable honly.out (by have := HB4.out.gn; have := HB4.out.nr; omega) HGr4.out.busy HAp.out.2.2 hz1 hz2)
         have HAp5 : Kept (Apart vw va ∧ Apart vw v2 ∧ Apart va v2) := ⟨⟨HAp.out.1, apart_new (fun o h => (HGw4.out.lt o h).2) HAp.out.2.1 hlies, apart_new (fun o h => (HGa4.out.lt o h).2) HAp.out.2.2 hlies⟩⟩
         have HZ5 := Kept.mk hz3
         clear hrow hpm honly hlies hz1 hz2 hz3 hRj hlt hgr HRc hx
         simp only [Act.put, List.setIfInBounds_toArray, List.set_cons_zero, List.set_cons_succ]
         go_wp2_with fail
         go_roundg r2.length
         case measure => have := HM.out; have := HLt2.out; omega
         case rel => exact ⟨r2, ws, gs, rs ++ [x], vw, va, v2, bz2, j, Nat.le_refl _, HB5, HGw5, HGa5, HGr5, HAp5, HZ5, ⟨by have := HKs.out; have := HLt2.out; rw [List.length_append, List.length_singleton]; omega⟩, ⟨by have := HN.out; have := HLt2.out; omega⟩, ⟨by rw [List.length_append, List.length_singleton]; omega⟩, HRj⟩
     | false =>
       have HRd : Kept (redir us = false) := ⟨hrd⟩
       have HRd2 := Kept.mk hrd.symm
       clear hrd
       cases ws with
       | nil =>
         obtain ⟨A9, k9, rfl⟩ := HGw.out.slice
         have c3 := cell_of_row _ _ 3 _ _ _ HB.out.row
         cases has : asgT (textT us) with
         | true =>
           have hwd := asg_word HB.out.pm.good has
           obtain ⟨u1, us1, rfl⟩ : ∃ u1 us1, us = u1 :: us1 := by
             cases us with
             | nil => cases hwd
             | cons a b => exact ⟨a, b, rfl⟩
           have has1 : asgT u1.text = true := has
           have HA1 := Kept.mk has1
           have HA := Kept.mk has.symm
           have HRc : Kept (match asgR u1 us1 with | .error e => R0 = .error e | .ok (x, r2) => ∃ j, k = j + 1 ∧ r2.length < (u1 :: us1).length ∧ R0 = andThen (simpleF j ⟨[], gs ++ [x], rs⟩ r2) fun s r => if s.words.isEmpty && s.assigns.isEmpty && s.redirs.isEmpty then .error 100 else .ok (.mk 0 false [] s.words s.assigns s.redirs [] [], r)) := ⟨by
             obtain ⟨j, rfl⟩ : ∃ j, k = j + 1 := ⟨k - 1, by have := HN.out; omega⟩
             have := HRr.out
             rw [simpleF, if_neg (by rw [HRd.out]; decide), if_pos hwd, if_pos (by show (true && asgT u1.text) = true; rw [has1]; rfl)] at this
             unfold asgR
             have ht : textT (u1 :: us1) = u1.text := rfl
             rw [ht] at this
             cases hcu : parts 30 (u1.text.drop (Wx.nameL u1.text + 1)) with
             | error e => rw [hcu] at this; exact this
             | ok z =>
               rw [hcu] at this
               exact ⟨j, rfl, by simp, this⟩⟩
           clear has has1 hwd HRr
           go_upto_region 7 with (first
             | (go_at_call 140; refine (atRedirection_any _ g d (u1 :: us1) HB.out.pm false HRd2.out).mono ?_; rintro e w7 ⟨rfl, hb⟩; have HBe := Kept.mk (HB.out.below hb); have HOe := Kept.mk hb; have c3' := cell_of_row _ _ 3 _ _ _ HBe.out.row; clear hb)
             | (go_at_call 164; refine (atAssignment_any _ g d (u1 :: us1) HBe.out.pm true HA.out).mono ?_; rintro e w8 ⟨rfl, hb⟩; have HB4 := Kept.mk (HBe.out.below hb); have HO4 : Kept (Only (· = g) wr w8) := ⟨(Only.refl _ _).below (HOe.out.trans (hb.mono HOe.out.size))⟩; clear hb))
           have HGw4 : Kept (Gr bz w8 (nb + 1) 61 1 WC (.slice A9 ([] : List (List Pt)).length k9) []) := ⟨HGw.out.on wc_stable (B := (· = g)) HO4.out (fun b h1 h2 => by have := HB.out.gn; have := HB.out.nr; omega) (fun o h1 h2 => by have := HGw.out.lt o h1; have := HB.out.gn; have := HB.out.nr; omega) (fun _ h => h) (fun _ _ h => h)⟩
           have HGa4 : Kept (Gr bz w8 (nb + 1) 63 2 AC va gs) := ⟨HGa.out.on ac_stable (B := (· = g)) HO4.out (fun b h1 h2 => by have := HB.out.gn; have := HB.out.nr; omega) (fun o h1 h2 => by have := HGa.out.lt o h1; have := HB.out.gn; have := HB.out.nr; omega) (fun _ h => h) (fun _ _ h => h)⟩
           have HGr4 : Kept (Gr bz w8 (nb + 1) 66 2 AC vr rs) := ⟨HGr.out.on ac_stable (B := (· = g)) HO4.out (fun b h1 h2 => by have := HB.out.gn; have := HB.out.nr; omega) (fun o h1 h2 => by have := HGr.out.lt o h1; have := HB.out.gn; have := HB.out.nr; omega) (fun _ h => h) (fun _ _ h => h)⟩
           have HZ4 : Kept (∀ b, bz b → b < w8.heap.size) := ⟨fun b h => Nat.lt_of_lt_of_le (HZ.out b h) (HO4.out).size⟩
           clear HB HGw HGa HGr HZ HO4 HBe HOe c3 c3'
           obtain ⟨tiAssigns, zAssigns, hftAssigns⟩ := fitsAssigns (nb) g 165 (fun W => by kernel_rfl)
           have FTAssigns := Kept.mk hftAssigns
           clear hftAssigns
           refine grow ac_stable (n := 3) (p := 0) (t := 32) (fo := 4) (off := 4) (nt := 31) (lt := 27) (et := 63) (pt := 94) (rt := 63) (f := 165) (fun d _ _ _ _ h => by cases d <;> exact h) FTAssigns.out (by kernel_rfl) (by kernel_rfl) (by decide) (by decide) (by simp) rfl rfl HB4.out.row rfl HGa4.out HB4.out.pm HZ4.out rfl (by have := HB4.out.gn; have := HB4.out.nr; omega) (by have := HKs.out; omega) (by decide) (fun W h => assignment_c g d u1 us1 HA1.out W h) (val := fun W w9 => redV (Nw W.heap.size) w9) valAsg ?_ ?_
           · intro e we he ho a' hd
             have hR := HRc.out
             rw [he] at hR
             refine ⟨hd, ?_⟩
             rw [hR]
             exact ⟨rfl, ⟨only_two HB4.out.only ho.out⟩⟩
           · intro x r2 hx w6 v2 bz2 u2 s2 q2 hrow hgr hpm hz1 hz2 hz3 honly hlies
             have hR := HRc.out
             rw [hx] at hR
             obtain ⟨j, rfl, hlt, hRj⟩ := hR
             have HRj := Kept.mk hRj
             have HLt2 := Kept.mk hlt
             have HB5 := Kept.mk (HB4.out.grown hrow.out hpm.out honly.out (fun o h => by have := HGa4.out.lt o h; omega))
             have HGa5 := hgr
             have HGw5 := Kept.mk (HGw4.out.beside wc_stable honly.out (by have := HB4.out.gn; have := HB4.out.nr; omega) HGa4.out.busy HAp.out.1 hz1 hz2)
             have HGr5 := Kept.mk (HGr4.out.beside ac_stable honly.out (by have := HB4.out.gn; have := HB4.out.nr; omega) HGa4.out.busy HAp.out.2.2.symm hz1 hz2)
             have HAp5 : Kept (Apart (.slice A9 ([] : List (List Pt)).length k9) v2 ∧ Apart (.slice A9 ([] : List (List Pt)).length k9) vr ∧ Apart v2 vr) := ⟨⟨apart_new (fun o h => (HGw4.out.lt o h).2) HAp.out.1 hlies, HAp.out.2.1, (apart_new (fun o h => (HGr4.out.lt o h).2) HAp.out.2.2.symm hlies).symm⟩⟩
             have HZ5 := Kept.mk hz3
             clear hrow hpm honly hlies hz1 hz2 hz3 hRj hlt hgr HRc hx
             simp only [Act.put, List.setIfInBounds_toArray, List.set_cons_zero, List.set_cons_succ]
             go_wp2_with fail
             go_roundg r2.length
             case measure => have := HM.out; have := HLt2.out; omega
             case rel => exact ⟨r2, [], gs ++ [x], rs, _, v2, vr, bz2, j, Nat.le_refl _, HB5, HGw5, HGa5, HGr5, HAp5, HZ5, ⟨by have := HKs.out; have := HLt2.out; rw [List.length_append, List.length_singleton]; omega⟩, ⟨by have := HN.out; have := HLt2.out; omega⟩, ⟨by rw [List.length_append, List.length_singleton]; omega⟩, HRj⟩
         | false =>
           have HA := Kept.mk has.symm
           have HNa : Kept ((([] : List (List Pt)).isEmpty && asgT (textT us)) = false) := ⟨by rw [has]; rfl⟩
           clear has
           cases hwd : wordT us with
           | false =>
             have HW := Kept.mk hwd.symm
             have HRes : Kept (R0 = .ok (.mk 0 false [] [] gs rs [] [], us)) := ⟨by
               rw [HRr.out]
               obtain ⟨k, rfl⟩ : ∃ j, k = j + 1 := ⟨k - 1, by have := HN.out; omega⟩
               rw [simpleF, if_neg (by rw [HRd.out]; decide), if_neg (by rw [hwd]; decide)]
               show (if (([] : List (List Pt)).isEmpty && gs.isEmpty && rs.isEmpty) = true then _ else _) = _
               rw [if_neg]
               intro hem
               rw [Bool.and_eq_true, Bool.and_eq_true, List.isEmpty_iff, List.isEmpty_iff, List.isEmpty_iff] at hem
               obtain ⟨⟨_, rfl⟩, rfl⟩ := hem
               have he := HEm.out rfl
               have hf := HFst.out
               rw [← he, hwd, HRd.out] at hf
               cases hf⟩
             clear hwd HRr
             go_upto_region 3 with (first
               | (go_at_call 140; refine (atRedirection_any _ g d us HB.out.pm false HRd2.out).mono ?_; rintro e w6 ⟨rfl, hb⟩; have HBe := Kept.mk (HB.out.below hb); have HOe := Kept.mk hb; have c3' := cell_of_row _ _ 3 _ _ _ HBe.out.row; clear hb)
               | (go_at_call 164; refine (atAssignment_any _ g d us HBe.out.pm false HA.out).mono ?_; rintro e w7 ⟨rfl, hb⟩; have HBf := Kept.mk (HBe.out.below hb); have HOf : Kept (Below wr.heap.size wr w7) := ⟨HOe.out.trans (hb.mono HOe.out.size)⟩; clear hb c3')
               | (go_at_call 100; refine (atWord_any _ g d us HBf.out.pm false HW.out).mono ?_; rintro e w8 ⟨rfl, hb⟩; have HB4 := Kept.mk (HBf.out.below hb); have HO4 : Kept (Only (· = g) wr w8) := ⟨(Only.refl _ _).below (HOf.out.trans (hb.mono HOf.out.size))⟩; clear hb HBe HBf HOe HOf))
             have HGw4 : Kept (Gr bz w8 (nb + 1) 61 1 WC (.slice A9 ([] : List (List Pt)).length k9) []) := ⟨HGw.out.on wc_stable (B := (· = g)) HO4.out (fun b h1 h2 => by have := HB.out.gn; have := HB.out.nr; omega) (fun o h1 h2 => by have := HGw.out.lt o h1; have := HB.out.gn; have := HB.out.nr; omega) (fun _ h => h) (fun _ _ h => h)⟩
             have HGa4 : Kept (Gr bz w8 (nb + 1) 63 2 AC va gs) := ⟨HGa.out.on ac_stable (B := (· = g)) HO4.out (fun b h1 h2 => by have := HB.out.gn; have := HB.out.nr; omega) (fun o h1 h2 => by have := HGa.out.lt o h1; have := HB.out.gn; have := HB.out.nr; omega) (fun _ h => h) (fun _ _ h => h)⟩
             have HGr4 : Kept (Gr bz w8 (nb + 1) 66 2 AC vr rs) := ⟨HGr.out.on ac_stable (B := (· = g)) HO4.out (fun b h1 h2 => by have := HB.out.gn; have := HB.out.nr; omega) (fun o h1 h2 => by have := HGr.out.lt o h1; have := HB.out.gn; have := HB.out.nr; omega) (fun _ h => h) (fun _ _ h => h)⟩
             have HZ4 : Kept (∀ b, bz b → b < w8.heap.size) := ⟨fun b h => Nat.lt_of_lt_of_le (HZ.out b h) (HO4.out).size⟩
             skip
             obtain ⟨A2, k2, rfl⟩ := HGa4.out.slice
             obtain ⟨A3, k3, rfl⟩ := HGr4.out.slice
             obtain ⟨old, hres, ho8⟩ := HB4.out.res
             have HOld := Kept.mk hres
             have HD := Kept.mk HB4.out.done
             have HFw := Kept.mk (fun cs : Array Value => sl_done wc_stable (HGw4.out.read wc_stable (by decide)) (r := w.heap.size) (n := w.heap.size) (by have := HB4.out.nr; omega) (by have := HB4.out.nr; omega) cs)
             have HFa := Kept.mk (fun cs : Array Value => sl_done ac_stable (HGa4.out.read ac_stable (by decide)) (r := w.heap.size) (n := w.heap.size) (by have := HB4.out.nr; omega) (by have := HB4.out.nr; omega) cs)
             have HFr := Kept.mk (fun cs : Array Value => sl_done ac_stable (HGr4.out.read ac_stable (by decide)) (r := w.heap.size) (n := w.heap.size) (by have := HB4.out.nr; omega) (by have := HB4.out.nr; omega) cs)
             clear hres
             try clear c3
             refine App.give (n := 3) (r := 2) (t := 12) (nt := 31) (rb := w.heap.size) HB4.out.row HOld.out Tryz.underlying31 rfl (by kernel_rfl) ho8 (all_node _ _ _ _ _ _ _ _ _ _ _ _ _ _ _ _ _ _) rfl rfl (by decide) (by simp) ?_
             go_wp2_with fail
             refine bodyPost_ret (results_cell_row rfl _ _ w.heap.size _ _ (0, 0) _ rfl HD.out.1 Tryz.underlying31 rfl (by kernel_rfl)) rfl ?_
             rw [HRes.out]
             exact ⟨_, rfl, ⟨nv_simple (HFw.out _) (HFa.out _) (HFr.out _)⟩, ⟨HD.out.2.1⟩, ⟨HD.out.2.2⟩⟩
           | true =>
             have HW := Kept.mk hwd.symm
             have HRc : Kept (match partsT us with | .error e => R0 = .error e | .ok (x, r2) => ∃ j, k = j + 1 ∧ r2.length < us.length ∧ R0 = andThen (simpleF j ⟨[] ++ [x], gs, rs⟩ r2) fun s r => if s.words.isEmpty && s.assigns.isEmpty && s.redirs.isEmpty then .error 100 else .ok (.mk 0 false [] s.words s.assigns s.redirs [] [], r)) := ⟨by
               obtain ⟨j, rfl⟩ : ∃ j, k = j + 1 := ⟨k - 1, by have := HN.out; omega⟩
               have := HRr.out
               rw [simpleF, if_neg (by rw [HRd.out]; decide), if_pos hwd, if_neg (by rw [HNa.out]; decide)] at this
               cases hcu : partsT us with
               | error e => rw [hcu] at this; exact this
               | ok z =>
                 rw [hcu] at this
                 exact ⟨j, rfl, partsT_lt _ _ _ hcu, this⟩⟩
             clear hwd HRr
             go_upto_region 9 with (first
               | (go_at_call 140; refine (atRedirection_any _ g d us HB.out.pm false HRd2.out).mono ?_; rintro e w6 ⟨rfl, hb⟩; have HBe := Kept.mk (HB.out.below hb); have HOe := Kept.mk hb; have c3' := cell_of_row _ _ 3 _ _ _ HBe.out.row; clear hb)
               | (go_at_call 164; refine (atAssignment_any _ g d us HBe.out.pm false HA.out).mono ?_; rintro e w7 ⟨rfl, hb⟩; have HBf := Kept.mk (HBe.out.below hb); have HOf : Kept (Below wr.heap.size wr w7) := ⟨HOe.out.trans (hb.mono HOe.out.size)⟩; clear hb c3')
               | (go_at_call 100; refine (atWord_any _ g d us HBf.out.pm true HW.out).mono ?_; rintro e w8 ⟨rfl, hb⟩; have HB4 := Kept.mk (HBf.out.below hb); have HO4 : Kept (Only (· = g) wr w8) := ⟨(Only.refl _ _).below (HOf.out.trans (hb.mono HOf.out.size))⟩; clear hb HBe HBf HOe HOf))
             have HGw4 : Kept (Gr bz w8 (nb + 1) 61 1 WC (.slice A9 ([] : List (List Pt)).length k9) []) := ⟨HGw.out.on wc_stable (B := (· = g)) HO4.out (fun b h1 h2 => by have := HB.out.gn; have := HB.out.nr; omega) (fun o h1 h2 => by have := HGw.out.lt o h1; have := HB.out.gn; have := HB.out.nr; omega) (fun _ h => h) (fun _ _ h => h)⟩
             have HGa4 : Kept (Gr bz w8 (nb + 1) 63 2 AC va gs) := ⟨HGa.out.on ac_stable (B := (· = g)) HO4.out (fun b h1 h2 => by have := HB.out.gn; have := HB.out.nr; omega) (fun o h1 h2 => by have := HGa.out.lt o h1; have := HB.out.gn; have := HB.out.nr; omega) (fun _ h => h) (fun _ _ h => h)⟩
             have HGr4 : Kept (Gr bz w8 (nb + 1) 66 2 AC vr rs) := ⟨HGr.out.on ac_stable (B := (· = g)) HO4.out (fun b h1 h2 => by have := HB.out.gn; have := HB.out.nr; omega) (fun o h1 h2 => by have := HGr.out.lt o h1; have := HB.out.gn; have := HB.out.nr; omega) (fun _ h => h) (fun _ _ h => h)⟩
             have HZ4 : Kept (∀ b, bz b → b < w8.heap.size) := ⟨fun b h => Nat.lt_of_lt_of_le (HZ.out b h) (HO4.out).size⟩
             clear HB HGw HGa HGr HZ HO4
             try clear c3
             obtain ⟨tiWords, zWords, hftWords⟩ := fitsWords (nb) g 101 (fun W => by kernel_rfl)
             have FTWords := Kept.mk hftWords
             clear hftWords
             refine grow wc_stable (n := 3) (p := 0) (t := 42) (fo := 3) (off := 3) (nt := 31) (lt := 26) (et := 61) (pt := 94) (rt := 61) (f := 101) (fun d _ _ _ _ h => by cases d <;> exact h) FTWords.out (by kernel_rfl) (by kernel_rfl) (by decide) (by decide) (by simp) rfl rfl HB4.out.row rfl HGw4.out HB4.out.pm HZ4.out rfl (by have := HB4.out.gn; have := HB4.out.nr; omega) (by have := HKs.out; omega) (by decide) (fun W h => word_c g d W us h) (val := fun W w9 => LV (Nw W.heap.size) w9) valWord ?_ ?_
             · intro e we he ho a' hd
               have hR := HRc.out
               rw [he] at hR
               refine ⟨hd, ?_⟩
               rw [hR]
               exact ⟨rfl, ⟨only_two HB4.out.only ho.out⟩⟩
             · intro x r2 hx w6 v2 bz2 u2 s2 q2 hrow hgr hpm hz1 hz2 hz3 honly hlies
               have hR := HRc.out
               rw [hx] at hR
               obtain ⟨j, rfl, hlt, hRj⟩ := hR
               have HRj := Kept.mk hRj
               have HLt2 := Kept.mk hlt
               have HB5 := Kept.mk (HB4.out.grown hrow.out hpm.out honly.out (fun o h => by have := HGw4.out.lt o h; omega))
               have HGw5 := hgr
               have HGa5 := Kept.mk (HGa4.out.beside ac_stable honly.out (by have := HB4.out.gn; have := HB4.out.nr; omega) HGw4.out.busy HAp.out.1.symm hz1 hz2)
               have HGr5 := Kept.mk (HGr4.out.beside ac_stable honly.out (by have := HB4.out.gn; have := HB4.out.nr; omega) HGw4.out.busy HAp.out.2.1.symm hz1 hz2)
               have HAp5 : Kept (Apart v2 va ∧ Apart v2 vr ∧ Apart va vr) := ⟨⟨(apart_new (fun o h => (HGa4.out.lt o h).2) HAp.out.1.symm hlies).symm, (apart_new (fun o h => (HGr4.out.lt o h).2) HAp.out.2.1.symm hlies).symm, HAp.out.2.2⟩⟩
               have HZ5 := Kept.mk hz3
               clear hrow hpm honly hlies hz1 hz2 hz3 hRj hlt hgr HRc hx
               simp only [Act.put, List.setIfInBounds_toArray, List.set_cons_zero, List.set_cons_succ]
               go_wp2_with fail
               go_roundg r2.length
               case measure => have := HM.out; have := HLt2.out; omega
               case rel => exact ⟨r2, [] ++ [x], gs, rs, v2, va, vr, bz2, j, Nat.le_refl _, HB5, HGw5, HGa5, HGr5, HAp5, HZ5, ⟨by have := HKs.out; have := HLt2.out; rw [List.length_append, List.length_singleton]; omega⟩, ⟨by have := HN.out; have := HLt2.out; omega⟩, ⟨by rw [List.length_append, List.length_singleton]; omega⟩, HRj⟩
       | cons w0 ws0 =>
         obtain ⟨ws, hws⟩ : ∃ ws, ws = w0 :: ws0 := ⟨_, rfl⟩
         have HNa : Kept ((ws.isEmpty && asgT (textT us)) = false) := ⟨by rw [hws]; rfl⟩
         have hl : ws.length ≠ 0 := by rw [hws]; simp
         rw [← hws] at HGw HKs HEm HRr
         clear hws
         obtain ⟨A9, k9, hv9⟩ := HGw.out.slice
         have c3 := cell_of_row _ _ 3 _ _ _ HB.out.row
         have HV9 := Kept.mk hv9
         have hz : ((ws.length : Int) == 0) = false := beq_eq_false_iff_ne.2 (by omega)
         have hz3 : ¬ ws.length = 0 := hl
         obtain ⟨LL, hLL⟩ : ∃ LL, LL = ws.length := ⟨_, rfl⟩
         rw [← hLL] at hz hz3 HV9
         clear hv9 hl hLL c3
         cases hwd : wordT us with
         | false =>
           have HW := Kept.mk hwd.symm
           have HRes : Kept (R0 = .ok (.mk 0 false [] ws gs rs [] [], us)) := ⟨by
             rw [HRr.out]
             obtain ⟨k, rfl⟩ : ∃ j, k = j + 1 := ⟨k - 1, by have := HN.out; omega⟩
             rw [simpleF, if_neg (by rw [HRd.out]; decide), if_neg (by rw [hwd]; decide)]
             show (if (ws.isEmpty && gs.isEmpty && rs.isEmpty) = true then _ else _) = _
             rw [if_neg]
             intro hem
             rw [Bool.and_eq_true, Bool.and_eq_true, List.isEmpty_iff, List.isEmpty_iff, List.isEmpty_iff] at hem
             obtain ⟨⟨rfl, rfl⟩, rfl⟩ := hem
             have he := HEm.out rfl
             have hf := HFst.out
             rw [← he, hwd, HRd.out] at hf
             cases hf⟩
           clear hwd HRr
           go_upto_region 3 with (first
             | (go_at_call 140; refine (atRedirection_any _ g d us HB.out.pm false HRd2.out).mono ?_; rintro e w6 ⟨rfl, hb⟩; have HBe := Kept.mk (HB.out.below hb); have HOe := Kept.mk hb; have c3 : w6.cell? ⟨nb, 3, none⟩ = some (.slice A9 LL k9) := (cell_of_row _ _ 3 _ _ _ HBe.out.row).trans (congrArg some HV9.out); clear hb)
             | (go_at_call 100; refine (atWord_any _ g d us HBe.out.pm false HW.out).mono ?_; rintro e w8 ⟨rfl, hb⟩; have HB4 := Kept.mk (HBe.out.below hb); have HO4 : Kept (Only (· = g) wr w8) := ⟨(Only.refl _ _).below (HOe.out.trans (hb.mono HOe.out.size))⟩; clear hb HBe HOe))
           have HGw4 : Kept (Gr bz w8 (nb + 1) 61 1 WC vw ws) := ⟨HGw.out.on wc_stable (B := (· = g)) HO4.out (fun b h1 h2 => by have := HB.out.gn; have := HB.out.nr; omega) (fun o h1 h2 => by have := HGw.out.lt o h1; have := HB.out.gn; have := HB.out.nr; omega) (fun _ h => h) (fun _ _ h => h)⟩
           have HGa4 : Kept (Gr bz w8 (nb + 1) 63 2 AC va gs) := ⟨HGa.out.on ac_stable (B := (· = g)) HO4.out (fun b h1 h2 => by have := HB.out.gn; have := HB.out.nr; omega) (fun o h1 h2 => by have := HGa.out.lt o h1; have := HB.out.gn; have := HB.out.nr; omega) (fun _ h => h) (fun _ _ h => h)⟩
           have HGr4 : Kept (Gr bz w8 (nb + 1) 66 2 AC vr rs) := ⟨HGr.out.on ac_stable (B := (· = g)) HO4.out (fun b h1 h2 => by have := HB.out.gn; have := HB.out.nr; omega) (fun o h1 h2 => by have := HGr.out.lt o h1; have := HB.out.gn; have := HB.out.nr; omega) (fun _ h => h) (fun _ _ h => h)⟩
           have HZ4 : Kept (∀ b, bz b → b < w8.heap.size) := ⟨fun b h => Nat.lt_of_lt_of_le (HZ.out b h) (HO4.out).size⟩
           obtain ⟨A1, k1, rfl⟩ := HGw4.out.slice
           obtain ⟨A2, k2, rfl⟩ := HGa4.out.slice
           obtain ⟨A3, k3, rfl⟩ := HGr4.out.slice
           obtain ⟨old, hres, ho8⟩ := HB4.out.res
           have HOld := Kept.mk hres
           have HD := Kept.mk HB4.out.done
           have HFw := Kept.mk (fun cs : Array Value => sl_done wc_stable (HGw4.out.read wc_stable (by decide)) (r := w.heap.size) (n := w.heap.size) (by have := HB4.out.nr; omega) (by have := HB4.out.nr; omega) cs)
           have HFa := Kept.mk (fun cs : Array Value => sl_done ac_stable (HGa4.out.read ac_stable (by decide)) (r := w.heap.size) (n := w.heap.size) (by have := HB4.out.nr; omega) (by have := HB4.out.nr; omega) cs)
           have HFr := Kept.mk (fun cs : Array Value => sl_done ac_stable (HGr4.out.read ac_stable (by decide)) (r := w.heap.size) (n := w.heap.size) (by have := HB4.out.nr; omega) (by have := HB4.out.nr; omega) cs)
           clear hres
           try clear c3
           refine App.give (n := 3) (r := 2) (t := 12) (nt := 31) (rb := w.heap.size) HB4.out.row HOld.out Tryz.underlying31 rfl (by kernel_rfl) ho8 (all_node _ _ _ _ _ _ _ _ _ _ _ _ _ _ _ _ _ _) rfl rfl (by decide) (by simp) ?_
           go_wp2_with fail
           refine bodyPost_ret (results_cell_row rfl _ _ w.heap.size _ _ (0, 0) _ rfl HD.out.1 Tryz.underlying31 rfl (by kernel_rfl)) rfl ?_
           rw [HRes.out]
           exact ⟨_, rfl, ⟨nv_simple (HFw.out _) (HFa.out _) (HFr.out _)⟩, ⟨HD.out.2.1⟩, ⟨HD.out.2.2⟩⟩
         | true =>
           have HW := Kept.mk hwd.symm
           have HRc : Kept (match partsT us with | .error e => R0 = .error e | .ok (x, r2) => ∃ j, k = j + 1 ∧ r2.length < us.length ∧ R0 = andThen (simpleF j ⟨ws ++ [x], gs, rs⟩ r2) fun s r => if s.words.isEmpty && s.assigns.isEmpty && s.redirs.isEmpty then .error 100 else .ok (.mk 0 false [] s.words s.assigns s.redirs [] [], r)) := ⟨by
             obtain ⟨j, rfl⟩ : ∃ j, k = j + 1 := ⟨k - 1, by have := HN.out; omega⟩
             have := HRr.out
             rw [simpleF, if_neg (by rw [HRd.out]; decide), if_pos hwd, if_neg (by rw [HNa.out]; decide)] at this
             cases hcu : partsT us with
             | error e => rw [hcu] at this; exact this
             | ok z =>
               rw [hcu] at this
               exact ⟨j, rfl, partsT_lt _ _ _ hcu, this⟩⟩
           clear hwd HRr
           go_upto_region 9 with (first
             | (go_at_call 140; refine (atRedirection_any _ g d us HB.out.pm false HRd2.out).mono ?_; rintro e w6 ⟨rfl, hb⟩; have HBe := Kept.mk (HB.out.below hb); have HOe := Kept.mk hb; have c3 : w6.cell? ⟨nb, 3, none⟩ = some (.slice A9 LL k9) := (cell_of_row _ _ 3 _ _ _ HBe.out.row).trans (congrArg some HV9.out); clear hb)
             | (go_at_call 100; refine (atWord_any _ g d us HBe.out.pm true HW.out).mono ?_; rintro e w8 ⟨rfl, hb⟩; have HB4 := Kept.mk (HBe.out.below hb); have HO4 : Kept (Only (· = g) wr w8) := ⟨(Only.refl _ _).below (HOe.out.trans (hb.mono HOe.out.size))⟩; clear hb HBe HOe))
           have HGw4 : Kept (Gr bz w8 (nb + 1) 61 1 WC vw ws) := ⟨HGw.out.on wc_stable (B := (· = g)) HO4.out (fun b h1 h2 => by have := HB.out.gn; have := HB.out.nr; omega) (fun o h1 h2 => by have := HGw.out.lt o h1; have := HB.out.gn; have := HB.out.nr; omega) (fun _ h => h) (fun _ _ h => h)⟩
           have HGa4 : Kept (Gr bz w8 (nb + 1) 63 2 AC va gs) := ⟨HGa.out.on ac_stable (B := (· = g)) HO4.out (fun b h1 h2 => by have := HB.out.gn; have := HB.out.nr; omega) (fun o h1 h2 => by have := HGa.out.lt o h1; have := HB.out.gn; have := HB.out.nr; omega) (fun _ h => h) (fun _ _ h => h)⟩
           have HGr4 : Kept (Gr bz w8 (nb + 1) 66 2 AC vr rs) := ⟨HGr.out.on ac_stable (B := (· = g)) HO4.out (fun b h1 h2 => by have := HB.out.gn; have := HB.out.nr; omega) (fun o h1 h2 => by have := HGr.out.lt o h1; have := HB.out.gn; have := HB.out.nr; omega) (fun _ h => h) (fun _ _ h => h)⟩
           have HZ4 : Kept (∀ b, bz b → b < w8.heap.size) := ⟨fun b h => Nat.lt_of_lt_of_le (HZ.out b h) (HO4.out).size⟩
           clear HB HGw HGa HGr HZ HO4
           try clear c3
           obtain ⟨tiWords, zWords, hftWords⟩ := fitsWords (nb) g 101 (fun W => by kernel_rfl)
           have FTWords := Kept.mk hftWords
           clear hftWords
           refine grow wc_stable (n := 3) (p := 0) (t := 42) (fo := 3) (off := 3) (nt := 31) (lt := 26) (et := 61) (pt := 94) (rt := 61) (f := 101) (fun d _ _ _ _ h => by cases d <;> exact h) FTWords.out (by kernel_rfl) (by kernel_rfl) (by decide) (by decide) (by simp) rfl rfl HB4.out.row rfl HGw4.out HB4.out.pm HZ4.out rfl (by have := HB4.out.gn; have := HB4.out.nr; omega) (by have := HKs.out; omega) (by decide) (fun W h => word_c g d W us h) (val := fun W w9 => LV (Nw W.heap.size) w9) valWord ?_ ?_
           · intro e we he ho a' hd
             have hR := HRc.out
             rw [he] at hR
             refine ⟨hd, ?_⟩
             rw [hR]
             exact ⟨rfl, ⟨only_two HB4.out.only ho.out⟩⟩
           · intro x r2 hx w6 v2 bz2 u2 s2 q2 hrow hgr hpm hz1 hz2 hz3 honly hlies
             have hR := HRc.out
             rw [hx] at hR
             obtain ⟨j, rfl, hlt, hRj⟩ := hR
             have HRj := Kept.mk hRj
             have HLt2 := Kept.mk hlt
             have HB5 := Kept.mk (HB4.out.grown hrow.out hpm.out honly.out (fun o h => by have := HGw4.out.lt o h; omega))
             have HGw5 := hgr
             have HGa5 := Kept.mk (HGa4.out.beside ac_stable honly.out (by have := HB4.out.gn; have := HB4.out.nr; omega) HGw4.out.busy HAp.out.1.symm hz1 hz2)
             have HGr5 := Kept.mk (HGr4.out.beside ac_stable honly.out (by have := HB4.out.gn; have := HB4.out.nr; omega) HGw4.out.busy HAp.out.2.1.symm hz1 hz2)
             have HAp5 : Kept (Apart v2 va ∧ Apart v2 vr ∧ Apart va vr) := ⟨⟨(apart_new (fun o h => (HGa4.out.lt o h).2) HAp.out.1.symm hlies).symm, (apart_new (fun o h => (HGr4.out.lt o h).2) HAp.out.2.1.symm hlies).symm, HAp.out.2.2⟩⟩
             have HZ5 := Kept.mk hz3
             clear hrow hpm honly hlies hz1 hz2 hz3 hRj hlt hgr HRc hx
             simp only [Act.put, List.setIfInBounds_toArray, List.set_cons_zero, List.set_cons_succ]
             go_wp2_with fail
             go_roundg r2.length
             case measure => have := HM.out; have := HLt2.out; omega
             case rel => exact ⟨r2, ws ++ [x], gs, rs, v2, va, vr, bz2, j, Nat.le_refl _, HB5, HGw5, HGa5, HGr5, HAp5, HZ5, ⟨by have := HKs.out; have := HLt2.out; rw [List.length_append, List.length_singleton]; omega⟩, ⟨by have := HN.out; have := HLt2.out; omega⟩, ⟨by rw [List.length_append, List.length_singleton]; omega⟩, HRj⟩
 | false =>
   have HW0 := Kept.mk hw.symm
   cases hrd0 : redir ts with
   | false =>
     have HD0 := Kept.mk hrd0.symm
     obtain rfl : R0 = .error 100 := by rw [hR0]; exact simple_bad hrd0 hw
     clear h hR0 hw hrd0
     go_enter Tryz.func144, Tryz.ntmps144
     go_wp2_with (first
       | (go_at_call 100; refine (atWord_any _ g d ts H.out false HW0.out).mono ?_; rintro e w2 ⟨rfl, hb⟩; have HP1 := Kept.mk (H.out.below hb); have HO1 : Kept (Only (· = g) w w2) := ⟨only_alloc ((Only.refl _ _).below hb)⟩; clear hb)
       | (go_at_call 140; refine (atRedirection_any _ g d ts HP1.out false HD0.out).mono ?_; rintro e w3 ⟨rfl, hb⟩; have HO2 : Kept (Only (· = g) w w3) := ⟨only_on HO1.out hb⟩; clear hb)
       | (go_at_call 26; refine (check_any _ false 100).mono ?_; rintro e w4 ⟨rfl, rfl⟩))
     first | exact ⟨rfl, rfl, HO2⟩ | exact ⟨rfl, HO2⟩
   | true =>
     have HD0 := Kept.mk hrd0.symm
     have HFst : Kept ((wordT ts || redir ts) = true) := ⟨by rw [hrd0, Bool.or_true]⟩
     clear h hR0 hw hrd0
     go_enter Tryz.func144, Tryz.ntmps144
     go_wp2_with (first
       | (go_at_call 100; refine (atWord_any _ g d ts H.out false HW0.out).mono ?_; rintro e w1 ⟨rfl, hb⟩; have HP1 := Kept.mk (H.out.below hb); have HO1 := Kept.mk hb; clear hb)
       | (go_at_call 140; refine (atRedirection_any _ g d ts HP1.out true HD0.out).mono ?_; rintro e w2 ⟨rfl, hb⟩; have HO2 := Kept.mk (HO1.out.trans (hb.mono HO1.out.size)); have HB := Kept.mk (BS.hold (w0 := w) (res_on ((Only.refl _ _).below HO2.out) HGl.out rfl) (HP1.out.below hb) (only_alloc ((Only.refl _ _).below HO2.out)) HGl.out #[.int .i64 0, .bool false, .string ⟨#[]⟩, .slice none 0 0, .slice none 0 0, .slice none 0 0, .slice none 0 0, .slice none 0 0]); clear hb)
       | (go_at_call 26; refine (check_any _ true 100).mono ?_; rintro e w3 ⟨rfl, rfl⟩))
     clear H HW0 HD0 HP1 HO1 HO2
     generalize w2.alloc (.cells #[.int .i64 0, .bool false, .string ⟨#[]⟩, .slice none 0 0, .slice none 0 0, .slice none 0 0, .slice none 0 0, .slice none 0 0] 31) = w4 at *
     generalize w2.heap.size = nb at *
     go_loopg [] ts.length (fun m wr => ∃ us ws gs rs vw va vr bz k, us.length ≤ m ∧ Kept (BS w wr g d nb #[.int .i64 0, .bool false, .string ⟨#[]⟩, vw, va, vr, .slice none 0 0, .slice none 0 0] us) ∧ Kept (Gr bz wr (nb + 1) 61 1 WC vw ws) ∧ Kept (Gr bz wr (nb + 1) 63 2 AC va gs) ∧ Kept (Gr bz wr (nb + 1) 66 2 AC vr rs) ∧ Kept (Apart vw va ∧ Apart vw vr ∧ Apart va vr) ∧ Kept (∀ b, bz b → b < wr.heap.size) ∧ Kept (ws.length + gs.length + rs.length + us.length ≤ 20000) ∧ Kept (us.length + 1 ≤ k) ∧ Kept (ws.length + gs.length + rs.length = 0 → us = ts) ∧ Kept (R0 = andThen (simpleF k ⟨ws, gs, rs⟩ us) fun s r => if s.words.isEmpty && s.assigns.isEmpty && s.redirs.isEmpty then .error 100 else .ok (.mk 0 false [] s.words s.assigns s.redirs [] [], r)))
     case atStart => exact ⟨ts, [], [], [], .slice none 0 0, .slice none 0 0, .slice none 0 0, fun _ => False, ts.length + 1, Nat.le_refl _, HB, ⟨Gr.nil wc_stable _ _ _ _ _⟩, ⟨Gr.nil ac_stable _ _ _ _ _⟩, ⟨Gr.nil ac_stable _ _ _ _ _⟩, ⟨⟨fun o h => (by cases h), fun o h => (by cases h), fun o h => (by cases h)⟩⟩, ⟨fun _ h => h.elim⟩, ⟨by have := HFew.out; simpa using this⟩, ⟨Nat.le_refl _⟩, ⟨fun _ => rfl⟩, HR⟩
     case round =>
       obtain ⟨us, ws, gs, rs, vw, va, vr, bz, k, hm, HB, HGw, HGa, HGr, HAp, HZ, HKs, HN, HEm, HRr⟩ := hrel
       have HM := Kept.mk hm
       clear hm HR
       cases hrd : redir us with
       | true =>
         have HRd := Kept.mk hrd.symm
         obtain ⟨u1, us1, rfl⟩ : ∃ u1 us1, us = u1 :: us1 := by
           cases us with
           | nil => cases hrd
           | cons a b => exact ⟨a, b, rfl⟩
         have HRc : Kept (match redirect (u1 :: us1) with | .error e => R0 = .error e | .ok (x, r2) => ∃ j, k = j + 1 ∧ r2.length < (u1 :: us1).length ∧ R0 = andThen (simpleF j ⟨ws, gs, rs ++ [x]⟩ r2) fun s r => if s.words.isEmpty && s.assigns.isEmpty && s.redirs.isEmpty then .error 100 else .ok (.mk 0 false [] s.words s.assigns s.redirs [] [], r)) := ⟨by
           obtain ⟨j, rfl⟩ : ∃ j, k = j + 1 := ⟨k - 1, by have := HN.out; omega⟩
           have := HRr.out
           rw [simpleF, if_pos hrd] at this
           cases hcu : redirect (u1 :: us1) with
           | error e => rw [hcu] at this; exact this
           | ok z =>
             rw [hcu] at this
             exact ⟨j, rfl, redirect_lt hcu, this⟩⟩
         clear hrd HRr
         go_upto_region 5 with (first
           | (go_at_call 140; refine (atRedirection_any _ g d (u1 :: us1) HB.out.pm true HRd.out).mono ?_; rintro e w8 ⟨rfl, hb⟩; have HB4 := Kept.mk (HB.out.below hb); have HO4 : Kept (Only (· = g) wr w8) := ⟨(Only.refl _ _).below hb⟩; clear hb))
         have HGw4 : Kept (Gr bz w8 (nb + 1) 61 1 WC vw ws) := ⟨HGw.out.on wc_stable (B := (· = g)) HO4.out (fun b h1 h2 => by have := HB.out.gn; have := HB.out.nr; omega) (fun o h1 h2 => by have := HGw.out.lt o h1; have := HB.out.gn; have := HB.out.nr; omega) (fun _ h => h) (fun _ _ h => h)⟩
         have HGa4 : Kept (Gr bz w8 (nb + 1) 63 2 AC va gs) := ⟨HGa.out.on ac_stable (B := (· = g)) HO4.out (fun b h1 h2 => by have := HB.out.gn; have := HB.out.nr; omega) (fun o h1 h2 => by have := HGa.out.lt o h1; have := HB.out.gn; have := HB.out.nr; omega) (fun _ h => h) (fun _ _ h => h)⟩
         have HGr4 : Kept (Gr bz w8 (nb + 1) 66 2 AC vr rs) := ⟨HGr.out.on ac_stable (B := (· = g)) HO4.out (fun b h1 h2 => by have := HB.out.gn; have := HB.out.nr; omega) (fun o h1 h2 => by have := HGr.out.lt o h1; have := HB.out.gn; have := HB.out.nr; omega) (fun _ h => h) (fun _ _ h => h)⟩
         have HZ4 : Kept (∀ b, bz b → b < w8.heap.size) := ⟨fun b h => Nat.lt_of_lt_of_le (HZ.out b h) (HO4.out).size⟩
         clear HB HGw HGa HGr HZ HO4
         obtain ⟨tiRedirs, zRedirs, hftRedirs⟩ := fitsRedirs (nb) g 141 (fun W => by kernel_rfl)
         have FTRedirs := Kept.mk hftRedirs
         clear hftRedirs
         refine grow ac_stable (n := 3) (p := 0) (t := 16) (fo := 5) (off := 5) (nt := 31) (lt := 28) (et := 66) (pt := 94) (rt := 66) (f := 141) (fun d _ _ _ _ h => by cases d <;> exact h) FTRedirs.out (by kernel_rfl) (by kernel_rfl) (by decide) (by decide) (by simp) rfl rfl HB4.out.row rfl HGr4.out HB4.out.pm HZ4.out rfl (by have := HB4.out.gn; have := HB4.out.nr; omega) (by have := HKs.out; omega) (by decide) (fun W h => redirection_c g d u1 us1 W h) (val := fun W w9 => redV (Nw W.heap.size) w9) valRed ?_ ?_
         · intro e we he ho a' hd
           have hR := HRc.out
           rw [he] at hR
           refine ⟨hd, ?_⟩
           rw [hR]
           exact ⟨rfl, ⟨only_two HB4.out.only ho.out⟩⟩
         · intro x r2 hx w6 v2 bz2 u2 s2 q2 hrow hgr hpm hz1 hz2 hz3 honly hlies
           have hR := HRc.out
           rw [hx] at hR
           obtain ⟨j, rfl, hlt, hRj⟩ := hR
           have HRj := Kept.mk hRj
           have HLt2 := Kept.mk hlt
           have HB5 := Kept.mk (HB4.out.grown hrow.out hpm.out honly.out (fun o h => by have := HGr4.out.lt o h; omega))
           have HGr5 := hgr
           have HGw5 := Kept.mk (HGw4.out.beside wc_stable honly.out (by have := HB4.out.gn; have := HB4.out.nr; omega) HGr4.out.busy HAp.out.2.1 hz1 hz2)
           have HGa5 := Kept.mk (HGa4.out.beside ac_stable honly.out (by have := HB4.out.gn; have := HB4.out.nr; omega) HGr4.out.busy HAp.out.2.2 hz1 hz2)
           have HAp5 : Kept (Apart vw va ∧ Apart vw v2 ∧ Apart va v2) := ⟨⟨HAp.out.1, apart_new (fun o h => (HGw4.out.lt o h).2) HAp.out.2.1 hlies, apart_new (fun o h => (HGa4.out.lt o h).2) HAp.out.2.2 hlies⟩⟩
           have HZ5 := Kept.mk hz3
           clear hrow hpm honly hlies hz1 hz2 hz3 hRj hlt hgr HRc hx
           simp only [Act.put, List.setIfInBounds_toArray, List.set_cons_zero, List.set_cons_succ]
           go_wp2_with fail
           go_roundg r2.length
           case measure => have := HM.out; have := HLt2.out; omega
           case rel => exact ⟨r2, ws, gs, rs ++ [x], vw, va, v2, bz2, j, Nat.le_refl _, HB5, HGw5, HGa5, HGr5, HAp5, HZ5, ⟨by have := HKs.out; have := HLt2.out; rw [List.length_append, List.length_singleton]; omega⟩, ⟨by have := HN.out; have := HLt2.out; omega⟩, ⟨by rw [List.length_append, List.length_singleton]; omega⟩, HRj⟩
       | false =>
         have HRd : Kept (redir us = false) := ⟨hrd⟩
         have HRd2 := Kept.mk hrd.symm
         clear hrd
         cases ws with
         | nil =>
           obtain ⟨A9, k9, rfl⟩ := HGw.out.slice
           have c3 := cell_of_row _ _ 3 _ _ _ HB.out.row
           cases has : asgT (textT us) with
           | true =>
             have hwd := asg_word HB.out.pm.good has
             obtain ⟨u1, us1, rfl⟩ : ∃ u1 us1, us = u1 :: us1 := by
               cases us with
               | nil => cases hwd
               | cons a b => exact ⟨a, b, rfl⟩
             have has1 : asgT u1.text = true := has
             have HA1 := Kept.mk has1
             have HA := Kept.mk has.symm
             have HRc : Kept (match asgR u1 us1 with | .error e => R0 = .error e | .ok (x, r2) => ∃ j, k = j + 1 ∧ r2.length < (u1 :: us1).length ∧ R0 = andThen (simpleF j ⟨[], gs ++ [x], rs⟩ r2) fun s r => if s.words.isEmpty && s.assigns.isEmpty && s.redirs.isEmpty then .error 100 else .ok (.mk 0 false [] s.words s.assigns s.redirs [] [], r)) := ⟨by
               obtain ⟨j, rfl⟩ : ∃ j, k = j + 1 := ⟨k - 1, by have := HN.out; omega⟩
               have := HRr.out
               rw [simpleF, if_neg (by rw [HRd.out]; decide), if_pos hwd, if_pos (by show (true && asgT u1.text) = true; rw [has1]; rfl)] at this
               unfold asgR
               have ht : textT (u1 :: us1) = u1.text := rfl
               rw [ht] at this
               cases hcu : parts 30 (u1.text.drop (Wx.nameL u1.text + 1)) with
               | error e => rw [hcu] at this; exact this
               | ok z =>
                 rw [hcu] at this
                 exact ⟨j, rfl, by simp, this⟩⟩
             clear has has1 hwd HRr
             go_upto_region 7 with (first
               | (go_at_call 140; refine (atRedirection_any _ g d (u1 :: us1) HB.out.pm false HRd2.out).mono ?_; rintro e w7 ⟨rfl, hb⟩; have HBe := Kept.mk (HB.out.below hb); have HOe := Kept.mk hb; have c3' := cell_of_row _ _ 3 _ _ _ HBe.out.row; clear hb)
               | (go_at_call 164; refine (atAssignment_any _ g d (u1 :: us1) HBe.out.pm true HA.out).mono ?_; rintro e w8 ⟨rfl, hb⟩; have HB4 := Kept.mk (HBe.out.below hb); have HO4 : Kept (Only (· = g) wr w8) := ⟨(Only.refl _ _).below (HOe.out.trans (hb.mono HOe.out.size))⟩; clear hb))
             have HGw4 : Kept (Gr bz w8 (nb + 1) 61 1 WC (.slice A9 ([] : List (List Pt)).length k9) []) := ⟨HGw.out.on wc_stable (B := (· = g)) HO4.out (fun b h1 h2 => by have := HB.out.gn; have := HB.out.nr; omega) (fun o h1 h2 => by have := HGw.out.lt o h1; have := HB.out.gn; have := HB.out.nr; omega) (fun _ h => h) (fun _ _ h => h)⟩
             have HGa4 : Kept (Gr bz w8 (nb + 1) 63 2 AC va gs) := ⟨HGa.out.on ac_stable (B := (· = g)) HO4.out (fun b h1 h2 => by have := HB.out.gn; have := HB.out.nr; omega) (fun o h1 h2 => by have := HGa.out.lt o h1; have := HB.out.gn; have := HB.out.nr; omega) (fun _ h => h) (fun _ _ h => h)⟩
             have HGr4 : Kept (Gr bz w8 (nb + 1) 66 2 AC vr rs) := ⟨HGr.out.on ac_stable (B := (· = g)) HO4.out (fun b h1 h2 => by have := HB.out.gn; have := HB.out.nr; omega) (fun o h1 h2 => by have := HGr.out.lt o h1; have := HB.out.gn; have := HB.out.nr; omega) (fun _ h => h) (fun _ _ h => h)⟩
             have HZ4 : Kept (∀ b, bz b → b < w8.heap.size) := ⟨fun b h => Nat.lt_of_lt_of_le (HZ.out b h) (HO4.out).size⟩
             clear HB HGw HGa HGr HZ HO4 HBe HOe c3 c3'
             obtain ⟨tiAssigns, zAssigns, hftAssigns⟩ := fitsAssigns (nb) g 165 (fun W => by kernel_rfl)
             have FTAssigns := Kept.mk hftAssigns
             clear hftAssigns
             refine grow ac_stable (n := 3) (p := 0) (t := 32) (fo := 4) (off := 4) (nt := 31) (lt := 27) (et := 63) (pt := 94) (rt := 63) (f := 165) (fun d _ _ _ _ h => by cases d <;> exact h) FTAssigns.out (by kernel_rfl) (by kernel_rfl) (by decide) (by decide) (by simp) rfl rfl HB4.out.row rfl HGa4.out HB4.out.pm HZ4.out rfl (by have := HB4.out.gn; have := HB4.out.nr; omega) (by have := HKs.out; omega) (by decide) (fun W h => assignment_c g d u1 us1 HA1.out W h) (val := fun W w9 => redV (Nw W.heap.size) w9) valAsg ?_ ?_
             · intro e we he ho a' hd
               have hR := HRc.out
               rw [he] at hR
               refine ⟨hd, ?_⟩
               rw [hR]
               exact ⟨rfl, ⟨only_two HB4.out.only ho.out⟩⟩
             · intro x r2 hx w6 v2 bz2 u2 s2 q2 hrow hgr hpm hz1 hz2 hz3 honly hlies
               have hR := HRc.out
               rw [hx] at hR
               obtain ⟨j, rfl, hlt, hRj⟩ := hR
               have HRj := Kept.mk hRj
               have HLt2 := Kept.mk hlt
               have HB5 := Kept.mk (HB4.out.grown hrow.out hpm.out honly.out (fun o h => by have := HGa4.out.lt o h; omega))
               have HGa5 := hgr
               have HGw5 := Kept.mk (HGw4.out.beside wc_stable honly.out (by have := HB4.out.gn; have := HB4.out.nr; omega) HGa4.out.busy HAp.out.1 hz1 hz2)
               have HGr5 := Kept.mk (HGr4.out.beside ac_stable honly.out (by have := HB4.out.gn; have := HB4.out.nr; omega) HGa4.out.busy HAp.out.2.2.symm hz1 hz2)
               have HAp5 : Kept (Apart (.slice A9 ([] : List (List Pt)).length k9) v2 ∧ Apart (.slice A9 ([] : List (List Pt)).length k9) vr ∧ Apart v2 vr) := ⟨⟨apart_new (fun o h => (HGw4.out.lt o h).2) HAp.out.1 hlies, HAp.out.2.1, (apart_new (fun o h => (HGr4.out.lt o h).2) HAp.out.2.2.symm hlies).symm⟩⟩
               have HZ5 := Kept.mk hz3
               clear hrow hpm honly hlies hz1 hz2 hz3 hRj hlt hgr HRc hx
               simp only [Act.put, List.setIfInBounds_toArray, List.set_cons_zero, List.set_cons_succ]
               go_wp2_with fail
               go_roundg r2.length
               case measure => have := HM.out; have := HLt2.out; omega
               case rel => exact ⟨r2, [], gs ++ [x], rs, _, v2, vr, bz2, j, Nat.le_refl _, HB5, HGw5, HGa5, HGr5, HAp5, HZ5, ⟨by have := HKs.out; have := HLt2.out; rw [List.length_append, List.length_singleton]; omega⟩, ⟨by have := HN.out; have := HLt2.out; omega⟩, ⟨by rw [List.length_append, List.length_singleton]; omega⟩, HRj⟩
           | false =>
             have HA := Kept.mk has.symm
             have HNa : Kept ((([] : List (List Pt)).isEmpty && asgT (textT us)) = false) := ⟨by rw [has]; rfl⟩
             clear has
             cases hwd : wordT us with
             | false =>
               have HW := Kept.mk hwd.symm
               have HRes : Kept (R0 = .ok (.mk 0 false [] [] gs rs [] [], us)) := ⟨by
                 rw [HRr.out]
                 obtain ⟨k, rfl⟩ : ∃ j, k = j + 1 := ⟨k - 1, by have := HN.out; omega⟩
                 rw [simpleF, if_neg (by rw [HRd.out]; decide), if_neg (by rw [hwd]; decide)]
                 show (if (([] : List (List Pt)).isEmpty && gs.isEmpty && rs.isEmpty) = true then _ else _) = _
                 rw [if_neg]
                 intro hem
                 rw [Bool.and_eq_true, Bool.and_eq_true, List.isEmpty_iff, List.isEmpty_iff, List.isEmpty_iff] at hem
                 obtain ⟨⟨_, rfl⟩, rfl⟩ := hem
                 have he := HEm.out rfl
                 have hf := HFst.out
                 rw [← he, hwd, HRd.out] at hf
                 cases hf⟩
               clear hwd HRr
               go_upto_region 3 with (first
                 | (go_at_call 140; refine (atRedirection_any _ g d us HB.out.pm false HRd2.out).mono ?_; rintro e w6 ⟨rfl, hb⟩; have HBe := Kept.mk (HB.out.below hb); have HOe := Kept.mk hb; have c3' := cell_of_row _ _ 3 _ _ _ HBe.out.row; clear hb)
                 | (go_at_call 164; refine (atAssignment_any _ g d us HBe.out.pm false HA.out).mono ?_; rintro e w7 ⟨rfl, hb⟩; have HBf := Kept.mk (HBe.out.below hb); have HOf : Kept (Below wr.heap.size wr w7) := ⟨HOe.out.trans (hb.mono HOe.out.size)⟩; clear hb c3')
                 | (go_at_call 100; refine (atWord_any _ g d us HBf.out.pm false HW.out).mono ?_; rintro e w8 ⟨rfl, hb⟩; have HB4 := Kept.mk (HBf.out.below hb); have HO4 : Kept (Only (· = g) wr w8) := ⟨(Only.refl _ _).below (HOf.out.trans (hb.mono HOf.out.size))⟩; clear hb HBe HBf HOe HOf))
               have HGw4 : Kept (Gr bz w8 (nb + 1) 61 1 WC (.slice A9 ([] : List (List Pt)).length k9) []) := ⟨HGw.out.on wc_stable (B := (· = g)) HO4.out (fun b h1 h2 => by have := HB.out.gn; have := HB.out.nr; omega) (fun o h1 h2 => by have := HGw.out.lt o h1; have := HB.out.gn; have := HB.out.nr; omega) (fun _ h => h) (fun _ _ h => h)⟩
               have HGa4 : Kept (Gr bz w8 (nb + 1) 63 2 AC va gs) := ⟨HGa.out.on ac_stable (B := (· = g)) HO4.out (fun b h1 h2 => by have := HB.out.gn; have := HB.out.nr; omega) (fun o h1 h2 => by have := HGa.out.lt o h1; have := HB.out.gn; have := HB.out.nr; omega) (fun _ h => h) (fun _ _ h => h)⟩
               have HGr4 : Kept (Gr bz w8 (nb + 1) 66 2 AC vr rs) := ⟨HGr.out.on ac_stable (B := (· = g)) HO4.out (fun b h1 h2 => by have := HB.out.gn; have := HB.out.nr; omega) (fun o h1 h2 => by have := HGr.out.lt o h1; have := HB.out.gn; have := HB.out.nr; omega) (fun _ h => h) (fun _ _ h => h)⟩
               have HZ4 : Kept (∀ b, bz b → b < w8.heap.size) := ⟨fun b h => Nat.lt_of_lt_of_le (HZ.out b h) (HO4.out).size⟩
               skip
               obtain ⟨A2, k2, rfl⟩ := HGa4.out.slice
               obtain ⟨A3, k3, rfl⟩ := HGr4.out.slice
               obtain ⟨old, hres, ho8⟩ := HB4.out.res
               have HOld := Kept.mk hres
               have HD := Kept.mk HB4.out.done
               have HFw := Kept.mk (fun cs : Array Value => sl_done wc_stable (HGw4.out.read wc_stable (by decide)) (r := w.heap.size) (n := w.heap.size) (by have := HB4.out.nr; omega) (by have := HB4.out.nr; omega) cs)
               have HFa := Kept.mk (fun cs : Array Value => sl_done ac_stable (HGa4.out.read ac_stable (by decide)) (r := w.heap.size) (n := w.heap.size) (by have := HB4.out.nr; omega) (by have := HB4.out.nr; omega) cs)
               have HFr := Kept.mk (fun cs : Array Value => sl_done ac_stable (HGr4.out.read ac_stable (by decide)) (r := w.heap.size) (n := w.heap.size) (by have := HB4.out.nr; omega) (by have := HB4.out.nr; omega) cs)
               clear hres
               try clear c3
               refine App.give (n := 3) (r := 2) (t := 12) (nt := 31) (rb := w.heap.size) HB4.out.row HOld.out Tryz.underlying31 rfl (by kernel_rfl) ho8 (all_node _ _ _ _ _ _ _ _ _ _ _ _ _ _ _ _ _ _) rfl rfl (by decide) (by simp) ?_
               go_wp2_with fail
               refine bodyPost_ret (results_cell_row rfl _ _ w.heap.size _ _ (0, 0) _ rfl HD.out.1 Tryz.underlying31 rfl (by kernel_rfl)) rfl ?_
               rw [HRes.out]
               exact ⟨_, rfl, ⟨nv_simple (HFw.out _) (HFa.out _) (HFr.out _)⟩, ⟨HD.out.2.1⟩, ⟨HD.out.2.2⟩⟩
             | true =>
               have HW := Kept.mk hwd.symm
               have HRc : Kept (match partsT us with | .error e => R0 = .error e | .ok (x, r2) => ∃ j, k = j + 1 ∧ r2.length < us.length ∧ R0 = andThen (simpleF j ⟨[] ++ [x], gs, rs⟩ r2) fun s r => if s.words.isEmpty && s.assigns.isEmpty && s.redirs.isEmpty then .error 100 else .ok (.mk 0 false [] s.words s.assigns s.redirs [] [], r)) := ⟨by
                 obtain ⟨j, rfl⟩ : ∃ j, k = j + 1 := ⟨k - 1, by have := HN.out; omega⟩
                 have := HRr.out
                 rw [simpleF, if_neg (by rw [HRd.out]; decide), if_pos hwd, if_neg (by rw [HNa.out]; decide)] at this
                 cases hcu : partsT us with
                 | error e => rw [hcu] at this; exact this
                 | ok z =>
                   rw [hcu] at this
                   exact ⟨j, rfl, partsT_lt _ _ _ hcu, this⟩⟩
               clear hwd HRr
               go_upto_region 9 with (first
                 | (go_at_call 140; refine (atRedirection_any _ g d us HB.out.pm false HRd2.out).mono ?_; rintro e w6 ⟨rfl, hb⟩; have HBe := Kept.mk (HB.out.below hb); have HOe := Kept.mk hb; have c3' := cell_of_row _ _ 3 _ _ _ HBe.out.row; clear hb)
                 | (go_at_call 164; refine (atAssignment_any _ g d us HBe.out.pm false HA.out).mono ?_; rintro e w7 ⟨rfl, hb⟩; have HBf := Kept.mk (HBe.out.below hb); have HOf : Kept (Below wr.heap.size wr w7) := ⟨HOe.out.trans (hb.mono HOe.out.size)⟩; clear hb c3')
                 | (go_at_call 100; refine (atWord_any _ g d us HBf.out.pm true HW.out).mono ?_; rintro e w8 ⟨rfl, hb⟩; have HB4 := Kept.mk (HBf.out.below hb); have HO4 : Kept (Only (· = g) wr w8) := ⟨(Only.refl _ _).below (HOf.out.trans (hb.mono HOf.out.size))⟩; clear hb HBe HBf HOe HOf))
               have HGw4 : Kept (Gr bz w8 (nb + 1) 61 1 WC (.slice A9 ([] : List (List Pt)).length k9) []) := ⟨HGw.out.on wc_stable (B := (· = g)) HO4.out (fun b h1 h2 => by have := HB.out.gn; have := HB.out.nr; omega) (fun o h1 h2 => by have := HGw.out.lt o h1; have := HB.out.gn; have := HB.out.nr; omega) (fun _ h => h) (fun _ _ h => h)⟩
               have HGa4 : Kept (Gr bz w8 (nb + 1) 63 2 AC va gs) := ⟨HGa.out.on ac_stable (B := (· = g)) HO4.out (fun b h1 h2 => by have := HB.out.gn; have := HB.out.nr; omega) (fun o h1 h2 => by have := HGa.out.lt o h1; have := HB.out.gn; have := HB.out.nr; omega) (fun _ h => h) (fun _ _ h => h)⟩
               have HGr4 : Kept (Gr bz w8 (nb + 1) 66 2 AC vr rs) := ⟨HGr.out.on ac_stable (B := (· = g)) HO4.out (fun b h1 h2 => by have := HB.out.gn; have := HB.out.nr; omega) (fun o h1 h2 => by have := HGr.out.lt o h1; have := HB.out.gn; have := HB.out.nr; omega) (fun _ h => h) (fun _ _ h => h)⟩
               have HZ4 : Kept (∀ b, bz b → b < w8.heap.size) := ⟨fun b h => Nat.lt_of_lt_of_le (HZ.out b h) (HO4.out).size⟩
               clear HB HGw HGa HGr HZ HO4
               try clear c3
               obtain ⟨tiWords, zWords, hftWords⟩ := fitsWords (nb) g 101 (fun W => by kernel_rfl)
               have FTWords := Kept.mk hftWords
               clear hftWords
               refine grow wc_stable (n := 3) (p := 0) (t := 42) (fo := 3) (off := 3) (nt := 31) (lt := 26) (et := 61) (pt := 94) (rt := 61) (f := 101) (fun d _ _ _ _ h => by cases d <;> exact h) FTWords.out (by kernel_rfl) (by kernel_rfl) (by decide) (by decide) (by simp) rfl rfl HB4.out.row rfl HGw4.out HB4.out.pm HZ4.out rfl (by have := HB4.out.gn; have := HB4.out.nr; omega) (by have := HKs.out; omega) (by decide) (fun W h => word_c g d W us h) (val := fun W w9 => LV (Nw W.heap.size) w9) valWord ?_ ?_
               · intro e we he ho a' hd
                 have hR := HRc.out
                 rw [he] at hR
                 refine ⟨hd, ?_⟩
                 rw [hR]
                 exact ⟨rfl, ⟨only_two HB4.out.only ho.out⟩⟩
               · intro x r2 hx w6 v2 bz2 u2 s2 q2 hrow hgr hpm hz1 hz2 hz3 honly hlies
                 have hR := HRc.out
                 rw [hx] at hR
                 obtain ⟨j, rfl, hlt, hRj⟩ := hR
                 have HRj := Kept.mk hRj
                 have HLt2 := Kept.mk hlt
                 have HB5 := Kept.mk (HB4.out.grown hrow.out hpm.out honly.out (fun o h => by have := HGw4.out.lt o h; omega))
                 have HGw5 := hgr
                 have HGa5 := Kept.mk (HGa4.out.beside ac_stable honly.out (by have := HB4.out.gn; have := HB4.out.nr; omega) HGw4.out.busy HAp.out.1.symm hz1 hz2)
                 have HGr5 := Kept.mk (HGr4.out.beside ac_stable honly.out (by have := HB4.out.gn; have := HB4.out.nr; omega) HGw4.out.busy HAp.out.2.1.symm hz1 hz2)
                 have HAp5 : Kept (Apart v2 va ∧ Apart v2 vr ∧ Apart va vr) := ⟨⟨(apart_new (fun o h => (HGa4.out.lt o h).2) HAp.out.1.symm hlies).symm, (apart_new (fun o h => (HGr4.out.lt o h).2) HAp.out.2.1.symm hlies).symm, HAp.out.2.2⟩⟩
                 have HZ5 := Kept.mk hz3
                 clear hrow hpm honly hlies hz1 hz2 hz3 hRj hlt hgr HRc hx
                 simp only [Act.put, List.setIfInBounds_toArray, List.set_cons_zero, List.set_cons_succ]
                 go_wp2_with fail
                 go_roundg r2.length
                 case measure => have := HM.out; have := HLt2.out; omega
                 case rel => exact ⟨r2, [] ++ [x], gs, rs, v2, va, vr, bz2, j, Nat.le_refl _, HB5, HGw5, HGa5, HGr5, HAp5, HZ5, ⟨by have := HKs.out; have := HLt2.out; rw [List.length_append, List.length_singleton]; omega⟩, ⟨by have := HN.out; have := HLt2.out; omega⟩, ⟨by rw [List.length_append, List.length_singleton]; omega⟩, HRj⟩
         | cons w0 ws0 =>
           obtain ⟨ws, hws⟩ : ∃ ws, ws = w0 :: ws0 := ⟨_, rfl⟩
           have HNa : Kept ((ws.isEmpty && asgT (textT us)) = false) := ⟨by rw [hws]; rfl⟩
           have hl : ws.length ≠ 0 := by rw [hws]; simp
           rw [← hws] at HGw HKs HEm HRr
           clear hws
           obtain ⟨A9, k9, hv9⟩ := HGw.out.slice
           have c3 := cell_of_row _ _ 3 _ _ _ HB.out.row
           have HV9 := Kept.mk hv9
           have hz : ((ws.length : Int) == 0) = false := beq_eq_false_iff_ne.2 (by omega)
           have hz3 : ¬ ws.length = 0 := hl
           obtain ⟨LL, hLL⟩ : ∃ LL, LL = ws.length := ⟨_, rfl⟩
           rw [← hLL] at hz hz3 HV9
           clear hv9 hl hLL c3
           cases hwd : wordT us with
           | false =>
             have HW := Kept.mk hwd.symm
             have HRes : Kept (R0 = .ok (.mk 0 false [] ws gs rs [] [], us)) := ⟨by
               rw [HRr.out]
               obtain ⟨k, rfl⟩ : ∃ j, k = j + 1 := ⟨k - 1, by have := HN.out; omega⟩
               rw [simpleF, if_neg (by rw [HRd.out]; decide), if_neg (by rw [hwd]; decide)]
               show (if (ws.isEmpty && gs.isEmpty && rs.isEmpty) = true then _ else _) = _
               rw [if_neg]
               intro hem
               rw [Bool.and_eq_true, Bool.and_eq_true, List.isEmpty_iff, List.isEmpty_iff, List.isEmpty_iff] at hem
               obtain ⟨⟨rfl, rfl⟩, rfl⟩ := hem
               have he := HEm.out rfl
               have hf := HFst.out
               rw [← he, hwd, HRd.out] at hf
               cases hf⟩
             clear hwd HRr
             go_upto_region 3 with (first
               | (go_at_call 140; refine (atRedirection_any _ g d us HB.out.pm false HRd2.out).mono ?_; rintro e w6 ⟨rfl, hb⟩; have HBe := Kept.mk (HB.out.below hb); have HOe := Kept.mk hb; have c3 : w6.cell? ⟨nb, 3, none⟩ = some (.slice A9 LL k9) := (cell_of_row _ _ 3 _ _ _ HBe.out.row).trans (congrArg some HV9.out); clear hb)
               | (go_at_call 100; refine (atWord_any _ g d us HBe.out.pm false HW.out).mono ?_; rintro e w8 ⟨rfl, hb⟩; have HB4 := Kept.mk (HBe.out.below hb); have HO4 : Kept (Only (· = g) wr w8) := ⟨(Only.refl _ _).below (HOe.out.trans (hb.mono HOe.out.size))⟩; clear hb HBe HOe))
             have HGw4 : Kept (Gr bz w8 (nb + 1) 61 1 WC vw ws) := ⟨HGw.out.on wc_stable (B := (· = g)) HO4.out (fun b h1 h2 => by have := HB.out.gn; have := HB.out.nr; omega) (fun o h1 h2 => by have := HGw.out.lt o h1; have := HB.out.gn; have := HB.out.nr; omega) (fun _ h => h) (fun _ _ h => h)⟩
             have HGa4 : Kept (Gr bz w8 (nb + 1) 63 2 AC va gs) := ⟨HGa.out.on ac_stable (B := (· = g)) HO4.out (fun b h1 h2 => by have := HB.out.gn; have := HB.out.nr; omega) (fun o h1 h2 => by have := HGa.out.lt o h1; have := HB.out.gn; have := HB.out.nr; omega) (fun _ h => h) (fun _ _ h => h)⟩
             have HGr4 : Kept (Gr bz w8 (nb + 1) 66 2 AC vr rs) := ⟨HGr.out.on ac_stable (B := (· = g)) HO4.out (fun b h1 h2 => by have := HB.out.gn; have := HB.out.nr; omega) (fun o h1 h2 => by have := HGr.out.lt o h1; have := HB.out.gn; have := HB.out.nr; omega) (fun _ h => h) (fun _ _ h => h)⟩
             have HZ4 : Kept (∀ b, bz b → b < w8.heap.size) := ⟨fun b h => Nat.lt_of_lt_of_le (HZ.out b h) (HO4.out).size⟩
             obtain ⟨A1, k1, rfl⟩ := HGw4.out.slice
             obtain ⟨A2, k2, rfl⟩ := HGa4.out.slice
             obtain ⟨A3, k3, rfl⟩ := HGr4.out.slice
             obtain ⟨old, hres, ho8⟩ := HB4.out.res
             have HOld := Kept.mk hres
             have HD := Kept.mk HB4.out.done
             have HFw := Kept.mk (fun cs : Array Value => sl_done wc_stable (HGw4.out.read wc_stable (by decide)) (r := w.heap.size) (n := w.heap.size) (by have := HB4.out.nr; omega) (by have := HB4.out.nr; omega) cs)
             have HFa := Kept.mk (fun cs : Array Value => sl_done ac_stable (HGa4.out.read ac_stable (by decide)) (r := w.heap.size) (n := w.heap.size) (by have := HB4.out.nr; omega) (by have := HB4.out.nr; omega) cs)
             have HFr := Kept.mk (fun cs : Array Value => sl_done ac_stable (HGr4.out.read ac_stable (by decide)) (r := w.heap.size) (n := w.heap.size) (by have := HB4.out.nr; omega) (by have := HB4.out.nr; omega) cs)
             clear hres
             try clear c3
             refine App.give (n := 3) (r := 2) (t := 12) (nt := 31) (rb := w.heap.size) HB4.out.row HOld.out Tryz.underlying31 rfl (by kernel_rfl) ho8 (all_node _ _ _ _ _ _ _ _ _ _ _ _ _ _ _ _ _ _) rfl rfl (by decide) (by simp) ?_
             go_wp2_with fail
             refine bodyPost_ret (results_cell_row rfl _ _ w.heap.size _ _ (0, 0) _ rfl HD.out.1 Tryz.underlying31 rfl (by kernel_rfl)) rfl ?_
             rw [HRes.out]
             exact ⟨_, rfl, ⟨nv_simple (HFw.out _) (HFa.out _) (HFr.out _)⟩, ⟨HD.out.2.1⟩, ⟨HD.out.2.2⟩⟩
           | true =>
             have HW := Kept.mk hwd.symm
             have HRc : Kept (match partsT us with | .error e => R0 = .error e | .ok (x, r2) => ∃ j, k = j + 1 ∧ r2.length < us.length ∧ R0 = andThen (simpleF j ⟨ws ++ [x], gs, rs⟩ r2) fun s r => if s.words.isEmpty && s.assigns.isEmpty && s.redirs.isEmpty then .error 100 else .ok (.mk 0 false [] s.words s.assigns s.redirs [] [], r)) := ⟨by
               obtain ⟨j, rfl⟩ : ∃ j, k = j + 1 := ⟨k - 1, by have := HN.out; omega⟩
               have := HRr.out
               rw [simpleF, if_neg (by rw [HRd.out]; decide), if_pos hwd, if_neg (by rw [HNa.out]; decide)] at this
               cases hcu : partsT us with
               | error e => rw [hcu] at this; exact this
               | ok z =>
                 rw [hcu] at this
                 exact ⟨j, rfl, partsT_lt _ _ _ hcu, this⟩⟩
             clear hwd HRr
             go_upto_region 9 with (first
               | (go_at_call 140; refine (atRedirection_any _ g d us HB.out.pm false HRd2.out).mono ?_; rintro e w6 ⟨rfl, hb⟩; have HBe := Kept.mk (HB.out.below hb); have HOe := Kept.mk hb; have c3 : w6.cell? ⟨nb, 3, none⟩ = some (.slice A9 LL k9) := (cell_of_row _ _ 3 _ _ _ HBe.out.row).trans (congrArg some HV9.out); clear hb)
               | (go_at_call 100; refine (atWord_any _ g d us HBe.out.pm true HW.out).mono ?_; rintro e w8 ⟨rfl, hb⟩; have HB4 := Kept.mk (HBe.out.below hb); have HO4 : Kept (Only (· = g) wr w8) := ⟨(Only.refl _ _).below (HOe.out.trans (hb.mono HOe.out.size))⟩; clear hb HBe HOe))
             have HGw4 : Kept (Gr bz w8 (nb + 1) 61 1 WC vw ws) := ⟨HGw.out.on wc_stable (B := (· = g)) HO4.out (fun b h1 h2 => by have := HB.out.gn; have := HB.out.nr; omega) (fun o h1 h2 => by have := HGw.out.lt o h1; have := HB.out.gn; have := HB.out.nr; omega) (fun _ h => h) (fun _ _ h => h)⟩
             have HGa4 : Kept (Gr bz w8 (nb + 1) 63 2 AC va gs) := ⟨HGa.out.on ac_stable (B := (· = g)) HO4.out (fun b h1 h2 => by have := HB.out.gn; have := HB.out.nr; omega) (fun o h1 h2 => by have := HGa.out.lt o h1; have := HB.out.gn; have := HB.out.nr; omega) (fun _ h => h) (fun _ _ h => h)⟩
             have HGr4 : Kept (Gr bz w8 (nb + 1) 66 2 AC vr rs) := ⟨HGr.out.on ac_stable (B := (· = g)) HO4.out (fun b h1 h2 => by have := HB.out.gn; have := HB.out.nr; omega) (fun o h1 h2 => by have := HGr.out.lt o h1; have := HB.out.gn; have := HB.out.nr; omega) (fun _ h => h) (fun _ _ h => h)⟩
             have HZ4 : Kept (∀ b, bz b → b < w8.heap.size) := ⟨fun b h => Nat.lt_of_lt_of_le (HZ.out b h) (HO4.out).size⟩
             clear HB HGw HGa HGr HZ HO4
             try clear c3
             obtain ⟨tiWords, zWords, hftWords⟩ := fitsWords (nb) g 101 (fun W => by kernel_rfl)
             have FTWords := Kept.mk hftWords
             clear hftWords
             refine grow wc_stable (n := 3) (p := 0) (t := 42) (fo := 3) (off := 3) (nt := 31) (lt := 26) (et := 61) (pt := 94) (rt := 61) (f := 101) (fun d _ _ _ _ h => by cases d <;> exact h) FTWords.out (by kernel_rfl) (by kernel_rfl) (by decide) (by decide) (by simp) rfl rfl HB4.out.row rfl HGw4.out HB4.out.pm HZ4.out rfl (by have := HB4.out.gn; have := HB4.out.nr; omega) (by have := HKs.out; omega) (by decide) (fun W h => word_c g d W us h) (val := fun W w9 => LV (Nw W.heap.size) w9) valWord ?_ ?_
             · intro e we he ho a' hd
               have hR := HRc.out
               rw [he] at hR
               refine ⟨hd, ?_⟩
               rw [hR]
               exact ⟨rfl, ⟨only_two HB4.out.only ho.out⟩⟩
             · intro x r2 hx w6 v2 bz2 u2 s2 q2 hrow hgr hpm hz1 hz2 hz3 honly hlies
               have hR := HRc.out
               rw [hx] at hR
               obtain ⟨j, rfl, hlt, hRj⟩ := hR
               have HRj := Kept.mk hRj
               have HLt2 := Kept.mk hlt
               have HB5 := Kept.mk (HB4.out.grown hrow.out hpm.out honly.out (fun o h => by have := HGw4.out.lt o h; omega))
               have HGw5 := hgr
               have HGa5 := Kept.mk (HGa4.out.beside ac_stable honly.out (by have := HB4.out.gn; have := HB4.out.nr; omega) HGw4.out.busy HAp.out.1.symm hz1 hz2)
               have HGr5 := Kept.mk (HGr4.out.beside ac_stable honly.out (by have := HB4.out.gn; have := HB4.out.nr; omega) HGw4.out.busy HAp.out.2.1.symm hz1 hz2)
               have HAp5 : Kept (Apart v2 va ∧ Apart v2 vr ∧ Apart va vr) := ⟨⟨(apart_new (fun o h => (HGa4.out.lt o h).2) HAp.out.1.symm hlies).symm, (apart_new (fun o h => (HGr4.out.lt o h).2) HAp.out.2.1.symm hlies).symm, HAp.out.2.2⟩⟩
               have HZ5 := Kept.mk hz3
               clear hrow hpm honly hlies hz1 hz2 hz3 hRj hlt hgr HRc hx
               simp only [Act.put, List.setIfInBounds_toArray, List.set_cons_zero, List.set_cons_succ]
               go_wp2_with fail
               go_roundg r2.length
               case measure => have := HM.out; have := HLt2.out; omega
               case rel => exact ⟨r2, ws ++ [x], gs, rs, v2, va, vr, bz2, j, Nat.le_refl _, HB5, HGw5, HGa5, HGr5, HAp5, HZ5, ⟨by have := HKs.out; have := HLt2.out; rw [List.length_append, List.length_singleton]; omega⟩, ⟨by have := HN.out; have := HLt2.out; omega⟩, ⟨by rw [List.length_append, List.length_singleton]; omega⟩, HRj⟩
end Sy
end
end Go.Proofs.YtahjonfmhejoeaaGreatDoor
